/- press: entries go into the one behind them. -/
import Derived.Test.YtgiifedljebclaaRDel
import Derived.Test.YtgiifedljebclaaRPlace
namespace Go.Proofs.Ytgiifedljebclaa
open Go.RowKit

set_option maxRecDepth 100000 in
theorem width_any {w : World} {x : Int} {g d : Nat} (h : g + d ≤ 1099511627776) : Calls Try.prog 49 #[.agg #[(.int .i64 x), .int .i64 (g : Int), .int .i64 (d : Int)]] w fun e w' => e = .returned (.int .i64 ((g : Int) + (d : Int))) ∧ w' = w.alloc (.cells #[(.int .i64 x), .int .i64 (g : Int), .int .i64 (d : Int)] 82) := by
  go_enter Try.func49, Try.ntmps49
  go_wp2
  go_ret
  exact ⟨by simp [Array.getD], rfl⟩

theorem take_rev {α : Type} (l : List α) {i : Nat} {e : α} (h : l[i]? = some e) : (l.take (i + 1)).reverse = e :: (l.take i).reverse := by
  rw [List.take_add_one, h]; simp

/-- the state of the loop -/
structure Mid (es : List (En Int)) (b : Nat) (fin : List (En Int)) (g cap L : Nat) (w wr : World) (i q : Nat) (dn : List (En Int)) : Prop where
  iq : i < q
  qL : q < L
  dl : dn.length = L - q
  old : ∀ j u, j < (i + 1) * 3 → (flatE es)[j]? = some u → wr.cell? ⟨g, j, none⟩ = some u
  new : ∀ j u, (flatE dn)[j]? = some u → wr.cell? ⟨g, q * 3 + j, none⟩ = some u
  blk : ∃ cur, Blk wr g cur 82 ∧ cur.size = cap * 3
  kept : Kept [g] w wr
  wds : ∀ e ∈ dn, e.wd ≤ 1099511627776
  fin : sweep b ((es.drop 1).take i).reverse dn = fin

theorem world_at {R C : World → Prop} {x : World} (h : R x) (H : ∀ wr, R wr → C wr) : C x := H x h
theorem Mid.keep {es : List (En Int)} {b : Nat} {fin : List (En Int)} {g cap L : Nat} {w wr w2 : World} {i q : Nat} {dn : List (En Int)} (h : Mid es b fin g cap L w wr i q dn) (hk : Kept [] wr w2) : Mid es b fin g cap L w w2 i q dn := by
  obtain ⟨cur, hb, hs⟩ := h.blk
  have hc : ∀ j, w2.cell? ⟨g, j, none⟩ = wr.cell? ⟨g, j, none⟩ := fun j => hk.cell hb.lt (by simp)
  exact ⟨h.iq, h.qL, h.dl, fun j u h1 h2 => (hc j).trans (h.old j u h1 h2), fun j u h1 => (hc _).trans (h.new j u h1), ⟨cur, hb.kept hk (by simp), hs⟩, h.kept.trans hk (by simp), h.wds, h.fin⟩
theorem Mid.cells {es : List (En Int)} {b : Nat} {fin : List (En Int)} {g cap L : Nat} {w wr : World} {i q : Nat} {e hd : En Int} {tl : List (En Int)} (h : Mid es b fin g cap L w wr i q (hd :: tl)) (he : es[i]? = some e) :
    wr.cell? ⟨g, i * 3, none⟩ = some (.int .i64 e.v) ∧ wr.cell? ⟨g, i * 3 + 1, none⟩ = some (.int .i64 (e.g : Int)) ∧ wr.cell? ⟨g, i * 3 + 2, none⟩ = some (.int .i64 (e.d : Int)) ∧
    wr.cell? ⟨g, q * 3, none⟩ = some (.int .i64 hd.v) ∧ wr.cell? ⟨g, q * 3 + 1, none⟩ = some (.int .i64 (hd.g : Int)) ∧ wr.cell? ⟨g, q * 3 + 2, none⟩ = some (.int .i64 (hd.d : Int)) := by
  obtain ⟨a0, a1, a2⟩ := flatE_at he
  exact ⟨h.old _ _ (by omega) a0, h.old _ _ (by omega) a1, h.old _ _ (by omega) a2, h.new 0 _ rfl, h.new 1 _ rfl, h.new 2 _ rfl⟩
theorem Mid.blank {es : List (En Int)} {b : Nat} {fin : List (En Int)} {g cap L : Nat} {w wr : World} {i q : Nat} {dn : List (En Int)} (h : Mid es b fin g cap L w wr i q dn) (hc : L ≤ cap) {j : Nat} (hj : j < L * 3) : (∃ u, wr.cell? ⟨g, j, none⟩ = some u) ∧ wr.frozen? ⟨g, j, none⟩ = false := by
  obtain ⟨cur, hb, hs⟩ := h.blk
  exact ⟨⟨_, (hb.cell j).trans (Array.getElem?_eq_getElem (by omega))⟩, hb.frozen j⟩
theorem Mid.merge {es : List (En Int)} {b : Nat} {fin : List (En Int)} {g cap L : Nat} {w wr : World} {i q : Nat} {e hd : En Int} {tl : List (En Int)} (h : Mid es b fin g cap L w wr (i + 1) q (hd :: tl)) (he : es[i + 1]? = some e) (hle : e.g + hd.wd ≤ b) (hbb : b ≤ 1099511627776) :
    Mid es b fin g cap L w (wr.setCell ⟨g, q * 3 + 1, none⟩ (.int .i64 ((hd.g : Int) + (e.g : Int)))) i q (⟨hd.v, hd.g + e.g, hd.d⟩ :: tl) := by
  obtain ⟨cur, hb, hs⟩ := h.blk
  have hiq := h.iq
  refine ⟨by omega, h.qL, by simpa using h.dl, fun j u h1 h2 => ?_, fun j u h1 => ?_, ⟨_, hb.set _ _, by simpa using hs⟩, h.kept.setCell (Or.inl (by simp)) _, fun x hx => ?_, ?_⟩
  · rw [World.cell?_setCell_other _ _ _ _ (by simp <;> omega)]
    exact h.old j u (by omega) h2
  · rw [flatE_cons] at h1
    by_cases hj : j = 1
    · subst hj
      simp at h1
      subst h1
      rw [World.cell?_setCell_same _ _ _ (h.new 1 _ rfl)]
    · rw [World.cell?_setCell_other _ _ _ _ (by simp <;> omega)]
      refine h.new j u ?_
      rw [flatE_cons]
      match j, hj, h1 with
      | 0, _, h1 => exact h1
      | j + 2, _, h1 => exact h1
  · rcases List.mem_cons.1 hx with rfl | hx
    · unfold En.wd at *; simp only; omega
    · exact h.wds x (List.mem_cons_of_mem _ hx)
  · have := h.fin
    rw [take_rev (es.drop 1) (e := e) (by rw [List.getElem?_drop, Nat.add_comm]; exact he)] at this
    unfold sweep at this
    rwa [if_pos hle] at this
theorem Mid.move {es : List (En Int)} {b : Nat} {fin : List (En Int)} {g cap L : Nat} {w wr : World} {i q : Nat} {e hd : En Int} {tl : List (En Int)} (h : Mid es b fin g cap L w wr (i + 1) (q + 1) (hd :: tl)) (he : es[i + 1]? = some e) (hle : ¬ e.g + hd.wd ≤ b) (hew : e.wd ≤ 1099511627776) (hc : L ≤ cap) :
    Mid es b fin g cap L w (((wr.setCell ⟨g, q * 3, none⟩ (.int .i64 e.v)).setCell ⟨g, q * 3 + 1, none⟩ (.int .i64 (e.g : Int))).setCell ⟨g, q * 3 + 2, none⟩ (.int .i64 (e.d : Int))) i q (e :: hd :: tl) := by
  obtain ⟨cur, hb, hs⟩ := h.blk
  have hiq := h.iq
  have hqL := h.qL
  have s0 : ∃ u, wr.cell? ⟨g, q * 3, none⟩ = some u := (h.blank hc (by omega)).1
  have s1 : ∃ u, wr.cell? ⟨g, q * 3 + 1, none⟩ = some u := (h.blank hc (by omega)).1
  have s2 : ∃ u, wr.cell? ⟨g, q * 3 + 2, none⟩ = some u := (h.blank hc (by omega)).1
  obtain ⟨x0, s0⟩ := s0
  obtain ⟨x1, s1⟩ := s1
  obtain ⟨x2, s2⟩ := s2
  refine ⟨by omega, by omega, by have := h.dl; simp at this ⊢; omega, fun j u h1 h2 => ?_, fun j u h1 => ?_, ⟨_, ((hb.set _ _).set _ _).set _ _, by simpa using hs⟩, ((h.kept.setCell (Or.inl (by simp)) _).setCell (Or.inl (by simp)) _).setCell (Or.inl (by simp)) _, fun x hx => ?_, ?_⟩
  · rw [World.cell?_setCell_other _ _ _ _ (by simp <;> omega), World.cell?_setCell_other _ _ _ _ (by simp <;> omega), World.cell?_setCell_other _ _ _ _ (by simp <;> omega)]
    exact h.old j u (by omega) h2
  · rw [flatE_cons] at h1
    match j, h1 with
    | 0, h1 =>
      simp at h1; subst h1
      rw [World.cell?_setCell_other _ _ _ _ (by simp), World.cell?_setCell_other _ _ _ _ (by simp)]
      exact World.cell?_setCell_same _ _ _ s0
    | 1, h1 =>
      simp at h1; subst h1
      rw [World.cell?_setCell_other _ _ _ _ (by simp)]
      exact World.cell?_setCell_same _ _ _ ((World.cell?_setCell_other _ _ _ _ (by simp)).trans s1)
    | 2, h1 =>
      simp at h1; subst h1
      exact World.cell?_setCell_same _ _ _ ((World.cell?_setCell_other _ _ _ _ (by simp)).trans ((World.cell?_setCell_other _ _ _ _ (by simp)).trans s2))
    | j + 3, h1 =>
      rw [World.cell?_setCell_other _ _ _ _ (by simp <;> omega), World.cell?_setCell_other _ _ _ _ (by simp <;> omega), World.cell?_setCell_other _ _ _ _ (by simp <;> omega)]
      have := h.new j u (by simpa using h1)
      rwa [show (q + 1) * 3 + j = q * 3 + (j + 3) by omega] at this
  · rcases List.mem_cons.1 hx with rfl | hx
    · exact hew
    · exact h.wds x hx
  · have := h.fin
    rw [take_rev (es.drop 1) (e := e) (by rw [List.getElem?_drop, Nat.add_comm]; exact he)] at this
    unfold sweep at this
    rwa [if_neg hle] at this

set_option maxHeartbeats 1000000 in
set_option maxRecDepth 100000 in
theorem press_loop {w : World} {g cap L b : Nat} {es : List (En Int)} {fin : List (En Int)} {f : En Int} (hL : es.length = L) (hf : es[0]? = some f) (h2 : 2 ≤ L) (hb : L ≤ 1099511627776) (hbb : b ≤ 1099511627776) (hc : L ≤ cap) (hm : cap ≤ maxLen)
    (hw : ∀ e ∈ es, e.wd ≤ 1099511627776) {l : En Int} (hl : es[L - 1]? = some l) (hM : Mid es b fin g cap L w w (L - 2) (L - 1) [l]) :
    Calls Try.prog 46 #[.slice (some ⟨g, 0, none⟩) L cap, .int .i64 b] w fun x w' => x = .returned (.slice (some ⟨g, 0, none⟩) (f :: fin).length cap) ∧
      w'.ownsRow 0 82 3 (.slice (some ⟨g, 0, none⟩) (f :: fin).length cap) (f :: fin).length (flatE (f :: fin)) ∧ Kept [g] w w' := by
  have HM := hide hM
  have HL := hide hL
  clear hM hL
  have t0 : (((L : Int) - 1) < 1) = False := by simp; omega
  go_enter Try.func46, Try.ntmps46
  go_wp2_with fail
  go_loopw [5, 6] (fun s5 s6 wr => ∃ (i q : Nat) (dn : List (En Int)), s5 = .int .i64 q ∧ s6 = .int .i64 i ∧ Mid es b fin g cap L w wr i q dn) (fun _ s6 _ => (intOf s6).toNat)
  case atStart => exact ⟨L - 2, L - 1, [l], by rw [show ((L - 1 : Nat) : Int) = (L : Int) - 1 by omega], by rw [show ((L - 2 : Nat) : Int) = (L : Int) - 1 - 1 by omega], unhide HM⟩
  case round =>
    obtain ⟨i, q, dn, rfl, rfl, hmid⟩ := hrel
    have HMI := hide hmid
    obtain ⟨hiq, hqL, hdl, hold, hnew, ⟨cur, hblk, hcsz⟩, hkept, hwds, hfin⟩ := hmid
    by_cases hi0 : 0 < i
    · obtain ⟨e, he⟩ : ∃ e, es[i]? = some e := ⟨_, List.getElem?_eq_getElem (by rw [unhide HL]; omega)⟩
      obtain ⟨hd, tl, rfl⟩ : ∃ hd tl, dn = hd :: tl := by
        cases dn with
        | nil => simp at hdl; omega
        | cons a t => exact ⟨a, t, rfl⟩
      have HE := hide he
      have hew : e.g + e.d ≤ 1099511627776 := hw e (List.mem_of_getElem? he)
      have hhw : hd.g + hd.d ≤ 1099511627776 := hwds hd (List.mem_cons_self ..)
      obtain ⟨c0, c1, c2, d0, d1, d2⟩ := (unhide HMI).cells he
      obtain ⟨ev, eg, ed⟩ := e
      obtain ⟨hv, hg, hdd⟩ := hd
      simp only at c0 c1 c2 d0 d1 d2 hew hhw
      have HW := hide (fun w => width_any (w := w) (x := hv) hhw)
      have hiL : i < L := by omega
      have hwr : IntKind.i64.wrap ((eg : Int) + ((hg : Int) + (hdd : Int))) = (eg : Int) + ((hg : Int) + (hdd : Int)) := by rw [IntKind.wrap_i64]; omega
      clear hold hnew hfin hkept he hdl hf hl hblk hwds
      by_cases hle : eg + (hg + hdd) ≤ b
      · have t1 : ((eg : Int) + ((hg : Int) + (hdd : Int)) ≤ (b : Int)) = True := by simp; omega
        have HLE := hide hle
        clear hle
        go_wp2_with fail
        go_region_held3 (fun w' => w'.cell? ⟨g, i * 3 + 1, none⟩ = some (.int .i64 (eg : Int)) ∧ w'.cell? ⟨g, q * 3, none⟩ = some (.int .i64 hv) ∧ w'.cell? ⟨g, q * 3 + 1, none⟩ = some (.int .i64 (hg : Int)) ∧ w'.cell? ⟨g, q * 3 + 2, none⟩ = some (.int .i64 (hdd : Int))) (go_keep) (first | (go_at_call 49; refine (unhide HW _).mono ?_; rintro e w3 ⟨rfl, hq⟩; subst hq; clear HW))
        refine world_at (R := fun W => Mid es b fin g cap L w W i q (⟨hv, hg, hdd⟩ :: tl)) ((unhide HMI).keep ((Kept.refl [] wr).alloc _).drew) ?_
        clear c0 c1 c2 d0 d1 d2 HMI
        intro W hmid
        have HMI := hide hmid
        obtain ⟨c0, c1, c2, d0, d1, d2⟩ := hmid.cells (unhide HE)
        have f1 := (hmid.blank hc (j := q * 3 + 1) (by omega)).2
        clear hmid
        go_wp2_with fail
        go_region
        all_goals go_wp2
        all_goals (obtain ⟨i, rfl⟩ : ∃ i', i = i' + 1 := ⟨i - 1, by omega⟩)
        all_goals exact ⟨⟨i, q, _, rfl, by simp, ((unhide HMI).merge (unhide HE) (unhide HLE) hbb).keep (Kept.refl _ _).drew⟩, by simp [intOf]⟩
      · have t1 : ((eg : Int) + ((hg : Int) + (hdd : Int)) ≤ (b : Int)) = False := by simp; omega
        have HLE := hide hle
        clear hle
        obtain ⟨q, rfl⟩ : ∃ q', q = q' + 1 := ⟨q - 1, by omega⟩
        obtain ⟨i, rfl⟩ : ∃ i', i = i' + 1 := ⟨i - 1, by omega⟩
        have HI := hide hiL
        generalize hI : i + 1 = I at *
        generalize hQ : q + 1 = Q at *
        have hQq : (Q : Int) - 1 = (q : Int) := by omega
        have hIi : (I : Int) - 1 = (i : Int) := by omega
        have hqL2 : q < L := by omega
        have HIQ := hide (show i + 1 = I ∧ q + 1 = Q from ⟨hI, hQ⟩)
        clear hI hQ
        go_wp2_with fail
        go_region_held3 (fun w' => w'.cell? ⟨g, I * 3 + 1, none⟩ = some (.int .i64 (eg : Int)) ∧ w'.cell? ⟨g, Q * 3, none⟩ = some (.int .i64 hv) ∧ w'.cell? ⟨g, Q * 3 + 1, none⟩ = some (.int .i64 (hg : Int)) ∧ w'.cell? ⟨g, Q * 3 + 2, none⟩ = some (.int .i64 (hdd : Int))) (go_keep) (first | (go_at_call 49; refine (unhide HW _).mono ?_; rintro e w3 ⟨rfl, hq⟩; subst hq; clear HW))
        refine world_at (R := fun W => Mid es b fin g cap L w W I Q (⟨hv, hg, hdd⟩ :: tl)) ((unhide HMI).keep ((Kept.refl [] wr).alloc _).drew) ?_
        clear c0 c1 c2 d0 d1 d2 HMI
        intro W hmid
        have HMI := hide hmid
        obtain ⟨c0, c1, c2, d0, d1, d2⟩ := hmid.cells (unhide HE)
        obtain ⟨⟨x0, s0⟩, f0⟩ := hmid.blank hc (j := q * 3) (by omega)
        obtain ⟨⟨x1, s1⟩, f1⟩ := hmid.blank hc (j := q * 3 + 1) (by omega)
        obtain ⟨⟨x2, s2⟩, f2⟩ := hmid.blank hc (j := q * 3 + 2) (by omega)
        clear hmid
        go_wp2_with fail
        obtain ⟨rfl, rfl⟩ := unhide HIQ
        have hmv := Mid.move (e := ⟨ev, eg, ed⟩) (hd := ⟨hv, hg, hdd⟩) (unhide HMI) (unhide HE) (by simpa [En.wd] using unhide HLE) (by simpa [En.wd] using hew) hc
        simp only at hmv
        exact ⟨⟨i, q, _, rfl, rfl, hmv⟩, by simp [intOf]⟩
    · obtain rfl : i = 0 := by omega
      have hdel := del_any (f := f) (dn := dn) hblk hcsz hiq hqL hc hm hb hdl (fun j u hj => by
        have hj3 := (List.getElem?_eq_some_iff.1 hj).1
        have h3 : (ecells f).length = 3 := rfl
        refine hold j u (by omega) ?_
        obtain ⟨r, hr⟩ : ∃ r, es = f :: r := by
          cases es with
          | nil => simp at hf
          | cons a r => simp at hf; exact ⟨r, by rw [hf]⟩
        rw [hr, show flatE (f :: r) = ecells f ++ flatE r from rfl, List.getElem?_append_left hj3]
        exact hj) hnew
      have hdf : dn = fin := by
        have := hfin
        simpa [sweep] using this
      rw [hdf] at hdel
      have HD := hide hdel
      have HK := hide hkept
      clear hold hnew hfin hkept hdel hf hl hdf
      go_wp2_with (go_at_call 73; refine (unhide HD).mono ?_; rintro e w3 ⟨rfl, hq1, hq2⟩)
      go_ret
      exact ⟨rfl, hq1, (unhide HK).trans hq2 (by simp)⟩

set_option maxRecDepth 100000 in
theorem press_few {w : World} {a : Option Addr} {L cap b : Nat} (hL : L < 2) :
    Calls Try.prog 46 #[.slice a L cap, .int .i64 b] w fun x w' => x = .returned (.slice a L cap) ∧ w' = w := by
  have t0 : (((L : Int) - 1) < 1) = True := by simp; omega
  go_enter Try.func46, Try.ntmps46
  go_wp2
  go_ret
  exact ⟨rfl, rfl⟩

theorem press_form {α : Type} (b : Nat) (f : En α) (tl : List (En α)) (l : En α) (m : List (En α)) (h : tl.reverse = l :: m) : press b (f :: tl) = f :: sweep b m [l] := by
  show (match tl.reverse with
    | [] => [f]
    | l :: m => f :: sweep b m [l]) = _
  rw [h]

theorem press_any {w : World} {v : Value} {es : List (En Int)} {b : Nat} (ho : w.ownsRow 0 82 3 v es.length (flatE es)) (hb : es.length ≤ 1099511627776) (hbb : b ≤ 1099511627776) (hw : ∀ e ∈ es, e.wd ≤ 1099511627776) :
    Calls Try.prog 46 #[v, .int .i64 b] w fun x w' => ∃ v', x = .returned v' ∧ w'.ownsRow 0 82 3 v' (press b es).length (flatE (press b es)) ∧ Kept v.ownBlock.toList w w' ∧ v'.ownBlock = v.ownBlock := by
  by_cases h2 : 2 ≤ es.length
  · obtain ⟨g, cap, cur, rfl, hg, hsz, hnc, hcm, hcs⟩ := own_form ho (by omega)
    obtain ⟨f, tl, rfl⟩ : ∃ f tl, es = f :: tl := by
      cases es with
      | nil => simp at h2
      | cons a t => exact ⟨a, t, rfl⟩
    obtain ⟨l, m, hlm⟩ : ∃ l m, tl.reverse = l :: m := by
      cases hr : tl.reverse with
      | nil => have : tl = [] := by simpa using hr
               subst this; simp at h2
      | cons a t => exact ⟨a, t, rfl⟩
    have htl : tl = m.reverse ++ [l] := by
      have := congrArg List.reverse hlm
      simpa using this
    rw [press_form b f tl l m hlm]
    have hL : (f :: tl).length = m.length + 2 := by rw [htl]; simp
    have hl : (f :: tl)[(f :: tl).length - 1]? = some l := by
      rw [hL, htl, show m.length + 2 - 1 = m.length + 1 by omega, List.getElem?_cons_succ, List.getElem?_append_right (by simp)]
      simp
    have hfl := flatE_at hl
    refine (press_loop (fin := sweep b m [l]) (l := l) rfl (f := f) rfl h2 hb hbb hnc hcm hw hl ⟨by omega, by omega, ?_, fun j u _ hj => hcs j u hj, fun j u hj => ?_, ⟨cur, hg, hsz⟩, Kept.refl _ _, fun e he => ?_, ?_⟩).mono ?_
    · simp
    · rw [show flatE [l] = ecells l from by simp [flatE]] at hj
      have h3 := (List.getElem?_eq_some_iff.1 hj).1
      have hll : (ecells l).length = 3 := rfl
      match j, hj with
      | 0, hj => simp [ecells] at hj; subst hj; exact hcs _ _ hfl.1
      | 1, hj => simp [ecells] at hj; subst hj; exact hcs _ _ hfl.2.1
      | 2, hj => simp [ecells] at hj; subst hj; exact hcs _ _ hfl.2.2
      | j + 3, hj => omega
    · simp at he; subst he; exact hw _ (List.mem_of_getElem? hl)
    · congr 1
      rw [hL, htl]
      simp
    · rintro x w' ⟨rfl, h1, h3⟩
      exact ⟨_, rfl, h1, by simpa [Value.ownBlock] using h3, rfl⟩
  · obtain ⟨a, cap, rfl⟩ := own_len ho
    refine (press_few (by omega)).mono ?_
    rintro x w' ⟨rfl, rfl⟩
    have : press b es = es := by
      match es, h2 with
      | [], _ => rfl
      | [e], _ => rfl
      | _ :: _ :: _, h2 => simp at h2
    rw [this]
    exact ⟨_, rfl, ho, Kept.refl _ _, rfl⟩
end Go.Proofs.Ytgiifedljebclaa
