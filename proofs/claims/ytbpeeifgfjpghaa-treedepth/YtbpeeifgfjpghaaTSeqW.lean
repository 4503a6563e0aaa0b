/- The walk over nodes, as a sequence. -/
import Derived.Test.YtbpeeifgfjpghaaTClone
namespace Go.Proofs.Ytbpeeifgfjpghaa
open Go.RowKit Go.Shelf
set_option linter.unusedVariables false
attribute [local go_sem] Oper.semAt_some

theorem kpt_own {β : Type} {B : Nat} {w : World} (hB : w.heap.size ≤ B) : OwnT B (fun (_ : β) X => KpT w X) := fun s X Y row hs hg hr =>
  ⟨Nat.le_trans hs.size hg.size, fun k cs t fr hk ht => by
    have h1 := hs.same k cs t fr hk ht
    have hkl := (Array.getElem?_eq_some_iff.1 hk).1
    exact (hg.block k (Nat.lt_of_lt_of_le hkl hs.size) (fun e => by have := (hr k e.symm).1; omega)).trans h1⟩
theorem KpT.blk {A B : World} (h : KpT A B) {b : Nat} {cs : Array Value} {t : TypeId} (hb : Blk A b cs t) (ht : Fix t = true) : Blk B b cs t := (h.same b cs t (0, 0) hb ht).trans hb
theorem KpT.nd {A B : World} (h : KpT A B) {t : TI} : ∀ {p : Option Addr}, Nd A p t → Nd B p t := by
  induction t with
  | nil => intro p hp; exact hp
  | node l k x r ihl ihr =>
    rintro p ⟨b, pl, pr, e, hb, hl, hr⟩
    exact ⟨b, pl, pr, e, h.blk hb (by decide), ihl hl, ihr hr⟩
theorem KpT.nrow {A B : World} (h : KpT A B) {base : Nat} {v : Value} {s : List TI} (hn : NRow base A v s) : NRow base B v s := by
  obtain ⟨qs, h1, h2⟩ := hn
  refine ⟨qs, h1.imp (fun _ _ hx => h.nd hx), h2.1, ?_⟩
  rcases h2.2 with h3 | ⟨g, cap, cur, hv, hg, hh, r⟩
  · exact Or.inl h3
  · exact Or.inr ⟨g, cap, cur, hv, hg, (h.same g cur 97 (0, 0) hh (by decide)).trans hh, r⟩
/-- a shorter trail -/
theorem NRow.take {base : Nat} {w : World} {g n cap : Nat} {s : List TI} (h : NRow base w (.slice (some ⟨g, 0, none⟩) n cap) s) {m : Nat} (hm : m ≤ s.length) : NRow base w (.slice (some ⟨g, 0, none⟩) m cap) (s.take m) := by
  obtain ⟨qs, h1, h2⟩ := h
  have hlen := h1.length
  refine ⟨qs.take m, h1.take m, by simp; omega, ?_⟩
  rcases h2.2 with ⟨e1, _⟩ | ⟨g', cap', cur, e1, hg, hh, hc, hmx, hcs, htake⟩
  · cases e1
  · cases e1
    refine Or.inr ⟨g, cap, cur, by simp; omega, hg, hh, by simp; omega, hmx, hcs, ?_⟩
    have : (s.take m).length * 1 = m := by simp; omega
    rw [this]
    have h3 : (cur.toList.take (s.length * 1)).take m = (qs.map Value.pointer).take m := by rw [htake]
    rw [List.take_take, Nat.min_eq_left (by omega)] at h3
    rw [h3, List.map_take]
theorem NRow.one {base base' : Nat} {w : World} {v : Value} {s s2 : List TI} (h : NRow base w v s) (k : NRow base' w v s2) : s = s2 := by
  obtain ⟨qs, h1, h2⟩ := h
  obtain ⟨qs', k1, k2⟩ := k
  have hl1 := h1.length
  have hl2 := k1.length
  obtain ⟨a, c, e1⟩ := own_len h2
  obtain ⟨a', c', e2⟩ := own_len k2
  rw [e1] at e2
  have hl : s.length = s2.length := by simp only [Value.slice.injEq] at e2; exact e2.2.1
  have hq : qs = qs' := by
    rcases h2.2 with ⟨_, e⟩ | ⟨g, cap, cur, ev, hg, hh, hc, hm, hcs, ht⟩
    · have : qs = [] := List.eq_nil_of_length_eq_zero (by omega)
      have : qs' = [] := List.eq_nil_of_length_eq_zero (by omega)
      simp [*]
    · rcases k2.2 with ⟨_, e⟩ | ⟨g', cap', cur', ev', hg', hh', hc', hm', hcs', ht'⟩
      · have : qs = [] := List.eq_nil_of_length_eq_zero (by omega)
        have : qs' = [] := List.eq_nil_of_length_eq_zero (by omega)
        simp [*]
      · rw [ev] at ev'
        simp only [Value.slice.injEq, Option.some.injEq, Addr.mk.injEq] at ev'
        obtain ⟨⟨rfl, _⟩, _, rfl⟩ := ev'
        rw [hh] at hh'
        simp only [Option.some.injEq, Obj.cells.injEq] at hh'
        obtain ⟨rfl, _⟩ := hh'
        rw [hl] at ht
        have h3 := ht.symm.trans ht'
        exact (List.map_inj_right (fun a b e => by cases e; rfl)).1 h3
  subst hq
  clear h2 k2 e1 e2 hl1 hl2 hl
  induction qs generalizing s s2 with
  | nil =>
    cases s with
    | nil => cases s2 with
      | nil => rfl
      | cons => exact k1.elim
    | cons => exact h1.elim
  | cons q qs ih =>
    cases s with
    | nil => exact h1.elim
    | cons t s =>
      cases s2 with
      | nil => exact k1.elim
      | cons t2 s2 => rw [h1.1.1.one k1.1.1, ih h1.2 k1.2]
open Classical in
/-- how many entries are still to come -/
noncomputable def szT (w : World) (v : Value) : Nat := if h : ∃ s : List TI, ∃ b, NRow b w v s then (outR (Classical.choose h).reverse).length else 0
theorem szT_eq {w : World} {b : Nat} {v : Value} {s : List TI} (h : NRow b w v s) : szT w v = (outR s.reverse).length := by
  have hx : ∃ s : List TI, ∃ b, NRow b w v s := ⟨s, b, h⟩
  unfold szT
  rw [dif_pos hx]
  obtain ⟨b', hb'⟩ := Classical.choose_spec hx
  rw [hb'.one h]

/-- an entry's node -/
abbrev NE := Option Addr × Int × Int
def ent (e : NE) : Int × Int := e.2
theorem KpT.mid {A B : World} (h : KpT A B) {p : Option Addr} {k x : Int} (hm : Mid A p k x) : Mid B p k x := by
  obtain ⟨b, u1, u2, u3, u4, e, hb⟩ := hm
  exact ⟨b, u1, u2, u3, u4, e, h.blk hb (by decide)⟩

theorem outR_len {w : World} {qs : List (Option Addr)} {s : List TI} (h : AllN w qs s) : s.length ≤ (outR s.reverse).length := by
  have gen : ∀ (s : List TI), (∀ t ∈ s, t ≠ .nil) → s.length ≤ (outR s).length := by
    intro s
    induction s with
    | nil => intro _; exact Nat.zero_le _
    | cons t s ih =>
      intro ht
      have h1 := ih (fun x hx => ht x (List.mem_cons_of_mem _ hx))
      cases t with
      | nil => exact absurd rfl (ht .nil (List.mem_cons_self ..))
      | node l k x r => simp only [outR, List.length_cons, List.length_append]; omega
  have hne : ∀ t ∈ s, t ≠ .nil := by
    intro t ht
    obtain ⟨i, hi, rfl⟩ := List.getElem_of_mem ht
    obtain ⟨_, _, _, h3⟩ := h.get i hi
    exact h3
  have := gen s.reverse (fun t ht => hne t (List.mem_reverse.1 ht))
  simpa using this

theorem run_slice_to (W : World) (g m n vc : Nat) (h1 : m ≤ vc) : (Instr.slice 113 (.slice (some ⟨g, 0, none⟩) n vc) none (some (.int .i64 (m : Int))) none).run Try.prog W = .ok (.slice (some ⟨g, 0, none⟩) m vc) W := by
  have i3 : (m : Int) ≤ (vc : Int) := by omega
  have i5 : (0 : Int) ≤ (m : Int) := by omega
  simp [Instr.slice, go_sem, i3]

set_option maxRecDepth 100000 in
set_option maxHeartbeats 2000000 in
theorem walk_seq {w : World} {bt bd b0 : Nat} {vt : Value} {s : List TI} (hbt : Blk w bt #[vt] 113) (hbd : Blk w bd #[.bool false] 4) (hs : NRow b0 w vt s) (hl : (outR s.reverse).length ≤ 8796093022208) :
    SeqO 96 #[.pointer (some ⟨bt, 0, none⟩), .pointer (some ⟨bd, 0, none⟩)] (fun e : NE => #[Value.pointer e.1]) (fun e V => Mid V e.1 e.2.1 e.2.2) (fun xs => xs.map ent = outR s.reverse) (fun pre => pre.map ent <+: outR s.reverse) (outR s.reverse).length w := by
  intro l J Jx W hW hJ hJx hY h0
  have hbt' := (hW.blk hbt (by decide)).cell 0
  have hbd' := (hW.blk hbd (by decide)).cell 0
  simp only [List.getElem?_toArray, List.getElem?_cons_zero] at hbt' hbd'
  have hs' := hW.nrow hs
  have HC := hide (clone_any hs' (by obtain ⟨_, h1, _⟩ := hs'; have := outR_len h1; omega))
  have HBD := hide hbd
  obtain ⟨qs0, -, hq2⟩ := hs
  obtain ⟨ta, tc, rfl⟩ := own_len hq2
  generalize hSL : s.length = SL at *
  have HSL := hide hSL
  have HJ := hide hJ
  have HJX := hide hJx
  have HY := hide hY
  have HW := hide hW
  have H0 := hide h0
  clear hSL hJ hJx hY hW h0 hq2 hs' hbt hbd
  refine callsIn_of_wp Try.func96 rfl trivial ?_ rfl
  simp only [Try.ntmps96, List.size_toArray, List.length_cons, List.length_nil, Nat.reduceAdd, Nat.reduceSub, Array.replicate_succ, Array.replicate_zero, List.push_toArray, List.append_toArray, List.nil_append, List.cons_append]
  gi_wp2_with (refine ⟨trivial, rfl, ?_⟩; gi_at_call 97; refine (callsIn_wide.2 (unhide HC)).mono ?_; rintro e w1 ⟨v1, rfl, hn1, hk1⟩; obtain ⟨qs1, hq1a, hq1b⟩ := hn1; obtain ⟨va1, vc1, rfl⟩ := own_len hq1b)
  have HS : Hid (∃ va n vc s' pre, Value.slice va1 s.length vc1 = .slice va n vc ∧ n = s'.length ∧ NRow W.heap.size w1 (.slice va n vc) s' ∧ J pre w1 ∧ pre.map ent ++ outR s'.reverse = outR s.reverse ∧ KpT w w1 ∧ W.heap.size ≤ w1.heap.size) :=
    ⟨va1, s.length, vc1, s, [], rfl, rfl, ⟨qs1, hq1a, hq1b⟩, (GrowP.kept hk1).own (unhide HJ) (unhide H0), rfl, (unhide HW).trans (KpT.of_kept hk1), hk1.size⟩
  clear hq1a hq1b hk1 H0 HC
  gi_loopw [4] (fun tv wr => ∃ va n vc s' pre, tv = .slice va n vc ∧ n = s'.length ∧ NRow W.heap.size wr (.slice va n vc) s' ∧ J pre wr ∧ pre.map ent ++ outR s'.reverse = outR s.reverse ∧ KpT w wr ∧ W.heap.size ≤ wr.heap.size) (fun tv wr => szT wr tv)
  case atStart => exact unhide HS
  case round =>
    clear HS
    obtain ⟨va, n, vc, s', pre, rfl, rfl, hn, hj, he, hkp, hsz⟩ := hrel
    have HN := hide hn
    have HJP := hide hj
    have HE := hide he
    have HKP := hide hkp
    rcases List.eq_nil_or_concat s' with rfl | ⟨s0, t, rfl⟩
    · clear hn hj he hkp
      gi_wp2
      go_end0
      exact ⟨⟨_, rfl⟩, .inl ⟨pre, by simpa [outR] using unhide HE, unhide HJP⟩⟩
    · rw [List.concat_eq_append] at hn he
      rw [List.concat_eq_append] at HN HE ⊢
      have hlen0 : (s0 ++ [t]).length = s0.length + 1 := by simp
      have HZ := hide (szT_eq hn)
      obtain ⟨qs, hA, hO⟩ := hn
      obtain ⟨qt, hqt, hnd, htn⟩ := hA.get s0.length (by simp)
      rw [List.getElem_concat_length rfl] at hnd htn
      have hrl := outR_len hA
      cases t with
      | nil => exact absurd rfl htn
      | node l0 k0 x0 r0 =>
        have hout : outR (s0 ++ [Tr.node l0 k0 x0 r0]).reverse = (k0, x0) :: (r0.list ++ outR s0.reverse) := by simp [outR]
        have hmid : Mid wr qt k0 x0 := hnd.mid
        rcases hO.2 with ⟨e1, e2⟩ | ⟨g, cap, cur, e1, hg, hh, hcc, hmx, hcs, htake⟩
        · simp at e2
        · cases e1
          have hcell : wr.cell? ⟨g, s0.length, none⟩ = some (.pointer qt) := by
            have := hO.cells (g := g) rfl s0.length (.pointer qt) (by simp [hqt])
            have hadd : (⟨g, 0, none⟩ : Addr).add s0.length = ⟨g, s0.length, none⟩ := by unfold Addr.add; split <;> simp_all
            rw [hadd] at this
            exact this
          have HND := hide hnd
          have htk := NRow.take (m := s0.length) (show NRow W.heap.size wr (.slice (some ⟨g, 0, none⟩) (s0 ++ [Tr.node l0 k0 x0 r0]).length vc) (s0 ++ [Tr.node l0 k0 x0 r0]) from ⟨qs, hA, hO⟩) (by simp)
          rw [List.take_left' rfl] at htk
          have HTK := hide htk
          have hor : (outR s0.reverse).length + r0.size + 1 ≤ 8796093022208 := by
            have h1 := congrArg List.length (unhide HE)
            rw [hout] at h1
            simp only [List.length_append, List.length_map, List.length_cons, Tr.list_length] at h1
            omega
          have hs0 : s0.length ≤ (outR s0.reverse).length := by
            obtain ⟨qs2, hA2, _⟩ := htk
            exact outR_len hA2
          have hdr := r0.depth_le_size
          obtain ⟨gn, pl, pr, rfl, hbn, hnl, hnr⟩ := hnd
          have HS1 : Hid (∀ V, V.heap = wr.heap → Calls Try.prog 92 #[.pointer (some ⟨gn, 0, none⟩), .bool true] V fun e w' => e = .returned (.pointer pr) ∧ w' = V) := fun V hV => side_high rfl (by unfold Blk at hbn ⊢; rw [hV]; exact hbn)
          have HL1 : Hid (∀ V, Kept [] wr V → Calls Try.prog 59 #[.slice (some ⟨g, 0, none⟩) s0.length vc, .pointer pr, .bool false] V fun e w' => ∃ v', e = .returned v' ∧ NRow W.heap.size w' v' (s0 ++ spine r0) ∧ GrowP W.heap.size wr w') := fun V hV => by
            have hk1 : NRow W.heap.size V (.slice (some ⟨g, 0, none⟩) s0.length vc) s0 := (KpT.of_kept hV).nrow (unhide HTK)
            exact (lay_any hk1 (hnr.kept hV) (Nat.le_trans hsz hV.size) (by omega)).mono (by rintro e w' ⟨v', h1, h2, h3⟩; exact ⟨v', h1, h2, (GrowP.kept hV).trans h3⟩)
          have cbd := ((unhide HKP).blk (unhide HBD) (by decide)).cell 0
          simp only [List.getElem?_toArray, List.getElem?_cons_zero] at cbd
          have hprl : pre.length < (outR s.reverse).length := by
            rw [← unhide HE, hout]; simp
          have HOUT := hide hout
          have HPX : Hid ((pre ++ [((some ⟨gn, 0, none⟩, k0, x0) : NE)]).map ent <+: outR s.reverse) := by
            show _ <+: _
            rw [← unhide HE, hout]
            simp [ent]
          clear hA hO hj he hkp htk hnl hnr hbn hh htake hqt hrl hout hg
          obtain ⟨m, hm⟩ : ∃ m, s0.length = m := ⟨_, rfl⟩
          rw [hlen0]
          rw [hm] at HL1 hcell hs0 ⊢
          have i1 : (m : Int) < (m : Int) + 1 := by omega
          have i2 : (m : Int) + 1 - 1 = (m : Int) := by omega
          have i4 : m ≤ vc := by omega
          have i6 : m ≤ 8796093022208 := by omega
          have hw1 : IntKind.i64.wrap ((m : Int) + 1 - 1) = (m : Int) := by rw [IntKind.wrap_i64]; omega
          have hw2 : IntKind.i64.wrap (m : Int) = (m : Int) := by rw [IntKind.wrap_i64]; omega
          have hw3 : IntKind.i64.wrap (((m + 1 : Nat) : Int) - 1) = (m : Int) := by rw [IntKind.wrap_i64]; omega
          have hsl := fun (V : World) => run_slice_to V g m (m + 1) vc i4
          have i3 : (m : Int) ≤ (vc : Int) := by omega
          have i5 : (0 : Int) ≤ (m : Int) := by omega
          gi_wp2
          refine wpIn_wide.2 ?_
          go_region_held3 (fun w' => w'.cell? ⟨bd, 0, none⟩ = some (.bool false)) (first | go_keep | (exact (unhide HCB))) (first
            | (go_at_call 92; refine (unhide HS1 _ (by rfl)).mono ?_; rintro e w3 ⟨rfl, hq⟩; have hq' := hq.symm; subst hq')
            | (go_at_call 59; refine (unhide HL1 _ (by first | exact Kept.refl _ _ | exact (Kept.refl _ _).drew)).mono ?_; rintro e w4 ⟨v4, rfl, hn4, hg4⟩; obtain ⟨qs4, hq4a, hq4b⟩ := hn4; obtain ⟨a4, c4, rfl⟩ := own_len hq4b; have HN4 := hide (show NRow W.heap.size w4 _ _ from ⟨qs4, hq4a, hq4b⟩); have HG4 := hide hg4; have HCB : Hid (w4.cell? ⟨bd, 0, none⟩ = some (.bool false)) := (by
                have h1 := (hg4.own (kpt_own (β := Unit) (B := W.heap.size) (w := w) (unhide HW).size) (s := ()) (unhide HKP)).blk (unhide HBD) (by decide)
                have h2 := h1.cell 0
                exact h2); have hyy := unhide HY pre (some ⟨gn, 0, none⟩, k0, x0) w4 (Nat.le_trans hsz (unhide HG4).1) ((unhide HG4).own (unhide HJ) (unhide HJP)) ((unhide HG4).nd (unhide HND)).mid hprl; obtain ⟨fn, tmps, assign, body, hy, hR⟩ := hyy; have HR := hide hR; clear hq4a hq4b hg4 hR))
          all_goals gi_wp2
          all_goals
            refine ⟨rfl, (unhide HR).mono ?_⟩
            rintro e V4 ⟨hkf, ⟨rfl, hkq, hj4⟩ | ⟨rfl, hjx4⟩⟩
            · have HJ4 := hide hj4
              have HKQ := hide hkq
              clear hj4 hkq hkf
              gi_wp2
              go_roundw
              case rel =>
                have hn5 := (unhide HKQ).nrow (unhide HN4)
                refine ⟨a4, _, c4, s0 ++ spine r0, pre ++ [(some ⟨gn, 0, none⟩, k0, x0)], rfl, by simp [hm], by simpa [hm] using hn5, unhide HJ4, ?_, ((unhide HG4).own (kpt_own (β := Unit) (B := W.heap.size) (w := w) (unhide HW).size) (s := ()) (unhide HKP)).trans (unhide HKQ), Nat.le_trans (Nat.le_trans hsz (unhide HG4).1) (unhide HKQ).size⟩
                rw [← unhide HE, unhide HOUT, List.reverse_append, outR_spine]
                simp [ent]
              case measure =>
                have hn5 := (unhide HKQ).nrow (unhide HN4)
                have hz5 := szT_eq hn5
                have hz0 := unhide HZ
                rw [unhide HOUT] at hz0
                rw [List.reverse_append, outR_spine] at hz5
                simp only [List.length_append, List.length_cons, List.length_nil, Nat.zero_add, hm] at hz5 hz0
                rw [hz5, hz0]
                omega
            · have HJX4 := hide hjx4
              clear hjx4 hkf
              gi_wp2
              refine bodyPost_ret (results_none rfl _ _ _) rfl ?_
              exact ⟨⟨_, rfl⟩, .inr ⟨pre ++ [(some ⟨gn, 0, none⟩, k0, x0)], unhide HPX, unhide HJX4⟩⟩
end Go.Proofs.Ytbpeeifgfjpghaa
