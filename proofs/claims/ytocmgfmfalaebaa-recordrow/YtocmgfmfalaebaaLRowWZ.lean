/- RecordRow: the walk. -/
import Derived.Test.YtocmgfmfalaebaaPkZ
namespace Go.Proofs.Ytocmgfmfalaebaa
open Go.RowKit

theorem RecRow.kept {w w' : World} {v : Value} {zs : List (Pl × Lo)} (h : RecRow w v zs) (k : Kept [] w w') : RecRow w' v zs := by
  obtain ⟨a, c, rfl, h2, h3⟩ := h
  refine ⟨a, c, rfl, h2, fun j z hz => ?_⟩
  obtain ⟨g, b, off, e, hb, hc⟩ := h3 j z hz
  refine ⟨⟨g.w.kept k, g.kb, g.vb, g.cb, g.k2, g.v2, g.c2⟩, b, off, e, Nat.lt_of_lt_of_le hb k.size, fun i hi => ?_⟩
  rw [k.cell (p := ⟨b, off + j * 11 + i, none⟩) hb (by simp)]
  exact hc i hi

/-- The forms laid so far, and where they end. -/
structure RS1 (w : World) (al en : Value) (T : List Pl) (W : World) : Prop where
  sh : Short T
  o1 : W.ownsRow w.heap.size 5 1 al (allOf T).length (u8s (allOf T))
  o2 : W.ownsRow w.heap.size 3 1 en T.length (i64s (endsOf T 0))
  ne : ∀ k, al.ownBlock = some k → en.ownBlock ≠ some k
  kept : Kept [] w W
theorem RS1.go {w : World} {al en : Value} {T : List Pl} {W Y : World} (h : RS1 w al en T W) (k : Kept [] W Y) : RS1 w al en T Y := ⟨h.sh, own_kept h.o1 k (by simp), own_kept h.o2 k (by simp), h.ne, h.kept.step k⟩
theorem grown_kept {w w' : World} {row : Option Nat} (h : w.grownBy w' row) : Kept row.toList w w' := (Kept.refl row.toList w).grown h (fun k hk => Or.inl (by simp [hk]))
theorem RS1.add {w : World} {al en : Value} {T : List Pl} {w2 w3 w5 : World} {o : Obj} (h : RS1 w al en T w2) (p : Pl) (hs : snd p = true) (hl : (enc p).length ≤ 120) (hb : ∀ x ∈ enc p, x < 256) (hf : T.length < 5) {v1 v2 : Value}
    (a1 : w3.ownsRow w.heap.size 5 1 v1 (allOf T ++ enc p).length (u8s (allOf T ++ enc p))) (g1 : w2.grownBy w3 al.ownBlock) (t1 : v1.ownBlock = al.ownBlock ∨ v1.ownBlock = some w2.heap.size)
    (a2 : w5.ownsRow w.heap.size 3 1 v2 (T.length + 1) (i64s (endsOf T 0) ++ [.int .i64 ((allOf T ++ enc p).length : Nat)])) (g2 : (w3.alloc o).grownBy w5 en.ownBlock) (t2 : v2.ownBlock = en.ownBlock ∨ v2.ownBlock = some (w3.alloc o).heap.size) : RS1 w v1 v2 (T ++ [p]) w5 := by
  have e1 : allOf (T ++ [p]) = allOf T ++ enc p := by simp [allOf]
  have k1 := grown_kept g1
  have k2 := grown_kept g2
  have s1 := k1.size
  have s2 : (w3.alloc o).heap.size = w3.heap.size + 1 := by simp
  have n1 : ∀ k, v1.ownBlock = some k → en.ownBlock ≠ some k := fun k hk e => by
    rcases t1 with t | t
    · exact h.ne k (by rw [← t]; exact hk) e
    · rw [t] at hk; cases hk; have := (h.o2.lt _ e).2; omega
  refine ⟨⟨by simp; omega, fun q hq => ?_, fun q hq => ?_, fun q hq => ?_⟩, ?_, ?_, fun k hk e => ?_, ?_⟩
  · rcases List.mem_append.1 hq with hq | hq
    · exact h.sh.snd q hq
    · simp at hq; subst hq; exact hs
  · rcases List.mem_append.1 hq with hq | hq
    · exact h.sh.len q hq
    · simp at hq; subst hq; exact hl
  · rcases List.mem_append.1 hq with hq | hq
    · exact h.sh.by_ q hq
    · simp at hq; subst hq; exact hb
  · rw [e1]
    exact own_kept (own_kept a1 ((Kept.refl [] w3).alloc o) (by simp)) k2 (fun k hk hm => n1 k hk (by simpa using hm))
  · rw [endsOf_snoc, e1]
    simpa [i64s] using a2
  · rcases t2 with t | t
    · exact n1 k hk (by rw [← t]; exact e)
    · rw [t] at e; cases e; have := (a1.lt _ hk).2; omega
  · exact ((h.kept.trans k1 (fun x hx => by simp at hx; exact Or.inr (h.o1.lt _ hx).1)).alloc o).trans k2 (fun x hx => by simp at hx; exact Or.inr (h.o2.lt _ hx).1)
theorem RecRow.at {w : World} {a : Option Addr} {n c : Nat} {zs : List (Pl × Lo)} (h : RecRow w (.slice a n c) zs) (i : Nat) (hi : i < n) : ∃ p l b off, a = some ⟨b, off, none⟩ ∧ RecIn w p l ∧ (w.cell? ⟨b, off + i * 11, none⟩ = some (.int .i64 p.kind) ∧ w.cell? ⟨b, off + i * 11 + 1, none⟩ = some (.int .i64 p.shard) ∧ w.cell? ⟨b, off + i * 11 + 2, none⟩ = some (.int .i64 p.epoch) ∧ w.cell? ⟨b, off + i * 11 + 3, none⟩ = some (.int .i64 p.peer) ∧ w.cell? ⟨b, off + i * 11 + 4, none⟩ = some (.int .i64 p.client) ∧ w.cell? ⟨b, off + i * 11 + 5, none⟩ = some (.int .i64 p.seq) ∧ w.cell? ⟨b, off + i * 11 + 6, none⟩ = some (.int .i64 p.okind) ∧ w.cell? ⟨b, off + i * 11 + 7, none⟩ = some (.slice l.ka p.key.length l.kc) ∧ w.cell? ⟨b, off + i * 11 + 8, none⟩ = some (.slice l.va p.val.length l.vc) ∧ w.cell? ⟨b, off + i * 11 + 9, none⟩ = some (.int .i64 p.rev) ∧ w.cell? ⟨b, off + i * 11 + 10, none⟩ = some (.slice l.ca p.copy.length l.cc)) := by
  obtain ⟨a', c', e, h2, h3⟩ := h
  cases e
  obtain ⟨g, b, off, rfl, hb, hc⟩ := h3 i zs[i] (List.getElem?_eq_getElem hi)
  exact ⟨zs[i].1, zs[i].2, b, off, rfl, g, hc 0 (by omega), hc 1 (by omega), hc 2 (by omega), hc 3 (by omega), hc 4 (by omega), hc 5 (by omega), hc 6 (by omega), hc 7 (by omega), hc 8 (by omega), hc 9 (by omega), hc 10 (by omega)⟩
theorem RecRow.len {w : World} {a : Option Addr} {n c : Nat} {zs : List (Pl × Lo)} (h : RecRow w (.slice a n c) zs) : n ≤ 4611686018427387904 := by
  obtain ⟨a', c', e, h2, h3⟩ := h
  cases e
  exact h2

theorem enc_pos (p : Pl) : 0 < (enc p).length := by unfold enc; simp
theorem cell_of_own {w : World} {base : Nat} {e : TypeId} {a : Option Addr} {n n' cap : Nat} {xs : List Value} (h : w.ownsRow base e 1 (.slice a n cap) n' xs) {i : Nat} {u : Value} (hu : xs[i]? = some u) : ∃ g, a = some ⟨g, 0, none⟩ ∧ w.cell? ⟨g, i, none⟩ = some u := by
  rcases h.2 with ⟨e1, e2⟩ | ⟨g, cap', cur, e1, hg, hh, r⟩
  · have := h.1
    have hi := (List.getElem?_eq_some_iff.1 hu).1
    simp at this
    omega
  · cases e1
    have := h.cells (g := g) rfl i u hu
    have hadd : (⟨g, 0, none⟩ : Addr).add i = ⟨g, i, none⟩ := by unfold Addr.add; split <;> simp_all
    rw [hadd] at this
    exact ⟨g, rfl, this⟩
/-- At the i-th place: the numbers there. -/
structure AtI (W : World) (T : List Pl) (i F E AL g g2 c1 : Nat) : Prop where
  lt : i < T.length
  f : (allOf (T.take i)).length = F
  e : (allOf (T.take (i + 1))).length = E
  fe : F < E
  ea : E ≤ AL
  al : (allOf T).length = AL
  ac : AL ≤ c1
  cm : c1 ≤ maxLen
  cell : W.cell? ⟨g2, i, none⟩ = some (.int .i64 (E : Int))
theorem RS1.at {w : World} {a1 a2 : Option Addr} {AL c1 m c2 : Nat} {T : List Pl} {W : World} (h : RS1 w (.slice a1 AL c1) (.slice a2 m c2) T W) {i : Nat} (hi : i < T.length) : ∃ g g2 F E, a1 = some ⟨g, 0, none⟩ ∧ a2 = some ⟨g2, 0, none⟩ ∧ AtI W T i F E AL g g2 c1 := by
  have hE := take_at hi
  have hp := enc_pos T[i]
  have hle : (allOf (T.take (i + 1))).length ≤ (allOf T).length := by
    have h1 : allOf T = allOf (T.take (i + 1)) ++ allOf (T.drop (i + 1)) := by unfold allOf; rw [← List.flatMap_append, List.take_append_drop]
    rw [h1, List.length_append]; omega
  have hal : (allOf T).length = AL := by have := own_len h.o1; obtain ⟨_, _, e⟩ := this; cases e; rfl
  obtain ⟨g2, e2, hc2⟩ := cell_of_own h.o2 (i := i) (u := .int .i64 ((allOf (T.take (i + 1))).length : Nat)) (by unfold i64s; rw [List.getElem?_map, endsOf_at T 0 i hi]; simp)
  have hs := (Sees.of_own h.o1).cap_of
  rcases h.o1.2 with ⟨e1, e3⟩ | ⟨g, cap', cur, e1, r⟩
  · cases e1; omega
  · cases e1
    exact ⟨g, g2, _, _, rfl, e2, hi, rfl, rfl, by omega, by omega, hal, by omega, hs.2.2, hc2⟩
theorem RS1.cut {w : World} {g AL c1 g2 : Nat} {en : Value} {T : List Pl} {W : World} (h : RS1 w (.slice (some ⟨g, 0, none⟩) AL c1) en T W) {i F E : Nat} (hI : ∃ X, AtI X T i F E AL g g2 c1) (t off' cap' : Nat) (h1 : F ≤ t) (h2 : t ≤ AL) (ho : off' = F) (hc : cap' = c1 - F) : Calls Try.prog 19 #[.slice (some ⟨g, off', none⟩) (t - F) cap'] W fun e w' => Kept [] W w' ∧ ∃ p l, e = .returned (.tuple #[rv p l, .int .i64 (if t = E then 0 else 160)]) := by
  obtain ⟨X, hI⟩ := hI
  have hs := Sees.of_own h.o1
  have hal := hI.al
  have hac := hI.ac
  have hw := hs.part F (t - F) off' cap' (by omega) (by omega) (by omega) (Or.inl (by omega))
  have hd := drop_at hI.lt
  have hE := take_at hI.lt
  rw [hI.f] at hd hE
  rw [hI.e] at hE
  rw [hd] at hw
  have hb : ∀ x ∈ enc (T[i]'hI.lt) ++ allOf (T.drop (i + 1)), x < 256 := by
    rw [← hd]
    intro x hx
    have hx2 := List.mem_of_mem_drop hx
    unfold allOf at hx2
    obtain ⟨q, hq, hxq⟩ := List.mem_flatMap.1 hx2
    exact h.sh.by_ q hq x hxq
  have hlen : (enc (T[i]'hI.lt) ++ allOf (T.drop (i + 1))).length = AL - F := by rw [← hd, List.length_drop, hal]
  have hall := allOf_len h.sh.len
  have hfew := h.sh.few
  have hci := cut_iff (h.sh.snd _ (List.getElem_mem hI.lt)) hb (m := t - F) (by omega)
  refine (decode_any W _ _ (Or.inl hw) (by rw [List.length_take]; omega) (fun y hy => hb y (List.mem_of_mem_take hy))).mono ?_
  rintro e w' ⟨k, hz⟩
  refine ⟨k, ?_⟩
  rcases hz with ⟨p, l, hz, rfl, -⟩ | ⟨hz, rfl⟩
  · have : t = E := Decidable.byContradiction fun hne => by
      rw [hci.2 (by omega)] at hz
      cases hz
    exact ⟨p, l, by rw [if_pos this]⟩
  · have : ¬ t = E := by have := hci.1 hz; omega
    exact ⟨zeroP, nilL, by rw [if_neg this]⟩

set_option maxRecDepth 100000 in
set_option maxHeartbeats 1600000 in
theorem row_walk (w : World) (a : Option Addr) (n c : Nat) (zs : List (Pl × Lo)) (h : RecRow w (.slice a n c) zs) : Calls Try.prog 7 #[.slice a n c] w fun e w' => e = .returned (.bool true) ∧ Kept [] w w' := by
  have hnl := h.len
  have HR := hide h
  have HA := hide (fun W => awake_any W)
  clear h
  obtain ⟨i0, hi, hz0, hz1, hz2⟩ := info_parts Try.info5
  obtain ⟨j0, hj, hy0, hy1, hy2⟩ := info_parts Try.info3
  go_enter Try.func7, Try.ntmps7
  go_wp2_with (go_at_call 22; refine (unhide HA _).mono ?_; rintro e w1 ⟨rfl, k1⟩; have HK1 := hide k1; clear k1)
  have HS0 : Hid (RS1 w (.slice none 0 0) (.slice none 0 0) [] w1) := ⟨⟨by simp, by simp, by simp, by simp⟩, ⟨rfl, Or.inl ⟨rfl, rfl⟩⟩, ⟨rfl, Or.inl ⟨rfl, rfl⟩⟩, by simp [Value.ownBlock], unhide HK1⟩
  go_loopw [3, 4, 5] (fun al en x wr => ∃ (T : List Pl) (i : Nat) (a1 a2 : Option Addr) (c1 c2 : Nat), al = .slice a1 (allOf T).length c1 ∧ en = .slice a2 T.length c2 ∧ x = .int .i64 (i : Int) ∧ i ≤ 5 ∧ T.length ≤ i ∧ Hid (RS1 w (.slice a1 (allOf T).length c1) (.slice a2 T.length c2) T wr)) (fun al en x _ => 5 - (intOf x).toNat)
  case atStart => exact ⟨[], 0, none, none, 0, 0, rfl, rfl, rfl, by omega, by simp, HS0⟩
  case round =>
    obtain ⟨T, i, a1, a2, c1, c2, rfl, rfl, rfl, hi5, hti, HS⟩ := hrel
    have hw1 : IntKind.i64.wrap ((i : Int) + 1) = (i : Int) + 1 := by rw [IntKind.wrap_i64]; omega
    by_cases hlt : i < n ∧ i < 5
    · obtain ⟨hin, hi4⟩ := hlt
      have hinI : (i : Int) < (n : Int) := by omega
      have hi4I : (i : Int) < 5 := by omega
      obtain ⟨p, l, b, off, rfl, hrec, d0, d1, d2, d3, d4, d5, d6, d7, d8, d9, d10⟩ := ((unhide HR).kept (unhide HS).kept).at i hin
      have HE := hide (encode_any wr p l hrec.w.far)
      rw [rv_lit] at HE
      have HRI := hide hrec
      clear hrec HS0
      generalize hA : (allOf T).length = AL at *
      have HAL := hide hA
      clear hA
      cases hs : snd p with
      | false =>
        have HSP := hide hs
        clear hs
        go_wp2_with (go_at_call 12; refine (unhide HE).mono ?_; rintro e w2 ⟨k2, hz⟩; rcases hz with ⟨hz, -⟩ | ⟨-, rfl⟩; (exact absurd hz (by rw [unhide HSP]; simp)); have HS2 := hide ((unhide HS).go k2); clear k2)
        exact ⟨⟨T, i + 1, a1, a2, c1, c2, by rw [unhide HAL], rfl, by simp, by omega, by omega, by rw [unhide HAL]; exact HS2⟩, by simp [intOf]; omega⟩
      | true =>
        have HSP := hide hs
        clear hs
        by_cases hlen : (enc p).length ≤ 120
        · have hle : ((120 : Int) < ((enc p).length : Int)) = False := eq_false (by omega)
          have hle2 : ¬ (120 < (enc p).length) := by omega
          have hall := allOf_len (unhide HS).sh.len
          have hfew := (unhide HS).sh.few
          have hal2 : AL ≤ 600 := by rw [← unhide HAL]; omega
          go_upto_region 10 with (go_at_call 12; refine (unhide HE).mono ?_; rintro e w2 ⟨k2, hz⟩; rcases hz with ⟨-, a5, c5, rfl, ho⟩ | ⟨hz, -⟩; rotate_left; (exact absurd hz (by rw [unhide HSP]; simp)); have HS2 := hide ((unhide HS).go k2); have HO5 := hide (Sees.of_own ho); have hsz := ((unhide HS).go k2).kept.size; clear k2 ho)
          go_wp2_with (at_builtin; refine wpList_append_sees _ rfl _ _ 22 rfl w.heap.size 5 i0 (.int .u8 0) Try.underlying22 hi hz0 hz1 hz2 rfl _ (allOf T) rfl (by rw [unhide HAL]; have h9 := (unhide HS2).o1; rw [unhide HAL] at h9; exact h9) _ (enc p) rfl (unhide HO5) ?c1 ?c2 ?_)
          case c1 => rw [unhide HAL]; omega
          case c2 => exact hsz
          intro v1 w3 hown1 hg1 hat1
          generalize hNL : (allOf T).length + (enc p).length = NL at *
          have HNL : Hid ((allOf T ++ enc p).length = NL) := hide (by rw [List.length_append]; exact hNL)
          have hNL2 : NL ≤ 720 := by have h9 := unhide HAL; omega
          clear hNL
          obtain ⟨g1, cp1, hv1⟩ := own_len hown1
          subst hv1
          have HO1 := hide hown1
          have HG1 := hide hg1
          have HT1 := hide hat1
          have hs3 : w.heap.size ≤ w3.heap.size := Nat.le_trans hsz hg1.size
          have ho2 : (w3.alloc (.cells #[.int .i64 ((NL : Nat) : Int)] 3)).ownsRow w.heap.size 3 1 (.slice a2 T.length c2) T.length (i64s (endsOf T 0)) :=
            own_kept (own_kept (unhide HS2).o2 (grown_kept hg1) (fun k hk hm => (unhide HS2).ne k (by simpa using hm) hk)) ((Kept.refl [] w3).alloc _) (by simp)
          have HO2 := hide ho2
          clear hown1 hg1 hat1 ho2
          go_wp2_with (at_builtin; (refine wpList_append_own_at _ rfl _ _ 42 rfl w.heap.size 3 j0 _ 1 8 Try.underlying42 hj hy0 hy1 hy2 rfl (by omega) _ T.length (i64s (endsOf T 0)) rfl (unhide HO2) ⟨w3.heap.size, 0, none⟩ 1 1 [.int .i64 (NL : Nat)] rfl rfl (news_i64 w3 NL) (by intro u hu; simp at hu; subst hu; rfl) ?c3 ?c4 ?c5 ?_))
          case c3 => unfold maxLen; omega
          case c4 => omega
          case c5 => simp; omega
          intro v2 w5 hown2 hg2 _ hat2
          obtain ⟨g2, cp2, hv2⟩ := own_len hown2
          subst hv2
          have hAL' : (allOf (T ++ [p])).length = NL := by rw [← unhide HNL]; simp [allOf]
          have hadd := RS1.add (unhide HS2) p (unhide HSP) hlen (enc_bytes (unhide HSP) (unhide HRI).kb (unhide HRI).vb (unhide HRI).cb) (by omega) (by rw [unhide HNL]; exact unhide HO1) (unhide HG1) (unhide HT1) (by rw [unhide HNL]; exact hown2) hg2 (by simpa using hat2)
          have HS5 := hide hadd
          clear hown2 hg2 hat2 hadd
          go_wp2_with fail
          exact ⟨⟨T ++ [p], i + 1, g1, g2, cp1, cp2, by rw [hAL'], by simp, by simp, by omega, by simp; omega, by rw [hAL']; simpa using HS5⟩, by simp [intOf]; omega⟩
        · have hgt : (120 : Int) < ((enc p).length : Int) := by omega
          go_wp2_with (go_at_call 12; refine (unhide HE).mono ?_; rintro e w2 ⟨k2, hz⟩; rcases hz with ⟨-, a5, c5, rfl, -⟩ | ⟨hz, -⟩; rotate_left; (exact absurd hz (by rw [unhide HSP]; simp)); have HS2 := hide ((unhide HS).go k2); clear k2)
          exact ⟨⟨T, i + 1, a1, a2, c1, c2, by rw [unhide HAL], rfl, by simp, by omega, by omega, by rw [unhide HAL]; exact HS2⟩, by simp [intOf]; omega⟩
    · have hge : ¬ ((i : Int) < (n : Int) ∧ (i : Int) < 5) := by omega
      have hT5 : T.length ≤ 5 := (unhide HS).sh.few
      by_cases hin : (i : Int) < (n : Int)
      · have hi4 : ¬ (i : Int) < 5 := by omega
        clear hge hlt hw1 HA HR HS0 hti hi5
        go_wp2_with fail
        go_loopw [8, 9] (fun fr x wr => ∃ (i F : Nat), i ≤ T.length ∧ fr = .int .i64 (F : Int) ∧ x = .int .i64 (i : Int) ∧ Hid ((allOf (T.take i)).length = F) ∧ Hid (RS1 w (.slice a1 (allOf T).length c1) (.slice a2 T.length c2) T wr)) (fun fr x _ => T.length - (intOf x).toNat)
        case atStart => exact ⟨0, 0, by omega, rfl, rfl, (by simp [allOf] : (allOf (T.take 0)).length = 0), HS⟩
        case round =>
          obtain ⟨i, F, hiT, rfl, rfl, HF, HS2⟩ := hrel
          clear HS
          have hw1 : IntKind.i64.wrap ((i : Int) + 1) = (i : Int) + 1 := by rw [IntKind.wrap_i64]; omega
          by_cases hlt : i < T.length
          · have hltI : (i : Int) < (T.length : Int) := by omega
            generalize (allOf T).length = AL at *
            obtain ⟨g, g2, F', E, rfl, rfl, hI⟩ := (unhide HS2).at hlt
            have hFF : F' = F := by rw [← hI.f, ← unhide HF]
            subst hFF
            have hfe := hI.fe
            have hea := hI.ea
            have hac := hI.ac
            have hcm : c1 ≤ 9223372036854775807 := by have := hI.cm; unfold maxLen at this; omega
            have hA6 : AL ≤ 600 := by have h1 := allOf_len (unhide HS2).sh.len; have h2 := (unhide HS2).sh.few; have h3 := hI.al; omega
            have HI : Hid (∃ X, AtI X T i F' E AL g g2 c1) := ⟨wr, hI⟩
            have HE2 := hide hI.e
            have hcl := hI.cell
            clear hI
            go_wp2_with fail
            go_loopw [10] (fun x wr => ∃ (t : Nat), F' ≤ t ∧ t ≤ AL + 1 ∧ x = .int .i64 (t : Int) ∧ wr.cell? ⟨g2, i, none⟩ = some (.int .i64 (E : Int)) ∧ Hid (RS1 w (.slice (some ⟨g, 0, none⟩) AL c1) (.slice (some ⟨g2, 0, none⟩) T.length c2) T wr)) (fun x _ => AL + 1 - (intOf x).toNat)
            case atStart => exact ⟨F', by omega, by omega, rfl, hcl, HS2⟩
            case round =>
              obtain ⟨t, hft, hta, rfl, hcl2, HS3⟩ := hrel
              clear hcl HS2
              have hw2 : IntKind.i64.wrap ((t : Int) + 1) = (t : Int) + 1 := by rw [IntKind.wrap_i64]; omega
              by_cases htl : t ≤ AL
              · have htlI : (t : Int) ≤ (AL : Int) := by omega
                have hftI : (F' : Int) ≤ (t : Int) := by omega
                have htcI : (t : Int) ≤ (c1 : Int) := by omega
                have hcF : ¬ c1 - F' = 0 := by omega
                have hcF2 : ¬ c1 ≤ F' := by omega
                have HC := hide ((unhide HS3).cut (unhide HI) t F' (c1 - F') hft htl rfl rfl)
                have HCL := hide (fun (W : World) (k : Kept [] wr W) => ((k.cell (p := ⟨g2, i, none⟩) ((unhide HS3).o2.lt g2 rfl).2 (by simp)).trans hcl2 : W.cell? ⟨g2, i, none⟩ = some (.int .i64 (E : Int))))
                by_cases hte : t = E
                · subst hte
                  rw [if_pos rfl] at HC
                  go_wp2_with (go_at_call 19; refine (unhide HC).mono ?_; rintro e w2 ⟨k2, p2, l2, rfl⟩; rw [rv_lit]; have k2' := k2.step ((Kept.refl [] w2).alloc (.cells (rcc p2 l2) 26)); have hcl4 := unhide HCL w2 k2; have hcl3 := unhide HCL _ k2'; unfold rcc at hcl3; have HS4 := hide ((unhide HS3).go k2'); clear k2 k2' HS3 HC)
                  exact ⟨⟨t + 1, by omega, by omega, by simp, hcl3, HS4⟩, by simp [intOf]; omega⟩
                · rw [if_neg hte] at HC
                  have hteI : ¬ (t : Int) = (E : Int) := by omega
                  go_wp2_with (go_at_call 19; refine (unhide HC).mono ?_; rintro e w2 ⟨k2, p2, l2, rfl⟩; rw [rv_lit]; have k2' := k2.step ((Kept.refl [] w2).alloc (.cells (rcc p2 l2) 26)); have hcl4 := unhide HCL w2 k2; have hcl3 := unhide HCL _ k2'; unfold rcc at hcl3; have HS4 := hide ((unhide HS3).go k2'); clear k2 k2' HS3 HC)
                  exact ⟨⟨t + 1, by omega, by omega, by simp, hcl3, HS4⟩, by simp [intOf]; omega⟩
              · have htlI : ¬ (t : Int) ≤ (AL : Int) := by omega
                go_wp2_with fail
                exact ⟨⟨i + 1, E, by omega, by simp, by simp, HE2, HS3⟩, by simp [intOf]; omega⟩
          · have hltI : ¬ (i : Int) < (T.length : Int) := by omega
            go_wp2_with fail
            go_ret
            exact ⟨rfl, (unhide HS2).kept⟩
      · clear hge hlt hw1 HA HR HS0 hti hi5
        go_wp2_with fail
        go_loopw [8, 9] (fun fr x wr => ∃ (i F : Nat), i ≤ T.length ∧ fr = .int .i64 (F : Int) ∧ x = .int .i64 (i : Int) ∧ Hid ((allOf (T.take i)).length = F) ∧ Hid (RS1 w (.slice a1 (allOf T).length c1) (.slice a2 T.length c2) T wr)) (fun fr x _ => T.length - (intOf x).toNat)
        case atStart => exact ⟨0, 0, by omega, rfl, rfl, (by simp [allOf] : (allOf (T.take 0)).length = 0), HS⟩
        case round =>
          obtain ⟨i, F, hiT, rfl, rfl, HF, HS2⟩ := hrel
          clear HS
          have hw1 : IntKind.i64.wrap ((i : Int) + 1) = (i : Int) + 1 := by rw [IntKind.wrap_i64]; omega
          by_cases hlt : i < T.length
          · have hltI : (i : Int) < (T.length : Int) := by omega
            generalize (allOf T).length = AL at *
            obtain ⟨g, g2, F', E, rfl, rfl, hI⟩ := (unhide HS2).at hlt
            have hFF : F' = F := by rw [← hI.f, ← unhide HF]
            subst hFF
            have hfe := hI.fe
            have hea := hI.ea
            have hac := hI.ac
            have hcm : c1 ≤ 9223372036854775807 := by have := hI.cm; unfold maxLen at this; omega
            have hA6 : AL ≤ 600 := by have h1 := allOf_len (unhide HS2).sh.len; have h2 := (unhide HS2).sh.few; have h3 := hI.al; omega
            have HI : Hid (∃ X, AtI X T i F' E AL g g2 c1) := ⟨wr, hI⟩
            have HE2 := hide hI.e
            have hcl := hI.cell
            clear hI
            go_wp2_with fail
            go_loopw [10] (fun x wr => ∃ (t : Nat), F' ≤ t ∧ t ≤ AL + 1 ∧ x = .int .i64 (t : Int) ∧ wr.cell? ⟨g2, i, none⟩ = some (.int .i64 (E : Int)) ∧ Hid (RS1 w (.slice (some ⟨g, 0, none⟩) AL c1) (.slice (some ⟨g2, 0, none⟩) T.length c2) T wr)) (fun x _ => AL + 1 - (intOf x).toNat)
            case atStart => exact ⟨F', by omega, by omega, rfl, hcl, HS2⟩
            case round =>
              obtain ⟨t, hft, hta, rfl, hcl2, HS3⟩ := hrel
              clear hcl HS2
              have hw2 : IntKind.i64.wrap ((t : Int) + 1) = (t : Int) + 1 := by rw [IntKind.wrap_i64]; omega
              by_cases htl : t ≤ AL
              · have htlI : (t : Int) ≤ (AL : Int) := by omega
                have hftI : (F' : Int) ≤ (t : Int) := by omega
                have htcI : (t : Int) ≤ (c1 : Int) := by omega
                have hcF : ¬ c1 - F' = 0 := by omega
                have hcF2 : ¬ c1 ≤ F' := by omega
                have HC := hide ((unhide HS3).cut (unhide HI) t F' (c1 - F') hft htl rfl rfl)
                have HCL := hide (fun (W : World) (k : Kept [] wr W) => ((k.cell (p := ⟨g2, i, none⟩) ((unhide HS3).o2.lt g2 rfl).2 (by simp)).trans hcl2 : W.cell? ⟨g2, i, none⟩ = some (.int .i64 (E : Int))))
                by_cases hte : t = E
                · subst hte
                  rw [if_pos rfl] at HC
                  go_wp2_with (go_at_call 19; refine (unhide HC).mono ?_; rintro e w2 ⟨k2, p2, l2, rfl⟩; rw [rv_lit]; have k2' := k2.step ((Kept.refl [] w2).alloc (.cells (rcc p2 l2) 26)); have hcl4 := unhide HCL w2 k2; have hcl3 := unhide HCL _ k2'; unfold rcc at hcl3; have HS4 := hide ((unhide HS3).go k2'); clear k2 k2' HS3 HC)
                  exact ⟨⟨t + 1, by omega, by omega, by simp, hcl3, HS4⟩, by simp [intOf]; omega⟩
                · rw [if_neg hte] at HC
                  have hteI : ¬ (t : Int) = (E : Int) := by omega
                  go_wp2_with (go_at_call 19; refine (unhide HC).mono ?_; rintro e w2 ⟨k2, p2, l2, rfl⟩; rw [rv_lit]; have k2' := k2.step ((Kept.refl [] w2).alloc (.cells (rcc p2 l2) 26)); have hcl4 := unhide HCL w2 k2; have hcl3 := unhide HCL _ k2'; unfold rcc at hcl3; have HS4 := hide ((unhide HS3).go k2'); clear k2 k2' HS3 HC)
                  exact ⟨⟨t + 1, by omega, by omega, by simp, hcl3, HS4⟩, by simp [intOf]; omega⟩
              · have htlI : ¬ (t : Int) ≤ (AL : Int) := by omega
                go_wp2_with fail
                exact ⟨⟨i + 1, E, by omega, by simp, by simp, HE2, HS3⟩, by simp [intOf]; omega⟩
          · have hltI : ¬ (i : Int) < (T.length : Int) := by omega
            go_wp2_with fail
            go_ret
            exact ⟨rfl, (unhide HS2).kept⟩
end Go.Proofs.Ytocmgfmfalaebaa
