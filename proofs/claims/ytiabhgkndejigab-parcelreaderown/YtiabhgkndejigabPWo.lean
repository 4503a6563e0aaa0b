/- What the statements on memory call: lent, kept, spoil, both. -/
import Derived.Test.YtiabhgkndejigabPW
import Derived.Test.YtiabhgkndejigabPApart
namespace Go.Proofs.Ytiabhgkndejigab
open Go.RowKit

theorem wtext_s {w : World} {b : Nat} {F : List Nat} {s : WS} (h : Ws w b F s) (pv : Value) (ps : List Nat) (hp : Far w pv ps F) (hl : s.bs.length + ps.length ≤ 35184372088832) :
    Calls Try.prog 38 #[.pointer (some ⟨b, 0, none⟩), pv] w fun e w' => e = .returned (.tuple #[]) ∧ WsP w b F (wLay s (form ps.length ++ ps)) w' := by
  obtain ⟨v, sv, h1, rfl⟩ := h
  refine (wtext_anyE h1 pv ps hp hl).mono ?_
  rintro e w' ⟨rfl, hp⟩
  exact ⟨rfl, WsP.of hp⟩

/-- A writer of the call's own. -/
def WOwnS (w : World) (b : Nat) (s : WS) (w' : World) : Prop := ∃ F, Ws w' b F s ∧ Kept [] w w' ∧ ∀ x ∈ F, w.heap.size ≤ x
theorem WOwnS.go {w W w' : World} {b : Nat} {F : List Nat} {s s' : WS} (h : Ws W b F s ∧ Kept [] w W ∧ ∀ x ∈ F, w.heap.size ≤ x) (hp : WsP W b F s' w') : WOwnS w b s' w' := by
  obtain ⟨F', g1, g2, g3⟩ := hp
  refine ⟨F', g1, h.2.1.trans g2 (fun x hx => Or.inr (h.2.2 x hx)), fun x hx => ?_⟩
  rcases g3 x hx with h' | h'
  · exact h.2.2 x h'
  · have := h.2.1.size; omega

/-- What both lays down. -/
def twice (P : List Nat) : List Nat := P ++ (form (form P.length ++ P).length ++ (form P.length ++ P))
theorem twice_len (P : List Nat) (h : P.length ≤ 1000000000) : 2 * P.length + 2 ≤ (twice P).length ∧ (twice P).length ≤ 2 * P.length + 20 := by
  have h1 := form_le10 P.length (by omega)
  have h2 := form_pos P.length
  have h3 := form_le10 (form P.length ++ P).length (by simp; omega)
  have h4 := form_pos (form P.length ++ P).length
  unfold twice
  simp only [List.length_append] at *
  omega
theorem twice_state (P : List Nat) (h : P.length ≤ 1000000000) : wClose (wLay (wOpen (wLay (newWS (2 * P.length + 30)) P)) (form P.length ++ P)) = ⟨2 * P.length + 30, twice P, [], 0⟩ := by
  have h1 := form_le10 P.length (by omega)
  have h3 := form_le10 (form P.length ++ P).length (by simp; omega)
  have e1 : wLay (newWS (2 * P.length + 30)) P = ⟨2 * P.length + 30, P, [], 0⟩ := by
    rw [show newWS (2 * P.length + 30) = ⟨2 * P.length + 30, [], [], 0⟩ from rfl]; simp only [wLay]; rw [if_neg (by simp), if_pos (by simp; omega)]; simp
  have e2 : wOpen ⟨2 * P.length + 30, P, [], 0⟩ = ⟨2 * P.length + 30, P, [P.length], 0⟩ := by simp [wOpen]
  have e3 : wLay ⟨2 * P.length + 30, P, [P.length], 0⟩ (form P.length ++ P) = ⟨2 * P.length + 30, P ++ (form P.length ++ P), [P.length], 0⟩ := by
    simp only [wLay]; rw [if_neg (by simp), if_pos (by simp only [List.length_append]; omega)]
  rw [e1, e2, e3]
  simp only [wClose, List.getLast?_singleton]
  have e4 : (P ++ (form P.length ++ P)).length - P.length = (form P.length ++ P).length := by simp
  rw [if_neg (by simp), e4, if_pos (by simp only [List.length_append] at *; omega)]
  rw [List.take_left' rfl, List.drop_left' rfl]
  simp [twice, List.append_assoc]

set_option maxRecDepth 100000 in
set_option maxHeartbeats 1000000 in
theorem both_any {w : World} {x : Value} {P : List Nat} (h : Wide w x P) (hl : P.length ≤ 1000000000) :
    Calls Try.prog 32 #[x] w fun e w' => ∃ b F a cap, e = .returned (.tuple #[.pointer (some ⟨b, 0, none⟩), .slice a (twice P).length cap]) ∧ Ws w' b F ⟨2 * P.length + 30, twice P, [], 0⟩ ∧ (∀ y ∈ F, w.heap.size ≤ y) ∧ w'.ownsRow w.heap.size 5 1 (.slice a (twice P).length cap) (twice P).length (u8s (twice P)) ∧ (∀ y, (Value.slice a (twice P).length cap).ownBlock = some y → y ∉ F) ∧ Kept [] w w' := by
  have HP := hide h
  have HTS := hide (twice_state P hl)
  have HTL := hide (twice_len P hl)
  obtain ⟨pa, pc, rfl⟩ := wide_len h
  clear h
  obtain ⟨n, hn⟩ : ∃ n, n = P.length := ⟨_, rfl⟩
  rw [← hn] at hl HP ⊢
  have HN := hide hn
  clear hn
  have hri : 2 * (n : Int) + 30 = ((2 * n + 30 : Nat) : Int) := by omega
  obtain ⟨R, hR⟩ : ∃ R, R = 2 * n + 30 := ⟨_, rfl⟩
  have hRi : 2 * (n : Int) + 30 = (R : Int) := by omega
  have hRl : R ≤ 2000000030 := by omega
  have HR := hide hR
  clear hri hR
  go_enter Try.func32, Try.ntmps32
  go_wp2_with fail
  refine (new_s R _ (by omega)).mono ?_
  rintro e w3 ⟨b, rfl, hw3, hb3, hk3⟩
  have HW3 : Hid (WOwnS w b (newWS R) w3) := hide ⟨_, hw3, hk3, by simpa using hb3⟩
  clear hw3 hb3 hk3
  obtain ⟨F, hF⟩ := unhide HW3
  have HF := hide hF
  clear hF HW3
  go_wp2_with fail
  refine (wraw_s (unhide HF).1 _ P (((unhide HP).far (F := F) (fun x hx hf => by have := (unhide HF).2.2 x hf; omega)).keep (unhide HF).2.1) (by have := unhide HN; simp [newWS]; omega)).mono ?_
  rintro e w4 ⟨rfl, hp⟩
  have HW4 := hide (WOwnS.go (unhide HF) hp)
  clear hp HF
  obtain ⟨F, hF⟩ := unhide HW4
  have HF := hide hF
  clear hF HW4
  have e1 : wLay (newWS R) P = ⟨R, P, [], 0⟩ := by
    have := unhide HN; have := unhide HR
    rw [show newWS R = ⟨R, [], [], 0⟩ from rfl]; simp only [wLay]; rw [if_neg (by simp), if_pos (by simp; omega)]; simp
  have HE1 := hide e1
  clear e1
  go_wp2_with fail
  refine (wopen_s (unhide HF).1).mono ?_
  rintro e w5 ⟨rfl, hp⟩
  have HW5 := hide (WOwnS.go (unhide HF) hp)
  clear hp HF
  obtain ⟨F, hF⟩ := unhide HW5
  have HF := hide hF
  clear hF HW5
  go_wp2_with fail
  refine (wtext_s (unhide HF).1 _ P (((unhide HP).far (F := F) (fun x hx hf => by have := (unhide HF).2.2 x hf; omega)).keep (unhide HF).2.1) (by have := unhide HN; rw [unhide HE1]; simp [wOpen]; omega)).mono ?_
  rintro e w6 ⟨rfl, hp⟩
  have HW6 := hide (WOwnS.go (unhide HF) hp)
  clear hp HF
  obtain ⟨F, hF⟩ := unhide HW6
  have HF := hide hF
  clear hF HW6
  have e3 : wLay (wOpen (wLay (newWS R) P)) (form P.length ++ P) = ⟨R, P ++ (form P.length ++ P), [P.length], 0⟩ := by
    have h1 := form_le10 P.length (by have := unhide HN; omega)
    have h2 : wOpen ⟨R, P, [], 0⟩ = ⟨R, P, [P.length], 0⟩ := by simp [wOpen]
    rw [unhide HE1, h2]
    have := unhide HN; have := unhide HR
    simp only [wLay]; rw [if_neg (by simp), if_pos (by simp only [List.length_append]; omega)]
  have HE3 := hide e3
  clear e3
  go_wp2_with fail
  refine (wclose_s (unhide HF).1 (by rw [unhide HE3]; simp) (by
    have h1 := form_le10 P.length (by have := unhide HN; omega)
    rw [unhide HE3]; have := unhide HN; simp only [List.length_append]; omega)).mono ?_
  rintro e w7 ⟨rfl, hp⟩
  have HW7 := hide (WOwnS.go (unhide HF) hp)
  clear hp HF
  have hst : wClose (wLay (wOpen (wLay (newWS R) P)) (form P.length ++ P)) = ⟨R, twice P, [], 0⟩ := by
    rw [unhide HR, unhide HN]; exact unhide HTS
  rw [hst] at HW7
  clear hst HE1 HE3 HTS
  obtain ⟨F, hF⟩ := unhide HW7
  have HF := hide hF
  clear hF HW7
  go_wp2_with fail
  refine (wdone_okS (unhide HF).1 rfl rfl).mono ?_
  rintro e w8 ⟨da, dc, rfl, hd8, hk8⟩
  have HD8 := hide (And.intro hd8 hk8)
  clear hd8 hk8
  go_wp2
  go_ret2
  obtain ⟨g1, g2, g3⟩ := unhide HF
  have hs := g2.size
  refine ⟨b, F, da, dc, rfl, ?_, g3, ?_, fun y hy hf => ?_, g2.trans (unhide HD8).2 (by simp)⟩
  · rw [← unhide HR]; exact g1.kept (unhide HD8).2 (by simp)
  · exact own_base (unhide HD8).1 (fun k hk => by have := ((unhide HD8).1.lt k hk).1; omega)
  · have h1 := g1.lt y hf
    have h2 := ((unhide HD8).1.lt y hy).1
    omega

theorem sees2 (w : World) (x y : Nat) : Sees (w.alloc (.cells #[.int .u8 (x : Int), .int .u8 (y : Int)] 5)) (.slice (some ⟨w.heap.size, 0, none⟩) 2 2) [x, y] := by
  refine Or.inr ⟨w.heap.size, 0, 2, rfl, by simp, by unfold maxLen; omega, by simp, fun j hj => ?_⟩
  rw [(Blk.new w _ _).cell]
  match j, hj with
  | 0, _ => rfl
  | 1, _ => rfl

set_option maxRecDepth 100000 in
set_option maxHeartbeats 1000000 in
theorem lent_any {w : World} {x : Value} {P : List Nat} (h : Wide w x P) (hl : P.length ≤ 1000000000) :
    Calls Try.prog 31 #[x] w fun e w' => ∃ g cap, e = .returned (.slice (some ⟨g, 0, none⟩) P.length cap) ∧ P.length + 2 ≤ cap ∧ w'.ownsRow w.heap.size 5 1 (.slice (some ⟨g, 0, none⟩) (P.length + 2) cap) (P.length + 2) (u8s (P ++ [201, 77])) ∧ Kept [] w w' := by
  obtain ⟨i0, hi, hz0, hz1, hz2⟩ := info_parts Try.info5
  have HP := hide h
  obtain ⟨pa, pc, rfl⟩ := wide_len h
  clear h
  obtain ⟨n, hn⟩ : ∃ n, n = P.length := ⟨_, rfl⟩
  rw [← hn] at hl HP ⊢
  have HN := hide hn
  clear hn
  go_enter Try.func31, Try.ntmps31
  go_wp2_with (at_builtin; refine wpList_append_wide _ rfl _ _ 22 rfl w.heap.size 5 i0 (.int .u8 0) Try.underlying22 hi hz0 hz1 hz2 rfl _ [] rfl (World.ownsRow_made w #[] 0 (Nat.le_refl _) (Nat.zero_le _) rfl) _ P rfl ((unhide HP).kept ((Kept.refl [] w).alloc _)) ?c1 ?c2 ?_)
  case c1 => have := unhide HN; simp; omega
  case c2 => simp
  intro v1 w1 hown hg hat
  have hk1 : Kept [] w w1 := ((Kept.refl [] w).alloc _).grown hg (fun k hk => by simp [Value.ownBlock] at hk; right; omega)
  rw [← unhide HN] at hown
  obtain ⟨a1, c1, hv⟩ := own_len hown
  subst hv
  have HO1 := hide hown
  have HK1 := hide hk1
  clear hown hg hat hk1
  have hs1 : w.heap.size ≤ w1.heap.size := (unhide HK1).size
  go_wp2_with (at_builtin; refine wpList_append_sees _ rfl _ _ 22 rfl w.heap.size 5 i0 (.int .u8 0) Try.underlying22 hi hz0 hz1 hz2 rfl _ P rfl (by rw [← unhide HN]; exact (unhide HO1).alloc _) _ [201, 77] rfl (sees2 w1 201 77) ?c3 ?c4 ?_)
  case c3 => have := unhide HN; simp; omega
  case c4 => simp; omega
  intro v2 w2 hown hg hat
  have hk2 : Kept [] w w2 := ((unhide HK1).alloc _).grown hg (fun k hk => by have := ((unhide HO1).lt k hk).1; right; exact this)
  rw [← unhide HN] at hown
  obtain ⟨g, c, hv, -, hgl, hgc, hcm⟩ : ∃ g cap, v2 = .slice (some ⟨g, 0, none⟩) (n + 2) cap ∧ w.heap.size ≤ g ∧ g < w2.heap.size ∧ n + 2 ≤ cap ∧ cap ≤ maxLen := by
    rcases hown.2 with ⟨_, h2⟩ | ⟨g, cap, cur, hv, hb, hg, hc, hm, _⟩
    · omega
    · exact ⟨g, cap, hv, hb, (Array.getElem?_eq_some_iff.1 hg).1, hc, hm⟩
  subst hv
  have HO2 := hide hown
  have HK2 := hide hk2
  have hnc : n ≤ c := by omega
  have hcm' : c ≤ 9223372036854775807 := by unfold maxLen at hcm; omega
  clear hown hg hat hk2 hcm
  go_wp2
  go_ret
  exact ⟨g, c, rfl, hgc, unhide HO2, unhide HK2⟩

set_option maxRecDepth 100000 in
set_option maxHeartbeats 1000000 in
theorem kept_yes {w : World} {g cap n : Nat} {y : Value} {P : List Nat} (hn : n = P.length) (hl : n ≤ 1000000000) (hc : n + 2 ≤ cap) (h1 : Sees w (.slice (some ⟨g, 0, none⟩) n cap) P) (h2 : Wide w y P) (q1 : w.cell? ⟨g, n, none⟩ = some (.int .u8 201)) (q2 : w.cell? ⟨g, n + 1, none⟩ = some (.int .u8 77)) :
    Calls Try.prog 33 #[.slice (some ⟨g, 0, none⟩) n cap, y] w fun e w' => e = .returned (.bool true) ∧ ∃ m, w' = w.drewN m := by
  have HS := hide (same_yesE h1 h2 (by omega))
  obtain ⟨ya, yc, rfl⟩ := wide_len h2
  have HN := hide hn
  rw [← hn] at HS ⊢
  clear h1 h2 hn
  have hc1 : n ≤ cap := by omega
  have hc2 : n + 1 < n + 2 := by omega
  have hc3 : n < n + 2 := by omega
  go_enter Try.func33, Try.ntmps33
  go_wp2_with (first | (go_at_call 17; refine (unhide HS).mono ?_; rintro e w' ⟨rfl, m, rfl⟩))
  go_ret
  exact ⟨rfl, m, rfl⟩

/-- Bytes turned. -/
def turn (P : List Nat) : List Nat := P.map fun x => 255 - x
theorem turn_len (P : List Nat) : (turn P).length = P.length := by simp [turn]
theorem xor255 (x : Nat) (h : x < 256) : bits .xor .u8 (x : Int) 255 = ((255 - x : Nat) : Int) := by
  have : ∀ m : Nat, m < 256 → bits .xor .u8 (m : Int) 255 = ((255 - m : Nat) : Int) := by decide +kernel
  exact this x h

set_option maxRecDepth 100000 in
set_option maxHeartbeats 1000000 in
theorem spoil_any {w : World} {base g cap n : Nat} {P : List Nat} (hb : ∀ x ∈ P, x < 256) (hl : n ≤ 1000000000) (h : w.ownsRow base 5 1 (.slice (some ⟨g, 0, none⟩) n cap) n (u8s P)) :
    Calls Try.prog 34 #[.slice (some ⟨g, 0, none⟩) n cap] w fun e w' => e = .returned (.tuple #[]) ∧ w'.ownsRow base 5 1 (.slice (some ⟨g, 0, none⟩) n cap) n (u8s (turn P)) ∧ Kept [g] w w' := by
  have hPl : P.length = n := by have := h.1; rw [u8s_length] at this; omega
  have HPL := hide hPl
  have HB := hide hb
  have HO := hide h
  have conv : ∀ l : List Nat, u8s l = b8s (l.map fun x : Nat => (x : Int)) := fun l => by simp [u8s, b8s]
  have HCV := hide conv
  clear h hb hPl conv
  go_enter Try.func34, Try.ntmps34
  go_wp2
  go_loopw [2] (fun i wr => ∃ (k : Nat), k ≤ n ∧ i = .int .i64 k ∧ Hid (wr.ownsRow base 5 1 (.slice (some ⟨g, 0, none⟩) n cap) n (u8s (turn (P.take k) ++ P.drop k)) ∧ Kept [g] w wr)) (fun i _ => n - (intOf i).toNat)
  case atStart => exact ⟨0, by omega, rfl, hide ⟨by simpa [turn] using unhide HO, Kept.refl _ _⟩⟩
  case round =>
    clear HO
    obtain ⟨k, hk, rfl, HI⟩ := hrel
    by_cases hlt : k < n
    · have hkl : k < P.length := by rw [unhide HPL]; exact hlt
      have hx : P[k] < 256 := unhide HB _ (List.getElem_mem hkl)
      have ho := (unhide HI).1
      rw [unhide HCV] at ho
      have hc := ownI_cell ho (k := k) (by simp [turn]; omega)
      have hgd : ((turn (P.take k) ++ P.drop k).map fun x : Nat => (x : Int)).getD k 0 = ((P[k] : Nat) : Int) := by
        have e1 : (turn (P.take k)).length = k := by rw [turn_len]; simp; omega
        have e2 : (turn (P.take k) ++ P.drop k)[k]? = some P[k] := by
          rw [List.getElem?_append_right (by omega), e1, Nat.sub_self, List.getElem?_drop, Nat.add_zero]
          exact List.getElem?_eq_getElem hkl
        rw [List.getD, List.getElem?_map, e2]; rfl
      rw [hgd] at hc
      have hf := ownI_frozen ho k
      have hset := ownI_set ho k ((255 - P[k] : Nat) : Int)
      have hlist : ((turn (P.take k) ++ P.drop k).map fun x : Nat => (x : Int)).set k ((255 - P[k] : Nat) : Int) = (turn (P.take (k + 1)) ++ P.drop (k + 1)).map fun x : Nat => (x : Int) := by
        have e1 : (turn (P.take k)).length = k := by rw [turn_len]; simp; omega
        have e3 : P.drop k = P[k] :: P.drop (k + 1) := (List.getElem_cons_drop hkl).symm
        have e4 : turn (P.take (k + 1)) = turn (P.take k) ++ [255 - P[k]] := by rw [List.take_succ_eq_append_getElem hkl, turn, List.map_append]; rfl
        rw [e3, e4, List.map_append, List.set_append_right _ _ (by rw [List.length_map]; omega), List.length_map, e1, Nat.sub_self]
        simp only [List.map_cons, List.set_cons_zero, List.map_append, List.append_assoc, List.cons_append, List.nil_append]
      rw [hlist, ← unhide HCV] at hset
      have hxr := xor255 P[k] hx
      have HST := hide hset
      have HKI := hide (unhide HI).2
      clear ho hgd hset hlist HI
      generalize P[k] = x at *
      generalize hy : 255 - x = y at *
      clear hy
      go_wp2
      go_roundw
      case rel => exact ⟨k + 1, by omega, by go_num, hide ⟨unhide HST, (unhide HKI).setCell (Or.inl (by simp)) _⟩⟩
      case measure => simp [intOf]; omega
    · have hk2 : k = n := by omega
      subst hk2
      go_wp2
      go_end0
      have h9 := unhide HI
      rw [← unhide HPL, List.take_length, List.drop_length, List.append_nil] at h9
      rw [unhide HPL] at h9
      exact ⟨rfl, h9⟩
end Go.Proofs.Ytiabhgkndejigab
