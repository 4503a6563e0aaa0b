/- The document's reading: its state, the next byte, a number, a real number. -/
import Derived.Test.YtigmofbammofbaaKDecP
import Derived.Test.YtigmofbammofbaaKRefE
import Derived.BigRegion
namespace Go.Proofs.Ytigmofbammofbaa
open Go.RowKit

/-- what is left to be read, or the fault -/
abbrev St := Except Nat (List Nat)
def nxt : St → Nat × St
  | .error e => (0, .error e)
  | .ok [] => (0, .error 40)
  | .ok (x :: t) => (x, .ok t)
/-- a reading in memory: its block b, the slice V whose bytes are bs -/
def Rdg (w : World) (b : Nat) (V : Value) (bs : List Nat) (s : St) : Prop :=
  Sees w V bs ∧ bs.length ≤ 1099511627776 ∧ (bs = [] ∨ ∀ k, V.ownBlock = some k → k < b) ∧ ∃ i f : Nat, Blk w b #[V, .int .i64 (i : Int), .int .i64 (f : Int)] 68 ∧ i ≤ bs.length ∧ f < 100 ∧ (match s with | .ok t => f = 0 ∧ bs.drop i = t | .error e => f = e ∧ e ≠ 0)
theorem hv_not {V : Value} {bs : List Nat} {b : Nat} {F : List Nat} (h : bs = [] ∨ ∀ k, V.ownBlock = some k → k < b) (hF : ∀ x ∈ F, b ≤ x) : bs = [] ∨ ∀ k, V.ownBlock = some k → k ∉ F := by
  rcases h with h | h
  · exact Or.inl h
  · exact Or.inr fun k hk hm => by have := h k hk; have := hF k hm; omega
theorem Rdg.kept {F : List Nat} {w w' : World} {b : Nat} {V : Value} {bs : List Nat} {s : St} (h : Rdg w b V bs s) (hk : Kept F w w') (hF : ∀ x ∈ F, b < x) : Rdg w' b V bs s := by
  obtain ⟨h1, h0, h2, i, f, h3, h4⟩ := h
  exact ⟨h1.kept hk (hv_not h2 (fun x hx => Nat.le_of_lt (hF x hx))), h0, h2, i, f, h3.kept hk (fun hm => by have := hF b hm; omega), h4⟩
theorem Rdg.b {w : World} {b : Nat} {V : Value} {bs : List Nat} {s : St} (h : Rdg w b V bs s) : b < w.heap.size := by
  obtain ⟨_, _, _, i, f, h3, _⟩ := h
  exact h3.lt
theorem Rdg.lt {w : World} {b : Nat} {V : Value} {bs t : List Nat} (h : Rdg w b V bs (.ok t)) : t.length ≤ bs.length ∧ ∀ x ∈ t, x < 256 := by
  obtain ⟨h1, h0, h2, i, f, h3, h4, h5, h6, h7⟩ := h
  subst h7
  refine ⟨by simp, fun x hx => ?_⟩
  obtain ⟨_, _, _, _, _, h, _⟩ := h1
  exact h x (List.mem_of_mem_drop hx)
/-- what a call on a reading leaves alone -/
def RdK (b : Nat) (w w' : World) : Prop := Kept [b] w w'

set_option maxRecDepth 100000 in
set_option maxHeartbeats 1000000 in
theorem next_any {w : World} {b : Nat} {V : Value} {bs : List Nat} {s : St} (h : Rdg w b V bs s) :
    Calls Try.prog 41 #[.pointer (some ⟨b, 0, none⟩)] w fun e w' => e = .returned (.int .u8 ((nxt s).1 : Nat)) ∧ Rdg w' b V bs (nxt s).2 ∧ Kept [b] w w' := by
  have HR := hide h
  obtain ⟨h1, h0, h2, i, f, h3, h4, h5, h6⟩ := h
  have c0 := h3.cell 0
  have c1 := h3.cell 1
  have c2 := h3.cell 2
  have fz := h3.frozen
  simp at c0 c1 c2
  have HB := hide h3
  have HS := hide h1
  have HV := hide h2
  obtain ⟨a, cap, rfl, hcap, hmx, hb256, hcells⟩ := h1
  have HC := hide hcells
  clear h3 h2 hcells
  cases s with
  | error e =>
    obtain ⟨rfl, he⟩ := h6
    have t1 : ((f : Int) != 0) = true := by simp; omega
    generalize bs.length = L at *
    go_enter Try.func41, Try.ntmps41
    go_wp2
    go_ret
    exact ⟨rfl, unhide HR, Kept.refl _ _⟩
  | ok t =>
    obtain ⟨rfl, hd⟩ := h6
    unfold maxLen at hmx
    by_cases hi : i < bs.length
    · obtain ⟨bb, off, rfl, hc⟩ : ∃ bb off, a = some ⟨bb, off, none⟩ ∧ w.cell? ⟨bb, off + i, none⟩ = some (.int .u8 (bs.getD i 0 : Nat)) := at_sees rfl (unhide HC) hi
      have hne : bb ≠ b := by
        rcases unhide HV with h | h
        · rw [h] at hi; simp at hi
        · have := h bb rfl; omega
      have hne2 : ¬ bb = b := hne
      rw [drop_at bs i hi] at hd
      subst hd
      have HX : Hid (bs.drop (i + 1) = bs.drop (i + 1)) := rfl
      simp only [nxt]
      have HBX := hide hb256
      generalize hLL : bs.length = L at *
      have HLL := hide hLL
      clear hLL hb256 HC HR
      generalize bs.getD i 0 = x at *
      have t1 : ((i : Int) ≥ (L : Int)) = False := by simp; omega
      have t2 : ((L : Int) ≤ (i : Int)) = False := by simp; omega
      have e1 : IntKind.i64.wrap ((i : Int) + 1) = (i : Int) + 1 := by rw [IntKind.wrap_i64]; omega
      have e2 : (i : Int) + 1 - 1 = (i : Int) := by omega
      have e3 : IntKind.i64.wrap (i : Int) = (i : Int) := by rw [IntKind.wrap_i64]; omega
      have hil : (i : Int) < (L : Int) := by omega
      have f1 := fz 1
      go_enter Try.func41, Try.ntmps41
      go_wp2_with fail
      go_region
      go_wp2_with fail
      have hk1 : Kept [b] w (w.drew.setCell ⟨b, 1, none⟩ (.int .i64 ((i : Int) + 1))) := ((Kept.refl [b] w).drew).setCell (p := ⟨b, 1, none⟩) (Or.inl (by simp)) _
      have hb1 : Blk (w.drew.setCell ⟨b, 1, none⟩ (.int .i64 ((i : Int) + 1))) b #[.slice (some ⟨bb, off, none⟩) L cap, .int .i64 ((i : Int) + 1), .int .i64 0] 68 := Blk.set (w := w.drew) (unhide HB) 1 _
      refine world_at (R := fun W => Kept [b] w W ∧ Blk W b #[.slice (some ⟨bb, off, none⟩) L cap, .int .i64 ((i : Int) + 1), .int .i64 0] 68 ∧ W.cell? ⟨bb, off + i, none⟩ = some (.int .u8 (x : Int))) ⟨hk1, hb1, (hk1.cell (p := ⟨bb, off + i, none⟩) (World.block_lt_of_cell? w _ hc) (by simpa using hne)).trans hc⟩ ?_
      clear hk1 hb1 c0 c1 c2 hc f1 fz
      rintro W ⟨hkW, hbW, hcW⟩
      have d0 := hbW.cell 0
      have d1 := hbW.cell 1
      simp at d0 d1
      have HKW := hide hkW
      have HBW := hide hbW
      clear hkW hbW
      go_region
      go_wp2
      go_ret
      refine ⟨rfl, ⟨((unhide HS).kept (unhide HKW) (hv_not (unhide HV) (by simp))).kept (F := []) ((Kept.refl [] W).drew) (Or.inr (by simp)), by rw [unhide HLL]; exact h0, unhide HV, i + 1, 0, ?_, by rw [unhide HLL]; omega, by omega, rfl, rfl⟩, (unhide HKW).drew⟩
      exact unhide HBW
    · have hil : i = bs.length := by omega
      rw [List.drop_eq_nil_of_le (by omega)] at hd
      subst hd
      simp only [nxt]
      clear HC
      generalize hLL : bs.length = L at *
      have HLL := hide hLL
      subst hil
      clear hLL
      have t1 : ((i : Int) ≥ (i : Int)) = True := by simp
      have f2 := fz 2
      go_enter Try.func41, Try.ntmps41
      go_wp2_with fail
      go_region
      go_wp2
      go_ret
      have hk1 : Kept [b] w (w.drew.setCell ⟨b, 2, none⟩ (.int .i64 40)) := ((Kept.refl [b] w).drew).setCell (p := ⟨b, 2, none⟩) (Or.inl (by simp)) _
      refine ⟨rfl, ⟨(unhide HS).kept hk1 (hv_not (unhide HV) (by simp)), by rw [unhide HLL]; exact h0, unhide HV, i, 40, Blk.set (w := w.drew) (unhide HB) 2 _, by rw [unhide HLL]; omega, by omega, rfl, by omega⟩, hk1⟩

/-- k bytes more -/
def numK : Nat → Nat → St → Nat × St
  | 0, n, s => (n, s)
  | k + 1, n, s => numK k (256 * n + (nxt s).1) (nxt s).2
theorem nxt_lt {s : St} (h : ∀ t, s = .ok t → ∀ x ∈ t, x < 256) : (nxt s).1 < 256 := by
  cases s with
  | error e => simp [nxt]
  | ok t =>
    cases t with
    | nil => simp [nxt]
    | cons x t => exact h _ rfl x (List.mem_cons_self ..)

set_option maxRecDepth 100000 in
set_option maxHeartbeats 1000000 in
theorem number_any {w : World} {b : Nat} {V : Value} {bs : List Nat} {s : St} (h : Rdg w b V bs s) :
    Calls Try.prog 42 #[.pointer (some ⟨b, 0, none⟩)] w fun e w' => e = .returned (.int .u64 ((numK 8 0 s).1 : Nat)) ∧ Rdg w' b V bs (numK 8 0 s).2 ∧ (numK 8 0 s).1 < 18446744073709551616 ∧ Kept [b] w w' := by
  have HR := hide h
  clear h
  go_enter Try.func42, Try.ntmps42
  go_wp2_with fail
  go_loopw [3, 4] (fun n i wr => ∃ (k m : Nat) (s' : St), k ≤ 8 ∧ i = .int .i64 k ∧ n = .int .u64 (m : Int) ∧ m < 256 ^ k ∧ numK 8 0 s = numK (8 - k) m s' ∧ Rdg wr b V bs s' ∧ Kept [b] w wr) (fun _ i _ => 8 - (intOf i).toNat)
  case atStart => exact ⟨0, 0, s, by omega, rfl, rfl, by simp, rfl, unhide HR, Kept.refl _ _⟩
  case round =>
    obtain ⟨k, m, s', hk, rfl, rfl, hm, hn, hr, hkp⟩ := hrel
    have HN := hide hn
    have HK := hide hkp
    by_cases hk8 : k < 8
    · have HNX := hide (next_any hr)
      have hx : (nxt s').1 < 256 := nxt_lt (fun t ht => by subst ht; exact hr.lt.2)
      have HSN : Hid (numK (8 - k) m s' = numK (8 - (k + 1)) (256 * m + (nxt s').1) (nxt s').2) := by
        unfold Hid
        rw [show 8 - k = (8 - (k + 1)) + 1 by omega]
        rfl
      have HM : Hid (256 * m + (nxt s').1 < 256 ^ (k + 1)) := by
        unfold Hid
        rw [Nat.pow_succ]
        omega
      have hm7 : m < 72057594037927936 := by
        have h2 : 256 ^ k ≤ 256 ^ 7 := Nat.pow_le_pow_right (by omega) (by omega)
        have h3 : (256 : Nat) ^ 7 = 72057594037927936 := by decide
        omega
      clear hn hr hkp hm
      generalize nxt s' = ns at *
      obtain ⟨x, s2⟩ := ns
      simp only at *
      have t1 : (k : Int) < 8 := by omega
      go_wp2_with (first | (go_at_call 41; refine (unhide HNX).mono ?_; rintro e w1 ⟨rfl, hr1, hk1⟩; have HR1 := hide hr1; have HK1 := hide ((unhide HK).trans hk1 (fun y hy => Or.inl hy)); clear hr1 hk1 HNX))
      exact ⟨⟨k + 1, 256 * m + x, s2, by omega, by simp, by simp, unhide HM, (unhide HN).trans (unhide HSN), unhide HR1, unhide HK1⟩, by simp [intOf]; omega⟩
    · obtain rfl : k = 8 := by omega
      have hm2 : m < 18446744073709551616 := hm
      have HE : Hid (numK 8 0 s = (m, s')) := hn
      have HR1 := hide hr
      clear hn hr hkp hm
      go_wp2
      go_ret
      rw [unhide HE]
      exact ⟨rfl, unhide HR1, hm2, unhide HK⟩
end Go.Proofs.Ytigmofbammofbaa
