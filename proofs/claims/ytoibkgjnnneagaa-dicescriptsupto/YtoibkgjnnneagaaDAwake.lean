/- awake, round; dice that draw a value next. -/
import Derived.Test.YtoibkgjnnneagaaDRoll
namespace Go.Proofs.Ytoibkgjnnneagaa
open Go.RowKit

theorem mix_first : mixN (on 0 1) = 16294208416658607535 := by kernel_rfl
theorem roll_first : rollK 16 6 (on 0 1) = (2, 1) := by kernel_rfl
theorem unmix_first : unmixN 16294208416658607535 = 11400714819323198485 := by kernel_rfl

set_option maxRecDepth 100000 in
set_option maxHeartbeats 1000000 in
theorem awake_any (w : World) : Calls Try.prog 20 #[] w fun e w' => e = .returned (.bool true) ∧ Kept [] w w' := by
  have H1 := hide (new_any w 0 (by omega))
  have H4 := hide (fun w => unmixAt_any w 16294208416658607535 (by omega))
  rw [unmix_first] at H4
  go_enter Try.func20, Try.ntmps20
  go_wp2_with (first
    | (go_at_call 9; refine (unhide H1).mono ?_; rintro e w1 ⟨b, rfl, hd, hb, hk⟩; clear H1; have H2 := hide (next_any hd); rw [mix_first] at H2; clear hd)
    | (go_at_call 21; refine (unhide H2).mono ?_; rintro e w2 ⟨rfl, hd2, hk2⟩; clear H2; have H3 := hide (roll_any hd2 6 (by omega) (by omega)); rw [roll_first] at H3; clear hd2)
    | (go_at_call 25; refine (unhide H3).mono ?_; rintro e w3 ⟨rfl, hd3, hk3⟩; clear H3 hd3)
    | (go_at_call 18; refine (unhide H4 _).mono ?_; rintro e w4 ⟨rfl, hq⟩; subst hq; clear H4))
  go_ret
  refine ⟨rfl, (hk.trans hk2 ?_).trans hk3 ?_⟩
  · intro x hx; simp at hx; subst hx; exact Or.inr hb
  · intro x hx; simp at hx; subst hx; exact Or.inr hb

/-- the state ahead of a value -/
def bef (v : Nat) : Nat := (unmixN v + 18446744073709551616 - 11400714819323198485) % 18446744073709551616
theorem on_bef (v : Nat) : on (bef v) 1 = unmixN v := by have := unmixN_lt v; unfold on bef; omega
theorem mix_bef {v : Nat} (hv : v < 18446744073709551616) : mixN (on (bef v) 1) = v := by rw [on_bef, mix_unmix hv]
theorem bef_lt (v : Nat) : bef v < 18446744073709551616 := mod_lt' _

set_option maxRecDepth 100000 in
set_option maxHeartbeats 1000000 in
theorem before_any (w : World) (v : Nat) (hv : v < 18446744073709551616) :
    Calls Try.prog 22 #[.int .u64 v] w fun e w' => ∃ b, e = .returned (.pointer (some ⟨b, 0, none⟩)) ∧ Dc w' b (bef v) ∧ w.heap.size ≤ b ∧ Kept [] w w' := by
  have H1 := hide (fun w => unmixAt_any w v hv)
  have hw : IntKind.u64.wrap (((unmixN v : Nat) : Int) - 11400714819323198485) = ((bef v : Nat) : Int) := wrap_sub (a := 11400714819323198485) (by omega) (unmixN_lt v)
  have H2 := hide (fun w => new_any w (bef v) (bef_lt v))
  generalize bef v = t at *
  generalize unmixN v = u at *
  go_enter Try.func22, Try.ntmps22
  go_wp2_with (first
    | (go_at_call 18; refine (unhide H1 _).mono ?_; rintro e w1 ⟨rfl, hq⟩; subst hq; clear H1)
    | (go_at_call 9; refine (unhide H2 _).mono ?_; rintro e w1 ⟨b, rfl, hd, hb, hk⟩; clear H2))
  go_ret
  exact ⟨b, rfl, hd, hb, hk⟩

theorem tmod_neg {x : Int} {n : Nat} (h1 : 1 ≤ n) (h : x.tmod (n : Int) < 0) : x.tmod (n : Int) + n = x % (n : Int) := by
  have h3 := Int.emod_nonneg x (b := (n : Int)) (by omega)
  rw [Int.tmod_eq_emod] at h ⊢
  split at h
  · omega
  · rename_i hc
    rw [if_neg hc] at *
    simp at *
theorem tmod_pos {x : Int} {n : Nat} (h1 : 1 ≤ n) (h : 0 ≤ x.tmod (n : Int)) : x.tmod (n : Int) = x % (n : Int) := by
  have h3 := Int.emod_lt_of_pos x (b := (n : Int)) (by omega)
  rw [Int.tmod_eq_emod] at h ⊢
  split at h
  · rename_i hc
    rw [if_pos hc]; omega
  · rename_i hc
    simp at h
    omega
set_option maxRecDepth 100000 in
set_option maxHeartbeats 1000000 in
theorem round_any (w : World) (x : Int) (n : Nat) (h1 : 1 ≤ n) (h2 : n ≤ 9223372036854775807) :
    Calls Try.prog 11 #[.int .i64 x, .int .i64 n] w fun e w' => e = .returned (.int .i64 (x % (n : Int))) ∧ w' = w := by
  have e1 := fun h => hide (tmod_neg (x := x) h1 h)
  have e2 := fun h => hide (tmod_pos (x := x) h1 h)
  have hp := Int.emod_nonneg x (b := (n : Int)) (by omega)
  have hl := Int.emod_lt_of_pos x (b := (n : Int)) (by omega)
  generalize x % (n : Int) = r at *
  go_enter Try.func11, Try.ntmps11
  go_wp2
  · rename_i ht
    go_ret
    refine ⟨?_, rfl⟩
    rw [unhide (e1 ht)]
    first | rfl | (unfold wrap64; congr 2; omega) | (rw [wrap64_of]; omega; omega) | (simp [wrap64]; omega)
  · rename_i ht
    go_ret
    exact ⟨by rw [unhide (e2 ht)]; rfl, rfl⟩
end Go.Proofs.Ytoibkgjnnneagaa
