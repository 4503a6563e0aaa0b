/- Quotients, differences, squares, roots; Mean, Spread. -/
import Derived.Test.YthhgeobfolhpoaaVKnown
import Derived.Test.YthhgeobfolhpoaaVSgn
import Derived.Laws.Externs
namespace Go.Proofs.Ythhgeobfolhpoaa
open Go Ieee Go.RowKit

/-- no NaN -/
def okw (a : Nat) : Prop := a < 18446744073709551616 ∧ a % 9223372036854775808 ≤ 9218868437227405312
theorem read_okw {a : Nat} (h : okw a) : (∃ s m e, double.read a = .number s m e) ∨ ∃ s, double.read a = .infinity s := by
  obtain ⟨h1, h2⟩ := h
  unfold Format.read
  simp only [dS, dB, dI, dL]
  obtain ⟨r, hr⟩ : ∃ r, a % 9223372036854775808 = r := ⟨_, rfl⟩
  simp only [hr] at h2 ⊢
  by_cases c1 : r < 4503599627370496
  · simp only [c1, if_true]; exact Or.inl ⟨_, _, _, rfl⟩
  · by_cases c2 : r < 9218868437227405312
    · simp only [c1, c2, if_true, if_false]; exact Or.inl ⟨_, _, _, rfl⟩
    · have c3 : r = 9218868437227405312 := by omega
      right
      refine ⟨a / 9223372036854775808 % 2 == 1, ?_⟩
      rw [if_neg c1, if_neg c2, if_pos c3]
theorem read_good {a : Nat} (h : good a) : (∃ m e, double.read a = .number false m e) ∨ double.read a = .infinity false := by
  by_cases c : a < 9218868437227405312
  · exact Or.inl ⟨_, _, read_num c⟩
  · have : a = 9218868437227405312 := by unfold good at h; omega
    rw [this]; exact Or.inr read_inf
theorem near_okw (s : Bool) (m : Nat) (e : Int) : okw (double.nearest s m e) := by
  rw [near_sign]
  have := near_good m e
  unfold good at this
  unfold okw
  cases s
  · simp only [Bool.false_eq_true, if_false]; omega
  · simp only [if_true]; omega
def subF (x y : Nat) : Nat := (floatBits .sub .f64 x y).getD 0
theorem sub_ok {x y : Nat} (hx : low x) (hy : good y) : floatBits .sub .f64 x y = some (subF x y) ∧ okw (subF x y) := by
  have : ∃ r, double.sub x y = some r ∧ okw r := by
    unfold Format.sub
    rw [read_num hx.lt]
    rcases read_good hy with ⟨m, e, h⟩ | h
    · rw [h]; simp only [Datum.opposite, Datum.sum, Option.map_some, Format.write]
      exact ⟨_, rfl, near_okw _ _ _⟩
    · rw [h]
      exact ⟨18442240474082181120, rfl, by unfold okw; omega⟩
  obtain ⟨r, h1, h2⟩ := this
  have h3 : floatBits .sub .f64 x y = some r := h1
  unfold subF; rw [h3]; exact ⟨rfl, h2⟩
theorem sq_ok {a : Nat} (h : okw a) : floatBits .mul .f64 a a = some (mulF a a) ∧ good (mulF a a) := by
  have : ∃ r, double.mul a a = some r ∧ good r := by
    unfold Format.mul
    rcases read_okw h with ⟨s, m, e, h⟩ | ⟨s, h⟩
    · rw [h]; simp only [Datum.product, Option.map_some, Format.write, Bool.xor_self]
      exact ⟨_, rfl, near_good _ _⟩
    · rw [h]
      exact ⟨9218868437227405312, by cases s <;> rfl, Nat.le_refl _⟩
  obtain ⟨r, h1, h2⟩ := this
  have h3 : floatBits .mul .f64 a a = some r := h1
  unfold mulF; rw [h3]; exact ⟨rfl, h2⟩
theorem add_gg {s b : Nat} (hs : good s) (hb : good b) : floatBits .add .f64 s b = some (addF s b) ∧ good (addF s b) := by
  by_cases c : b < 9218868437227405312
  · exact add_eq hs (Or.inl c)
  · have e : b = 9218868437227405312 := by unfold good at hb; omega
    subst e
    have : double.add s 9218868437227405312 = some 9218868437227405312 := by
      unfold Format.add
      rw [read_inf]
      rcases read_good hs with ⟨m, e, h⟩ | h
      · rw [h]; simp [Datum.sum, Format.write, Format.word, dI]
      · rw [h]; simp [Datum.sum, Format.write, Format.word, dI]
    have h3 : floatBits .add .f64 s 9218868437227405312 = some 9218868437227405312 := this
    unfold addF; rw [h3]; exact ⟨rfl, Nat.le_refl _⟩
def divF (x y : Nat) : Nat := (floatBits .quo .f64 x y).getD 0
theorem nat_word : ∀ n : Nat, n < 65 → 0 < n → 0 < floatOfInt .f64 (n : Int) ∧ floatOfInt .f64 (n : Int) < 9218868437227405312 := by decide +kernel
theorem mant_pos {y : Nat} (h : 0 < y) : mant y ≠ 0 := by unfold mant; split <;> omega
theorem div_ok {s n : Nat} (hs : good s) (h0 : 0 < n) (h1 : n ≤ 64) : floatBits .quo .f64 s (floatOfInt .f64 (n : Int)) = some (divF s (floatOfInt .f64 (n : Int))) ∧ good (divF s (floatOfInt .f64 (n : Int))) := by
  obtain ⟨h2, h3⟩ := nat_word n (by omega) h0
  generalize floatOfInt .f64 (n : Int) = y at *
  have : ∃ r, double.div s y = some r ∧ good r := by
    unfold Format.div
    rw [read_num h3]
    rcases read_good hs with ⟨m, e, h⟩ | h
    · rw [h]; simp only [Datum.quotient, mant_pos h2, if_false, Option.map_some, Format.write, Bool.xor_false]
      exact ⟨_, rfl, near_good _ _⟩
    · rw [h]
      exact ⟨9218868437227405312, rfl, Nat.le_refl _⟩
  obtain ⟨r, h4, h5⟩ := this
  have h6 : floatBits .quo .f64 s y = some r := h4
  unfold divF; rw [h6]; exact ⟨rfl, h5⟩
def sqrtF (x : Nat) : Nat := (double.sqrt x).getD 0
theorem sqrt_ok {s : Nat} (hs : good s) : double.sqrt s = some (sqrtF s) ∧ good (sqrtF s) := by
  have : ∃ r, double.sqrt s = some r ∧ good r := by
    unfold Format.sqrt
    rcases read_good hs with ⟨m, e, h⟩ | h
    · rw [h]
      by_cases c : m = 0
      · simp only [Datum.root, c, if_true, Option.map_some, Format.write]; exact ⟨_, rfl, near_good _ _⟩
      · simp only [Datum.root, c, if_false, Bool.false_eq_true, Option.map_some, Format.write]; exact ⟨_, rfl, near_good _ _⟩
    · rw [h]
      exact ⟨9218868437227405312, rfl, Nat.le_refl _⟩
  obtain ⟨r, h4, h5⟩ := this
  unfold sqrtF; rw [h4]; exact ⟨rfl, h5⟩
theorem ksq (w : World) {x r : Nat} (h : double.sqrt x = some r) : (callFunc 53 #[.float .f64 x]).run Try.prog w = .ok (.value (.float .f64 r)) w := by
  have e : (callFunc 53 #[.float .f64 x]).run Try.prog w = ((Extern.MathSqrt.sqrt #[.float .f64 x]).run Try.prog w).andThen fun a w' => .ok (.value a) w' := run_callFunc_extern (e := Extern.MathSqrt.sqrt) Try.func53 (by kernel_rfl) (by kernel_rfl) (by kernel_rfl) (by kernel_rfl) _ _
  have e2 : Extern.MathSqrt.sqrt #[.float .f64 x] = (match FloatKind.f64.format.sqrt x with | some r => (pure (.float .f64 r) : Sem Value) | none => do pure (.float .f64 (← choose (.nanBits .f64 x x)))) := by rfl
  have h2 : FloatKind.f64.format.sqrt x = some r := h
  rw [e, e2, h2]
  simp

set_option maxRecDepth 100000 in
theorem sqrt_call (w : World) {x r : Nat} (h : ∀ W : World, (callFunc 53 #[.float .f64 x]).run Try.prog W = .ok (.value (.float .f64 r)) W) : Calls Try.prog 46 #[.float .f64 x] w fun e w' => e = .returned (.float .f64 r) ∧ w' = w := by
  go_enter Try.func46, Try.ntmps46
  go_wp2
  go_ret
  exact ⟨rfl, rfl⟩
/-- the mean, the spread -/
def Mt.mean (m : Mt) : Nat := divF m.sum (floatOfInt .f64 ((m.loads.length : Nat) : Int))
def sprS (l : List Nat) (a : Nat) : Nat → Nat
  | 0 => 0
  | k + 1 => addF (sprS l a k) (mulF (subF (l.getD k 0) a) (subF (l.getD k 0) a))
theorem sprS_good {l : List Nat} (hl : ∀ j, low (l.getD j 0)) {a : Nat} (ha : good a) (k : Nat) : good (sprS l a k) := by
  induction k with
  | zero => exact Nat.zero_le _
  | succ k ih => exact (add_gg ih (sq_ok (sub_ok (hl k) ha).2).2).2
def Mt.spread (m : Mt) : Nat := sqrtF (divF (sprS m.loads m.mean m.loads.length) (floatOfInt .f64 ((m.loads.length : Nat) : Int)))
theorem Mt.mean_good {m : Mt} (h : m.ok) : good m.mean := (div_ok (Mt.sum_mid h _).good h.l1 h.l2).2
theorem Mt.spread_good {m : Mt} (h : m.ok) : good m.spread := (sqrt_ok (div_ok (sprS_good h.lo (Mt.mean_good h) _) h.l1 h.l2).2).2
set_option maxRecDepth 100000 in
theorem share_any {w : World} {b g : Nat} {m : Mt} (h : Mp w b g m) {s : Nat} (hs : good s) : Calls Try.prog 47 #[.pointer (some ⟨b, 0, none⟩), .float .f64 s] w fun e w' => e = .returned (.float .f64 (divF s (floatOfInt .f64 ((m.loads.length : Nat) : Int)))) ∧ w' = w := by
  have HA := hide (fun W (hq : Quiet w W) => all_any (h.quiet hq))
  have hl1 := h.ok.l1
  have hl2 := h.ok.l2
  have hd := (div_ok hs h.ok.l1 h.ok.l2).1
  clear h hs
  generalize m.loads.length = L at *
  have t1 : ((L : Int) = 0) = False := by simp; omega
  have t2 : (L = 0) = False := by simp; omega
  generalize hy : floatOfInt .f64 (L : Int) = y at *
  generalize divF s y = q at *
  have hrun : ∀ t w, (binOp .quo t (.float .f64 s) (.float .f64 y)).run Try.prog w = .ok (.float .f64 q) w := fun t w => run_float_arith w .quo t .f64 _ _ _ hd
  clear hd
  go_enter Try.func47, Try.ntmps47
  go_wp2_with (first | (go_at_call 40; refine (unhide HA _ (by first | exact Quiet.refl _ | exact (Quiet.refl _).drew)).mono ?_; rintro e w1 ⟨rfl, hq⟩; have hq' := hq.symm; subst hq'; clear HA))
  go_ret
  exact ⟨rfl, rfl⟩
set_option maxRecDepth 100000 in
theorem mean_any {w : World} {b g : Nat} {m : Mt} (h : Mp w b g m) : Calls Try.prog 27 #[.pointer (some ⟨b, 0, none⟩)] w fun e w' => e = .returned (.float .f64 m.mean) ∧ w' = w := by
  have HS := hide (sum_any h)
  have HSH := hide (share_any h (Mt.sum_mid h.ok _).good (s := m.sum))
  have HE : Hid (m.mean = divF m.sum (floatOfInt .f64 ((m.loads.length : Nat) : Int))) := rfl
  rw [← unhide HE] at HSH
  clear h
  go_enter Try.func27, Try.ntmps27
  go_wp2_with (first
    | (go_at_call 26; refine (unhide HS).mono ?_; rintro e w1 ⟨rfl, hq⟩; have hq' := hq.symm; subst hq'; clear HS)
    | (go_at_call 47; refine (unhide HSH).mono ?_; rintro e w1 ⟨rfl, hq⟩; have hq' := hq.symm; subst hq'; clear HSH))
  go_ret
  exact ⟨rfl, rfl⟩
set_option maxRecDepth 100000 in
set_option maxHeartbeats 1000000 in
theorem spread_any {w : World} {b g : Nat} {m : Mt} (h : Mp w b g m) : Calls Try.prog 23 #[.pointer (some ⟨b, 0, none⟩)] w fun e w' => e = .returned (.float .f64 m.spread) ∧ w' = w := by
  have HA := hide (all_any h)
  have HME := hide (mean_any h)
  have hmg := Mt.mean_good h.ok
  have HSH := hide (share_any h (sprS_good h.ok.lo hmg m.loads.length))
  have hl2 := h.ok.l2
  have hcs := fun j (hj : j < m.loads.length) => h.load hj
  have hsub := fun k => (sub_ok (h.ok.lo k) hmg).1
  have hsq := fun k => (sq_ok (sub_ok (h.ok.lo k) hmg).2).1
  have had := fun k => (add_gg (sprS_good h.ok.lo hmg k) (sq_ok (sub_ok (h.ok.lo k) hmg).2).2).1
  have hsr := (sqrt_ok (div_ok (sprS_good h.ok.lo hmg m.loads.length) h.ok.l1 h.ok.l2).2).1
  have HKS := fun W => ksq W hsr
  have HSS : ∀ k, sprS m.loads m.mean (k + 1) = addF (sprS m.loads m.mean k) (mulF (subF (m.loads.getD k 0) m.mean) (subF (m.loads.getD k 0) m.mean)) := fun k => rfl
  have HE : Hid (m.spread = sqrtF (divF (sprS m.loads m.mean m.loads.length) (floatOfInt .f64 ((m.loads.length : Nat) : Int)))) := rfl
  clear h hmg hsr
  rw [unhide HE]
  generalize m.mean = a at *
  generalize m.loads = l at *
  clear HE
  obtain ⟨L, hL⟩ : ∃ L, l.length = L := ⟨_, rfl⟩
  rw [hL] at HA HSH hl2 hcs HKS ⊢
  generalize hqq : divF (sprS l a L) (floatOfInt .f64 (L : Int)) = qq at *
  generalize sqrtF qq = rr at *
  clear hqq hL
  go_enter Try.func23, Try.ntmps23
  go_wp2_with (first
    | (go_at_call 27; refine (unhide HME).mono ?_; rintro e w1 ⟨rfl, hq⟩; have hq' := hq.symm; subst hq'; clear HME)
    | (go_at_call 40; refine (unhide HA).mono ?_; rintro e w1 ⟨rfl, hq⟩; have hq' := hq.symm; subst hq'; clear HA))
  go_loop [4, 13] (fun s i => ∃ k : Nat, k ≤ L ∧ i = .int .i64 (k : Int) ∧ s = .float .f64 (sprS l a k)) (fun _ i => L - (intOf i).toNat)
  case atStart => exact ⟨0, by omega, rfl, rfl⟩
  case round =>
    obtain ⟨k, hk, rfl, rfl⟩ := hrel
    by_cases hlt : k < L
    · have hc := hcs k hlt
      have h1 := hsub k
      have h2 := hsq k
      have h3 := had k
      have hss := hide (HSS k)
      clear hcs hsub hsq had HSS HSH HKS
      generalize l.getD k 0 = x at *
      generalize subF x a = d at *
      generalize mulF d d = q at *
      generalize sprS l a k = S at *
      generalize addF S q = A at *
      have r1 : ∀ t w, (binOp .sub t (.float .f64 x) (.float .f64 a)).run Try.prog w = .ok (.float .f64 d) w := fun t w => run_float_arith w .sub t .f64 _ _ _ h1
      have r2 : ∀ t w, (binOp .mul t (.float .f64 d) (.float .f64 d)).run Try.prog w = .ok (.float .f64 q) w := fun t w => run_float_arith w .mul t .f64 _ _ _ h2
      have r3 : ∀ t w, (binOp .add t (.float .f64 S) (.float .f64 q)).run Try.prog w = .ok (.float .f64 A) w := fun t w => run_float_arith w .add t .f64 _ _ _ h3
      clear h1 h2 h3
      go_wp2_with fail
      exact ⟨⟨k + 1, by omega, by simp, by rw [unhide hss]⟩, by simp [intOf]; omega⟩
    · obtain rfl : k = L := by omega
      clear hcs hsub hsq had HSS
      have HSQ := hide (sqrt_call w HKS)
      clear HKS
      go_wp2_with (first
        | (go_at_call 47; refine (unhide HSH).mono ?_; rintro e w1 ⟨rfl, hq⟩; have hq' := hq.symm; subst hq'; clear HSH)
        | (go_at_call 46; refine (unhide HSQ).mono ?_; rintro e w1 ⟨rfl, hq⟩; have hq' := hq.symm; subst hq'; clear HSQ))
      go_ret
      exact ⟨rfl, rfl⟩
end Go.Proofs.Ythhgeobfolhpoaa
