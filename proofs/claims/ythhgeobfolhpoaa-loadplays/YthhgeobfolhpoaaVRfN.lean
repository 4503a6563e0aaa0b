/- The document's calls on no meter. -/
import Derived.Test.YthhgeobfolhpoaaVRf8
import Derived.Test.YthhgeobfolhpoaaVRf9
namespace Go.Proofs.Ythhgeobfolhpoaa
open Go.RowKit
set_option maxRecDepth 100000 in
theorem rnof (w : World) (s : Int) : Calls Try.prog 32 #[.pointer none, .int .i64 s] w fun e w' => e = .returned (.float .f64 0) ∧ w' = w := by
  go_enter Try.func32, Try.ntmps32
  go_wp2
  go_ret
  exact ⟨rfl, rfl⟩
set_option maxRecDepth 100000 in
theorem rnrow (w : World) : Calls Try.prog 37 #[.pointer none] w fun e w' => e = .returned (.slice none 0 0) ∧ w' = w := by
  go_enter Try.func37, Try.ntmps37
  go_wp2_with fail
  go_loop [3, 4] (fun v i => v = .slice none 0 0 ∧ i = .int .i64 0) (fun _ _ => 0)
  case atStart => exact ⟨rfl, rfl⟩
  case round =>
    obtain ⟨rfl, rfl⟩ := hrel
    go_wp2_with fail
    go_ret
    exact ⟨rfl, rfl⟩
set_option maxRecDepth 100000 in
theorem rnsum (w : World) : Calls Try.prog 33 #[.pointer none] w fun e w' => e = .returned (.float .f64 0) ∧ w' = w := by
  have HR := hide (rnrow w)
  go_enter Try.func33, Try.ntmps33
  go_wp2_with (first | (go_at_call 37; refine (unhide HR).mono ?_; rintro e wq ⟨rfl, hq⟩; have hq' := hq.symm; subst hq'; clear hq))
  go_loop [4, 5] (fun s i => s = .float .f64 0 ∧ i = .int .i64 0) (fun _ _ => 0)
  case atStart => exact ⟨rfl, rfl⟩
  case round =>
    obtain ⟨rfl, rfl⟩ := hrel
    go_wp2_with fail
    go_ret
    exact ⟨rfl, rfl⟩
set_option maxRecDepth 100000 in
theorem rnmean (w : World) : Calls Try.prog 34 #[.pointer none] w fun e w' => e = .returned (.float .f64 0) ∧ w' = w := by
  go_enter Try.func34, Try.ntmps34
  go_wp2
  go_ret
  exact ⟨rfl, rfl⟩
set_option maxRecDepth 100000 in
theorem rnspread (w : World) : Calls Try.prog 35 #[.pointer none] w fun e w' => e = .returned (.float .f64 0) ∧ w' = w := by
  have HR := hide (rnrow w)
  go_enter Try.func35, Try.ntmps35
  go_wp2_with (first | (go_at_call 37; refine (unhide HR).mono ?_; rintro e wq ⟨rfl, hq⟩; have hq' := hq.symm; subst hq'; clear hq))
  go_ret
  exact ⟨rfl, rfl⟩
set_option maxRecDepth 100000 in
theorem rntop (w : World) : Calls Try.prog 36 #[.pointer none] w fun e w' => e = .returned (.int .i64 (-1)) ∧ w' = w := by
  have HR := hide (rnrow w)
  go_enter Try.func36, Try.ntmps36
  go_wp2_with (first | (go_at_call 37; refine (unhide HR).mono ?_; rintro e wq ⟨rfl, hq⟩; have hq' := hq.symm; subst hq'; clear hq))
  go_loop [4, 5] (fun s i => s = .int .i64 (-1) ∧ i = .int .i64 0) (fun _ _ => 0)
  case atStart => exact ⟨rfl, rfl⟩
  case round =>
    obtain ⟨rfl, rfl⟩ := hrel
    go_wp2_with fail
    go_ret
    exact ⟨rfl, rfl⟩
set_option maxRecDepth 100000 in
theorem rnwave (w : World) (k : Int) : Calls Try.prog 38 #[.pointer none, .int .i64 k] w fun e w' => e = .returned (.tuple #[.float .f64 0, .float .f64 0]) ∧ w' = w := by
  go_enter Try.func38, Try.ntmps38
  go_wp2_with fail
  go_loop [6, 7, 8] (fun x y t => x = .float .f64 0 ∧ y = .float .f64 0 ∧ t = .int .i64 0) (fun _ _ _ => 0)
  case atStart => exact ⟨rfl, rfl, rfl⟩
  case round =>
    obtain ⟨rfl, rfl, rfl⟩ := hrel
    go_wp2_with fail
    go_ret2
    exact ⟨rfl, rfl⟩
end Go.Proofs.Ythhgeobfolhpoaa
