/- A nil meter: share, Mean, Spread, Wave. -/
import Derived.Test.YthhgeobfolhpoaaVSpr
import Derived.Test.YthhgeobfolhpoaaVWave
namespace Go.Proofs.Ythhgeobfolhpoaa
open Go.RowKit

set_option maxRecDepth 100000 in
theorem nshare (w : World) (s : Nat) : Calls Try.prog 47 #[.pointer none, .float .f64 s] w fun e w' => e = .returned (.float .f64 0) ∧ w' = w := by
  have HA := hide (nall w)
  go_enter Try.func47, Try.ntmps47
  go_wp2_with (first | (go_at_call 40; refine (unhide HA).mono ?_; rintro e w1 ⟨rfl, hq⟩; have hq' := hq.symm; subst hq'; clear HA))
  go_ret
  exact ⟨rfl, rfl⟩
set_option maxRecDepth 100000 in
theorem nmean (w : World) : Calls Try.prog 27 #[.pointer none] w fun e w' => e = .returned (.float .f64 0) ∧ w' = w := by
  have HS := hide (nsum w)
  have HSH := hide (nshare w 0)
  go_enter Try.func27, Try.ntmps27
  go_wp2_with (first
    | (go_at_call 26; refine (unhide HS).mono ?_; rintro e w1 ⟨rfl, hq⟩; have hq' := hq.symm; subst hq'; clear HS)
    | (go_at_call 47; refine (unhide HSH).mono ?_; rintro e w1 ⟨rfl, hq⟩; have hq' := hq.symm; subst hq'; clear HSH))
  go_ret
  exact ⟨rfl, rfl⟩
theorem sqrt_zero : Ieee.double.sqrt 0 = some 0 := by decide +kernel
set_option maxRecDepth 100000 in
theorem nspread (w : World) : Calls Try.prog 23 #[.pointer none] w fun e w' => e = .returned (.float .f64 0) ∧ w' = w := by
  have HA := hide (nall w)
  have HME := hide (nmean w)
  have HSH := hide (nshare w 0)
  have HSQ := hide (sqrt_call w (fun W => ksq W sqrt_zero))
  go_enter Try.func23, Try.ntmps23
  go_wp2_with (first
    | (go_at_call 27; refine (unhide HME).mono ?_; rintro e w1 ⟨rfl, hq⟩; have hq' := hq.symm; subst hq'; clear HME)
    | (go_at_call 40; refine (unhide HA).mono ?_; rintro e w1 ⟨rfl, hq⟩; have hq' := hq.symm; subst hq'; clear HA))
  go_loop [4, 13] (fun s i => s = .float .f64 0 ∧ i = .int .i64 0) (fun _ _ => 0)
  case atStart => exact ⟨rfl, rfl⟩
  case round =>
    obtain ⟨rfl, rfl⟩ := hrel
    go_wp2_with (first
      | (go_at_call 47; refine (unhide HSH).mono ?_; rintro e w1 ⟨rfl, hq⟩; have hq' := hq.symm; subst hq'; clear HSH)
      | (go_at_call 46; refine (unhide HSQ).mono ?_; rintro e w1 ⟨rfl, hq⟩; have hq' := hq.symm; subst hq'; clear HSQ))
    go_ret
    exact ⟨rfl, rfl⟩
end Go.Proofs.Ythhgeobfolhpoaa
