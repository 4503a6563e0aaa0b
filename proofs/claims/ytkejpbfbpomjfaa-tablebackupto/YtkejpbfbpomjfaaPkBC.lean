/- A text of the base. -/
import Derived.Test.YtkejpbfbpomjfaaPkS
import Derived.Lib.Tables
/- The widths of the unsigned kinds; the reader's Byte and Rest. -/
namespace Go.Proofs.Ytkejpbfbpomjfaa
open Go.RowKit

set_option maxRecDepth 100000 in
set_option maxHeartbeats 400000 in
theorem len64_8 (x : Int) (h0 : 0 ≤ x) (h1 : x ≤ 255) (w : World) : Calls Try.prog 61 #[.int .u64 x] w fun e w' => e = .returned (.int .i64 (wrap64 (wrap64 (Lib.len8 x)))) ∧ w = w' := by
  go_enter Try.func61, Try.ntmps61
  go_wp2
  go_ret
  exact ⟨rfl, rfl⟩

end Go.Proofs.Ytkejpbfbpomjfaa
