/- A text of the base. -/
import Derived.Test.YtkejpbfbpomjfabPkS
import Derived.Lib.Tables
/- The widths of the unsigned kinds; the reader's Byte and Rest. -/
namespace Go.Proofs.Ytkejpbfbpomjfab
open Go.RowKit

set_option maxRecDepth 100000 in
set_option maxHeartbeats 400000 in
theorem len64_8 (x : Int) (h0 : 0 ≤ x) (h1 : x ≤ 255) (w : World) : Calls Try.prog 80 #[.int .u64 x] w fun e w' => e = .returned (.int .i64 (wrap64 (wrap64 (Lib.len8 x)))) ∧ w = w' := by
  go_enter Try.func80, Try.ntmps80
  go_wp2
  go_ret
  exact ⟨rfl, rfl⟩

end Go.Proofs.Ytkejpbfbpomjfab
