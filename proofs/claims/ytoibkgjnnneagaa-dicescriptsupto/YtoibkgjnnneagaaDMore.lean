/- Keeping on. -/
import Derived.Test.YtoibkgjnnneagaaDAwake
import Derived.Test.YtoibkgjnnneagaaDJump
namespace Go.Proofs.Ytoibkgjnnneagaa
open Go.RowKit
end Go.Proofs.Ytoibkgjnnneagaa
