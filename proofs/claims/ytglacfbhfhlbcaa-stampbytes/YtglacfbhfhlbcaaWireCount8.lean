/- The contract of a text's count. -/
import Derived.Test.YtglacfbhfhlbcaaWireNumber
namespace Go.Proofs.Ytglacfbhfhlbcaa
open Go.RowKit Go.Wire
end Go.Proofs.Ytglacfbhfhlbcaa
