/- The contract of spec.l1Add: the digits of the sum, in a row of the call's own. -/
import Derived.Test.YthokphoojmpajabArith
import Derived.Test.YthokphoojmpajabNumAdd
namespace Go.Proofs.Ythokphoojmpajab
open Go.RowKit Go.Proofs.Pin

end Go.Proofs.Ythokphoojmpajab
