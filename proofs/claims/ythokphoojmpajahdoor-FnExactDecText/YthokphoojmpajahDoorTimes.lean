/- The contract of impl.digits.times: the digits of the product, in a row of the call's own. -/
import Derived.Test.YthokphoojmpajahDoorGAr
import Derived.Test.YthokphoojmpajahDoorGNum
namespace Go.Proofs.YthokphoojmpajahDoor
open Go.RowKit Go.Proofs.Pin

end Go.Proofs.YthokphoojmpajahDoor
