/- The contract of impl.digits.times: the digits of the product, in a row of the call's own. -/
import Derived.Test.YthokphoojmpajaeDoorPlus
import Derived.Test.YthokphoojmpajaeDoorGNum
namespace Go.Proofs.YthokphoojmpajaeDoor
open Go.RowKit Go.Proofs.Pin

end Go.Proofs.YthokphoojmpajaeDoor
