/- The contract of impl.digits.times: the digits of the product, in a row of the call's own. -/
import Derived.Test.YthkdgihkkangfaaDoorPlus
import Derived.Test.YthkdgihkkangfaaDoorGNum
namespace Go.Proofs.YthkdgihkkangfaaDoor
open Go.RowKit Go.Proofs.Pin

end Go.Proofs.YthkdgihkkangfaaDoor
