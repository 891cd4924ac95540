/- The contract of spec.l1Shl: digits of nought laid below. -/
import Derived.Test.YthokphoojmpajabDivSmall
namespace Go.Proofs.Ythokphoojmpajab
open Go.RowKit Go.Proofs.Pin

end Go.Proofs.Ythokphoojmpajab
