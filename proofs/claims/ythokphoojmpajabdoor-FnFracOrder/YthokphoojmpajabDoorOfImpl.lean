/- The contract of impl.NatOf: the digits of a number below 2^64, in a row of the call's own. -/
import Derived.Test.YthokphoojmpajabDoorProg
import Derived.Test.YthokphoojmpajabDoorBase
import Derived.Test.YthokphoojmpajabDoorGEq
import Derived.WalkKit
import Derived.Outline
import Derived.WalkSpells
namespace Go.Proofs.YthokphoojmpajabDoor
open Go.RowKit Go.Proofs.Pin

end Go.Proofs.YthokphoojmpajabDoor
