/- What Lean reckons of the type int of the translation. -/
import Derived.Test.YthokphoojmpajafDoorProg
import Derived.Test.YthokphoojmpajafDoorBase
import Derived.WalkKit
import Derived.Outline
import Derived.WalkSpells
import Derived.Deep.QuietTactic
import Derived.BigQuiet
namespace Go.Proofs.YthokphoojmpajafDoor
open Go.RowKit Go.Proofs.Pin

theorem Tryd.info3 : (Tryd.prog.info? 3).map (fun i => (i.zero, i.size, i.bytes)) = some (some (.int .i64 0), 1, 8) := by kernel_rfl
end Go.Proofs.YthokphoojmpajafDoor
