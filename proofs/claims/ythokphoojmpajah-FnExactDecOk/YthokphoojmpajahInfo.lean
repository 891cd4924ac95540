/- What Lean reckons of the type int of the translation. -/
import Derived.Test.YthokphoojmpajahProg
import Derived.Test.YthokphoojmpajahBase
import Derived.WalkKit
import Derived.Outline
import Derived.WalkSpells
import Derived.Deep.QuietTactic
import Derived.BigQuiet
namespace Go.Proofs.Ythokphoojmpajah
open Go.RowKit Go.Proofs.Pin

theorem Try.info3 : (Try.prog.info? 3).map (fun i => (i.zero, i.size, i.bytes)) = some (some (.int .i64 0), 1, 8) := by kernel_rfl
end Go.Proofs.Ythokphoojmpajah
