/-
  DERIVED. GIVEN WITH THE SEED: THE CARDS: each row of YthokphoojmpajaeDoorRows.lean that lists a variable, with what it lists TIED to the program's text (the seventh form; the later family's looks); each row that meets fmt, with fmt's text TOLD by the authors' own Lean function (tested against real Go, not proved from fmt's source: count such statements apart). THE CARD IS WHAT COUNTS. Prove the row's statement (the work); the ties are given (YthokphoojmpajaeDoorTie.lean); close each card by the builder's one call (the guide's Derived/Test/ToyasCard.lean, 'card_holds'). Laid BY PROGRAM, IN A SANDBOX (cutbox-door.mjs). By AI agents, Wed Nov 11 2026. No macro, syntax, notation, axiom, sorry.
-/
import Derived.Test.YthokphoojmpajaeDoorRows
import GoSem.ClaimSeven
namespace Go.Proofs.YthokphoojmpajaeDoor
namespace Rows

/-- THE TIED CARD OF 'laws.FnExactFracOf'. -/
def fnExactFracOfCard : Claim7 := { stood := { row := fnExactFracOfRow, standIns := [], harness := (true, "4a5c975a1bcf33c7d74535b02983f4f19d1cf2f13ce4c5b9aa113fa351a163d9"), looks := true }, kinds := [], alts := [], laidByText := true, laidKinds := [.handle], laidTests := true, laidLooks := .later }
def FnExactFracOfCardSaid : Prop := Claim7.holds Tryd.pinned (.plain (OpenSpec.ofChange fnExactFracOfSpec)) fnExactFracOfCard

/-- THE SECOND FORM's CARD OF 'laws.FnExactFracOf'. -/
def fnExactFracOfUptoCard : Claim7 := { stood := { row := fnExactFracOfUptoRow, standIns := [], harness := (true, "4a5c975a1bcf33c7d74535b02983f4f19d1cf2f13ce4c5b9aa113fa351a163d9"), looks := true }, kinds := [], alts := [], laidByText := true, laidKinds := [.handle], laidTests := true, laidLooks := .later }
def FnExactFracOfUptoCardSaid : Prop := Claim7.holds Tryd.pinned (.plain (OpenSpec.upto fnExactFracOfSpec)) fnExactFracOfUptoCard
end Rows
end Go.Proofs.YthokphoojmpajaeDoor
