/-
  DERIVED. GIVEN WITH THE SEED: THE CARDS: each row of YthokphoojmpajaaGreatDoorRows.lean that lists a variable, with what it lists TIED to the program's text (the seventh form; the later family's looks); each row that meets fmt, with fmt's text TOLD by the authors' own Lean function (tested against real Go, not proved from fmt's source: count such statements apart). THE CARD IS WHAT COUNTS. Prove the row's statement (the work); the ties are given (YthokphoojmpajaaGreatDoorTie.lean); close each card by the builder's one call (the guide's Derived/Test/ToyasCard.lean, 'card_holds'). Laid BY PROGRAM, IN A SANDBOX (cutbox-door.mjs). By AI agents, Wed Nov 11 2026. No macro, syntax, notation, axiom, sorry.
-/
import Derived.Test.YthokphoojmpajaaGreatDoorRows
import GoSem.ClaimSeven
namespace Go.Proofs.YthokphoojmpajaaGreatDoor
namespace Rows

/-- THE TIED CARD OF 'laws.FnNumTop'. -/
def fnNumTopCard : Claim7 := { stood := { row := fnNumTopRow, standIns := [], harness := (true, "24271951bd53be3fce0d545ae4ed0101ec5cb9a076f5c1561a4035676a4db508"), looks := true }, kinds := [], alts := [], laidByText := true, laidKinds := [.handle], laidTests := true, laidLooks := .later }
def FnNumTopCardSaid : Prop := Claim7.holds Tryz.pinned (.plain (OpenSpec.ofChange fnNumTopSpec)) fnNumTopCard

/-- THE SECOND FORM's CARD OF 'laws.FnNumTop'. -/
def fnNumTopUptoCard : Claim7 := { stood := { row := fnNumTopUptoRow, standIns := [], harness := (true, "24271951bd53be3fce0d545ae4ed0101ec5cb9a076f5c1561a4035676a4db508"), looks := true }, kinds := [], alts := [], laidByText := true, laidKinds := [.handle], laidTests := true, laidLooks := .later }
def FnNumTopUptoCardSaid : Prop := Claim7.holds Tryz.pinned (.plain (OpenSpec.upto fnNumTopSpec)) fnNumTopUptoCard
end Rows
end Go.Proofs.YthokphoojmpajaaGreatDoor
