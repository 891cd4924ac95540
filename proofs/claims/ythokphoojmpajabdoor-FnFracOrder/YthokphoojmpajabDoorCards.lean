/-
  DERIVED. GIVEN WITH THE SEED: THE CARDS: each row of YthokphoojmpajabDoorRows.lean that lists a variable, with what it lists TIED to the program's text (the seventh form; the later family's looks); each row that meets fmt, with fmt's text TOLD by the authors' own Lean function (tested against real Go, not proved from fmt's source: count such statements apart). THE CARD IS WHAT COUNTS. Prove the row's statement (the work); the ties are given (YthokphoojmpajabDoorTie.lean); close each card by the builder's one call (the guide's Derived/Test/ToyasCard.lean, 'card_holds'). Laid BY PROGRAM, IN A SANDBOX (cutbox-door.mjs). By AI agents, Wed Nov 11 2026. No macro, syntax, notation, axiom, sorry.
-/
import Derived.Test.YthokphoojmpajabDoorRows
import GoSem.ClaimSeven
namespace Go.Proofs.YthokphoojmpajabDoor
namespace Rows

/-- THE TIED CARD OF 'laws.FnFracMake'. -/
def fnFracMakeCard : Claim7 := { stood := { row := fnFracMakeRow, standIns := [], harness := (true, "c1a3f178ae4b53590f430f3387ae29386e8ad22e63e7a58ec58e3709a597aa31"), looks := true }, kinds := [], alts := [], laidByText := true, laidKinds := [.handle], laidTests := true, laidLooks := .later }
def FnFracMakeCardSaid : Prop := Claim7.holds Tryd.pinned (.plain (OpenSpec.ofChange fnFracMakeSpec)) fnFracMakeCard

/-- THE TIED CARD OF 'laws.FnFracOrder'. -/
def fnFracOrderCard : Claim7 := { stood := { row := fnFracOrderRow, standIns := [], harness := (true, "c1a3f178ae4b53590f430f3387ae29386e8ad22e63e7a58ec58e3709a597aa31"), looks := true }, kinds := [], alts := [], laidByText := true, laidKinds := [.handle], laidTests := true, laidLooks := .later }
def FnFracOrderCardSaid : Prop := Claim7.holds Tryd.pinned (.plain (OpenSpec.ofChange fnFracOrderSpec)) fnFracOrderCard

/-- THE SECOND FORM's CARD OF 'laws.FnFracMake'. -/
def fnFracMakeUptoCard : Claim7 := { stood := { row := fnFracMakeUptoRow, standIns := [], harness := (true, "c1a3f178ae4b53590f430f3387ae29386e8ad22e63e7a58ec58e3709a597aa31"), looks := true }, kinds := [], alts := [], laidByText := true, laidKinds := [.handle], laidTests := true, laidLooks := .later }
def FnFracMakeUptoCardSaid : Prop := Claim7.holds Tryd.pinned (.plain (OpenSpec.upto fnFracMakeSpec)) fnFracMakeUptoCard

/-- THE SECOND FORM's CARD OF 'laws.FnFracOrder'. -/
def fnFracOrderUptoCard : Claim7 := { stood := { row := fnFracOrderUptoRow, standIns := [], harness := (true, "c1a3f178ae4b53590f430f3387ae29386e8ad22e63e7a58ec58e3709a597aa31"), looks := true }, kinds := [], alts := [], laidByText := true, laidKinds := [.handle], laidTests := true, laidLooks := .later }
def FnFracOrderUptoCardSaid : Prop := Claim7.holds Tryd.pinned (.plain (OpenSpec.upto fnFracOrderSpec)) fnFracOrderUptoCard
end Rows
end Go.Proofs.YthokphoojmpajabDoor
