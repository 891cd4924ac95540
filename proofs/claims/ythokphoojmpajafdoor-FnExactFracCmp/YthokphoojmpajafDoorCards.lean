/-
  DERIVED. GIVEN WITH THE SEED: THE CARDS: each row of YthokphoojmpajafDoorRows.lean that lists a variable, with what it lists TIED to the program's text (the seventh form; the later family's looks); each row that meets fmt, with fmt's text TOLD by the authors' own Lean function (tested against real Go, not proved from fmt's source: count such statements apart). THE CARD IS WHAT COUNTS. Prove the row's statement (the work); the ties are given (YthokphoojmpajafDoorTie.lean); close each card by the builder's one call (the guide's Derived/Test/ToyasCard.lean, 'card_holds'). Laid BY PROGRAM, IN A SANDBOX (cutbox-door.mjs). By AI agents, Wed Nov 11 2026. No macro, syntax, notation, axiom, sorry.
-/
import Derived.Test.YthokphoojmpajafDoorRows
import GoSem.ClaimSeven
namespace Go.Proofs.YthokphoojmpajafDoor
namespace Rows

/-- THE TIED CARD OF 'laws.FnExactFracCmp'. -/
def fnExactFracCmpCard : Claim7 := { stood := { row := fnExactFracCmpRow, standIns := [], harness := (true, "d89cc4e68f5f446e16e867458fc1d1fb39d7ed8f686bac2124c8cc09d0290cc6"), looks := true }, kinds := [], alts := [], laidByText := true, laidKinds := [.handle], laidTests := true, laidLooks := .later }
def FnExactFracCmpCardSaid : Prop := Claim7.holds Tryd.pinned (.plain (OpenSpec.ofChange fnExactFracCmpSpec)) fnExactFracCmpCard

/-- THE TIED CARD OF 'laws.FnExactFracSign'. -/
def fnExactFracSignCard : Claim7 := { stood := { row := fnExactFracSignRow, standIns := [], harness := (true, "d89cc4e68f5f446e16e867458fc1d1fb39d7ed8f686bac2124c8cc09d0290cc6"), looks := true }, kinds := [], alts := [], laidByText := true, laidKinds := [.handle], laidTests := true, laidLooks := .later }
def FnExactFracSignCardSaid : Prop := Claim7.holds Tryd.pinned (.plain (OpenSpec.ofChange fnExactFracSignSpec)) fnExactFracSignCard

/-- THE TIED CARD OF 'laws.FnExactFracNeg'. -/
def fnExactFracNegCard : Claim7 := { stood := { row := fnExactFracNegRow, standIns := [], harness := (true, "d89cc4e68f5f446e16e867458fc1d1fb39d7ed8f686bac2124c8cc09d0290cc6"), looks := true }, kinds := [], alts := [], laidByText := true, laidKinds := [.handle], laidTests := true, laidLooks := .later }
def FnExactFracNegCardSaid : Prop := Claim7.holds Tryd.pinned (.plain (OpenSpec.ofChange fnExactFracNegSpec)) fnExactFracNegCard

/-- THE TIED CARD OF 'laws.FnExactFracAbs'. -/
def fnExactFracAbsCard : Claim7 := { stood := { row := fnExactFracAbsRow, standIns := [], harness := (true, "d89cc4e68f5f446e16e867458fc1d1fb39d7ed8f686bac2124c8cc09d0290cc6"), looks := true }, kinds := [], alts := [], laidByText := true, laidKinds := [.handle], laidTests := true, laidLooks := .later }
def FnExactFracAbsCardSaid : Prop := Claim7.holds Tryd.pinned (.plain (OpenSpec.ofChange fnExactFracAbsSpec)) fnExactFracAbsCard

/-- THE TIED CARD OF 'laws.FnExactFracAdd'. -/
def fnExactFracAddCard : Claim7 := { stood := { row := fnExactFracAddRow, standIns := [], harness := (true, "d89cc4e68f5f446e16e867458fc1d1fb39d7ed8f686bac2124c8cc09d0290cc6"), looks := true }, kinds := [], alts := [], laidByText := true, laidKinds := [.handle], laidTests := true, laidLooks := .later }
def FnExactFracAddCardSaid : Prop := Claim7.holds Tryd.pinned (.plain (OpenSpec.ofChange fnExactFracAddSpec)) fnExactFracAddCard

/-- THE SECOND FORM's CARD OF 'laws.FnExactFracCmp'. -/
def fnExactFracCmpUptoCard : Claim7 := { stood := { row := fnExactFracCmpUptoRow, standIns := [], harness := (true, "d89cc4e68f5f446e16e867458fc1d1fb39d7ed8f686bac2124c8cc09d0290cc6"), looks := true }, kinds := [], alts := [], laidByText := true, laidKinds := [.handle], laidTests := true, laidLooks := .later }
def FnExactFracCmpUptoCardSaid : Prop := Claim7.holds Tryd.pinned (.plain (OpenSpec.upto fnExactFracCmpSpec)) fnExactFracCmpUptoCard

/-- THE SECOND FORM's CARD OF 'laws.FnExactFracSign'. -/
def fnExactFracSignUptoCard : Claim7 := { stood := { row := fnExactFracSignUptoRow, standIns := [], harness := (true, "d89cc4e68f5f446e16e867458fc1d1fb39d7ed8f686bac2124c8cc09d0290cc6"), looks := true }, kinds := [], alts := [], laidByText := true, laidKinds := [.handle], laidTests := true, laidLooks := .later }
def FnExactFracSignUptoCardSaid : Prop := Claim7.holds Tryd.pinned (.plain (OpenSpec.upto fnExactFracSignSpec)) fnExactFracSignUptoCard

/-- THE SECOND FORM's CARD OF 'laws.FnExactFracNeg'. -/
def fnExactFracNegUptoCard : Claim7 := { stood := { row := fnExactFracNegUptoRow, standIns := [], harness := (true, "d89cc4e68f5f446e16e867458fc1d1fb39d7ed8f686bac2124c8cc09d0290cc6"), looks := true }, kinds := [], alts := [], laidByText := true, laidKinds := [.handle], laidTests := true, laidLooks := .later }
def FnExactFracNegUptoCardSaid : Prop := Claim7.holds Tryd.pinned (.plain (OpenSpec.upto fnExactFracNegSpec)) fnExactFracNegUptoCard

/-- THE SECOND FORM's CARD OF 'laws.FnExactFracAbs'. -/
def fnExactFracAbsUptoCard : Claim7 := { stood := { row := fnExactFracAbsUptoRow, standIns := [], harness := (true, "d89cc4e68f5f446e16e867458fc1d1fb39d7ed8f686bac2124c8cc09d0290cc6"), looks := true }, kinds := [], alts := [], laidByText := true, laidKinds := [.handle], laidTests := true, laidLooks := .later }
def FnExactFracAbsUptoCardSaid : Prop := Claim7.holds Tryd.pinned (.plain (OpenSpec.upto fnExactFracAbsSpec)) fnExactFracAbsUptoCard

/-- THE SECOND FORM's CARD OF 'laws.FnExactFracAdd'. -/
def fnExactFracAddUptoCard : Claim7 := { stood := { row := fnExactFracAddUptoRow, standIns := [], harness := (true, "d89cc4e68f5f446e16e867458fc1d1fb39d7ed8f686bac2124c8cc09d0290cc6"), looks := true }, kinds := [], alts := [], laidByText := true, laidKinds := [.handle], laidTests := true, laidLooks := .later }
def FnExactFracAddUptoCardSaid : Prop := Claim7.holds Tryd.pinned (.plain (OpenSpec.upto fnExactFracAddSpec)) fnExactFracAddUptoCard
end Rows
end Go.Proofs.YthokphoojmpajafDoor
