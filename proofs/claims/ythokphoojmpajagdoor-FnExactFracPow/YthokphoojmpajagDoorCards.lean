/-
  DERIVED. GIVEN WITH THE SEED: THE CARDS: each row of YthokphoojmpajagDoorRows.lean that lists a variable, with what it lists TIED to the program's text (the seventh form; the later family's looks); each row that meets fmt, with fmt's text TOLD by the authors' own Lean function (tested against real Go, not proved from fmt's source: count such statements apart). THE CARD IS WHAT COUNTS. Prove the row's statement (the work); the ties are given (YthokphoojmpajagDoorTie.lean); close each card by the builder's one call (the guide's Derived/Test/ToyasCard.lean, 'card_holds'). Laid BY PROGRAM, IN A SANDBOX (cutbox-door.mjs). By AI agents, Wed Nov 11 2026. No macro, syntax, notation, axiom, sorry.
-/
import Derived.Test.YthokphoojmpajagDoorRows
import GoSem.ClaimSeven
namespace Go.Proofs.YthokphoojmpajagDoor
namespace Rows

/-- THE TIED CARD OF 'laws.FnExactFracSub'. -/
def fnExactFracSubCard : Claim7 := { stood := { row := fnExactFracSubRow, standIns := [], harness := (true, "e81199edead7724424420e1594204511ee684eaeda96d1820a4a9715f6865f9d"), looks := true }, kinds := [], alts := [], laidByText := true, laidKinds := [.handle], laidTests := true, laidLooks := .later }
def FnExactFracSubCardSaid : Prop := Claim7.holds Tryd.pinned (.plain (OpenSpec.ofChange fnExactFracSubSpec)) fnExactFracSubCard

/-- THE TIED CARD OF 'laws.FnExactFracMul'. -/
def fnExactFracMulCard : Claim7 := { stood := { row := fnExactFracMulRow, standIns := [], harness := (true, "e81199edead7724424420e1594204511ee684eaeda96d1820a4a9715f6865f9d"), looks := true }, kinds := [], alts := [], laidByText := true, laidKinds := [.handle], laidTests := true, laidLooks := .later }
def FnExactFracMulCardSaid : Prop := Claim7.holds Tryd.pinned (.plain (OpenSpec.ofChange fnExactFracMulSpec)) fnExactFracMulCard

/-- THE TIED CARD OF 'laws.FnExactFracDiv'. -/
def fnExactFracDivCard : Claim7 := { stood := { row := fnExactFracDivRow, standIns := [], harness := (true, "e81199edead7724424420e1594204511ee684eaeda96d1820a4a9715f6865f9d"), looks := true }, kinds := [], alts := [], laidByText := true, laidKinds := [.handle], laidTests := true, laidLooks := .later }
def FnExactFracDivCardSaid : Prop := Claim7.holds Tryd.pinned (.plain (OpenSpec.ofChange fnExactFracDivSpec)) fnExactFracDivCard

/-- THE TIED CARD OF 'laws.FnExactFracPow'. -/
def fnExactFracPowCard : Claim7 := { stood := { row := fnExactFracPowRow, standIns := [], harness := (true, "e81199edead7724424420e1594204511ee684eaeda96d1820a4a9715f6865f9d"), looks := true }, kinds := [], alts := [], laidByText := true, laidKinds := [.handle], laidTests := true, laidLooks := .later }
def FnExactFracPowCardSaid : Prop := Claim7.holds Tryd.pinned (.plain (OpenSpec.ofChange fnExactFracPowSpec)) fnExactFracPowCard

/-- THE TIED CARD OF 'laws.FnExactFracRoot'. -/
def fnExactFracRootCard : Claim7 := { stood := { row := fnExactFracRootRow, standIns := [], harness := (true, "e81199edead7724424420e1594204511ee684eaeda96d1820a4a9715f6865f9d"), looks := true }, kinds := [], alts := [], laidByText := true, laidKinds := [.handle], laidTests := true, laidLooks := .later }
def FnExactFracRootCardSaid : Prop := Claim7.holds Tryd.pinned (.plain (OpenSpec.ofChange fnExactFracRootSpec)) fnExactFracRootCard

/-- THE TIED CARD OF 'laws.FnExactFracFloor'. -/
def fnExactFracFloorCard : Claim7 := { stood := { row := fnExactFracFloorRow, standIns := [], harness := (true, "e81199edead7724424420e1594204511ee684eaeda96d1820a4a9715f6865f9d"), looks := true }, kinds := [], alts := [], laidByText := true, laidKinds := [.handle], laidTests := true, laidLooks := .later }
def FnExactFracFloorCardSaid : Prop := Claim7.holds Tryd.pinned (.plain (OpenSpec.ofChange fnExactFracFloorSpec)) fnExactFracFloorCard

/-- THE SECOND FORM's CARD OF 'laws.FnExactFracSub'. -/
def fnExactFracSubUptoCard : Claim7 := { stood := { row := fnExactFracSubUptoRow, standIns := [], harness := (true, "e81199edead7724424420e1594204511ee684eaeda96d1820a4a9715f6865f9d"), looks := true }, kinds := [], alts := [], laidByText := true, laidKinds := [.handle], laidTests := true, laidLooks := .later }
def FnExactFracSubUptoCardSaid : Prop := Claim7.holds Tryd.pinned (.plain (OpenSpec.upto fnExactFracSubSpec)) fnExactFracSubUptoCard

/-- THE SECOND FORM's CARD OF 'laws.FnExactFracMul'. -/
def fnExactFracMulUptoCard : Claim7 := { stood := { row := fnExactFracMulUptoRow, standIns := [], harness := (true, "e81199edead7724424420e1594204511ee684eaeda96d1820a4a9715f6865f9d"), looks := true }, kinds := [], alts := [], laidByText := true, laidKinds := [.handle], laidTests := true, laidLooks := .later }
def FnExactFracMulUptoCardSaid : Prop := Claim7.holds Tryd.pinned (.plain (OpenSpec.upto fnExactFracMulSpec)) fnExactFracMulUptoCard

/-- THE SECOND FORM's CARD OF 'laws.FnExactFracDiv'. -/
def fnExactFracDivUptoCard : Claim7 := { stood := { row := fnExactFracDivUptoRow, standIns := [], harness := (true, "e81199edead7724424420e1594204511ee684eaeda96d1820a4a9715f6865f9d"), looks := true }, kinds := [], alts := [], laidByText := true, laidKinds := [.handle], laidTests := true, laidLooks := .later }
def FnExactFracDivUptoCardSaid : Prop := Claim7.holds Tryd.pinned (.plain (OpenSpec.upto fnExactFracDivSpec)) fnExactFracDivUptoCard

/-- THE SECOND FORM's CARD OF 'laws.FnExactFracPow'. -/
def fnExactFracPowUptoCard : Claim7 := { stood := { row := fnExactFracPowUptoRow, standIns := [], harness := (true, "e81199edead7724424420e1594204511ee684eaeda96d1820a4a9715f6865f9d"), looks := true }, kinds := [], alts := [], laidByText := true, laidKinds := [.handle], laidTests := true, laidLooks := .later }
def FnExactFracPowUptoCardSaid : Prop := Claim7.holds Tryd.pinned (.plain (OpenSpec.upto fnExactFracPowSpec)) fnExactFracPowUptoCard

/-- THE SECOND FORM's CARD OF 'laws.FnExactFracRoot'. -/
def fnExactFracRootUptoCard : Claim7 := { stood := { row := fnExactFracRootUptoRow, standIns := [], harness := (true, "e81199edead7724424420e1594204511ee684eaeda96d1820a4a9715f6865f9d"), looks := true }, kinds := [], alts := [], laidByText := true, laidKinds := [.handle], laidTests := true, laidLooks := .later }
def FnExactFracRootUptoCardSaid : Prop := Claim7.holds Tryd.pinned (.plain (OpenSpec.upto fnExactFracRootSpec)) fnExactFracRootUptoCard

/-- THE SECOND FORM's CARD OF 'laws.FnExactFracFloor'. -/
def fnExactFracFloorUptoCard : Claim7 := { stood := { row := fnExactFracFloorUptoRow, standIns := [], harness := (true, "e81199edead7724424420e1594204511ee684eaeda96d1820a4a9715f6865f9d"), looks := true }, kinds := [], alts := [], laidByText := true, laidKinds := [.handle], laidTests := true, laidLooks := .later }
def FnExactFracFloorUptoCardSaid : Prop := Claim7.holds Tryd.pinned (.plain (OpenSpec.upto fnExactFracFloorSpec)) fnExactFracFloorUptoCard
end Rows
end Go.Proofs.YthokphoojmpajagDoor
