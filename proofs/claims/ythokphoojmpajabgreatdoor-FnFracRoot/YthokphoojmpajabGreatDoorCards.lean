/-
  DERIVED. GIVEN WITH THE SEED: THE CARDS: each row of YthokphoojmpajabGreatDoorRows.lean that lists a variable, with what it lists TIED to the program's text (the seventh form; the later family's looks); each row that meets fmt, with fmt's text TOLD by the authors' own Lean function (tested against real Go, not proved from fmt's source: count such statements apart). THE CARD IS WHAT COUNTS. Prove the row's statement (the work); the ties are given (YthokphoojmpajabGreatDoorTie.lean); close each card by the builder's one call (the guide's Derived/Test/ToyasCard.lean, 'card_holds'). Laid BY PROGRAM, IN A SANDBOX (cutbox-door.mjs). By AI agents, Wed Nov 11 2026. No macro, syntax, notation, axiom, sorry.
-/
import Derived.Test.YthokphoojmpajabGreatDoorRows
import GoSem.ClaimSeven
namespace Go.Proofs.YthokphoojmpajabGreatDoor
namespace Rows

/-- THE TIED CARD OF 'laws.FnFracRoot'. -/
def fnFracRootCard : Claim7 := { stood := { row := fnFracRootRow, standIns := [], harness := (true, "365f16edde335932875160be2332522d31e1030a954c19301a912b954d8f7291"), looks := true }, kinds := [], alts := [], laidByText := true, laidKinds := [.handle], laidTests := true, laidLooks := .later }
def FnFracRootCardSaid : Prop := Claim7.holds Tryz.pinned (.plain (OpenSpec.ofChange fnFracRootSpec)) fnFracRootCard

/-- THE TIED CARD OF 'laws.FnFracText'. -/
def fnFracTextCard : Claim7 := { stood := { row := fnFracTextRow, standIns := [], harness := (true, "365f16edde335932875160be2332522d31e1030a954c19301a912b954d8f7291"), looks := true }, kinds := [], alts := [], laidByText := true, laidKinds := [.handle], laidTests := true, laidLooks := .later }
def FnFracTextCardSaid : Prop := Claim7.holds Tryz.pinned (.plain (OpenSpec.ofChange fnFracTextSpec)) fnFracTextCard

/-- THE SECOND FORM's CARD OF 'laws.FnFracRoot'. -/
def fnFracRootUptoCard : Claim7 := { stood := { row := fnFracRootUptoRow, standIns := [], harness := (true, "365f16edde335932875160be2332522d31e1030a954c19301a912b954d8f7291"), looks := true }, kinds := [], alts := [], laidByText := true, laidKinds := [.handle], laidTests := true, laidLooks := .later }
def FnFracRootUptoCardSaid : Prop := Claim7.holds Tryz.pinned (.plain (OpenSpec.upto fnFracRootSpec)) fnFracRootUptoCard

/-- THE SECOND FORM's CARD OF 'laws.FnFracText'. -/
def fnFracTextUptoCard : Claim7 := { stood := { row := fnFracTextUptoRow, standIns := [], harness := (true, "365f16edde335932875160be2332522d31e1030a954c19301a912b954d8f7291"), looks := true }, kinds := [], alts := [], laidByText := true, laidKinds := [.handle], laidTests := true, laidLooks := .later }
def FnFracTextUptoCardSaid : Prop := Claim7.holds Tryz.pinned (.plain (OpenSpec.upto fnFracTextSpec)) fnFracTextUptoCard
end Rows
end Go.Proofs.YthokphoojmpajabGreatDoor
