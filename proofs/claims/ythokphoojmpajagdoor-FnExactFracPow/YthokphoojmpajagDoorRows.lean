/-
  NARROWER THAN 'FOR EVERY INPUT', by the rows' own cells (each row's printed sentence says how): FnExactFracSub: laid · FnExactFracMul: laid · FnExactFracDiv: laid · FnExactFracPow: laid · FnExactFracRoot: laid · FnExactFracFloor: laid.
  DERIVED. THE GIVEN ROWS OF THIS SEAT. 6 by the template 'for every input the law returns true; each argument reads behind the call as it read before'; 0 by the template 'total and deterministic' (their statements: YthokphoojmpajagDoorTotals.lean).
  GIVEN WITH THE SEED: the statements are not yours to turn. If you find one false, say at which input.
  Laid BY PROGRAM, IN A SANDBOX (cutbox-rows.mjs): the forced cells as the released guide's own fill.sh prints them over the translation 6e27a823bfaeaa4c… (all of the seat's roots in one cut). By AI agents, Wed Nov 11 2026. No macro, syntax, notation, axiom, sorry.
-/
import Derived.Test.YthokphoojmpajagDoorChecked
import GoSem.Claim
import GoSem.ClaimJoined
import GoSem.ClaimMapViews
import Derived.JoinedTies
import Derived.KernelRfl
namespace Go.Proofs.YthokphoojmpajagDoor
/- THE CELL 'sum', in the pinned program and in every row, IS THE sha256 OF THE DUMP (.gsa) THAT YthokphoojmpajagDoorProg.lean LOADS. Nothing in Lean hashes anything: it is a label: what it is worth is what the hold of that sum in a sandbox is worth. -/
noncomputable def Tryd.pinned : Pinned := { name := "ythokphoojmpajagdoor", sum := "6e27a823bfaeaa4cfb4835b1b0ee2b60fd361dcc07f5fee15eee99942a45eb96", checked := Tryd.checked }
namespace Rows
def none {H : Type} : Left H := { results := [], args := [] }

/- WHAT THE LISTED PACKAGE-LEVEL VARIABLES READ AS WHEN THE CALL BEGINS. Each datum BY PROGRAM (the guide's laid-datum.mjs) off the statement by which the dump's own 'gosem.cut.vars' lays the variable. In a bare row this is a premise. The card (YthokphoojmpajagDoorCards.lean) ties it to the program's text. -/
def laid_errors_errorType {H : Type} : DataW H := .iface "internal/reflectlite.rtype" (.agg [.ptr (.lit (.string [101, 114, 114, 111, 114]))])

/-- 'laws.FnExactFracSub': WHATEVER THE INPUT: true; the input reads as it did. -/
def fnExactFracSubSpec : ChangeSpec := { name := "fnExactFracSub", fn := fun _ => fun
  | [d1, d2] => { results := [.lit (.bool true)], args := [d1, d2] }
  | _ => none }
def fnExactFracSubRow : OpenClaim := { program := "ythokphoojmpajagdoor", sum := "6e27a823bfaeaa4cfb4835b1b0ee2b60fd361dcc07f5fee15eee99942a45eb96", func := "loop.example/pinwhole/laws.FnExactFracSub", spec := "fnExactFracSub", inPlace := ["internal/reflectlite.ValueOf", "(internal/reflectlite.Value).Type", "(internal/reflectlite.Value).IsNil", "internal/reflectlite.TypeOf", "(internal/reflectlite.Value).Elem", "(internal/reflectlite.Value).Set"], unfollowed := true, recurses := true, named := ["errors.errorType"], apart := false, laid := [("errors.errorType", laid_errors_errorType)] }
def FnExactFracSubSaid : Prop := fnExactFracSubRow.holds Tryd.pinned (OpenSpec.ofChange fnExactFracSubSpec)

/-- ITS FALSE NEIGHBOUR: 'it returns false'. Refute it at one input. -/
def fnExactFracSubWrong : ChangeSpec := { name := "fnExactFracSub", fn := fun _ => fun
  | [d1, d2] => { results := [.lit (.bool false)], args := [d1, d2] }
  | _ => none }
def FnExactFracSubWrongFalsely : Prop := fnExactFracSubRow.holds Tryd.pinned (OpenSpec.ofChange fnExactFracSubWrong)

/-- 'laws.FnExactFracMul': WHATEVER THE INPUT: true; the input reads as it did. -/
def fnExactFracMulSpec : ChangeSpec := { name := "fnExactFracMul", fn := fun _ => fun
  | [d1, d2] => { results := [.lit (.bool true)], args := [d1, d2] }
  | _ => none }
def fnExactFracMulRow : OpenClaim := { program := "ythokphoojmpajagdoor", sum := "6e27a823bfaeaa4cfb4835b1b0ee2b60fd361dcc07f5fee15eee99942a45eb96", func := "loop.example/pinwhole/laws.FnExactFracMul", spec := "fnExactFracMul", inPlace := ["internal/reflectlite.ValueOf", "(internal/reflectlite.Value).Type", "(internal/reflectlite.Value).IsNil", "internal/reflectlite.TypeOf", "(internal/reflectlite.Value).Elem", "(internal/reflectlite.Value).Set"], unfollowed := true, recurses := true, named := ["errors.errorType"], apart := false, laid := [("errors.errorType", laid_errors_errorType)] }
def FnExactFracMulSaid : Prop := fnExactFracMulRow.holds Tryd.pinned (OpenSpec.ofChange fnExactFracMulSpec)

/-- ITS FALSE NEIGHBOUR: 'it returns false'. Refute it at one input. -/
def fnExactFracMulWrong : ChangeSpec := { name := "fnExactFracMul", fn := fun _ => fun
  | [d1, d2] => { results := [.lit (.bool false)], args := [d1, d2] }
  | _ => none }
def FnExactFracMulWrongFalsely : Prop := fnExactFracMulRow.holds Tryd.pinned (OpenSpec.ofChange fnExactFracMulWrong)

/-- 'laws.FnExactFracDiv': WHATEVER THE INPUT: true; the input reads as it did. -/
def fnExactFracDivSpec : ChangeSpec := { name := "fnExactFracDiv", fn := fun _ => fun
  | [d1, d2] => { results := [.lit (.bool true)], args := [d1, d2] }
  | _ => none }
def fnExactFracDivRow : OpenClaim := { program := "ythokphoojmpajagdoor", sum := "6e27a823bfaeaa4cfb4835b1b0ee2b60fd361dcc07f5fee15eee99942a45eb96", func := "loop.example/pinwhole/laws.FnExactFracDiv", spec := "fnExactFracDiv", inPlace := ["internal/reflectlite.ValueOf", "(internal/reflectlite.Value).Type", "(internal/reflectlite.Value).IsNil", "internal/reflectlite.TypeOf", "(internal/reflectlite.Value).Elem", "(internal/reflectlite.Value).Set"], unfollowed := true, recurses := true, named := ["errors.errorType"], apart := false, laid := [("errors.errorType", laid_errors_errorType)] }
def FnExactFracDivSaid : Prop := fnExactFracDivRow.holds Tryd.pinned (OpenSpec.ofChange fnExactFracDivSpec)

/-- ITS FALSE NEIGHBOUR: 'it returns false'. Refute it at one input. -/
def fnExactFracDivWrong : ChangeSpec := { name := "fnExactFracDiv", fn := fun _ => fun
  | [d1, d2] => { results := [.lit (.bool false)], args := [d1, d2] }
  | _ => none }
def FnExactFracDivWrongFalsely : Prop := fnExactFracDivRow.holds Tryd.pinned (OpenSpec.ofChange fnExactFracDivWrong)

/-- 'laws.FnExactFracPow': WHATEVER THE INPUT: true; the input reads as it did. -/
def fnExactFracPowSpec : ChangeSpec := { name := "fnExactFracPow", fn := fun _ => fun
  | [d1, d2] => { results := [.lit (.bool true)], args := [d1, d2] }
  | _ => none }
def fnExactFracPowRow : OpenClaim := { program := "ythokphoojmpajagdoor", sum := "6e27a823bfaeaa4cfb4835b1b0ee2b60fd361dcc07f5fee15eee99942a45eb96", func := "loop.example/pinwhole/laws.FnExactFracPow", spec := "fnExactFracPow", inPlace := ["internal/reflectlite.ValueOf", "(internal/reflectlite.Value).Type", "(internal/reflectlite.Value).IsNil", "internal/reflectlite.TypeOf", "(internal/reflectlite.Value).Elem", "(internal/reflectlite.Value).Set"], unfollowed := true, recurses := true, named := ["errors.errorType"], apart := false, laid := [("errors.errorType", laid_errors_errorType)] }
def FnExactFracPowSaid : Prop := fnExactFracPowRow.holds Tryd.pinned (OpenSpec.ofChange fnExactFracPowSpec)

/-- ITS FALSE NEIGHBOUR: 'it returns false'. Refute it at one input. -/
def fnExactFracPowWrong : ChangeSpec := { name := "fnExactFracPow", fn := fun _ => fun
  | [d1, d2] => { results := [.lit (.bool false)], args := [d1, d2] }
  | _ => none }
def FnExactFracPowWrongFalsely : Prop := fnExactFracPowRow.holds Tryd.pinned (OpenSpec.ofChange fnExactFracPowWrong)

/-- 'laws.FnExactFracRoot': WHATEVER THE INPUT: true; the input reads as it did. -/
def fnExactFracRootSpec : ChangeSpec := { name := "fnExactFracRoot", fn := fun _ => fun
  | [d] => { results := [.lit (.bool true)], args := [d] }
  | _ => none }
def fnExactFracRootRow : OpenClaim := { program := "ythokphoojmpajagdoor", sum := "6e27a823bfaeaa4cfb4835b1b0ee2b60fd361dcc07f5fee15eee99942a45eb96", func := "loop.example/pinwhole/laws.FnExactFracRoot", spec := "fnExactFracRoot", inPlace := ["internal/reflectlite.ValueOf", "(internal/reflectlite.Value).Type", "(internal/reflectlite.Value).IsNil", "internal/reflectlite.TypeOf", "(internal/reflectlite.Value).Elem", "(internal/reflectlite.Value).Set"], unfollowed := true, recurses := true, named := ["errors.errorType"], apart := false, laid := [("errors.errorType", laid_errors_errorType)] }
def FnExactFracRootSaid : Prop := fnExactFracRootRow.holds Tryd.pinned (OpenSpec.ofChange fnExactFracRootSpec)

/-- ITS FALSE NEIGHBOUR: 'it returns false'. Refute it at one input. -/
def fnExactFracRootWrong : ChangeSpec := { name := "fnExactFracRoot", fn := fun _ => fun
  | [d] => { results := [.lit (.bool false)], args := [d] }
  | _ => none }
def FnExactFracRootWrongFalsely : Prop := fnExactFracRootRow.holds Tryd.pinned (OpenSpec.ofChange fnExactFracRootWrong)

/-- 'laws.FnExactFracFloor': WHATEVER THE INPUT: true; the input reads as it did. -/
def fnExactFracFloorSpec : ChangeSpec := { name := "fnExactFracFloor", fn := fun _ => fun
  | [d] => { results := [.lit (.bool true)], args := [d] }
  | _ => none }
def fnExactFracFloorRow : OpenClaim := { program := "ythokphoojmpajagdoor", sum := "6e27a823bfaeaa4cfb4835b1b0ee2b60fd361dcc07f5fee15eee99942a45eb96", func := "loop.example/pinwhole/laws.FnExactFracFloor", spec := "fnExactFracFloor", inPlace := ["internal/reflectlite.ValueOf", "(internal/reflectlite.Value).Type", "(internal/reflectlite.Value).IsNil", "internal/reflectlite.TypeOf", "(internal/reflectlite.Value).Elem", "(internal/reflectlite.Value).Set"], unfollowed := true, recurses := true, named := ["errors.errorType"], apart := false, laid := [("errors.errorType", laid_errors_errorType)] }
def FnExactFracFloorSaid : Prop := fnExactFracFloorRow.holds Tryd.pinned (OpenSpec.ofChange fnExactFracFloorSpec)

/-- ITS FALSE NEIGHBOUR: 'it returns false'. Refute it at one input. -/
def fnExactFracFloorWrong : ChangeSpec := { name := "fnExactFracFloor", fn := fun _ => fun
  | [d] => { results := [.lit (.bool false)], args := [d] }
  | _ => none }
def FnExactFracFloorWrongFalsely : Prop := fnExactFracFloorRow.holds Tryd.pinned (OpenSpec.ofChange fnExactFracFloorWrong)

/- THE SECOND FORM. 'bulk': how many values and letters a reading holds, each counted each time it is reached (what is shared counts as often as it is met; a slice's spare places count too). A statement '..UptoSaid' is the law's where the arguments, and the package variables that the reading takes, are together of bulk at most 1048576: NARROWER than '..Said'. Prove '..Said' where nothing that the law and all that it calls make is longer than what came in: it says more and counts as full. Else prove '..UptoSaid'. A law counts once. -/
mutual
def uptoBulk {H : Type} : DataW H → Nat
  | .lit (.string bytes) => bytes.length + 1
  | .lit _ => 1
  | .nil => 1
  | .ptr d => uptoBulk d + 1
  | .slice elems spare => uptoBulkAll elems + uptoBulkAll spare + 1
  | .agg parts => uptoBulkAll parts + 1
  | .iface _ d => uptoBulk d + 1
  | .map entries => uptoBulkEntries entries + 1
  | .held _ => 1
def uptoBulkAll {H : Type} : List (DataW H) → Nat
  | [] => 0
  | d :: r => uptoBulk d + uptoBulkAll r
def uptoBulkEntries {H : Type} : List (Lit × DataW H) → Nat
  | [] => 0
  | x :: r => uptoBulkEntry x + uptoBulkEntries r
def uptoBulkEntry {H : Type} : Lit × DataW H → Nat
  | (.string bytes, d) => bytes.length + uptoBulk d + 1
  | (_, d) => uptoBulk d + 1
 end
def uptoSmall : (H : Type) → List (DataW H) → Bool := fun _ ds => decide (uptoBulkAll ds ≤ 1048576)
def OpenSpec.upto (s : _root_.Go.ChangeSpec) : _root_.Go.OpenSpec := { _root_.Go.OpenSpec.ofChange s with cond := some uptoSmall }

/-- 'laws.FnExactFracSub', WHERE WHAT IT READS IS OF BULK AT MOST 1048576: true; the input reads as it did. -/
def fnExactFracSubUptoRow : OpenClaim := { program := "ythokphoojmpajagdoor", sum := "6e27a823bfaeaa4cfb4835b1b0ee2b60fd361dcc07f5fee15eee99942a45eb96", func := "loop.example/pinwhole/laws.FnExactFracSub", spec := "fnExactFracSub", inPlace := ["internal/reflectlite.ValueOf", "(internal/reflectlite.Value).Type", "(internal/reflectlite.Value).IsNil", "internal/reflectlite.TypeOf", "(internal/reflectlite.Value).Elem", "(internal/reflectlite.Value).Set"], unfollowed := true, recurses := true, named := ["errors.errorType"], apart := false, laid := [("errors.errorType", laid_errors_errorType)], narrowed := true }
def FnExactFracSubUptoSaid : Prop := fnExactFracSubUptoRow.holds Tryd.pinned (OpenSpec.upto fnExactFracSubSpec)

/-- 'laws.FnExactFracMul', WHERE WHAT IT READS IS OF BULK AT MOST 1048576: true; the input reads as it did. -/
def fnExactFracMulUptoRow : OpenClaim := { program := "ythokphoojmpajagdoor", sum := "6e27a823bfaeaa4cfb4835b1b0ee2b60fd361dcc07f5fee15eee99942a45eb96", func := "loop.example/pinwhole/laws.FnExactFracMul", spec := "fnExactFracMul", inPlace := ["internal/reflectlite.ValueOf", "(internal/reflectlite.Value).Type", "(internal/reflectlite.Value).IsNil", "internal/reflectlite.TypeOf", "(internal/reflectlite.Value).Elem", "(internal/reflectlite.Value).Set"], unfollowed := true, recurses := true, named := ["errors.errorType"], apart := false, laid := [("errors.errorType", laid_errors_errorType)], narrowed := true }
def FnExactFracMulUptoSaid : Prop := fnExactFracMulUptoRow.holds Tryd.pinned (OpenSpec.upto fnExactFracMulSpec)

/-- 'laws.FnExactFracDiv', WHERE WHAT IT READS IS OF BULK AT MOST 1048576: true; the input reads as it did. -/
def fnExactFracDivUptoRow : OpenClaim := { program := "ythokphoojmpajagdoor", sum := "6e27a823bfaeaa4cfb4835b1b0ee2b60fd361dcc07f5fee15eee99942a45eb96", func := "loop.example/pinwhole/laws.FnExactFracDiv", spec := "fnExactFracDiv", inPlace := ["internal/reflectlite.ValueOf", "(internal/reflectlite.Value).Type", "(internal/reflectlite.Value).IsNil", "internal/reflectlite.TypeOf", "(internal/reflectlite.Value).Elem", "(internal/reflectlite.Value).Set"], unfollowed := true, recurses := true, named := ["errors.errorType"], apart := false, laid := [("errors.errorType", laid_errors_errorType)], narrowed := true }
def FnExactFracDivUptoSaid : Prop := fnExactFracDivUptoRow.holds Tryd.pinned (OpenSpec.upto fnExactFracDivSpec)

/-- 'laws.FnExactFracPow', WHERE WHAT IT READS IS OF BULK AT MOST 1048576: true; the input reads as it did. -/
def fnExactFracPowUptoRow : OpenClaim := { program := "ythokphoojmpajagdoor", sum := "6e27a823bfaeaa4cfb4835b1b0ee2b60fd361dcc07f5fee15eee99942a45eb96", func := "loop.example/pinwhole/laws.FnExactFracPow", spec := "fnExactFracPow", inPlace := ["internal/reflectlite.ValueOf", "(internal/reflectlite.Value).Type", "(internal/reflectlite.Value).IsNil", "internal/reflectlite.TypeOf", "(internal/reflectlite.Value).Elem", "(internal/reflectlite.Value).Set"], unfollowed := true, recurses := true, named := ["errors.errorType"], apart := false, laid := [("errors.errorType", laid_errors_errorType)], narrowed := true }
def FnExactFracPowUptoSaid : Prop := fnExactFracPowUptoRow.holds Tryd.pinned (OpenSpec.upto fnExactFracPowSpec)

/-- 'laws.FnExactFracRoot', WHERE WHAT IT READS IS OF BULK AT MOST 1048576: true; the input reads as it did. -/
def fnExactFracRootUptoRow : OpenClaim := { program := "ythokphoojmpajagdoor", sum := "6e27a823bfaeaa4cfb4835b1b0ee2b60fd361dcc07f5fee15eee99942a45eb96", func := "loop.example/pinwhole/laws.FnExactFracRoot", spec := "fnExactFracRoot", inPlace := ["internal/reflectlite.ValueOf", "(internal/reflectlite.Value).Type", "(internal/reflectlite.Value).IsNil", "internal/reflectlite.TypeOf", "(internal/reflectlite.Value).Elem", "(internal/reflectlite.Value).Set"], unfollowed := true, recurses := true, named := ["errors.errorType"], apart := false, laid := [("errors.errorType", laid_errors_errorType)], narrowed := true }
def FnExactFracRootUptoSaid : Prop := fnExactFracRootUptoRow.holds Tryd.pinned (OpenSpec.upto fnExactFracRootSpec)

/-- 'laws.FnExactFracFloor', WHERE WHAT IT READS IS OF BULK AT MOST 1048576: true; the input reads as it did. -/
def fnExactFracFloorUptoRow : OpenClaim := { program := "ythokphoojmpajagdoor", sum := "6e27a823bfaeaa4cfb4835b1b0ee2b60fd361dcc07f5fee15eee99942a45eb96", func := "loop.example/pinwhole/laws.FnExactFracFloor", spec := "fnExactFracFloor", inPlace := ["internal/reflectlite.ValueOf", "(internal/reflectlite.Value).Type", "(internal/reflectlite.Value).IsNil", "internal/reflectlite.TypeOf", "(internal/reflectlite.Value).Elem", "(internal/reflectlite.Value).Set"], unfollowed := true, recurses := true, named := ["errors.errorType"], apart := false, laid := [("errors.errorType", laid_errors_errorType)], narrowed := true }
def FnExactFracFloorUptoSaid : Prop := fnExactFracFloorUptoRow.holds Tryd.pinned (OpenSpec.upto fnExactFracFloorSpec)

end Rows
end Go.Proofs.YthokphoojmpajagDoor
