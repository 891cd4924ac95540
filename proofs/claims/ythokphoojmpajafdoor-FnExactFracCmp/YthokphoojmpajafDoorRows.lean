/-
  NARROWER THAN 'FOR EVERY INPUT', by the rows' own cells (each row's printed sentence says how): FnExactFracCmp: laid · FnExactFracSign: laid · FnExactFracNeg: laid · FnExactFracAbs: laid · FnExactFracAdd: laid.
  DERIVED. THE GIVEN ROWS OF THIS SEAT. 5 by the template 'for every input the law returns true; each argument reads behind the call as it read before'; 0 by the template 'total and deterministic' (their statements: YthokphoojmpajafDoorTotals.lean).
  GIVEN WITH THE SEED: the statements are not yours to turn. If you find one false, say at which input.
  Laid BY PROGRAM, IN A SANDBOX (cutbox-rows.mjs): the forced cells as the released guide's own fill.sh prints them over the translation 4d588b0b40c37dd5… (all of the seat's roots in one cut). By AI agents, Wed Nov 11 2026. No macro, syntax, notation, axiom, sorry.
-/
import Derived.Test.YthokphoojmpajafDoorChecked
import GoSem.Claim
import GoSem.ClaimJoined
import GoSem.ClaimMapViews
import Derived.JoinedTies
import Derived.KernelRfl
namespace Go.Proofs.YthokphoojmpajafDoor
/- THE CELL 'sum', in the pinned program and in every row, IS THE sha256 OF THE DUMP (.gsa) THAT YthokphoojmpajafDoorProg.lean LOADS. Nothing in Lean hashes anything: it is a label: what it is worth is what the hold of that sum in a sandbox is worth. -/
noncomputable def Tryd.pinned : Pinned := { name := "ythokphoojmpajafdoor", sum := "4d588b0b40c37dd567b2d92a893987caf7befe18f739f1f7ff9cc7401e594faf", checked := Tryd.checked }
namespace Rows
def none {H : Type} : Left H := { results := [], args := [] }

/- WHAT THE LISTED PACKAGE-LEVEL VARIABLES READ AS WHEN THE CALL BEGINS. Each datum BY PROGRAM (the guide's laid-datum.mjs) off the statement by which the dump's own 'gosem.cut.vars' lays the variable. In a bare row this is a premise. The card (YthokphoojmpajafDoorCards.lean) ties it to the program's text. -/
def laid_errors_errorType {H : Type} : DataW H := .iface "internal/reflectlite.rtype" (.agg [.ptr (.lit (.string [101, 114, 114, 111, 114]))])

/-- 'laws.FnExactFracCmp': WHATEVER THE INPUT: true; the input reads as it did. -/
def fnExactFracCmpSpec : ChangeSpec := { name := "fnExactFracCmp", fn := fun _ => fun
  | [d1, d2] => { results := [.lit (.bool true)], args := [d1, d2] }
  | _ => none }
def fnExactFracCmpRow : OpenClaim := { program := "ythokphoojmpajafdoor", sum := "4d588b0b40c37dd567b2d92a893987caf7befe18f739f1f7ff9cc7401e594faf", func := "loop.example/pinwhole/laws.FnExactFracCmp", spec := "fnExactFracCmp", inPlace := ["internal/reflectlite.ValueOf", "(internal/reflectlite.Value).Type", "(internal/reflectlite.Value).IsNil", "internal/reflectlite.TypeOf", "(internal/reflectlite.Value).Elem", "(internal/reflectlite.Value).Set"], unfollowed := true, recurses := true, named := ["errors.errorType"], apart := false, laid := [("errors.errorType", laid_errors_errorType)] }
def FnExactFracCmpSaid : Prop := fnExactFracCmpRow.holds Tryd.pinned (OpenSpec.ofChange fnExactFracCmpSpec)

/-- ITS FALSE NEIGHBOUR: 'it returns false'. Refute it at one input. -/
def fnExactFracCmpWrong : ChangeSpec := { name := "fnExactFracCmp", fn := fun _ => fun
  | [d1, d2] => { results := [.lit (.bool false)], args := [d1, d2] }
  | _ => none }
def FnExactFracCmpWrongFalsely : Prop := fnExactFracCmpRow.holds Tryd.pinned (OpenSpec.ofChange fnExactFracCmpWrong)

/-- 'laws.FnExactFracSign': WHATEVER THE INPUT: true; the input reads as it did. -/
def fnExactFracSignSpec : ChangeSpec := { name := "fnExactFracSign", fn := fun _ => fun
  | [d] => { results := [.lit (.bool true)], args := [d] }
  | _ => none }
def fnExactFracSignRow : OpenClaim := { program := "ythokphoojmpajafdoor", sum := "4d588b0b40c37dd567b2d92a893987caf7befe18f739f1f7ff9cc7401e594faf", func := "loop.example/pinwhole/laws.FnExactFracSign", spec := "fnExactFracSign", inPlace := ["internal/reflectlite.ValueOf", "(internal/reflectlite.Value).Type", "(internal/reflectlite.Value).IsNil", "internal/reflectlite.TypeOf", "(internal/reflectlite.Value).Elem", "(internal/reflectlite.Value).Set"], unfollowed := true, recurses := true, named := ["errors.errorType"], apart := false, laid := [("errors.errorType", laid_errors_errorType)] }
def FnExactFracSignSaid : Prop := fnExactFracSignRow.holds Tryd.pinned (OpenSpec.ofChange fnExactFracSignSpec)

/-- ITS FALSE NEIGHBOUR: 'it returns false'. Refute it at one input. -/
def fnExactFracSignWrong : ChangeSpec := { name := "fnExactFracSign", fn := fun _ => fun
  | [d] => { results := [.lit (.bool false)], args := [d] }
  | _ => none }
def FnExactFracSignWrongFalsely : Prop := fnExactFracSignRow.holds Tryd.pinned (OpenSpec.ofChange fnExactFracSignWrong)

/-- 'laws.FnExactFracNeg': WHATEVER THE INPUT: true; the input reads as it did. -/
def fnExactFracNegSpec : ChangeSpec := { name := "fnExactFracNeg", fn := fun _ => fun
  | [d] => { results := [.lit (.bool true)], args := [d] }
  | _ => none }
def fnExactFracNegRow : OpenClaim := { program := "ythokphoojmpajafdoor", sum := "4d588b0b40c37dd567b2d92a893987caf7befe18f739f1f7ff9cc7401e594faf", func := "loop.example/pinwhole/laws.FnExactFracNeg", spec := "fnExactFracNeg", inPlace := ["internal/reflectlite.ValueOf", "(internal/reflectlite.Value).Type", "(internal/reflectlite.Value).IsNil", "internal/reflectlite.TypeOf", "(internal/reflectlite.Value).Elem", "(internal/reflectlite.Value).Set"], unfollowed := true, recurses := true, named := ["errors.errorType"], apart := false, laid := [("errors.errorType", laid_errors_errorType)] }
def FnExactFracNegSaid : Prop := fnExactFracNegRow.holds Tryd.pinned (OpenSpec.ofChange fnExactFracNegSpec)

/-- ITS FALSE NEIGHBOUR: 'it returns false'. Refute it at one input. -/
def fnExactFracNegWrong : ChangeSpec := { name := "fnExactFracNeg", fn := fun _ => fun
  | [d] => { results := [.lit (.bool false)], args := [d] }
  | _ => none }
def FnExactFracNegWrongFalsely : Prop := fnExactFracNegRow.holds Tryd.pinned (OpenSpec.ofChange fnExactFracNegWrong)

/-- 'laws.FnExactFracAbs': WHATEVER THE INPUT: true; the input reads as it did. -/
def fnExactFracAbsSpec : ChangeSpec := { name := "fnExactFracAbs", fn := fun _ => fun
  | [d] => { results := [.lit (.bool true)], args := [d] }
  | _ => none }
def fnExactFracAbsRow : OpenClaim := { program := "ythokphoojmpajafdoor", sum := "4d588b0b40c37dd567b2d92a893987caf7befe18f739f1f7ff9cc7401e594faf", func := "loop.example/pinwhole/laws.FnExactFracAbs", spec := "fnExactFracAbs", inPlace := ["internal/reflectlite.ValueOf", "(internal/reflectlite.Value).Type", "(internal/reflectlite.Value).IsNil", "internal/reflectlite.TypeOf", "(internal/reflectlite.Value).Elem", "(internal/reflectlite.Value).Set"], unfollowed := true, recurses := true, named := ["errors.errorType"], apart := false, laid := [("errors.errorType", laid_errors_errorType)] }
def FnExactFracAbsSaid : Prop := fnExactFracAbsRow.holds Tryd.pinned (OpenSpec.ofChange fnExactFracAbsSpec)

/-- ITS FALSE NEIGHBOUR: 'it returns false'. Refute it at one input. -/
def fnExactFracAbsWrong : ChangeSpec := { name := "fnExactFracAbs", fn := fun _ => fun
  | [d] => { results := [.lit (.bool false)], args := [d] }
  | _ => none }
def FnExactFracAbsWrongFalsely : Prop := fnExactFracAbsRow.holds Tryd.pinned (OpenSpec.ofChange fnExactFracAbsWrong)

/-- 'laws.FnExactFracAdd': WHATEVER THE INPUT: true; the input reads as it did. -/
def fnExactFracAddSpec : ChangeSpec := { name := "fnExactFracAdd", fn := fun _ => fun
  | [d1, d2] => { results := [.lit (.bool true)], args := [d1, d2] }
  | _ => none }
def fnExactFracAddRow : OpenClaim := { program := "ythokphoojmpajafdoor", sum := "4d588b0b40c37dd567b2d92a893987caf7befe18f739f1f7ff9cc7401e594faf", func := "loop.example/pinwhole/laws.FnExactFracAdd", spec := "fnExactFracAdd", inPlace := ["internal/reflectlite.ValueOf", "(internal/reflectlite.Value).Type", "(internal/reflectlite.Value).IsNil", "internal/reflectlite.TypeOf", "(internal/reflectlite.Value).Elem", "(internal/reflectlite.Value).Set"], unfollowed := true, recurses := true, named := ["errors.errorType"], apart := false, laid := [("errors.errorType", laid_errors_errorType)] }
def FnExactFracAddSaid : Prop := fnExactFracAddRow.holds Tryd.pinned (OpenSpec.ofChange fnExactFracAddSpec)

/-- ITS FALSE NEIGHBOUR: 'it returns false'. Refute it at one input. -/
def fnExactFracAddWrong : ChangeSpec := { name := "fnExactFracAdd", fn := fun _ => fun
  | [d1, d2] => { results := [.lit (.bool false)], args := [d1, d2] }
  | _ => none }
def FnExactFracAddWrongFalsely : Prop := fnExactFracAddRow.holds Tryd.pinned (OpenSpec.ofChange fnExactFracAddWrong)

/- THE SECOND FORM. 'bulk': how many values and letters a reading holds, each counted each time it is reached (what is shared counts as often as it is met; a slice's spare places count too). A statement '..UptoSaid' is the law's where the arguments, and the package variables that the reading takes, are together of bulk at most 1048576: NARROWER than '..Said'. Prove '..Said' where nothing that the law and all that it calls make is longer than what came in: it says more and counts as full. Else prove '..UptoSaid'. A law counts once. -/
mutual
def uptoBulk {H : Type} : DataW H → Nat
  | .lit (.string bytes) => bytes.length + 1
  | .lit _ => 1
  | .nil => 1
  | .ptr d => uptoBulk d + 1
  | .slice elems spare => uptoBulkAll elems + uptoBulkAll spare + 1
  | .agg parts => uptoBulkAll parts + 1
  | .iface _ d => uptoBulk d + 1
  | .map entries => uptoBulkEntries entries + 1
  | .held _ => 1
def uptoBulkAll {H : Type} : List (DataW H) → Nat
  | [] => 0
  | d :: r => uptoBulk d + uptoBulkAll r
def uptoBulkEntries {H : Type} : List (Lit × DataW H) → Nat
  | [] => 0
  | x :: r => uptoBulkEntry x + uptoBulkEntries r
def uptoBulkEntry {H : Type} : Lit × DataW H → Nat
  | (.string bytes, d) => bytes.length + uptoBulk d + 1
  | (_, d) => uptoBulk d + 1
 end
def uptoSmall : (H : Type) → List (DataW H) → Bool := fun _ ds => decide (uptoBulkAll ds ≤ 1048576)
def OpenSpec.upto (s : _root_.Go.ChangeSpec) : _root_.Go.OpenSpec := { _root_.Go.OpenSpec.ofChange s with cond := some uptoSmall }

/-- 'laws.FnExactFracCmp', WHERE WHAT IT READS IS OF BULK AT MOST 1048576: true; the input reads as it did. -/
def fnExactFracCmpUptoRow : OpenClaim := { program := "ythokphoojmpajafdoor", sum := "4d588b0b40c37dd567b2d92a893987caf7befe18f739f1f7ff9cc7401e594faf", func := "loop.example/pinwhole/laws.FnExactFracCmp", spec := "fnExactFracCmp", inPlace := ["internal/reflectlite.ValueOf", "(internal/reflectlite.Value).Type", "(internal/reflectlite.Value).IsNil", "internal/reflectlite.TypeOf", "(internal/reflectlite.Value).Elem", "(internal/reflectlite.Value).Set"], unfollowed := true, recurses := true, named := ["errors.errorType"], apart := false, laid := [("errors.errorType", laid_errors_errorType)], narrowed := true }
def FnExactFracCmpUptoSaid : Prop := fnExactFracCmpUptoRow.holds Tryd.pinned (OpenSpec.upto fnExactFracCmpSpec)

/-- 'laws.FnExactFracSign', WHERE WHAT IT READS IS OF BULK AT MOST 1048576: true; the input reads as it did. -/
def fnExactFracSignUptoRow : OpenClaim := { program := "ythokphoojmpajafdoor", sum := "4d588b0b40c37dd567b2d92a893987caf7befe18f739f1f7ff9cc7401e594faf", func := "loop.example/pinwhole/laws.FnExactFracSign", spec := "fnExactFracSign", inPlace := ["internal/reflectlite.ValueOf", "(internal/reflectlite.Value).Type", "(internal/reflectlite.Value).IsNil", "internal/reflectlite.TypeOf", "(internal/reflectlite.Value).Elem", "(internal/reflectlite.Value).Set"], unfollowed := true, recurses := true, named := ["errors.errorType"], apart := false, laid := [("errors.errorType", laid_errors_errorType)], narrowed := true }
def FnExactFracSignUptoSaid : Prop := fnExactFracSignUptoRow.holds Tryd.pinned (OpenSpec.upto fnExactFracSignSpec)

/-- 'laws.FnExactFracNeg', WHERE WHAT IT READS IS OF BULK AT MOST 1048576: true; the input reads as it did. -/
def fnExactFracNegUptoRow : OpenClaim := { program := "ythokphoojmpajafdoor", sum := "4d588b0b40c37dd567b2d92a893987caf7befe18f739f1f7ff9cc7401e594faf", func := "loop.example/pinwhole/laws.FnExactFracNeg", spec := "fnExactFracNeg", inPlace := ["internal/reflectlite.ValueOf", "(internal/reflectlite.Value).Type", "(internal/reflectlite.Value).IsNil", "internal/reflectlite.TypeOf", "(internal/reflectlite.Value).Elem", "(internal/reflectlite.Value).Set"], unfollowed := true, recurses := true, named := ["errors.errorType"], apart := false, laid := [("errors.errorType", laid_errors_errorType)], narrowed := true }
def FnExactFracNegUptoSaid : Prop := fnExactFracNegUptoRow.holds Tryd.pinned (OpenSpec.upto fnExactFracNegSpec)

/-- 'laws.FnExactFracAbs', WHERE WHAT IT READS IS OF BULK AT MOST 1048576: true; the input reads as it did. -/
def fnExactFracAbsUptoRow : OpenClaim := { program := "ythokphoojmpajafdoor", sum := "4d588b0b40c37dd567b2d92a893987caf7befe18f739f1f7ff9cc7401e594faf", func := "loop.example/pinwhole/laws.FnExactFracAbs", spec := "fnExactFracAbs", inPlace := ["internal/reflectlite.ValueOf", "(internal/reflectlite.Value).Type", "(internal/reflectlite.Value).IsNil", "internal/reflectlite.TypeOf", "(internal/reflectlite.Value).Elem", "(internal/reflectlite.Value).Set"], unfollowed := true, recurses := true, named := ["errors.errorType"], apart := false, laid := [("errors.errorType", laid_errors_errorType)], narrowed := true }
def FnExactFracAbsUptoSaid : Prop := fnExactFracAbsUptoRow.holds Tryd.pinned (OpenSpec.upto fnExactFracAbsSpec)

/-- 'laws.FnExactFracAdd', WHERE WHAT IT READS IS OF BULK AT MOST 1048576: true; the input reads as it did. -/
def fnExactFracAddUptoRow : OpenClaim := { program := "ythokphoojmpajafdoor", sum := "4d588b0b40c37dd567b2d92a893987caf7befe18f739f1f7ff9cc7401e594faf", func := "loop.example/pinwhole/laws.FnExactFracAdd", spec := "fnExactFracAdd", inPlace := ["internal/reflectlite.ValueOf", "(internal/reflectlite.Value).Type", "(internal/reflectlite.Value).IsNil", "internal/reflectlite.TypeOf", "(internal/reflectlite.Value).Elem", "(internal/reflectlite.Value).Set"], unfollowed := true, recurses := true, named := ["errors.errorType"], apart := false, laid := [("errors.errorType", laid_errors_errorType)], narrowed := true }
def FnExactFracAddUptoSaid : Prop := fnExactFracAddUptoRow.holds Tryd.pinned (OpenSpec.upto fnExactFracAddSpec)

end Rows
end Go.Proofs.YthokphoojmpajafDoor
