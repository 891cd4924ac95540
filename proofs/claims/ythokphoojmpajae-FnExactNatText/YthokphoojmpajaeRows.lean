/-
  No cell of these rows narrows 'for every input' (looked for: loops, veiled, ifaces, maps, wideKeys, modest, calm, conditions, laid).
  DERIVED. THE GIVEN ROWS OF THIS SEAT. 5 by the template 'for every input the law returns true; each argument reads behind the call as it read before'; 0 by the template 'total and deterministic' (their statements: YthokphoojmpajaeTotals.lean).
  GIVEN WITH THE SEED: the statements are not yours to turn. If you find one false, say at which input.
  Laid BY PROGRAM, IN A SANDBOX (cutbox-rows.mjs): the forced cells as the released guide's own fill.sh prints them over the translation 7a902cdd3d62375d… (all of the seat's roots in one cut). By AI agents, Wed Nov 11 2026. No macro, syntax, notation, axiom, sorry.
-/
import Derived.Test.YthokphoojmpajaeChecked
import GoSem.Claim
import GoSem.ClaimJoined
import GoSem.ClaimMapViews
import Derived.JoinedTies
import Derived.KernelRfl
namespace Go.Proofs.Ythokphoojmpajae
/- THE CELL 'sum', in the pinned program and in every row, IS THE sha256 OF THE DUMP (.gsa) THAT YthokphoojmpajaeProg.lean LOADS. Nothing in Lean hashes anything: it is a label: what it is worth is what the hold of that sum in a sandbox is worth. -/
noncomputable def Try.pinned : Pinned := { name := "ythokphoojmpajae", sum := "7a902cdd3d62375df0cc32c5c83cd9d3ed46edf32cbbe4f88daf4b45fd1c3d11", checked := Try.checked }
namespace Rows
def none {H : Type} : Left H := { results := [], args := [] }

/-- 'laws.FnExactNatRoot': WHATEVER THE INPUT: true; the input reads as it did. -/
def fnExactNatRootSpec : ChangeSpec := { name := "fnExactNatRoot", fn := fun _ => fun
  | [d] => { results := [.lit (.bool true)], args := [d] }
  | _ => none }
def fnExactNatRootRow : OpenClaim := { program := "ythokphoojmpajae", sum := "7a902cdd3d62375df0cc32c5c83cd9d3ed46edf32cbbe4f88daf4b45fd1c3d11", func := "loop.example/pinwhole/laws.FnExactNatRoot", spec := "fnExactNatRoot", unfollowed := true, recurses := true, apart := false }
def FnExactNatRootSaid : Prop := fnExactNatRootRow.holds Try.pinned (OpenSpec.ofChange fnExactNatRootSpec)

/-- ITS FALSE NEIGHBOUR: 'it returns false'. Refute it at one input. -/
def fnExactNatRootWrong : ChangeSpec := { name := "fnExactNatRoot", fn := fun _ => fun
  | [d] => { results := [.lit (.bool false)], args := [d] }
  | _ => none }
def FnExactNatRootWrongFalsely : Prop := fnExactNatRootRow.holds Try.pinned (OpenSpec.ofChange fnExactNatRootWrong)

/-- 'laws.FnExactNatGcd': WHATEVER THE INPUT: true; the input reads as it did. -/
def fnExactNatGcdSpec : ChangeSpec := { name := "fnExactNatGcd", fn := fun _ => fun
  | [d1, d2] => { results := [.lit (.bool true)], args := [d1, d2] }
  | _ => none }
def fnExactNatGcdRow : OpenClaim := { program := "ythokphoojmpajae", sum := "7a902cdd3d62375df0cc32c5c83cd9d3ed46edf32cbbe4f88daf4b45fd1c3d11", func := "loop.example/pinwhole/laws.FnExactNatGcd", spec := "fnExactNatGcd", unfollowed := true, recurses := true, apart := false }
def FnExactNatGcdSaid : Prop := fnExactNatGcdRow.holds Try.pinned (OpenSpec.ofChange fnExactNatGcdSpec)

/-- ITS FALSE NEIGHBOUR: 'it returns false'. Refute it at one input. -/
def fnExactNatGcdWrong : ChangeSpec := { name := "fnExactNatGcd", fn := fun _ => fun
  | [d1, d2] => { results := [.lit (.bool false)], args := [d1, d2] }
  | _ => none }
def FnExactNatGcdWrongFalsely : Prop := fnExactNatGcdRow.holds Try.pinned (OpenSpec.ofChange fnExactNatGcdWrong)

/-- 'laws.FnExactNatText': WHATEVER THE INPUT: true; the input reads as it did. -/
def fnExactNatTextSpec : ChangeSpec := { name := "fnExactNatText", fn := fun _ => fun
  | [d] => { results := [.lit (.bool true)], args := [d] }
  | _ => none }
def fnExactNatTextRow : OpenClaim := { program := "ythokphoojmpajae", sum := "7a902cdd3d62375df0cc32c5c83cd9d3ed46edf32cbbe4f88daf4b45fd1c3d11", func := "loop.example/pinwhole/laws.FnExactNatText", spec := "fnExactNatText", unfollowed := true, recurses := true, apart := false }
def FnExactNatTextSaid : Prop := fnExactNatTextRow.holds Try.pinned (OpenSpec.ofChange fnExactNatTextSpec)

/-- ITS FALSE NEIGHBOUR: 'it returns false'. Refute it at one input. -/
def fnExactNatTextWrong : ChangeSpec := { name := "fnExactNatText", fn := fun _ => fun
  | [d] => { results := [.lit (.bool false)], args := [d] }
  | _ => none }
def FnExactNatTextWrongFalsely : Prop := fnExactNatTextRow.holds Try.pinned (OpenSpec.ofChange fnExactNatTextWrong)

/-- 'laws.FnExactNatRead': WHATEVER THE INPUT: true; the input reads as it did. -/
def fnExactNatReadSpec : ChangeSpec := { name := "fnExactNatRead", fn := fun _ => fun
  | [d] => { results := [.lit (.bool true)], args := [d] }
  | _ => none }
def fnExactNatReadRow : OpenClaim := { program := "ythokphoojmpajae", sum := "7a902cdd3d62375df0cc32c5c83cd9d3ed46edf32cbbe4f88daf4b45fd1c3d11", func := "loop.example/pinwhole/laws.FnExactNatRead", spec := "fnExactNatRead", apart := false }
def FnExactNatReadSaid : Prop := fnExactNatReadRow.holds Try.pinned (OpenSpec.ofChange fnExactNatReadSpec)

/-- ITS FALSE NEIGHBOUR: 'it returns false'. Refute it at one input. -/
def fnExactNatReadWrong : ChangeSpec := { name := "fnExactNatRead", fn := fun _ => fun
  | [d] => { results := [.lit (.bool false)], args := [d] }
  | _ => none }
def FnExactNatReadWrongFalsely : Prop := fnExactNatReadRow.holds Try.pinned (OpenSpec.ofChange fnExactNatReadWrong)

/-- 'laws.FnExactFracOk': WHATEVER THE INPUT: true; the input reads as it did. -/
def fnExactFracOkSpec : ChangeSpec := { name := "fnExactFracOk", fn := fun _ => fun
  | [d] => { results := [.lit (.bool true)], args := [d] }
  | _ => none }
def fnExactFracOkRow : OpenClaim := { program := "ythokphoojmpajae", sum := "7a902cdd3d62375df0cc32c5c83cd9d3ed46edf32cbbe4f88daf4b45fd1c3d11", func := "loop.example/pinwhole/laws.FnExactFracOk", spec := "fnExactFracOk", unfollowed := true, recurses := true, apart := false }
def FnExactFracOkSaid : Prop := fnExactFracOkRow.holds Try.pinned (OpenSpec.ofChange fnExactFracOkSpec)

/-- ITS FALSE NEIGHBOUR: 'it returns false'. Refute it at one input. -/
def fnExactFracOkWrong : ChangeSpec := { name := "fnExactFracOk", fn := fun _ => fun
  | [d] => { results := [.lit (.bool false)], args := [d] }
  | _ => none }
def FnExactFracOkWrongFalsely : Prop := fnExactFracOkRow.holds Try.pinned (OpenSpec.ofChange fnExactFracOkWrong)

/- THE SECOND FORM. 'bulk': how many values and letters a reading holds, each counted each time it is reached (what is shared counts as often as it is met; a slice's spare places count too). A statement '..UptoSaid' is the law's where the arguments, and the package variables that the reading takes, are together of bulk at most 1048576: NARROWER than '..Said'. Prove '..Said' where nothing that the law and all that it calls make is longer than what came in: it says more and counts as full. Else prove '..UptoSaid'. A law counts once. -/
mutual
def uptoBulk {H : Type} : DataW H → Nat
  | .lit (.string bytes) => bytes.length + 1
  | .lit _ => 1
  | .nil => 1
  | .ptr d => uptoBulk d + 1
  | .slice elems spare => uptoBulkAll elems + uptoBulkAll spare + 1
  | .agg parts => uptoBulkAll parts + 1
  | .iface _ d => uptoBulk d + 1
  | .map entries => uptoBulkEntries entries + 1
  | .held _ => 1
def uptoBulkAll {H : Type} : List (DataW H) → Nat
  | [] => 0
  | d :: r => uptoBulk d + uptoBulkAll r
def uptoBulkEntries {H : Type} : List (Lit × DataW H) → Nat
  | [] => 0
  | x :: r => uptoBulkEntry x + uptoBulkEntries r
def uptoBulkEntry {H : Type} : Lit × DataW H → Nat
  | (.string bytes, d) => bytes.length + uptoBulk d + 1
  | (_, d) => uptoBulk d + 1
 end
def uptoSmall : (H : Type) → List (DataW H) → Bool := fun _ ds => decide (uptoBulkAll ds ≤ 1048576)
def OpenSpec.upto (s : _root_.Go.ChangeSpec) : _root_.Go.OpenSpec := { _root_.Go.OpenSpec.ofChange s with cond := some uptoSmall }

/-- 'laws.FnExactNatRoot', WHERE WHAT IT READS IS OF BULK AT MOST 1048576: true; the input reads as it did. -/
def fnExactNatRootUptoRow : OpenClaim := { program := "ythokphoojmpajae", sum := "7a902cdd3d62375df0cc32c5c83cd9d3ed46edf32cbbe4f88daf4b45fd1c3d11", func := "loop.example/pinwhole/laws.FnExactNatRoot", spec := "fnExactNatRoot", unfollowed := true, recurses := true, apart := false, narrowed := true }
def FnExactNatRootUptoSaid : Prop := fnExactNatRootUptoRow.holds Try.pinned (OpenSpec.upto fnExactNatRootSpec)

/-- 'laws.FnExactNatGcd', WHERE WHAT IT READS IS OF BULK AT MOST 1048576: true; the input reads as it did. -/
def fnExactNatGcdUptoRow : OpenClaim := { program := "ythokphoojmpajae", sum := "7a902cdd3d62375df0cc32c5c83cd9d3ed46edf32cbbe4f88daf4b45fd1c3d11", func := "loop.example/pinwhole/laws.FnExactNatGcd", spec := "fnExactNatGcd", unfollowed := true, recurses := true, apart := false, narrowed := true }
def FnExactNatGcdUptoSaid : Prop := fnExactNatGcdUptoRow.holds Try.pinned (OpenSpec.upto fnExactNatGcdSpec)

/-- 'laws.FnExactNatText', WHERE WHAT IT READS IS OF BULK AT MOST 1048576: true; the input reads as it did. -/
def fnExactNatTextUptoRow : OpenClaim := { program := "ythokphoojmpajae", sum := "7a902cdd3d62375df0cc32c5c83cd9d3ed46edf32cbbe4f88daf4b45fd1c3d11", func := "loop.example/pinwhole/laws.FnExactNatText", spec := "fnExactNatText", unfollowed := true, recurses := true, apart := false, narrowed := true }
def FnExactNatTextUptoSaid : Prop := fnExactNatTextUptoRow.holds Try.pinned (OpenSpec.upto fnExactNatTextSpec)

/-- 'laws.FnExactNatRead', WHERE WHAT IT READS IS OF BULK AT MOST 1048576: true; the input reads as it did. -/
def fnExactNatReadUptoRow : OpenClaim := { program := "ythokphoojmpajae", sum := "7a902cdd3d62375df0cc32c5c83cd9d3ed46edf32cbbe4f88daf4b45fd1c3d11", func := "loop.example/pinwhole/laws.FnExactNatRead", spec := "fnExactNatRead", apart := false, narrowed := true }
def FnExactNatReadUptoSaid : Prop := fnExactNatReadUptoRow.holds Try.pinned (OpenSpec.upto fnExactNatReadSpec)

/-- 'laws.FnExactFracOk', WHERE WHAT IT READS IS OF BULK AT MOST 1048576: true; the input reads as it did. -/
def fnExactFracOkUptoRow : OpenClaim := { program := "ythokphoojmpajae", sum := "7a902cdd3d62375df0cc32c5c83cd9d3ed46edf32cbbe4f88daf4b45fd1c3d11", func := "loop.example/pinwhole/laws.FnExactFracOk", spec := "fnExactFracOk", unfollowed := true, recurses := true, apart := false, narrowed := true }
def FnExactFracOkUptoSaid : Prop := fnExactFracOkUptoRow.holds Try.pinned (OpenSpec.upto fnExactFracOkSpec)

end Rows
end Go.Proofs.Ythokphoojmpajae
