/- For every slice of ints the law FnExactNatText returns true and leaves its argument as it was; no condition. -/
import Derived.Test.YthokphoojmpajaeRows
import Derived.WalkKit
import Derived.ProofKit
import Derived.OpenShut
import Derived.ShutString
import Derived.ChangeOld
import Derived.Below
import Derived.Test.YthokphoojmpajaeNatText
import Derived.Test.YthokphoojmpajaeCopy
import Derived.Test.YthokphoojmpajaeEqS
namespace Go.Proofs.Ythokphoojmpajae
namespace fnExactNatText
open Go.ChangeShapes Go.WideShapes Go.ChangeAt Go.RowKit Go.Proofs.Pin
open Go.ChangeMaps (open_string shut_string)
set_option linter.unusedVariables false

theorem own : ownKnob Try.prog.godebug = none := by kernel_rfl
theorem laidOut : laidOutB Try.prog = true := by kernel_rfl

/-! ### STEP 1: THE WALK: the Go text returns true, AND WRITES NOTHING THAT WAS THERE: 'Below w.heap.size w w'' (Derived/Below.lean: '.refl', '.alloc', '.drew', '.setCell' at a new block, '.trans'). Open each 'IsRow' by 'rcases' AHEAD of 'go_enter'; part every test ahead of the walk. -/

theorem walk (a0 : Option Addr) (len0 cap0 : Nat) (z0 : List Int) (w : World) (w0 : IsRow .i64 w a0 len0 cap0 z0) :
    Calls Try.prog 5 #[.slice a0 len0 cap0] w fun e w' => e = .returned (.bool true) ∧ Below w.heap.size w w' := by
  have hsl : Sl w a0 (z0.take len0) ∧ (z0.take len0).length = len0 := isRow_sl w0
  clear w0
  obtain ⟨zs, hzs⟩ : ∃ zs, zs = z0.take len0 := ⟨_, rfl⟩
  rw [← hzs] at hsl
  clear hzs
  obtain ⟨hsl, hl⟩ := hsl
  subst hl
  by_cases hbig : (1048576 : Int) < (zs.length : Int)
  · go_enter Try.func5, Try.ntmps5
    go_wp2
    go_ret
    exact ⟨rfl, Below.refl _ _⟩
  · have hlen : zs.length ≤ 1048576 := by omega
    obtain ⟨T, hT⟩ : ∃ T, T = textA zs := ⟨_, rfl⟩
    have CS : Hid (∀ W a c, Sl W a zs → Calls Try.prog 16 #[.slice a zs.length c] W fun e w' => e = .returned (.string T) ∧ Below W.heap.size W w') := fun W a c h => by rw [hT]; exact specText_any a c zs W h hlen
    have CI : Hid (∀ W a c, Sl W a zs → Calls Try.prog 17 #[.slice a zs.length c] W fun e w' => e = .returned (.string T) ∧ Below W.heap.size W w') := fun W a c h => by rw [hT]; exact implText_any a c zs W h hlen
    clear hT
    have hne : (T.toList == T.toList) = true := by simp
    go_enter Try.func5, Try.ntmps5
    go_wp2_with fail
    refine (toIntS_any _ _ zs _ hsl hlen).mono ?_
    rintro e w1 ⟨rfl, hown1, hb1⟩
    have hs1 := Sl.of_own hown1
    have hsl1 := hsl.keep hb1
    clear hown1
    go_wp2_with fail
    refine (CS.out _ _ _ hs1).mono ?_
    rintro e w1' ⟨rfl, hb1'⟩
    have hB1 := hb1.trans (hb1'.mono hb1.size)
    have hsl1' := hsl1.keep hb1'
    clear hs1 hsl1 hb1 hb1'
    go_wp2_with fail
    refine (toIntS_any _ _ zs _ hsl1' hlen).mono ?_
    rintro e w2 ⟨rfl, hown2, hb2⟩
    have hs2 := Sl.of_own hown2
    have hsl2 := hsl1'.keep hb2
    have hB2 := hB1.trans (hb2.mono hB1.size)
    clear hown2 hsl1' hb2 hB1
    go_wp2_with fail
    refine (CI.out _ _ _ hs2).mono ?_
    rintro e w2' ⟨rfl, hb2'⟩
    have hs2r := hs2.keep hb2'
    have hsl2r := hsl2.keep hb2'
    have hB3 := hB2.trans (hb2'.mono hB2.size)
    clear hs2 hsl2 hB2 hb2'
    go_wp2_with fail
    refine (toIntS_any _ _ zs _ hsl2r hlen).mono ?_
    rintro e w3 ⟨rfl, hown3, hb3⟩
    have hs3 := Sl.of_own hown3
    have hs2' := hs2r.keep hb3
    clear hown3 hs2r
    have heq : decide (zs = zs) = true := by simp
    go_wp2_with fail
    refine (eqIntS_any _ _ _ _ zs zs _ hs2' hs3 hlen hlen).mono ?_
    rintro e w4 ⟨rfl, q, rfl⟩
    go_wp2
    go_ret
    exact ⟨rfl, below_dN (hB3.trans (hb3.mono hB3.size)) _⟩

/-! ### THE ROW's STEP: WRITTEN OUT: LEAVE IT -/
set_option maxRecDepth 100000 in
theorem lifted (os : Os) (started : os.Started) (H : Type) (enc : TypeId × Value → H) :
    ReturnsInHanded {} Try.checked os 5 .any (Rows.fnExactNatTextSpec.pre6 enc Try.prog Try.f5 Rows.fnExactNatTextRow.domain false) (Rows.fnExactNatTextSpec.post enc Try.prog Try.f5 false true false false) := by
  refine returnsInHanded_of_change (C := Try.checked) own started (by kernel_rfl) Try.func5
    (ChangeSpec.witness6 (enc := enc) (C := Try.checked) false ⟨#[], #[.slice none 0 0], []⟩ 8 (by kernel_rfl) (by kernel_rfl) (by kernel_rfl) (by kernel_rfl)) ?_
  intro W base args ds gs before hval0 hW hcnd _
  have hval : ∀ (j : Nat) t v, Try.f5.params[j]? = some t → args[j]? = some v → Value.okWide Try.prog W .any base t v := hval0
  have hW' := hW
  obtain ⟨p, q, hA0, hV, rfl, hfz, hnd⟩ := hW
  have hA : DataW.TrodAll enc Try.prog W 0 (fun _ => true) true Try.f5.params.toList args.toList ds p := hA0
  rw [Try.params5] at hA hval
  obtain ⟨v0, vs0, d0, ds0, p0, q0, hargs, rfl, rfl, h0, r0⟩ := trodAll_cons hA
  obtain ⟨rfl, rfl, rfl⟩ := trodAll_nil r0
  obtain rfl : args = #[v0] := by cases args; simp_all
  obtain ⟨rfl, rfl⟩ := trodVars_none hV
  obtain ⟨a0, len0, cap0, rfl⟩ := okWide_slice Try.underlying22 (hval 0 22 v0 rfl rfl)
  have k0 := h0
  have lt0 : ∀ x ∈ p0, x.block < W.heap.size := by obtain ⟨m, hm⟩ := k0; exact DataW.trod_lt m _ _ _ hm
  obtain ⟨z0, w0⟩ : ∃ zs, IsRow .i64 W a0 len0 cap0 zs := by
    obtain ⟨fuel, hf⟩ := h0
    rcases open_ints Try.underlying22 Try.underlying3 (by kernel_rfl) hf with ⟨hcs, _⟩ | ⟨x, l, c, zs, hcs, _, hl, hm, hz, _, hcell, hwz⟩
    · simp [Value.cells] at hcs
      obtain ⟨rfl, rfl, rfl⟩ := hcs
      exact ⟨[], .inl ⟨rfl, rfl, rfl, rfl⟩⟩
    · simp [Value.cells] at hcs
      obtain ⟨rfl, rfl, rfl⟩ := hcs
      exact ⟨zs, .inr ⟨_, rfl, hl, hm, by simpa using hz, hcell, hwz⟩⟩
  clear hA0 hval0
  refine (walk a0 len0 cap0 z0 W w0).mono fun e W' ⟨he, bel⟩ => ?_
  subst he
  exact ⟨_, rfl, _, _, _, [], _, [], hW', trodAll_mk1 (shut_bool Try.underlying4 _), (trodAll_cons_mk (Below.trod laidOut (by kernel_rfl) (of_decide_eq_true (by kernel_rfl)) k0 bel lt0) trodAll_mk0), rfl, bel.frame _, fun h => by cases h⟩

theorem over : Rows.fnExactNatTextRow.holds Try.pinned (OpenSpec.ofChange Rows.fnExactNatTextSpec) :=
  OpenClaim.holds_of_wide 5 Try.f5 rfl rfl rfl rfl rfl rfl rfl ⟨rfl, rfl, rfl, rfl, rfl⟩ rfl rfl rfl rfl rfl (by kernel_rfl) Try.func5 (by kernel_rfl)
    (of_decide_eq_true (by kernel_rfl)) (by unfold Func.isWrapper; first | (rw [if_pos (by decide +kernel)]; kernel_rfl) | (rw [if_neg (by decide +kernel)]; exact ⟨rfl, rfl⟩))
    (fun os started H enc _ => lifted os started H enc)

/-- ████ THE STATEMENT ████ -/
theorem proved : Rows.FnExactNatTextSaid := over
end fnExactNatText
theorem fnExactNatText_holds : Rows.FnExactNatTextSaid := fnExactNatText.proved
#print axioms fnExactNatText_holds
end Go.Proofs.Ythokphoojmpajae
