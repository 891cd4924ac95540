/- For every string the law FnExactNatRead returns true and leaves what was there as it was; no condition. -/
import Derived.Test.YthokphoojmpajaeRows
import Derived.WalkKit
import Derived.ProofKit
import Derived.OpenShut
import Derived.ChangeOld
import Derived.Below
import Derived.Test.YthokphoojmpajaeEqS
import Derived.Test.YthokphoojmpajaeMark
import Derived.Test.YthokphoojmpajaeNatRead
import Derived.ShutString
namespace Go.Proofs.Ythokphoojmpajae
namespace fnExactNatRead
open Go.ChangeShapes Go.WideShapes Go.ChangeAt Go.RowKit Go.Proofs.Pin
open Go.ChangeMaps (open_string shut_string)
set_option linter.unusedVariables false      -- a walk need not use every 'w<i>' (that an integer argument fits its kind)

theorem own : ownKnob Try.prog.godebug = none := by kernel_rfl

/-! ### STEP 1: THE WALK: the Go text returns true. 'Below w.heap.size w w'': the world has at most new blocks (Derived/RowKit3.lean). Part the cases AHEAD of 'go_enter' where a test parts the walk; take each callee by a contract of your own. -/

set_option maxRecDepth 20000 in
theorem walk (a0 : ByteArray) (w0 : a0.size ≤ maxLen) (w : World) :
    Calls Try.prog 6 #[.string a0] w fun e w' => e = .returned (.bool true) ∧ Below w.heap.size w w' := by
  clear w0
  by_cases hb0 : (1048576 : Int) < (a0.size : Int)
  · go_enter Try.func6, Try.ntmps6
    go_wp2
    go_ret
    exact ⟨rfl, Below.refl _ _⟩
  have hx : a0.size ≤ 1048576 := by omega
  have CS : Hid (∀ (wr : World), Calls Try.prog 18 #[.string a0] wr fun e w' => ∃ r cr, e = .returned (.tuple #[.slice r (ansL (readO a0)).length cr, .bool (ansB (readO a0))]) ∧ OwnI w' wr.heap.size r cr (ansL (readO a0)) ∧ Below wr.heap.size wr w') := fun wr => specRead_op a0 wr hx
  have CI : Hid (∀ (wr : World), Calls Try.prog 19 #[.string a0] wr fun e w' => ∃ r cr, e = .returned (.tuple #[.slice r (ansL (readO a0)).length cr, .bool (ansB (readO a0))]) ∧ OwnI w' wr.heap.size r cr (ansL (readO a0)) ∧ Below wr.heap.size wr w') := fun wr => implRead_op a0 wr hx
  have hRl := ansL_len (readO a0)
  obtain ⟨R, hR⟩ : ∃ R, R = ansL (readO a0) := ⟨_, rfl⟩
  obtain ⟨bb, hbb⟩ : ∃ bb, bb = ansB (readO a0) := ⟨_, rfl⟩
  rw [← hR] at hRl CS CI
  rw [← hbb] at CS CI
  clear hR hbb
  have hR2 : R.length ≤ 1048576 := by omega
  have hne : (bb != bb) = false := by simp
  have heR : decide (R = R) = true := by simp
  have hneI : ((1 : Int) + R.length != 1 + R.length) = false := by simp
  have hRI : (R.length : Int) ≤ 256 := by omega
  go_enter Try.func6, Try.ntmps6
  go_wp2_with fail
  refine Calls.mono (CS.out _) ?_
  rintro e w3 ⟨r0, cr0, rfl, o3, b3⟩
  have sw3 := o3.sl
  have AW : Hid (∀ g, w3.heap.size ≤ g → Apart r0 R g) := fun g hg => sw3.later hg
  have B3 : Below w.heap.size w w3 := b3
  clear b3 o3
  go_wp2_with fail
  refine Calls.mono (CI.out _) ?_
  rintro e w6 ⟨rg, cg, rfl, o6, b6⟩
  have G6 : Hid (∀ k, rg.map (·.block) = some k → w3.heap.size ≤ k) := own_ge o6
  have sw6 := sw3.keep b6
  have B6 : Below w.heap.size w w6 := B3.trans (b6.mono B3.size)
  have z6 : w3.heap.size ≤ w6.heap.size := b6.size
  clear sw3 b6
  go_wp2_with fail
  refine (eqIntS_any _ _ _ _ R R _ o6.sl sw6 hR2 hR2).mono ?_
  rintro e w6' ⟨rfl, q10, rfl⟩
  have g10' : OwnI (w6.drewN q10) w3.heap.size rg cg R := o6
  go_wp2_with fail
  refine (mark_any _ _ _ R 1 _ g10' hR2 (by omega) (by omega)).mono ?_
  rintro e w11 ⟨rfl, g11, m11⟩
  have m11' : w6.grownBy w11 (rg.map (·.block)) := grown_un m11
  have sw11 := sw6.apartR m11' (fun g hg => AW.out g (by have := G6.out g hg; omega))
  have B11 : Below w.heap.size w w11 := B6.grown m11' B6.size (fun k hk => by have := G6.out k hk; have := B3.size; omega)
  have sg11 := g11.sl
  clear o6 g10' sw6 m11 m11' g11
  go_wp2_with fail
  refine (held_any _ _ R.length 1 _ sg11 hR2 (by omega) (by omega)).mono ?_
  rintro e w11' ⟨rfl, rfl⟩
  go_wp2_with fail
  refine Calls.mono (CI.out _) ?_
  rintro e w14 ⟨rh, ch, rfl, o14, b14⟩
  have sh14 := o14.sl
  have sw14 := sw11.keep b14
  have sg14 := sg11.keep b14
  have B14 := B11.trans (b14.mono B11.size)
  clear o14 b14 sw11 sg11
  go_wp2_with fail
  refine (eqIntS_any _ _ _ _ R R _ sh14 sw14 hR2 hR2).mono ?_
  rintro e w14' ⟨rfl, q14, rfl⟩
  have sg15 : Sl (w14.drewN q14) rg (marked 1 R.length) := sg14
  have B15 := below_dN B14 q14
  clear sg14 sw14 sh14
  go_wp2_with fail
  refine (held_any _ _ R.length 1 _ sg15 hR2 (by omega) (by omega)).mono ?_
  rintro e w15 ⟨rfl, rfl⟩
  go_wp2
  go_ret
  exact ⟨rfl, B15⟩

/-! ### THE ROW's STEP: WRITTEN OUT: LEAVE IT -/
set_option maxRecDepth 100000 in
theorem lifted (os : Os) (started : os.Started) (H : Type) (enc : TypeId × Value → H) :
    ReturnsInHanded {} Try.checked os 6 .any (Rows.fnExactNatReadSpec.pre6 enc Try.prog Try.f6 Rows.fnExactNatReadRow.domain false) (Rows.fnExactNatReadSpec.post enc Try.prog Try.f6 false true false false) := by
  refine returnsInHanded_of_change (C := Try.checked) own started (by kernel_rfl) Try.func6
    (ChangeSpec.witness6 (enc := enc) (C := Try.checked) false ⟨#[], #[.string ByteArray.empty], []⟩ 8 (by kernel_rfl) (by kernel_rfl) (by kernel_rfl) (by kernel_rfl)) ?_
  intro W base args ds gs before hval0 hW hcnd _
  have hval : ∀ (j : Nat) t v, Try.f6.params[j]? = some t → args[j]? = some v → Value.okWide Try.prog W .any base t v := hval0
  have hW' := hW
  obtain ⟨p, q, hA0, hV, rfl, hfz, hnd⟩ := hW
  have hA : DataW.TrodAll enc Try.prog W 0 (fun _ => true) true Try.f6.params.toList args.toList ds p := hA0
  rw [Try.params6] at hA hval
  obtain ⟨v0, vs0, d0, ds0, p0, q0, hargs, rfl, rfl, h0, r0⟩ := trodAll_cons hA
  obtain ⟨rfl, rfl, rfl⟩ := trodAll_nil r0
  obtain rfl : args = #[v0] := by cases args; simp_all
  obtain ⟨rfl, rfl⟩ := trodVars_none hV
  obtain ⟨a0, rfl, rfl, rfl, w0⟩ := open_string Try.underlying9 (hval 0 9 v0 rfl rfl) h0
  clear hA0 hval0
  refine (walk a0 w0 W).mono fun e W' ⟨he, bel⟩ => ?_
  subst he
  exact ⟨_, rfl, _, _, _, [], _, [], hW', trodAll_mk1 (shut_bool Try.underlying4 _), (trodAll_cons_mk (shut_string Try.underlying9 w0) trodAll_mk0), rfl, bel.frame _, fun h => by cases h⟩

theorem over : Rows.fnExactNatReadRow.holds Try.pinned (OpenSpec.ofChange Rows.fnExactNatReadSpec) :=
  OpenClaim.holds_of_wide 6 Try.f6 rfl rfl rfl rfl rfl rfl rfl ⟨rfl, rfl, rfl, rfl, rfl⟩ rfl rfl rfl rfl rfl (by kernel_rfl) Try.func6 (by kernel_rfl)
    (of_decide_eq_true (by kernel_rfl)) (by unfold Func.isWrapper; first | (rw [if_pos (by decide +kernel)]; kernel_rfl) | (rw [if_neg (by decide +kernel)]; exact ⟨rfl, rfl⟩))
    (fun os started H enc _ => lifted os started H enc)

/-- ████ THE STATEMENT ████ -/
theorem proved : Rows.FnExactNatReadSaid :=
  over
end fnExactNatRead
theorem fnExactNatRead_holds : Rows.FnExactNatReadSaid := fnExactNatRead.proved
#print axioms fnExactNatRead_holds
end Go.Proofs.Ythokphoojmpajae
