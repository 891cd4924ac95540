/- For every uint64 the law FnExactNatOf returns true; no condition. -/
import Derived.Test.YthokphoojmpajacRows
import Derived.WalkKit
import Derived.ProofKit
import Derived.OpenShut
import Derived.ChangeOld
import Derived.Below
import Derived.Test.YthokphoojmpajacCopy
import Derived.Test.YthokphoojmpajacMark
import Derived.Test.YthokphoojmpajacOfSpec
import Derived.Test.YthokphoojmpajacOfImpl
import Derived.ShutString
namespace Go.Proofs.Ythokphoojmpajac
namespace fnExactNatOf
open Go.ChangeShapes Go.WideShapes Go.ChangeAt Go.RowKit Go.Proofs.Pin
open Go.ChangeMaps (open_string shut_string)
set_option linter.unusedVariables false      -- a walk need not use every 'w<i>' (that an integer argument fits its kind)

theorem own : ownKnob Try.prog.godebug = none := by kernel_rfl

/-! ### STEP 1: THE WALK: the Go text returns true. 'Below w.heap.size w w'': the world has at most new blocks (Derived/RowKit3.lean). Part the cases AHEAD of 'go_enter' where a test parts the walk; take each callee by a contract of your own. -/
theorem walk (a0 : Int) (w0 : (Lit.int .u64 a0).wf = true) (w : World) :
    Calls Try.prog 4 #[.int .u64 a0] w fun e w' => e = .returned (.bool true) ∧ Below w.heap.size w w' := by
  obtain ⟨x, rfl, hx⟩ : ∃ x : Nat, a0 = x ∧ x ≤ 18446744073709551615 := by
    have h := bounds_u64 w0
    exact ⟨a0.toNat, by omega, by omega⟩
  clear w0
  have hx4 : (dgs x).length ≤ 4 := dgs_small (by omega)
  obtain ⟨zs, hzs⟩ : ∃ zs, zs = dgs x := ⟨_, rfl⟩
  have HZ : Hid (zs = dgs x) := hzs
  have hz4 : zs.length ≤ 4 := by rw [hzs]; exact hx4
  have cS : ∀ w : World, Calls Try.prog 12 #[.int .u64 x] w fun e w' => ∃ a cap, e = .returned (.slice a zs.length cap) ∧ OwnI w' w.heap.size a cap zs ∧ Below w.heap.size w w' := by intro w; rw [hzs]; exact specOf_any x w hx
  have cI : ∀ w : World, Calls Try.prog 13 #[.int .u64 x] w fun e w' => ∃ a cap, e = .returned (.slice a zs.length cap) ∧ OwnI w' w.heap.size a cap zs ∧ Below w.heap.size w w' := by intro w; rw [hzs]; exact implOf_any x w hx
  clear hzs hx4
  have heq : decide (zs = zs) = true := by simp
  have HS : Hid (∀ w : World, Calls Try.prog 12 #[.int .u64 x] w fun e w' => ∃ a cap, e = .returned (.slice a zs.length cap) ∧ OwnI w' w.heap.size a cap zs ∧ Below w.heap.size w w') := cS
  have HI : Hid (∀ w : World, Calls Try.prog 13 #[.int .u64 x] w fun e w' => ∃ a cap, e = .returned (.slice a zs.length cap) ∧ OwnI w' w.heap.size a cap zs ∧ Below w.heap.size w w') := cI
  clear cS cI
  have hne : ((1 : Int) + zs.length != 1 + zs.length) = false := by simp
  have hml : (marked 1 zs.length).length = zs.length := marked_length _ _
  go_enter Try.func4, Try.ntmps4
  go_wp2_with fail
  refine (HS.out _).mono ?_
  rintro e w1 ⟨aw, cw, rfl, ow, b1⟩
  go_wp2_with fail
  refine (HI.out _).mono ?_
  rintro e w2 ⟨ag, cg, rfl, og, b2⟩
  have sw2 := ow.sl.keep b2
  have bw : ∀ g, aw = some g → g.block < w1.heap.size := by
    intro g hg
    rcases ow.parts with ⟨rfl, _⟩ | ⟨g', rfl, _, h⟩
    · cases hg
    · cases hg; exact h
  have gw : ∀ g, ag = some g → w1.heap.size ≤ g.block := by
    intro g hg
    rcases og.parts with ⟨rfl, _⟩ | ⟨g', rfl, h, _⟩
    · cases hg
    · cases hg; exact h
  clear ow
  go_wp2_with fail
  refine (eqIntS_any _ _ _ _ zs zs _ og.sl sw2 (by omega) (by omega)).mono ?_
  rintro e w3 ⟨rfl, q3, rfl⟩
  have og3 : OwnI (w2.drewN q3) w1.heap.size ag cg zs := og
  have sw3 : Sl (w2.drewN q3) aw zs := sw2
  have b3 : Below w1.heap.size w1 (w2.drewN q3) := below_dN b2 _
  clear og sw2 b2
  go_wp2_with fail
  refine (mark_any _ _ _ zs 1 _ og3 (by omega) (by omega) (by omega)).mono ?_
  rintro e w4 ⟨rfl, og4, gr4⟩
  have sw4 : Sl w4 aw zs := sw3.kept gr4 (by
    intro g hg e
    cases ag with
    | none => cases e
    | some g' =>
      have h1 := bw g hg
      have h2 := gw g' rfl
      simp at e
      omega)
  have b4 : Below w1.heap.size w1 w4 := b3.grown gr4 (by have := b3.size; exact this) (by
    intro k hk
    cases ag with
    | none => cases hk
    | some g' => have h2 := gw g' rfl; simp at hk; omega)
  clear og3 sw3 gr4 b3
  have sg4 := og4.sl
  go_wp2_with fail
  refine (held_any _ _ zs.length 1 _ sg4 (by omega) (by omega) (by omega)).mono ?_
  rintro e w4' ⟨rfl, rfl⟩
  go_wp2_with fail
  refine (HI.out _).mono ?_
  rintro e w5 ⟨ah, ch, rfl, oh, b5⟩
  have sw5 := sw4.keep b5
  have sg5 := sg4.keep b5
  have sh5 := oh.sl
  clear sw4 sg4 oh og4
  go_wp2_with fail
  refine (eqIntS_any _ _ _ _ zs zs _ sh5 sw5 (by omega) (by omega)).mono ?_
  rintro e w6 ⟨rfl, q6, rfl⟩
  have sg6 : Sl (w5.drewN q6) ag (marked 1 zs.length) := sg5
  have b6 : Below w.heap.size w (w5.drewN q6) := below_dN ((b1.trans (b4.mono b1.size)).trans (b5.mono (Nat.le_trans b1.size b4.size))) _
  clear sg5 sw5 sh5 b5 b4 b1
  go_wp2_with fail
  refine (held_any _ _ zs.length 1 _ sg6 (by omega) (by omega) (by omega)).mono ?_
  rintro e w6' ⟨rfl, rfl⟩
  go_wp2
  go_ret
  exact ⟨rfl, b6⟩

/-! ### THE ROW's STEP: WRITTEN OUT: LEAVE IT -/
set_option maxRecDepth 100000 in
theorem lifted (os : Os) (started : os.Started) (H : Type) (enc : TypeId × Value → H) :
    ReturnsInHanded {} Try.checked os 4 .any (Rows.fnExactNatOfSpec.pre6 enc Try.prog Try.f4 Rows.fnExactNatOfRow.domain false) (Rows.fnExactNatOfSpec.post enc Try.prog Try.f4 false true false false) := by
  refine returnsInHanded_of_change (C := Try.checked) own started (by kernel_rfl) Try.func4
    (ChangeSpec.witness6 (enc := enc) (C := Try.checked) false ⟨#[], #[.int .u64 0], []⟩ 8 (by kernel_rfl) (by kernel_rfl) (by kernel_rfl) (by kernel_rfl)) ?_
  intro W base args ds gs before hval0 hW hcnd _
  have hval : ∀ (j : Nat) t v, Try.f4.params[j]? = some t → args[j]? = some v → Value.okWide Try.prog W .any base t v := hval0
  have hW' := hW
  obtain ⟨p, q, hA0, hV, rfl, hfz, hnd⟩ := hW
  have hA : DataW.TrodAll enc Try.prog W 0 (fun _ => true) true Try.f4.params.toList args.toList ds p := hA0
  rw [Try.params4] at hA hval
  obtain ⟨v0, vs0, d0, ds0, p0, q0, hargs, rfl, rfl, h0, r0⟩ := trodAll_cons hA
  obtain ⟨rfl, rfl, rfl⟩ := trodAll_nil r0
  obtain rfl : args = #[v0] := by cases args; simp_all
  obtain ⟨rfl, rfl⟩ := trodVars_none hV
  obtain ⟨a0, rfl, rfl, rfl, w0⟩ := open_int Try.underlying26 (hval 0 26 v0 rfl rfl) h0
  clear hA0 hval0
  refine (walk a0 w0 W).mono fun e W' ⟨he, bel⟩ => ?_
  subst he
  exact ⟨_, rfl, _, _, _, [], _, [], hW', trodAll_mk1 (shut_bool Try.underlying4 _), (trodAll_cons_mk (shut_int Try.underlying26 w0) trodAll_mk0), rfl, bel.frame _, fun h => by cases h⟩

theorem over : Rows.fnExactNatOfRow.holds Try.pinned (OpenSpec.ofChange Rows.fnExactNatOfSpec) :=
  OpenClaim.holds_of_wide 4 Try.f4 rfl rfl rfl rfl rfl rfl rfl ⟨rfl, rfl, rfl, rfl, rfl⟩ rfl rfl rfl rfl rfl (by kernel_rfl) Try.func4 (by kernel_rfl)
    (of_decide_eq_true (by kernel_rfl)) (by unfold Func.isWrapper; first | (rw [if_pos (by decide +kernel)]; kernel_rfl) | (rw [if_neg (by decide +kernel)]; exact ⟨rfl, rfl⟩))
    (fun os started H enc _ => lifted os started H enc)

/-- ████ THE STATEMENT ████ -/
theorem proved : Rows.FnExactNatOfSaid :=
  over
end fnExactNatOf
theorem fnExactNatOf_holds : Rows.FnExactNatOfSaid := fnExactNatOf.proved
#print axioms fnExactNatOf_holds
end Go.Proofs.Ythokphoojmpajac
