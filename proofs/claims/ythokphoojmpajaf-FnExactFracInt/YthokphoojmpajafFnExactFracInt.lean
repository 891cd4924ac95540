/- For every int the law FnExactFracInt returns true; no condition. -/
import Derived.Test.YthokphoojmpajafRows
import Derived.WalkKit
import Derived.ProofKit
import Derived.OpenShut
import Derived.ChangeOld
import Derived.Below
import Derived.Test.YthokphoojmpajafFracInt
import Derived.ShutString
namespace Go.Proofs.Ythokphoojmpajaf
namespace fnExactFracInt
open Go.ChangeShapes Go.WideShapes Go.ChangeAt Go.RowKit Go.Proofs.Pin
open Go.ChangeMaps (open_string shut_string)
set_option linter.unusedVariables false      -- a walk need not use every 'w<i>' (that an integer argument fits its kind)

theorem own : ownKnob Try.prog.godebug = none := by kernel_rfl

/-! ### STEP 1: THE WALK: the Go text returns true. 'Below w.heap.size w w'': the world has at most new blocks (Derived/RowKit3.lean). Part the cases AHEAD of 'go_enter' where a test parts the walk; take each callee by a contract of your own. -/
theorem walk (a0 : Int) (w0 : (Lit.int .i64 a0).wf = true) (w : World) :
    Calls Try.prog 3 #[.int .i64 a0] w fun e w' => e = .returned (.bool true) ∧ Below w.heap.size w w' := by
  have hb := bounds_i64 w0
  have hD4 : (dgs a0.natAbs).length ≤ 4 := dgs_small (by omega)
  have cS : Hid (∀ w : World, Calls Try.prog 4 #[.int .i64 a0] w fun e w' => ∃ r cr s, e = .returned (fracV (decide (a0 < 0)) r (dgs a0.natAbs).length cr s 1 1) ∧ OwnI w' w.heap.size r cr (dgs a0.natAbs) ∧ OwnI w' w.heap.size s 1 [1] ∧ Below w.heap.size w w') := fun w => specFracInt_any a0 w hb.1 hb.2
  have cI : Hid (∀ w : World, Calls Try.prog 5 #[.int .i64 a0] w fun e w' => ∃ r cr s, e = .returned (fracV (decide (a0 < 0)) r (dgs a0.natAbs).length cr s 1 1) ∧ OwnI w' w.heap.size r cr (dgs a0.natAbs) ∧ OwnI w' w.heap.size s 1 [1] ∧ (∀ i j, r.map (·.block) = some i → s.map (·.block) = some j → i ≠ j) ∧ Below w.heap.size w w') := fun w => implFracInt_any a0 w hb.1 hb.2
  obtain ⟨D, hD⟩ : ∃ D, D = dgs a0.natAbs := ⟨_, rfl⟩
  obtain ⟨bb, hbb⟩ : ∃ bb, bb = decide (a0 < 0) := ⟨_, rfl⟩
  rw [← hD] at hD4 cS cI
  rw [← hbb] at cS cI
  clear hD hbb w0 hb
  go_enter Try.func3, Try.ntmps3
  go_wp2_with fail
  refine (cS.out _).mono ?_
  rintro e w1 ⟨r0, cr0, s0, rfl, o1, p1, b1⟩
  have hD2 : D.length ≤ 1048576 := by omega
  have heI : ((1 : Int) + D.length + 1 != 1 + D.length + 1) = false := by simp
  have B1 : Below w.heap.size w w1 := b1
  have l0 := own_block_lt o1
  have l1 := own_block_lt p1
  have sr1 := o1.sl
  have ss1 := p1.sl
  obtain ⟨w1', hw1'⟩ : ∃ w1', w1' = w1.alloc (.cells #[.bool bb, .slice r0 D.length cr0, .slice s0 1 1] 24) := ⟨_, rfl⟩
  have b1' : Below w1.heap.size w1 w1' := by rw [hw1']; exact (Below.refl _ _).alloc (Nat.le_refl _) _
  have z1 : w1'.heap.size = w1.heap.size + 1 := by rw [hw1']; simp
  have fw1 : FBox w1' w1.heap.size bb (.slice r0 D.length cr0) (.slice s0 1 1) := by rw [hw1']; exact fbox_new _ _ _ _
  have sr1' := sr1.keep b1'
  have ss1' := ss1.keep b1'
  have B1' := B1.trans (b1'.mono B1.size)
  clear b1 o1 p1 sr1 ss1 b1'
  unfold fracV
  go_wp2_with fail
  rw [← hw1']
  clear hw1'
  refine (cI.out _).mono ?_
  rintro e w2 ⟨rg, cg, sg, rfl, o2, p2, hap, b2⟩
  have gr := own_ge o2
  have gs := own_ge p2
  have lr := own_block_lt o2
  have ls := own_block_lt p2
  obtain ⟨w2', hw2'⟩ : ∃ w2', w2' = w2.alloc (.cells #[.bool bb, .slice rg D.length cg, .slice sg 1 1] 24) := ⟨_, rfl⟩
  have b2' : Below w2.heap.size w2 w2' := by rw [hw2']; exact (Below.refl _ _).alloc (Nat.le_refl _) _
  have fg2 : FBox w2' w2.heap.size bb (.slice rg D.length cg) (.slice sg 1 1) := by rw [hw2']; exact fbox_new _ _ _ _
  have fw2 := fbox_keep (fbox_keep fw1 b2) b2'
  have sr2 := (sr1'.keep b2).keep b2'
  have ss2 := (ss1'.keep b2).keep b2'
  have o2' := o2.keep b2'
  have p2' := p2.keep b2'
  have z2 := b2.size
  have B2 : Below w.heap.size w w2' := (B1'.trans (b2.mono B1'.size)).trans (b2'.mono (Nat.le_trans B1'.size b2.size))
  have y2 := b2'.size
  obtain ⟨cw0, cw1, cw2⟩ := fbox_cells (fbox_keep fw1 b2)
  have v2 : w1.heap.size < w2.heap.size := by omega
  have v2' : ¬ w1.heap.size = w2.heap.size := by omega
  clear b2 b2' o2 p2 fw1 sr1' ss1' B1'
  unfold fracV
  go_wp2_with fail
  rw [← hw2']
  clear hw2' cw0 cw1 cw2
  refine (eqFrac_any bb rg sg r0 s0 cg 1 cr0 1 D [1] w2' o2'.sl p2'.sl sr2 ss2 hD2 (by simp)).mono ?_
  rintro e w3 ⟨rfl, b3⟩
  have fw3 := fbox_keep fw2 b3
  have fg3 := fbox_keep fg2 b3
  have sr3 := sr2.keep b3
  have ss3 := ss2.keep b3
  have o3 := o2'.keep b3
  have p3 := p2'.keep b3
  have B3 := B2.trans (b3.mono B2.size)
  have z3 := b3.size
  obtain ⟨cg0, cg1, cg2⟩ := fbox_cells fg3
  clear b3 fw2 fg2 sr2 ss2 o2' p2' B2
  go_wp2_with fail
  refine (markFrac_any bb _ _ rg sg cg 1 D [1] 1 w3 o3 p3 hap hD2 (by simp) (by omega) (by omega)).mono ?_
  rintro e w4 ⟨rfl, m4, n4, g4⟩
  have fw4 := fbox_two fw3 g4 (fun e => by have := gr _ e.symm; omega) (fun e => by have := gs _ e.symm; omega)
  have fg4 := fbox_two fg3 g4 (fun e => by have := lr _ e.symm; omega) (fun e => by have := ls _ e.symm; omega)
  have ap0 : ∀ g, w1.heap.size + 1 ≤ g → Apart r0 D g := fun g hg => by
    rcases Option.eq_none_or_eq_some r0 with h | ⟨x, h⟩
    · exact .inr (fun x hx => by rw [h] at hx; cases hx)
    · refine .inr (fun x hx e => ?_)
      have := l0 x.block (by rw [hx]; rfl)
      omega
  have ap1 : ∀ g, w1.heap.size + 1 ≤ g → Apart s0 [1] g := fun g hg => by
    refine .inr (fun x hx e => ?_)
    have := l1 x.block (by rw [hx]; rfl)
    omega
  have sr4 := sl_two sr3 g4 (fun g hg => ap0 g (by have := gr g hg; omega)) (fun g hg => ap0 g (by have := gs g hg; omega))
  have ss4 := sl_two ss3 g4 (fun g hg => ap1 g (by have := gr g hg; omega)) (fun g hg => ap1 g (by have := gs g hg; omega))
  have B4 := below_two B3 g4 (Nat.le_refl _) (fun g hg => by have := gr g hg; have := B1.size; omega) (fun g hg => by have := gs g hg; have := B1.size; omega)
  have sm4 := m4.sl
  have sn4 := n4.sl
  obtain ⟨cg0, cg1, cg2⟩ := fbox_cells fg4
  clear m4 n4 g4 fw3 fg3 sr3 ss3 o3 p3 B3 ap0 ap1
  go_wp2_with fail
  refine (heldFrac_any bb rg sg cg 1 D.length 1 1 w4 sm4 sn4 hD2 (by omega) (by omega) (by omega)).mono ?_
  rintro e w5 ⟨rfl, b5⟩
  have fw5 := fbox_keep fw4 b5
  have fg5 := fbox_keep fg4 b5
  have sr5 := sr4.keep b5
  have ss5 := ss4.keep b5
  have sm5 := sm4.keep b5
  have sn5 := sn4.keep b5
  have B5 := B4.trans (b5.mono B4.size)
  clear b5 fw4 fg4 sr4 ss4 sm4 sn4 B4 cg0 cg1 cg2
  go_wp2_with fail
  refine (cI.out _).mono ?_
  rintro e w6 ⟨rh, ch, sh, rfl, o6, p6, _, b6⟩
  have fw6 := fbox_keep fw5 b6
  have fg6 := fbox_keep fg5 b6
  have sr6 := sr5.keep b6
  have ss6 := ss5.keep b6
  have sm6 := sm5.keep b6
  have sn6 := sn5.keep b6
  have B6 := B5.trans (b6.mono B5.size)
  have zw : w1.heap.size < w6.heap.size := (Array.getElem?_eq_some_iff.1 fw6).1
  have zg : w2.heap.size < w6.heap.size := (Array.getElem?_eq_some_iff.1 fg6).1
  obtain ⟨cw0, cw1, cw2⟩ := fbox_cells fw6
  obtain ⟨w6', hw6'⟩ : ∃ w6', w6' = w6.alloc (.cells #[.bool bb, .slice rh D.length ch, .slice sh 1 1] 24) := ⟨_, rfl⟩
  have b6' : Below w6.heap.size w6 w6' := by rw [hw6']; exact (Below.refl _ _).alloc (Nat.le_refl _) _
  have fg7 := fbox_keep fg6 b6'
  have sr7 := sr6.keep b6'
  have ss7 := ss6.keep b6'
  have sm7 := sm6.keep b6'
  have sn7 := sn6.keep b6'
  have sh7 := (o6.sl).keep b6'
  have sk7 := (p6.sl).keep b6'
  have B7 := B6.trans (b6'.mono B6.size)
  have v6 : ¬ w1.heap.size = w6.heap.size := by omega
  clear b6 b6' fw5 fg5 sr5 ss5 sm5 sn5 B5 fw6 fg6 sr6 ss6 sm6 sn6 B6 o6 p6
  unfold fracV
  go_wp2_with fail
  rw [← hw6']
  clear hw6' cw0 cw1 cw2
  refine (eqFrac_any bb rh sh r0 s0 ch 1 cr0 1 D [1] w6' sh7 sk7 sr7 ss7 hD2 (by simp)).mono ?_
  rintro e w8 ⟨rfl, b8⟩
  have fg8 := fbox_keep fg7 b8
  have sm8 := sm7.keep b8
  have sn8 := sn7.keep b8
  have B8 := B7.trans (b8.mono B7.size)
  obtain ⟨cg0, cg1, cg2⟩ := fbox_cells fg8
  clear b8 fg7 sm7 sn7 B7 sr7 ss7 sh7 sk7
  go_wp2_with fail
  refine (heldFrac_any bb rg sg cg 1 D.length 1 1 w8 sm8 sn8 hD2 (by omega) (by omega) (by omega)).mono ?_
  rintro e w9 ⟨rfl, b9⟩
  have B9 := B8.trans (b9.mono B8.size)
  go_wp2
  go_ret
  exact ⟨rfl, B9⟩

/-! ### THE ROW's STEP: WRITTEN OUT: LEAVE IT -/
set_option maxRecDepth 100000 in
theorem lifted (os : Os) (started : os.Started) (H : Type) (enc : TypeId × Value → H) :
    ReturnsInHanded {} Try.checked os 3 .any (Rows.fnExactFracIntSpec.pre6 enc Try.prog Try.f3 Rows.fnExactFracIntRow.domain false) (Rows.fnExactFracIntSpec.post enc Try.prog Try.f3 false true false false) := by
  refine returnsInHanded_of_change (C := Try.checked) own started (by kernel_rfl) Try.func3
    (ChangeSpec.witness6 (enc := enc) (C := Try.checked) false ⟨#[], #[.int .i64 0], []⟩ 8 (by kernel_rfl) (by kernel_rfl) (by kernel_rfl) (by kernel_rfl)) ?_
  intro W base args ds gs before hval0 hW hcnd _
  have hval : ∀ (j : Nat) t v, Try.f3.params[j]? = some t → args[j]? = some v → Value.okWide Try.prog W .any base t v := hval0
  have hW' := hW
  obtain ⟨p, q, hA0, hV, rfl, hfz, hnd⟩ := hW
  have hA : DataW.TrodAll enc Try.prog W 0 (fun _ => true) true Try.f3.params.toList args.toList ds p := hA0
  rw [Try.params3] at hA hval
  obtain ⟨v0, vs0, d0, ds0, p0, q0, hargs, rfl, rfl, h0, r0⟩ := trodAll_cons hA
  obtain ⟨rfl, rfl, rfl⟩ := trodAll_nil r0
  obtain rfl : args = #[v0] := by cases args; simp_all
  obtain ⟨rfl, rfl⟩ := trodVars_none hV
  obtain ⟨a0, rfl, rfl, rfl, w0⟩ := open_int Try.underlying3 (hval 0 3 v0 rfl rfl) h0
  clear hA0 hval0
  refine (walk a0 w0 W).mono fun e W' ⟨he, bel⟩ => ?_
  subst he
  exact ⟨_, rfl, _, _, _, [], _, [], hW', trodAll_mk1 (shut_bool Try.underlying4 _), (trodAll_cons_mk (shut_int Try.underlying3 w0) trodAll_mk0), rfl, bel.frame _, fun h => by cases h⟩

theorem over : Rows.fnExactFracIntRow.holds Try.pinned (OpenSpec.ofChange Rows.fnExactFracIntSpec) :=
  OpenClaim.holds_of_wide 3 Try.f3 rfl rfl rfl rfl rfl rfl rfl ⟨rfl, rfl, rfl, rfl, rfl⟩ rfl rfl rfl rfl rfl (by kernel_rfl) Try.func3 (by kernel_rfl)
    (of_decide_eq_true (by kernel_rfl)) (by unfold Func.isWrapper; first | (rw [if_pos (by decide +kernel)]; kernel_rfl) | (rw [if_neg (by decide +kernel)]; exact ⟨rfl, rfl⟩))
    (fun os started H enc _ => lifted os started H enc)

/-- ████ THE STATEMENT ████ -/
theorem proved : Rows.FnExactFracIntSaid :=
  over
end fnExactFracInt
theorem fnExactFracInt_holds : Rows.FnExactFracIntSaid := fnExactFracInt.proved
#print axioms fnExactFracInt_holds
end Go.Proofs.Ythokphoojmpajaf
