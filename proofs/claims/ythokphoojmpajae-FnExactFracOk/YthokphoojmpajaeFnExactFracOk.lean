/- For every fraction (a sign and two slices of ints, whatever they hold) the law FnExactFracOk returns true and leaves its argument as it was; no condition. -/
import Derived.Test.YthokphoojmpajaeRows
import Derived.WalkKit
import Derived.ProofKit
import Derived.OpenShut
import Derived.ShutString
import Derived.ChangeOld
import Derived.Below
import Derived.Deep.Strs
import Derived.Deep.RegionWith
import Derived.Test.YthokphoojmpajaeFracOk
import Derived.Test.YthokphoojmpajaeFracIn
import Derived.Test.YthokphoojmpajaeFracOpen
namespace Go.Proofs.Ythokphoojmpajae
namespace fnExactFracOk
open Go.ChangeShapes Go.WideShapes Go.ChangeAt Go.RowKit Go.Proofs.Pin
open Go.ChangeMaps (open_string shut_string)
set_option linter.unusedVariables false

theorem own : ownKnob Try.prog.godebug = none := by kernel_rfl
theorem laidOut : laidOutB Try.prog = true := by kernel_rfl

set_option maxHeartbeats 4000000 in
set_option maxRecDepth 20000 in
theorem walk (b : Bool) (a0 : Option Addr) (len0 cap0 : Nat) (z0 : List Int) (a1 : Option Addr) (len1 cap1 : Nat) (z1 : List Int) (w : World) (w0 : IsRow .i64 w a0 len0 cap0 z0) (w1 : IsRow .i64 w a1 len1 cap1 z1) (hm0 : len0 ≤ maxLen) (hm1 : len1 ≤ maxLen) :
    Calls Try.prog 7 #[.agg #[.bool b, .slice a0 len0 cap0, .slice a1 len1 cap1]] w fun e w' => e = .returned (.bool true) ∧ Below w.heap.size w w' := by
  have hl0 : len0 ≤ 9223372036854775807 := Nat.le_trans hm0 (by simp [maxLen])
  have hl1 : len1 ≤ 9223372036854775807 := Nat.le_trans hm1 (by simp [maxLen])
  clear hm0 hm1
  obtain ⟨xs, hx⟩ : ∃ xs, Sl w a0 xs ∧ xs.length = len0 := ⟨_, isRow_sl w0⟩
  obtain ⟨ys, hy⟩ : ∃ ys, Sl w a1 ys ∧ ys.length = len1 := ⟨_, isRow_sl w1⟩
  clear w0 w1
  obtain ⟨sx, rfl⟩ := hx
  obtain ⟨sy, rfl⟩ := hy
  obtain ⟨W0, hW0⟩ : ∃ W0, W0 = w.alloc (.cells #[.bool b, .slice a0 xs.length cap0, .slice a1 ys.length cap1] 35) := ⟨_, rfl⟩
  have B0 : Below w.heap.size w W0 := by rw [hW0]; exact (Below.refl _ w).alloc (Nat.le_refl _) _
  have g0 : GBox W0 w.heap.size 35 (.bool b) (.slice a0 xs.length cap0) (.slice a1 ys.length cap1) := by rw [hW0]; exact gbox_new w _ _ _ _
  have CZ : Hid _ := szFrac_any b a0 a1 xs.length ys.length cap0 cap1 W0 hl0 hl1
  have sx0 := sx.keep B0
  have sy0 := sy.keep B0
  clear sx sy
  go_enter Try.func7, Try.ntmps7
  go_wp2_with fail
  rw [← hW0]
  clear hW0
  refine Calls.mono CZ.out ?_
  rintro e w1 ⟨l, rfl, hl, b1⟩
  have B1 : Below w.heap.size w w1 := B0.trans (b1.mono B0.size)
  rcases hl with hneg | ⟨hpos, hx, hy⟩
  · go_wp2
    go_ret
    exact ⟨rfl, B1⟩
  have hp' : ¬ l < 0 := by omega
  have sx1 := sx0.keep b1
  have sy1 := sy0.keep b1
  have g1 := gbox_keep g0 b1
  obtain ⟨c0, c1, c2, _, n0⟩ := gbox_cells g1
  have TF : Hid (∀ w1, Sl w1 a0 xs → Sl w1 a1 ys → Calls Try.prog 22 #[.agg #[.bool b, .slice a0 xs.length cap0, .slice a1 ys.length cap1]] w1 fun e w' => ∃ g1 g2, e = .returned (fracV b (some ⟨g1, 0, none⟩) xs.length xs.length (some ⟨g2, 0, none⟩) ys.length ys.length) ∧ OwnI w' w1.heap.size (some ⟨g1, 0, none⟩) xs.length xs ∧ OwnI w' w1.heap.size (some ⟨g2, 0, none⟩) ys.length ys ∧ g1 ≠ g2 ∧ Below w1.heap.size w1 w') := fun w1 h1 h2 => toFrac_any b a0 a1 cap0 cap1 xs ys w1 h1 h2 hx hy
  have FS : Hid (∀ w1 r s, Sl w1 r xs → Sl w1 s ys → Calls Try.prog 21 #[fracV b r xs.length xs.length s ys.length ys.length] w1 fun e w' => e = .returned (.bool (fokB b xs ys)) ∧ Below w1.heap.size w1 w') := fun w1 r s h1 h2 => specFok_any b r s _ _ xs ys w1 h1 h2 hx hy
  have FI : Hid (∀ w1 r s, Sl w1 r xs → Sl w1 s ys → Calls Try.prog 23 #[fracV b r xs.length xs.length s ys.length ys.length] w1 fun e w' => e = .returned (.bool (fokB b xs ys)) ∧ Below w1.heap.size w1 w') := fun w1 r s h1 h2 => implFok_any b r s _ _ xs ys w1 h1 h2 hx hy (Nat.le_refl _) (Nat.le_refl _)
  obtain ⟨bb, hbb⟩ : ∃ bb, bb = fokB b xs ys := ⟨_, rfl⟩
  rw [← hbb] at FS FI
  have hne : (bb != bb) = false := by simp
  unfold fracV at TF FS FI
  clear hbb CZ b1 B0 sx0 sy0 g0
  go_wp2_with fail
  refine Calls.mono (TF.out _ sx1 sy1) ?_
  rintro e w2 ⟨p1, p2, rfl, o1, o2, _, b2⟩
  have B2 : Below w.heap.size w w2 := B1.trans (b2.mono B1.size)
  have sx2 := sx1.keep b2
  have sy2 := sy1.keep b2
  have g2 := gbox_keep g1 b2
  have q1 := o1.sl
  have q2 := o2.sl
  clear b2 B1 sx1 sy1 g1 o1 o2 c0 c1 c2
  go_wp2_with fail
  refine Calls.mono (FS.out _ _ _ q1 q2) ?_
  rintro e w3 ⟨rfl, b3⟩
  have B3 : Below w.heap.size w w3 := B2.trans (b3.mono B2.size)
  have sx3 := sx2.keep b3
  have sy3 := sy2.keep b3
  have g3 := gbox_keep g2 b3
  obtain ⟨c0, c1, c2, _, n3⟩ := gbox_cells g3
  clear b3 B2 sx2 sy2 g2 q1 q2 FS
  go_wp2_with fail
  refine Calls.mono (TF.out _ sx3 sy3) ?_
  rintro e w4 ⟨u1, u2, rfl, o1, o2, _, b4⟩
  have B4 : Below w.heap.size w w4 := B3.trans (b4.mono B3.size)
  have sx4 := sx3.keep b4
  have sy4 := sy3.keep b4
  have g4 := gbox_keep g3 b4
  have q1 := o1.sl
  have q2 := o2.sl
  clear b4 B3 sx3 sy3 g3 o1 o2 c0 c1 c2
  go_wp2_with fail
  obtain ⟨W4, hW4⟩ : ∃ W4, W4 = w4.alloc (.cells #[.bool b, .slice (some ⟨u1, 0, none⟩) xs.length xs.length, .slice (some ⟨u2, 0, none⟩) ys.length ys.length] 38) := ⟨_, rfl⟩
  have bA : Below w4.heap.size w4 W4 := by rw [hW4]; exact (Below.refl _ w4).alloc (Nat.le_refl _) _
  have k4 : GBox W4 w4.heap.size 38 (.bool b) (.slice (some ⟨u1, 0, none⟩) xs.length xs.length) (.slice (some ⟨u2, 0, none⟩) ys.length ys.length) := by rw [hW4]; exact gbox_new _ _ _ _ _
  obtain ⟨bx, hbx⟩ : ∃ bx, bx = w4.heap.size := ⟨_, rfl⟩
  rw [← hbx] at k4
  rw [← hW4, ← hbx]
  clear hW4
  have B5 : Below w.heap.size w W4 := B4.trans (bA.mono B4.size)
  have sx5 := sx4.keep bA
  have sy5 := sy4.keep bA
  have g5 := gbox_keep g4 bA
  have q15 := q1.keep bA
  have q25 := q2.keep bA
  clear bA hbx B4 sx4 sy4 g4 q1 q2
  refine Calls.mono (FI.out _ _ _ q15 q25) ?_
  rintro e w6 ⟨rfl, b6⟩
  have B6 : Below w.heap.size w w6 := B5.trans (b6.mono B5.size)
  have sx6 := sx5.keep b6
  have sy6 := sy5.keep b6
  have g6 := gbox_keep g5 b6
  have k6 := gbox_keep k4 b6
  have q16 := q15.keep b6
  have q26 := q25.keep b6
  clear b6 B5 sx5 sy5 g5 k4 q15 q25 FI
  obtain ⟨c0, c1, c2, _, n6⟩ := gbox_cells g6
  obtain ⟨d0, d1, d2, _, m6⟩ := gbox_cells k6
  have EQ : Hid (∀ W v1 v2, Sl W (some ⟨u1, 0, none⟩) xs → Sl W (some ⟨u2, 0, none⟩) ys → Sl W (some ⟨v1, 0, none⟩) xs → Sl W (some ⟨v2, 0, none⟩) ys → Calls Try.prog 24 #[fracV b (some ⟨u1, 0, none⟩) xs.length xs.length (some ⟨u2, 0, none⟩) ys.length ys.length, fracV b (some ⟨v1, 0, none⟩) xs.length xs.length (some ⟨v2, 0, none⟩) ys.length ys.length] W fun e w' => e = .returned (.bool true) ∧ Below W.heap.size W w') := fun W v1 v2 h1 h2 h3 h4 => eqFrac_any b _ _ _ _ _ _ _ _ xs ys W h1 h2 h3 h4 hx hy
  unfold fracV at EQ
  have HB : Hid (Below w.heap.size w w6 ∧ Sl w6 a0 xs ∧ Sl w6 a1 ys ∧ GBox w6 bx 38 (.bool b) (.slice (some ⟨u1, 0, none⟩) xs.length xs.length) (.slice (some ⟨u2, 0, none⟩) ys.length ys.length) ∧ Sl w6 (some ⟨u1, 0, none⟩) xs ∧ Sl w6 (some ⟨u2, 0, none⟩) ys) := ⟨B6, sx6, sy6, k6, q16, q26⟩
  clear B6 sx6 sy6 g6 k6 q16 q26 hx hy
  go_wp2_with fail
  go_region_with (first | (go_at_call 22; refine Calls.mono (TF.out _ (by exact HB.out.2.1) (by exact HB.out.2.2.1)) ?_; rintro e w7 ⟨v1, v2, rfl, o1, o2, _, b7⟩; obtain ⟨e0, e1, e2, _, m7⟩ := gbox_cells (gbox_keep (by exact HB.out.2.2.2.1) b7); have s1 := o1.sl; have s2 := o2.sl; have t1 := Sl.keep (by exact HB.out.2.2.2.2.1) b7; have t2 := Sl.keep (by exact HB.out.2.2.2.2.2) b7; have B7 : Below w.heap.size w w7 := (by first | exact HB.out.1 | exact below_dN HB.out.1 1 | exact below_dN HB.out.1 2 : Below w.heap.size w _).trans (b7.mono (by exact HB.out.1.size))) | (go_at_call 24; refine Calls.mono (EQ.out _ _ _ (by exact t1) (by exact t2) (by exact s1) (by exact s2)) ?_; rintro e w8 ⟨rfl, b8⟩; have B8 : Below w.heap.size w w8 := (by first | exact B7 | exact below_dN B7 1 | exact below_dN B7 2 : Below w.heap.size w _).trans (b8.mono (by exact B7.size))))
  all_goals
    go_wp2
    go_ret
    exact ⟨rfl, B8⟩

set_option maxRecDepth 100000 in
theorem lifted (os : Os) (started : os.Started) (H : Type) (enc : TypeId × Value → H) :
    ReturnsInHanded {} Try.checked os 7 .any (Rows.fnExactFracOkSpec.pre6 enc Try.prog Try.f7 Rows.fnExactFracOkRow.domain false) (Rows.fnExactFracOkSpec.post enc Try.prog Try.f7 false true false false) := by
  refine returnsInHanded_of_change (C := Try.checked) own started (by kernel_rfl) Try.func7
    (ChangeSpec.witness6 (enc := enc) (C := Try.checked) false ⟨#[], #[.agg #[.bool false, .slice none 0 0, .slice none 0 0]], []⟩ 8 (by kernel_rfl) (by kernel_rfl) (by kernel_rfl) (by kernel_rfl)) ?_
  intro W base args ds gs before hval0 hW hcnd _
  have hval : ∀ (j : Nat) t v, Try.f7.params[j]? = some t → args[j]? = some v → Value.okWide Try.prog W .any base t v := hval0
  have hW' := hW
  obtain ⟨p, q, hA0, hV, rfl, hfz, hnd⟩ := hW
  have hA : DataW.TrodAll enc Try.prog W 0 (fun _ => true) true Try.f7.params.toList args.toList ds p := hA0
  rw [Try.params7] at hA hval
  obtain ⟨v0, vs0, d0, ds0, p0, q0, hargs, rfl, rfl, h0, r0⟩ := trodAll_cons hA
  obtain ⟨rfl, rfl, rfl⟩ := trodAll_nil r0
  obtain rfl : args = #[v0] := by cases args; simp_all
  obtain ⟨rfl, rfl⟩ := trodVars_none hV
  obtain ⟨cs, rfl, hcs⟩ := okWide_struct Try.underlying35 (hval 0 35 v0 rfl rfl)
  have k0 := h0
  have lt0 : ∀ x ∈ p0, x.block < W.heap.size := by obtain ⟨m, hm⟩ := k0; exact DataW.trod_lt m _ _ _ hm
  obtain ⟨b, a0, len0, cap0, z0, a1, len1, cap1, z1, rfl, w0, w1, hl0, hl1⟩ := frac_open hcs h0
  clear hA0 hval0
  refine (walk b a0 len0 cap0 z0 a1 len1 cap1 z1 W w0 w1 hl0 hl1).mono fun e W' ⟨he, bel⟩ => ?_
  subst he
  exact ⟨_, rfl, _, _, _, [], _, [], hW', trodAll_mk1 (shut_bool Try.underlying4 _), (trodAll_cons_mk (Below.trod laidOut (by kernel_rfl) (of_decide_eq_true (by kernel_rfl)) k0 bel lt0) trodAll_mk0), rfl, bel.frame _, fun h => by cases h⟩

theorem over : Rows.fnExactFracOkRow.holds Try.pinned (OpenSpec.ofChange Rows.fnExactFracOkSpec) :=
  OpenClaim.holds_of_wide 7 Try.f7 rfl rfl rfl rfl rfl rfl rfl ⟨rfl, rfl, rfl, rfl, rfl⟩ rfl rfl rfl rfl rfl (by kernel_rfl) Try.func7 (by kernel_rfl)
    (of_decide_eq_true (by kernel_rfl)) (by unfold Func.isWrapper; first | (rw [if_pos (by decide +kernel)]; kernel_rfl) | (rw [if_neg (by decide +kernel)]; exact ⟨rfl, rfl⟩))
    (fun os started H enc _ => lifted os started H enc)

theorem proved : Rows.FnExactFracOkSaid := over
end fnExactFracOk
theorem fnExactFracOk_holds : Rows.FnExactFracOkSaid := fnExactFracOk.proved
#print axioms fnExactFracOk_holds
end Go.Proofs.Ythokphoojmpajae
