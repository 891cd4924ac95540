/- For every slice of ints the law FnExactNatRoot returns true and leaves its argument as it was; no condition. -/
import Derived.Test.YthokphoojmpajaeRows
import Derived.WalkKit
import Derived.ProofKit
import Derived.OpenShut
import Derived.ShutString
import Derived.ChangeOld
import Derived.Below
import Derived.Test.YthokphoojmpajaeCopy
import Derived.Test.YthokphoojmpajaeMark
import Derived.Test.YthokphoojmpajaeNatRoot
namespace Go.Proofs.Ythokphoojmpajae
namespace fnExactNatRoot
open Go.ChangeShapes Go.WideShapes Go.ChangeAt Go.RowKit Go.Proofs.Pin
open Go.ChangeMaps (open_string shut_string)
set_option linter.unusedVariables false

theorem own : ownKnob Try.prog.godebug = none := by kernel_rfl
theorem laidOut : laidOutB Try.prog = true := by kernel_rfl

/-! ### STEP 1: THE WALK: the Go text returns true, AND WRITES NOTHING THAT WAS THERE: 'Below w.heap.size w w'' (Derived/Below.lean: '.refl', '.alloc', '.drew', '.setCell' at a new block, '.trans'). Open each 'IsRow' by 'rcases' AHEAD of 'go_enter'; part every test ahead of the walk. -/

set_option maxRecDepth 20000 in
theorem walk (a0 : Option Addr) (len0 cap0 : Nat) (z0 : List Int) (w : World) (w0 : IsRow .i64 w a0 len0 cap0 z0) :
    Calls Try.prog 3 #[.slice a0 len0 cap0] w fun e w' => e = .returned (.bool true) ∧ Below w.heap.size w w' := by
  obtain ⟨xs, hx⟩ : ∃ xs, Sl w a0 xs ∧ xs.length = len0 := ⟨_, isRow_sl w0⟩
  clear w0
  obtain ⟨sx, rfl⟩ := hx
  by_cases hb0 : (1048576 : Int) < (xs.length : Int)
  · go_enter Try.func3, Try.ntmps3
    go_wp2
    go_ret
    exact ⟨rfl, Below.refl _ _⟩
  have hx : xs.length ≤ 1048576 := by omega
  have AX : Hid (∀ g, w.heap.size ≤ g → Apart a0 xs g) := fun g hg => sx.later hg
  have CS : Hid (∀ (a : Option Addr) (ca : Nat) (wr : World), Sl wr a xs → xs.length ≤ ca → Calls Try.prog 8 #[.slice a xs.length ca] wr fun e w' => ∃ r cr, e = .returned (.tuple #[.slice r (rtL xs).length cr, .bool (rtX xs), .bool (okB xs)]) ∧ OwnI w' wr.heap.size r cr (rtL xs) ∧ Below wr.heap.size wr w') := fun a ca wr h1 h2 => specRoot_op a ca xs wr h1 hx h2
  have CI : Hid (∀ (a : Option Addr) (ca : Nat) (wr : World), Sl wr a xs → xs.length ≤ ca → Calls Try.prog 10 #[.slice a xs.length ca] wr fun e w' => ∃ r cr, e = .returned (.tuple #[.slice r (rtL xs).length cr, .bool (rtX xs), .bool (okB xs)]) ∧ OwnI w' wr.heap.size r cr (rtL xs) ∧ Below wr.heap.size wr w') := fun a ca wr h1 h2 => implRoot_op a ca xs wr h1 hx h2
  have hRl := rtL_len xs
  obtain ⟨R, hR⟩ : ∃ R, R = rtL xs := ⟨_, rfl⟩
  obtain ⟨bx, hbx⟩ : ∃ bx, bx = rtX xs := ⟨_, rfl⟩
  obtain ⟨bb, hbb⟩ : ∃ bb, bb = okB xs := ⟨_, rfl⟩
  rw [← hR] at hRl CS CI
  rw [← hbx] at CS CI
  rw [← hbb] at CS CI
  clear hR hbb hbx
  have hnx : (bx != bx) = false := by simp
  have hR2 : R.length ≤ 1048576 := by omega
  have hne : (bb != bb) = false := by simp
  have hex : decide (xs = xs) = true := by simp
  have heR : decide (R = R) = true := by simp
  have hneI : ((1 : Int) + R.length != 1 + R.length) = false := by simp
  have hxI : (xs.length : Int) ≤ 1048576 := by omega
  have hRI : (R.length : Int) ≤ 256 := by omega
  go_enter Try.func3, Try.ntmps3
  go_wp2_with fail
  refine (toIntS_any _ _ xs _ sx hx).mono ?_
  rintro e w1 ⟨rfl, o1, b1⟩
  have p1 := Sl.of_own o1
  have sx1 := sx.keep b1
  have B1 : Below w.heap.size w w1 := b1
  clear o1 sx b1
  go_wp2_with fail
  refine Calls.mono (CS.out _ _ _ p1 (Nat.le_refl _)) ?_
  rintro e w3 ⟨r0, cr0, rfl, o3, b3⟩
  have sw3 := o3.sl
  have AW : Hid (∀ g, w3.heap.size ≤ g → Apart r0 R g) := fun g hg => sw3.later hg
  have sx3 := sx1.keep b3
  have B3 : Below w.heap.size w w3 := B1.trans (b3.mono B1.size)
  clear p1 sx1 b3 B1 o3
  go_wp2_with fail
  refine (toIntS_any _ _ xs _ sx3 hx).mono ?_
  rintro e w4 ⟨rfl, o4, b4⟩
  have x4 : OwnI w4 w3.heap.size (some ⟨w3.heap.size, 0, none⟩) xs.length xs := o4
  have l4 : w3.heap.size < w4.heap.size := own_lt x4
  have sw4 := sw3.keep b4
  have sx4 := sx3.keep b4
  have B4 : Below w.heap.size w w4 := B3.trans (b4.mono B3.size)
  clear o4 sw3 sx3 b4
  go_wp2_with fail
  refine Calls.mono (CI.out _ _ _ x4.sl (Nat.le_refl _)) ?_
  rintro e w6 ⟨rg, cg, rfl, o6, b6⟩
  have G6 : Hid (∀ k, rg.map (·.block) = some k → w4.heap.size ≤ k) := own_ge o6
  have x6 := x4.keep b6
  have sw6 := sw4.keep b6
  have sx6 := sx4.keep b6
  have B6 : Below w.heap.size w w6 := B4.trans (b6.mono B4.size)
  have z6 : w4.heap.size ≤ w6.heap.size := b6.size
  clear x4 sw4 sx4 b6
  go_wp2_with fail
  refine (eqIntS_any _ _ _ _ R R _ o6.sl sw6 hR2 hR2).mono ?_
  rintro e w6' ⟨rfl, q6, rfl⟩
  go_wp2_with fail
  refine (toIntS_any _ _ xs (w6.drewN q6) sx6 hx).mono ?_
  rintro e w7 ⟨rfl, o7, b7⟩
  have t7 := Sl.of_own o7
  have c7 := below_un b7
  have x7 := x6.keep c7
  have g7 := o6.keep c7
  have sw7 := sw6.keep c7
  have sx7 := sx6.keep c7
  have B7 : Below w.heap.size w w7 := B6.trans (c7.mono B6.size)
  have z7 : w6.heap.size ≤ w7.heap.size := c7.size
  clear o6 x6 sw6 sx6 b7 c7 o7
  go_wp2_with fail
  refine (eqIntS_any _ _ _ _ xs xs _ x7.sl t7 hx hx).mono ?_
  rintro e w7' ⟨rfl, q7, rfl⟩
  clear t7
  have x8' : OwnI (w7.drewN q7) w3.heap.size (some ⟨w3.heap.size, 0, none⟩) xs.length xs := x7
  go_wp2_with fail
  refine (mark_any _ _ _ xs 1 _ x8' hx (by omega) (by omega)).mono ?_
  rintro e w9 ⟨rfl, _, m9⟩
  have m9' : w7.grownBy w9 (some w3.heap.size) := grown_un m9
  have g10 := g7.keptR m9' (fun k hk j hj => by cases hk; have := G6.out j hj; omega)
  have sw9 := sw7.apart m9' (AW.out _ (by omega))
  have sx10 := sx7.apart m9' (AX.out _ B3.size)
  have B10 : Below w.heap.size w w9 := B7.grown m9' B7.size (fun k hk => by cases hk; exact B3.size)
  clear x7 x8' g7 sw7 sx7 m9 m9'
  go_wp2_with fail
  refine (eqIntS_any _ _ _ _ R R _ g10.sl sw9 hR2 hR2).mono ?_
  rintro e w9' ⟨rfl, q10, rfl⟩
  have g10' : OwnI (w9.drewN q10) w4.heap.size rg cg R := g10
  go_wp2_with fail
  refine (mark_any _ _ _ R 1 _ g10' hR2 (by omega) (by omega)).mono ?_
  rintro e w11 ⟨rfl, g11, m11⟩
  have m11' : w9.grownBy w11 (rg.map (·.block)) := grown_un m11
  have sw11 := sw9.apartR m11' (fun g hg => AW.out g (by have := G6.out g hg; omega))
  have sx11 := sx10.apartR m11' (fun g hg => AX.out g (by have := G6.out g hg; have := B4.size; omega))
  have B11 : Below w.heap.size w w11 := B10.grown m11' B10.size (fun k hk => by have := G6.out k hk; have := B4.size; omega)
  have sg11 := g11.sl
  clear g10 g10' sw9 sx10 m11 m11' g11
  go_wp2_with fail
  refine (held_any _ _ R.length 1 _ sg11 hR2 (by omega) (by omega)).mono ?_
  rintro e w11' ⟨rfl, rfl⟩
  go_wp2_with fail
  refine (toIntS_any _ _ xs _ sx11 hx).mono ?_
  rintro e w12 ⟨rfl, o12, b12⟩
  have u12 := Sl.of_own o12
  have sw12 := sw11.keep b12
  have sg12 := sg11.keep b12
  have B12 := B11.trans (b12.mono B11.size)
  clear o12 b12 sx11 sw11 sg11
  go_wp2_with fail
  refine Calls.mono (CI.out _ _ _ u12 (Nat.le_refl _)) ?_
  rintro e w14 ⟨rh, ch, rfl, o14, b14⟩
  have sh14 := o14.sl
  have sw14 := sw12.keep b14
  have sg14 := sg12.keep b14
  have B14 := B12.trans (b14.mono B12.size)
  clear o14 b14 u12 sw12 sg12
  go_wp2_with fail
  refine (eqIntS_any _ _ _ _ R R _ sh14 sw14 hR2 hR2).mono ?_
  rintro e w14' ⟨rfl, q14, rfl⟩
  have sg15 : Sl (w14.drewN q14) rg (marked 1 R.length) := sg14
  have B15 := below_dN B14 q14
  clear sg14 sw14 sh14
  go_wp2_with fail
  refine (held_any _ _ R.length 1 _ sg15 hR2 (by omega) (by omega)).mono ?_
  rintro e w15 ⟨rfl, rfl⟩
  go_wp2
  go_ret
  exact ⟨rfl, B15⟩

/-! ### THE ROW's STEP: WRITTEN OUT: LEAVE IT -/
set_option maxRecDepth 100000 in
theorem lifted (os : Os) (started : os.Started) (H : Type) (enc : TypeId × Value → H) :
    ReturnsInHanded {} Try.checked os 3 .any (Rows.fnExactNatRootSpec.pre6 enc Try.prog Try.f3 Rows.fnExactNatRootRow.domain false) (Rows.fnExactNatRootSpec.post enc Try.prog Try.f3 false true false false) := by
  refine returnsInHanded_of_change (C := Try.checked) own started (by kernel_rfl) Try.func3
    (ChangeSpec.witness6 (enc := enc) (C := Try.checked) false ⟨#[], #[.slice none 0 0], []⟩ 8 (by kernel_rfl) (by kernel_rfl) (by kernel_rfl) (by kernel_rfl)) ?_
  intro W base args ds gs before hval0 hW hcnd _
  have hval : ∀ (j : Nat) t v, Try.f3.params[j]? = some t → args[j]? = some v → Value.okWide Try.prog W .any base t v := hval0
  have hW' := hW
  obtain ⟨p, q, hA0, hV, rfl, hfz, hnd⟩ := hW
  have hA : DataW.TrodAll enc Try.prog W 0 (fun _ => true) true Try.f3.params.toList args.toList ds p := hA0
  rw [Try.params3] at hA hval
  obtain ⟨v0, vs0, d0, ds0, p0, q0, hargs, rfl, rfl, h0, r0⟩ := trodAll_cons hA
  obtain ⟨rfl, rfl, rfl⟩ := trodAll_nil r0
  obtain rfl : args = #[v0] := by cases args; simp_all
  obtain ⟨rfl, rfl⟩ := trodVars_none hV
  obtain ⟨a0, len0, cap0, rfl⟩ := okWide_slice Try.underlying22 (hval 0 22 v0 rfl rfl)
  have k0 := h0
  have lt0 : ∀ x ∈ p0, x.block < W.heap.size := by obtain ⟨m, hm⟩ := k0; exact DataW.trod_lt m _ _ _ hm
  obtain ⟨z0, w0⟩ : ∃ zs, IsRow .i64 W a0 len0 cap0 zs := by
    obtain ⟨fuel, hf⟩ := h0
    rcases open_ints Try.underlying22 Try.underlying3 (by kernel_rfl) hf with ⟨hcs, _⟩ | ⟨x, l, c, zs, hcs, _, hl, hm, hz, _, hcell, hwz⟩
    · simp [Value.cells] at hcs
      obtain ⟨rfl, rfl, rfl⟩ := hcs
      exact ⟨[], .inl ⟨rfl, rfl, rfl, rfl⟩⟩
    · simp [Value.cells] at hcs
      obtain ⟨rfl, rfl, rfl⟩ := hcs
      exact ⟨zs, .inr ⟨_, rfl, hl, hm, by simpa using hz, hcell, hwz⟩⟩
  clear hA0 hval0
  refine (walk a0 len0 cap0 z0 W w0).mono fun e W' ⟨he, bel⟩ => ?_
  subst he
  exact ⟨_, rfl, _, _, _, [], _, [], hW', trodAll_mk1 (shut_bool Try.underlying4 _), (trodAll_cons_mk (Below.trod laidOut (by kernel_rfl) (of_decide_eq_true (by kernel_rfl)) k0 bel lt0) trodAll_mk0), rfl, bel.frame _, fun h => by cases h⟩

theorem over : Rows.fnExactNatRootRow.holds Try.pinned (OpenSpec.ofChange Rows.fnExactNatRootSpec) :=
  OpenClaim.holds_of_wide 3 Try.f3 rfl rfl rfl rfl rfl rfl rfl ⟨rfl, rfl, rfl, rfl, rfl⟩ rfl rfl rfl rfl rfl (by kernel_rfl) Try.func3 (by kernel_rfl)
    (of_decide_eq_true (by kernel_rfl)) (by unfold Func.isWrapper; first | (rw [if_pos (by decide +kernel)]; kernel_rfl) | (rw [if_neg (by decide +kernel)]; exact ⟨rfl, rfl⟩))
    (fun os started H enc _ => lifted os started H enc)

/-- ████ THE STATEMENT ████ -/
theorem proved : Rows.FnExactNatRootSaid := over
end fnExactNatRoot
theorem fnExactNatRoot_holds : Rows.FnExactNatRootSaid := fnExactNatRoot.proved
#print axioms fnExactNatRoot_holds
end Go.Proofs.Ythokphoojmpajae
