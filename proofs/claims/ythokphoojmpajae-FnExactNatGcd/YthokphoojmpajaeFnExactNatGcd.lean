/- For every two slices of ints the law FnExactNatGcd returns true and leaves its arguments as they were; no condition. -/
import Derived.Test.YthokphoojmpajaeRows
import Derived.WalkKit
import Derived.ProofKit
import Derived.OpenShut
import Derived.ShutString
import Derived.ChangeOld
import Derived.Below
import Derived.Test.YthokphoojmpajaeCopy
import Derived.Test.YthokphoojmpajaeMark
import Derived.Test.YthokphoojmpajaeNatGcd
namespace Go.Proofs.Ythokphoojmpajae
namespace fnExactNatGcd
open Go.ChangeShapes Go.WideShapes Go.ChangeAt Go.RowKit Go.Proofs.Pin
open Go.ChangeMaps (open_string shut_string)
set_option linter.unusedVariables false

theorem own : ownKnob Try.prog.godebug = none := by kernel_rfl
theorem laidOut : laidOutB Try.prog = true := by kernel_rfl

/-! ### STEP 1: THE WALK: the Go text returns true, AND WRITES NOTHING THAT WAS THERE: 'Below w.heap.size w w'' (Derived/Below.lean: '.refl', '.alloc', '.drew', '.setCell' at a new block, '.trans'). Open each 'IsRow' by 'rcases' AHEAD of 'go_enter'; part every test ahead of the walk. -/
theorem walk (a0 : Option Addr) (len0 cap0 : Nat) (z0 : List Int) (a1 : Option Addr) (len1 cap1 : Nat) (z1 : List Int) (w : World) (w0 : IsRow .i64 w a0 len0 cap0 z0) (w1 : IsRow .i64 w a1 len1 cap1 z1) :
    Calls Try.prog 4 #[.slice a0 len0 cap0, .slice a1 len1 cap1] w fun e w' => e = .returned (.bool true) ∧ Below w.heap.size w w' := by
  obtain ⟨xs, hx⟩ : ∃ xs, Sl w a0 xs ∧ xs.length = len0 := ⟨_, isRow_sl w0⟩
  obtain ⟨ys, hy⟩ : ∃ ys, Sl w a1 ys ∧ ys.length = len1 := ⟨_, isRow_sl w1⟩
  clear w0 w1
  obtain ⟨sx, rfl⟩ := hx
  obtain ⟨sy, rfl⟩ := hy
  by_cases hb0 : (1048576 : Int) < (xs.length : Int)
  · go_enter Try.func4, Try.ntmps4
    go_wp2
    go_ret
    exact ⟨rfl, Below.refl _ _⟩
  by_cases hb1 : (1048576 : Int) < (ys.length : Int)
  · go_enter Try.func4, Try.ntmps4
    go_wp2
    go_ret
    exact ⟨rfl, Below.refl _ _⟩
  have hx : xs.length ≤ 1048576 := by omega
  have hy : ys.length ≤ 1048576 := by omega
  have AX : Hid (∀ g, w.heap.size ≤ g → Apart a0 xs g) := fun g hg => sx.later hg
  have AY : Hid (∀ g, w.heap.size ≤ g → Apart a1 ys g) := fun g hg => sy.later hg
  have CS : Hid (∀ (a b : Option Addr) (ca cb : Nat) (wr : World), Sl wr a xs → Sl wr b ys → xs.length ≤ ca → ys.length ≤ cb → Calls Try.prog 14 #[.slice a xs.length ca, .slice b ys.length cb] wr fun e w' => ∃ r cr, e = .returned (.tuple #[.slice r (ansL (op2 (fun x y => some (Nat.gcd x y)) xs ys)).length cr, .bool (ansB (op2 (fun x y => some (Nat.gcd x y)) xs ys))]) ∧ OwnI w' wr.heap.size r cr (ansL (op2 (fun x y => some (Nat.gcd x y)) xs ys)) ∧ Below wr.heap.size wr w') := fun a b ca cb wr h1 h2 h3 h4 => specGcd_op a b ca cb xs ys wr h1 h2 hx hy h3 h4
  have CI : Hid (∀ (a b : Option Addr) (ca cb : Nat) (wr : World), Sl wr a xs → Sl wr b ys → xs.length ≤ ca → ys.length ≤ cb → Calls Try.prog 15 #[.slice a xs.length ca, .slice b ys.length cb] wr fun e w' => ∃ r cr, e = .returned (.tuple #[.slice r (ansL (op2 (fun x y => some (Nat.gcd x y)) xs ys)).length cr, .bool (ansB (op2 (fun x y => some (Nat.gcd x y)) xs ys))]) ∧ OwnI w' wr.heap.size r cr (ansL (op2 (fun x y => some (Nat.gcd x y)) xs ys)) ∧ Below wr.heap.size wr w') := fun a b ca cb wr h1 h2 h3 h4 => implGcd_op a b ca cb xs ys wr h1 h2 hx hy h3 h4
  have hRl := ansL_len (op2 (fun x y => some (Nat.gcd x y)) xs ys)
  obtain ⟨R, hR⟩ : ∃ R, R = ansL (op2 (fun x y => some (Nat.gcd x y)) xs ys) := ⟨_, rfl⟩
  obtain ⟨bb, hbb⟩ : ∃ bb, bb = ansB (op2 (fun x y => some (Nat.gcd x y)) xs ys) := ⟨_, rfl⟩
  rw [← hR] at hRl CS CI
  rw [← hbb] at CS CI
  clear hR hbb
  have hR2 : R.length ≤ 1048576 := by omega
  have hne : (bb != bb) = false := by simp
  have hex : decide (xs = xs) = true := by simp
  have hey : decide (ys = ys) = true := by simp
  have heR : decide (R = R) = true := by simp
  have hneI : ((1 : Int) + R.length != 1 + R.length) = false := by simp
  have hxI : (xs.length : Int) ≤ 1048576 := by omega
  have hyI : (ys.length : Int) ≤ 1048576 := by omega
  have hRI : (R.length : Int) ≤ 256 := by omega
  go_enter Try.func4, Try.ntmps4
  go_wp2_with fail
  refine (toIntS_any _ _ xs _ sx hx).mono ?_
  rintro e w1 ⟨rfl, o1, b1⟩
  have p1 := Sl.of_own o1
  have sx1 := sx.keep b1
  have sy1 := sy.keep b1
  clear o1 sx sy
  go_wp2_with fail
  refine (toIntS_any _ _ ys _ sy1 hy).mono ?_
  rintro e w2 ⟨rfl, o2, b2⟩
  have p2 := Sl.of_own o2
  have p1' := p1.keep b2
  have sx2 := sx1.keep b2
  have sy2 := sy1.keep b2
  have B2 : Below w.heap.size w w2 := b1.trans (b2.mono b1.size)
  clear o2 p1 sx1 sy1 b1 b2
  go_wp2_with fail
  refine Calls.mono (CS.out _ _ _ _ _ p1' p2 (Nat.le_refl _) (Nat.le_refl _)) ?_
  rintro e w3 ⟨r0, cr0, rfl, o3, b3⟩
  have sw3 := o3.sl
  have AW : Hid (∀ g, w3.heap.size ≤ g → Apart r0 R g) := fun g hg => sw3.later hg
  have sx3 := sx2.keep b3
  have sy3 := sy2.keep b3
  have B3 : Below w.heap.size w w3 := B2.trans (b3.mono B2.size)
  clear p1' p2 sx2 sy2 b3 B2 o3
  go_wp2_with fail
  refine (toIntS_any _ _ xs _ sx3 hx).mono ?_
  rintro e w4 ⟨rfl, o4, b4⟩
  have x4 : OwnI w4 w3.heap.size (some ⟨w3.heap.size, 0, none⟩) xs.length xs := o4
  have l4 : w3.heap.size < w4.heap.size := own_lt x4
  have sw4 := sw3.keep b4
  have sx4 := sx3.keep b4
  have sy4 := sy3.keep b4
  have B4 : Below w.heap.size w w4 := B3.trans (b4.mono B3.size)
  clear o4 sw3 sx3 sy3 b4
  go_wp2_with fail
  refine (toIntS_any _ _ ys _ sy4 hy).mono ?_
  rintro e w5 ⟨rfl, o5, b5⟩
  have y5 : OwnI w5 w4.heap.size (some ⟨w4.heap.size, 0, none⟩) ys.length ys := o5
  have l5 : w4.heap.size < w5.heap.size := own_lt y5
  have x5 := x4.keep b5
  have sw5 := sw4.keep b5
  have sx5 := sx4.keep b5
  have sy5 := sy4.keep b5
  have B5 : Below w.heap.size w w5 := B4.trans (b5.mono B4.size)
  clear o5 x4 sw4 sx4 sy4 b5
  go_wp2_with fail
  refine Calls.mono (CI.out _ _ _ _ _ x5.sl y5.sl (Nat.le_refl _) (Nat.le_refl _)) ?_
  rintro e w6 ⟨rg, cg, rfl, o6, b6⟩
  have G6 : Hid (∀ k, rg.map (·.block) = some k → w5.heap.size ≤ k) := own_ge o6
  have x6 := x5.keep b6
  have y6 := y5.keep b6
  have sw6 := sw5.keep b6
  have sx6 := sx5.keep b6
  have sy6 := sy5.keep b6
  have B6 : Below w.heap.size w w6 := B5.trans (b6.mono B5.size)
  have z6 : w5.heap.size ≤ w6.heap.size := b6.size
  clear x5 y5 sw5 sx5 sy5 b6
  go_wp2_with fail
  refine (eqIntS_any _ _ _ _ R R _ o6.sl sw6 hR2 hR2).mono ?_
  rintro e w6' ⟨rfl, q6, rfl⟩
  go_wp2_with fail
  refine (toIntS_any _ _ xs (w6.drewN q6) sx6 hx).mono ?_
  rintro e w7 ⟨rfl, o7, b7⟩
  have t7 := Sl.of_own o7
  have c7 := below_un b7
  have x7 := x6.keep c7
  have y7 := y6.keep c7
  have g7 := o6.keep c7
  have sw7 := sw6.keep c7
  have sx7 := sx6.keep c7
  have sy7 := sy6.keep c7
  have B7 : Below w.heap.size w w7 := B6.trans (c7.mono B6.size)
  have z7 : w6.heap.size ≤ w7.heap.size := c7.size
  clear o6 x6 y6 sw6 sx6 sy6 b7 c7 o7
  go_wp2_with fail
  refine (eqIntS_any _ _ _ _ xs xs _ x7.sl t7 hx hx).mono ?_
  rintro e w7' ⟨rfl, q7, rfl⟩
  go_wp2_with fail
  refine (toIntS_any _ _ ys (w7.drewN q7) sy7 hy).mono ?_
  rintro e w8 ⟨rfl, o8, b8⟩
  have t8 := Sl.of_own o8
  have c8 := below_un b8
  have x8 := x7.keep c8
  have y8 := y7.keep c8
  have g8 := g7.keep c8
  have sw8 := sw7.keep c8
  have sx8 := sx7.keep c8
  have sy8 := sy7.keep c8
  have B8 : Below w.heap.size w w8 := B7.trans (c8.mono B7.size)
  have z8 : w7.heap.size ≤ w8.heap.size := c8.size
  clear t7 g7 x7 y7 sw7 sx7 sy7 b8 c8 o8
  go_wp2_with fail
  refine (eqIntS_any _ _ _ _ ys ys _ y8.sl t8 hy hy).mono ?_
  rintro e w8' ⟨rfl, q8, rfl⟩
  clear t8
  have x8' : OwnI (w8.drewN q8) w3.heap.size (some ⟨w3.heap.size, 0, none⟩) xs.length xs := x8
  have z8' : w8.heap.size = (w8.drewN q8).heap.size := rfl
  have HZ8 : Hid (w8.heap.size = (w8.drewN q8).heap.size) := z8'
  clear z8'
  go_wp2_with fail
  refine (mark_any _ _ _ xs 1 _ x8' hx (by omega) (by omega)).mono ?_
  rintro e w9 ⟨rfl, _, m9⟩
  have m9' : w8.grownBy w9 (some w3.heap.size) := grown_un m9
  have y9 : OwnI w9 w4.heap.size (some ⟨w4.heap.size, 0, none⟩) ys.length ys := y8.keptR m9' (fun k hk j hj => by cases hk; cases hj; exact Nat.ne_of_gt l4)
  have g9 := g8.keptR m9' (fun k hk j hj => by cases hk; have := G6.out j hj; omega)
  have sw9 := sw8.apart m9' (AW.out _ (by omega))
  have sx9 := sx8.apart m9' (AX.out _ B3.size)
  have sy9 := sy8.apart m9' (AY.out _ B3.size)
  have B9 : Below w.heap.size w w9 := B8.grown m9' B8.size (fun k hk => by cases hk; exact B3.size)
  have z9 : w8.heap.size ≤ w9.heap.size := m9'.size
  clear x8 x8' y8 g8 sw8 sx8 sy8 m9 m9'
  go_wp2_with fail
  refine (mark_any _ _ _ ys (1 + xs.length) _ y9 hy (by omega) (by omega)).mono ?_
  rintro e w10 ⟨rfl, _, m10⟩
  have m10' : w9.grownBy w10 (some w4.heap.size) := m10
  have g10 := g9.keptR m10' (fun k hk j hj => by cases hk; have := G6.out j hj; omega)
  have sw10 := sw9.apart m10' (AW.out _ (by omega))
  have sx10 := sx9.apart m10' (AX.out _ B4.size)
  have sy10 := sy9.apart m10' (AY.out _ B4.size)
  have B10 : Below w.heap.size w w10 := B9.grown m10' B9.size (fun k hk => by cases hk; exact B4.size)
  have z10 : w9.heap.size ≤ w10.heap.size := m10'.size
  clear y9 g9 sw9 sx9 sy9 m10 m10'
  go_wp2_with fail
  refine (eqIntS_any _ _ _ _ R R _ g10.sl sw10 hR2 hR2).mono ?_
  rintro e w10' ⟨rfl, q10, rfl⟩
  have g10' : OwnI (w10.drewN q10) w5.heap.size rg cg R := g10
  go_wp2_with fail
  refine (mark_any _ _ _ R 1 _ g10' hR2 (by omega) (by omega)).mono ?_
  rintro e w11 ⟨rfl, g11, m11⟩
  have m11' : w10.grownBy w11 (rg.map (·.block)) := grown_un m11
  have sw11 := sw10.apartR m11' (fun g hg => AW.out g (by have := G6.out g hg; omega))
  have sx11 := sx10.apartR m11' (fun g hg => AX.out g (by have := G6.out g hg; have := B5.size; omega))
  have sy11 := sy10.apartR m11' (fun g hg => AY.out g (by have := G6.out g hg; have := B5.size; omega))
  have B11 : Below w.heap.size w w11 := B10.grown m11' B10.size (fun k hk => by have := G6.out k hk; have := B5.size; omega)
  have sg11 := g11.sl
  clear g10 g10' sw10 sx10 sy10 m11 m11' g11
  go_wp2_with fail
  refine (held_any _ _ R.length 1 _ sg11 hR2 (by omega) (by omega)).mono ?_
  rintro e w11' ⟨rfl, rfl⟩
  go_wp2_with fail
  refine (toIntS_any _ _ xs _ sx11 hx).mono ?_
  rintro e w12 ⟨rfl, o12, b12⟩
  have u12 := Sl.of_own o12
  have sy12 := sy11.keep b12
  have sw12 := sw11.keep b12
  have sg12 := sg11.keep b12
  have B12 := B11.trans (b12.mono B11.size)
  clear o12 b12 sx11 sy11 sw11 sg11
  go_wp2_with fail
  refine (toIntS_any _ _ ys _ sy12 hy).mono ?_
  rintro e w13 ⟨rfl, o13, b13⟩
  have v13 := Sl.of_own o13
  have u13 := u12.keep b13
  have sw13 := sw12.keep b13
  have sg13 := sg12.keep b13
  have B13 := B12.trans (b13.mono B12.size)
  clear o13 b13 u12 sy12 sw12 sg12
  go_wp2_with fail
  refine Calls.mono (CI.out _ _ _ _ _ u13 v13 (Nat.le_refl _) (Nat.le_refl _)) ?_
  rintro e w14 ⟨rh, ch, rfl, o14, b14⟩
  have sh14 := o14.sl
  have sw14 := sw13.keep b14
  have sg14 := sg13.keep b14
  have B14 := B13.trans (b14.mono B13.size)
  clear o14 b14 u13 v13 sw13 sg13
  go_wp2_with fail
  refine (eqIntS_any _ _ _ _ R R _ sh14 sw14 hR2 hR2).mono ?_
  rintro e w14' ⟨rfl, q14, rfl⟩
  have sg15 : Sl (w14.drewN q14) rg (marked 1 R.length) := sg14
  have B15 := below_dN B14 q14
  clear sg14 sw14 sh14
  go_wp2_with fail
  refine (held_any _ _ R.length 1 _ sg15 hR2 (by omega) (by omega)).mono ?_
  rintro e w15 ⟨rfl, rfl⟩
  go_wp2
  go_ret
  exact ⟨rfl, B15⟩

/-! ### THE ROW's STEP: WRITTEN OUT: LEAVE IT -/
set_option maxRecDepth 100000 in
theorem lifted (os : Os) (started : os.Started) (H : Type) (enc : TypeId × Value → H) :
    ReturnsInHanded {} Try.checked os 4 .any (Rows.fnExactNatGcdSpec.pre6 enc Try.prog Try.f4 Rows.fnExactNatGcdRow.domain false) (Rows.fnExactNatGcdSpec.post enc Try.prog Try.f4 false true false false) := by
  refine returnsInHanded_of_change (C := Try.checked) own started (by kernel_rfl) Try.func4
    (ChangeSpec.witness6 (enc := enc) (C := Try.checked) false ⟨#[], #[.slice none 0 0, .slice none 0 0], []⟩ 8 (by kernel_rfl) (by kernel_rfl) (by kernel_rfl) (by kernel_rfl)) ?_
  intro W base args ds gs before hval0 hW hcnd _
  have hval : ∀ (j : Nat) t v, Try.f4.params[j]? = some t → args[j]? = some v → Value.okWide Try.prog W .any base t v := hval0
  have hW' := hW
  obtain ⟨p, q, hA0, hV, rfl, hfz, hnd⟩ := hW
  have hA : DataW.TrodAll enc Try.prog W 0 (fun _ => true) true Try.f4.params.toList args.toList ds p := hA0
  rw [Try.params4] at hA hval
  obtain ⟨v0, vs0, d0, ds0, p0, q0, hargs, rfl, rfl, h0, r0⟩ := trodAll_cons hA
  obtain ⟨v1, vs1, d1, ds1, p1, q1, rfl, rfl, rfl, h1, r1⟩ := trodAll_cons r0
  obtain ⟨rfl, rfl, rfl⟩ := trodAll_nil r1
  obtain rfl : args = #[v0, v1] := by cases args; simp_all
  obtain ⟨rfl, rfl⟩ := trodVars_none hV
  obtain ⟨a0, len0, cap0, rfl⟩ := okWide_slice Try.underlying22 (hval 0 22 v0 rfl rfl)
  have k0 := h0
  have lt0 : ∀ x ∈ p0, x.block < W.heap.size := by obtain ⟨m, hm⟩ := k0; exact DataW.trod_lt m _ _ _ hm
  obtain ⟨z0, w0⟩ : ∃ zs, IsRow .i64 W a0 len0 cap0 zs := by
    obtain ⟨fuel, hf⟩ := h0
    rcases open_ints Try.underlying22 Try.underlying3 (by kernel_rfl) hf with ⟨hcs, _⟩ | ⟨x, l, c, zs, hcs, _, hl, hm, hz, _, hcell, hwz⟩
    · simp [Value.cells] at hcs
      obtain ⟨rfl, rfl, rfl⟩ := hcs
      exact ⟨[], .inl ⟨rfl, rfl, rfl, rfl⟩⟩
    · simp [Value.cells] at hcs
      obtain ⟨rfl, rfl, rfl⟩ := hcs
      exact ⟨zs, .inr ⟨_, rfl, hl, hm, by simpa using hz, hcell, hwz⟩⟩
  obtain ⟨a1, len1, cap1, rfl⟩ := okWide_slice Try.underlying22 (hval 1 22 v1 rfl rfl)
  have k1 := h1
  have lt1 : ∀ x ∈ p1, x.block < W.heap.size := by obtain ⟨m, hm⟩ := k1; exact DataW.trod_lt m _ _ _ hm
  obtain ⟨z1, w1⟩ : ∃ zs, IsRow .i64 W a1 len1 cap1 zs := by
    obtain ⟨fuel, hf⟩ := h1
    rcases open_ints Try.underlying22 Try.underlying3 (by kernel_rfl) hf with ⟨hcs, _⟩ | ⟨x, l, c, zs, hcs, _, hl, hm, hz, _, hcell, hwz⟩
    · simp [Value.cells] at hcs
      obtain ⟨rfl, rfl, rfl⟩ := hcs
      exact ⟨[], .inl ⟨rfl, rfl, rfl, rfl⟩⟩
    · simp [Value.cells] at hcs
      obtain ⟨rfl, rfl, rfl⟩ := hcs
      exact ⟨zs, .inr ⟨_, rfl, hl, hm, by simpa using hz, hcell, hwz⟩⟩
  clear hA0 hval0
  refine (walk a0 len0 cap0 z0 a1 len1 cap1 z1 W w0 w1).mono fun e W' ⟨he, bel⟩ => ?_
  subst he
  exact ⟨_, rfl, _, _, _, [], _, [], hW', trodAll_mk1 (shut_bool Try.underlying4 _), (trodAll_cons_mk (Below.trod laidOut (by kernel_rfl) (of_decide_eq_true (by kernel_rfl)) k0 bel lt0) (trodAll_cons_mk (Below.trod laidOut (by kernel_rfl) (of_decide_eq_true (by kernel_rfl)) k1 bel lt1) trodAll_mk0)), rfl, bel.frame _, fun h => by cases h⟩

theorem over : Rows.fnExactNatGcdRow.holds Try.pinned (OpenSpec.ofChange Rows.fnExactNatGcdSpec) :=
  OpenClaim.holds_of_wide 4 Try.f4 rfl rfl rfl rfl rfl rfl rfl ⟨rfl, rfl, rfl, rfl, rfl⟩ rfl rfl rfl rfl rfl (by kernel_rfl) Try.func4 (by kernel_rfl)
    (of_decide_eq_true (by kernel_rfl)) (by unfold Func.isWrapper; first | (rw [if_pos (by decide +kernel)]; kernel_rfl) | (rw [if_neg (by decide +kernel)]; exact ⟨rfl, rfl⟩))
    (fun os started H enc _ => lifted os started H enc)

/-- ████ THE STATEMENT ████ -/
theorem proved : Rows.FnExactNatGcdSaid := over
end fnExactNatGcd
theorem fnExactNatGcd_holds : Rows.FnExactNatGcdSaid := fnExactNatGcd.proved
#print axioms fnExactNatGcd_holds
end Go.Proofs.Ythokphoojmpajae
