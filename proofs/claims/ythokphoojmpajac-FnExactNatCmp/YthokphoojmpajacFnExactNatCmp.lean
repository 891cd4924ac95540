/- For every two slices of ints the law FnExactNatCmp returns true and leaves its arguments as they were; no condition. -/
import Derived.Test.YthokphoojmpajacRows
import Derived.WalkKit
import Derived.ProofKit
import Derived.OpenShut
import Derived.ShutString
import Derived.ChangeOld
import Derived.Below
import Derived.Test.YthokphoojmpajacCopy
import Derived.Test.YthokphoojmpajacNatCmp
namespace Go.Proofs.Ythokphoojmpajac
namespace fnExactNatCmp
open Go.ChangeShapes Go.WideShapes Go.ChangeAt Go.RowKit Go.Proofs.Pin
open Go.ChangeMaps (open_string shut_string)
set_option linter.unusedVariables false

theorem own : ownKnob Try.prog.godebug = none := by kernel_rfl
theorem laidOut : laidOutB Try.prog = true := by kernel_rfl

/-! ### STEP 1: THE WALK: the Go text returns true, AND WRITES NOTHING THAT WAS THERE: 'Below w.heap.size w w'' (Derived/Below.lean: '.refl', '.alloc', '.drew', '.setCell' at a new block, '.trans'). Open each 'IsRow' by 'rcases' AHEAD of 'go_enter'; part every test ahead of the walk. -/
theorem walk (a0 : Option Addr) (len0 cap0 : Nat) (z0 : List Int) (a1 : Option Addr) (len1 cap1 : Nat) (z1 : List Int) (w : World) (w0 : IsRow .i64 w a0 len0 cap0 z0) (w1 : IsRow .i64 w a1 len1 cap1 z1) :
    Calls Try.prog 6 #[.slice a0 len0 cap0, .slice a1 len1 cap1] w fun e w' => e = .returned (.bool true) ∧ Below w.heap.size w w' := by
  obtain ⟨xs, hx⟩ : ∃ xs, Sl w a0 xs ∧ xs.length = len0 := ⟨_, isRow_sl w0⟩
  obtain ⟨ys, hy⟩ : ∃ ys, Sl w a1 ys ∧ ys.length = len1 := ⟨_, isRow_sl w1⟩
  clear w0 w1
  obtain ⟨sx, rfl⟩ := hx
  obtain ⟨sy, rfl⟩ := hy
  by_cases hb0 : (1048576 : Int) < (xs.length : Int)
  · go_enter Try.func6, Try.ntmps6
    go_wp2
    go_ret
    exact ⟨rfl, Below.refl _ _⟩
  by_cases hb1 : (1048576 : Int) < (ys.length : Int)
  · go_enter Try.func6, Try.ntmps6
    go_wp2
    go_ret
    exact ⟨rfl, Below.refl _ _⟩
  have hx : xs.length ≤ 1048576 := by omega
  have hy : ys.length ≤ 1048576 := by omega
  have hne : (cmpAns xs ys != cmpAns xs ys) = false := by simp
  have hex : decide (xs = xs) = true := by simp
  have hey : decide (ys = ys) = true := by simp
  go_enter Try.func6, Try.ntmps6
  go_wp2_with fail
  refine (toIntS_any _ _ xs _ sx hx).mono ?_
  rintro e w1 ⟨rfl, o1, b1⟩
  have p1 := Sl.of_own o1
  have sx1 := sx.keep b1
  have sy1 := sy.keep b1
  clear o1 sx sy
  go_wp2_with fail
  refine (toIntS_any _ _ ys _ sy1 hy).mono ?_
  rintro e w2 ⟨rfl, o2, b2⟩
  have p2 := Sl.of_own o2
  have p1' := p1.keep b2
  have sx2 := sx1.keep b2
  have sy2 := sy1.keep b2
  have B2 : Below w.heap.size w w2 := b1.trans (b2.mono b1.size)
  clear o2 p1 sx1 sy1 b1 b2
  go_wp2_with fail
  refine (specCmp_any _ _ _ _ xs ys _ p1' p2 hx hy).mono ?_
  rintro e w3 ⟨rfl, b3⟩
  have sx3 := sx2.keep b3
  have sy3 := sy2.keep b3
  have B3 : Below w.heap.size w w3 := B2.trans (b3.mono B2.size)
  clear p1' p2 sx2 sy2 b3 B2
  go_wp2_with fail
  refine (toIntS_any _ _ xs _ sx3 hx).mono ?_
  rintro e w4 ⟨rfl, o4, b4⟩
  have p4 := Sl.of_own o4
  have sx4 := sx3.keep b4
  have sy4 := sy3.keep b4
  have B4 : Below w.heap.size w w4 := B3.trans (b4.mono B3.size)
  clear o4 sx3 sy3 b4 B3
  go_wp2_with fail
  refine (toIntS_any _ _ ys _ sy4 hy).mono ?_
  rintro e w5 ⟨rfl, o5, b5⟩
  have q5 := Sl.of_own o5
  have p5 := p4.keep b5
  have sx5 := sx4.keep b5
  have sy5 := sy4.keep b5
  have B5 : Below w.heap.size w w5 := B4.trans (b5.mono B4.size)
  clear o5 p4 sx4 sy4 b5 B4
  go_wp2_with fail
  refine (implCmp_any _ _ _ _ xs ys _ p5 q5 hx hy).mono ?_
  rintro e w6 ⟨rfl, b6⟩
  have q6 := q5.keep b6
  have p6 := p5.keep b6
  have sx6 := sx5.keep b6
  have sy6 := sy5.keep b6
  have B6 : Below w.heap.size w w6 := B5.trans (b6.mono B5.size)
  clear p5 q5 sx5 sy5 b6 B5
  go_wp2_with fail
  refine (toIntS_any _ _ xs _ sx6 hx).mono ?_
  rintro e w7 ⟨rfl, o7, b7⟩
  have r7 := Sl.of_own o7
  have p7 := p6.keep b7
  have q7 := q6.keep b7
  have sy7 := sy6.keep b7
  have B7 : Below w.heap.size w w7 := B6.trans (b7.mono B6.size)
  clear o7 p6 q6 sx6 sy6 b7 B6
  go_wp2_with fail
  refine (eqIntS_any _ _ _ _ xs xs _ p7 r7 hx hx).mono ?_
  rintro e w8 ⟨rfl, q, rfl⟩
  have q8 : Sl (w7.drewN q) _ ys := q7
  have sy8 : Sl (w7.drewN q) a1 ys := sy7
  have B8 : Below w.heap.size w (w7.drewN q) := below_dN B7 _
  clear p7 q7 r7 sy7 B7
  go_wp2_with fail
  refine (toIntS_any _ _ ys _ sy8 hy).mono ?_
  rintro e w9 ⟨rfl, o9, b9⟩
  have r9 := Sl.of_own o9
  have q9 := q8.keep b9
  have B9 : Below w.heap.size w w9 := B8.trans (b9.mono B8.size)
  clear o9 q8 sy8 b9 B8
  go_wp2_with fail
  refine (eqIntS_any _ _ _ _ ys ys _ q9 r9 hy hy).mono ?_
  rintro e w10 ⟨rfl, q', rfl⟩
  go_wp2
  go_ret
  exact ⟨rfl, below_dN B9 _⟩

/-! ### THE ROW's STEP: WRITTEN OUT: LEAVE IT -/
set_option maxRecDepth 100000 in
theorem lifted (os : Os) (started : os.Started) (H : Type) (enc : TypeId × Value → H) :
    ReturnsInHanded {} Try.checked os 6 .any (Rows.fnExactNatCmpSpec.pre6 enc Try.prog Try.f6 Rows.fnExactNatCmpRow.domain false) (Rows.fnExactNatCmpSpec.post enc Try.prog Try.f6 false true false false) := by
  refine returnsInHanded_of_change (C := Try.checked) own started (by kernel_rfl) Try.func6
    (ChangeSpec.witness6 (enc := enc) (C := Try.checked) false ⟨#[], #[.slice none 0 0, .slice none 0 0], []⟩ 8 (by kernel_rfl) (by kernel_rfl) (by kernel_rfl) (by kernel_rfl)) ?_
  intro W base args ds gs before hval0 hW hcnd _
  have hval : ∀ (j : Nat) t v, Try.f6.params[j]? = some t → args[j]? = some v → Value.okWide Try.prog W .any base t v := hval0
  have hW' := hW
  obtain ⟨p, q, hA0, hV, rfl, hfz, hnd⟩ := hW
  have hA : DataW.TrodAll enc Try.prog W 0 (fun _ => true) true Try.f6.params.toList args.toList ds p := hA0
  rw [Try.params6] at hA hval
  obtain ⟨v0, vs0, d0, ds0, p0, q0, hargs, rfl, rfl, h0, r0⟩ := trodAll_cons hA
  obtain ⟨v1, vs1, d1, ds1, p1, q1, rfl, rfl, rfl, h1, r1⟩ := trodAll_cons r0
  obtain ⟨rfl, rfl, rfl⟩ := trodAll_nil r1
  obtain rfl : args = #[v0, v1] := by cases args; simp_all
  obtain ⟨rfl, rfl⟩ := trodVars_none hV
  obtain ⟨a0, len0, cap0, rfl⟩ := okWide_slice Try.underlying22 (hval 0 22 v0 rfl rfl)
  have k0 := h0
  have lt0 : ∀ x ∈ p0, x.block < W.heap.size := by obtain ⟨m, hm⟩ := k0; exact DataW.trod_lt m _ _ _ hm
  obtain ⟨z0, w0⟩ : ∃ zs, IsRow .i64 W a0 len0 cap0 zs := by
    obtain ⟨fuel, hf⟩ := h0
    rcases open_ints Try.underlying22 Try.underlying3 (by kernel_rfl) hf with ⟨hcs, _⟩ | ⟨x, l, c, zs, hcs, _, hl, hm, hz, _, hcell, hwz⟩
    · simp [Value.cells] at hcs
      obtain ⟨rfl, rfl, rfl⟩ := hcs
      exact ⟨[], .inl ⟨rfl, rfl, rfl, rfl⟩⟩
    · simp [Value.cells] at hcs
      obtain ⟨rfl, rfl, rfl⟩ := hcs
      exact ⟨zs, .inr ⟨_, rfl, hl, hm, by simpa using hz, hcell, hwz⟩⟩
  obtain ⟨a1, len1, cap1, rfl⟩ := okWide_slice Try.underlying22 (hval 1 22 v1 rfl rfl)
  have k1 := h1
  have lt1 : ∀ x ∈ p1, x.block < W.heap.size := by obtain ⟨m, hm⟩ := k1; exact DataW.trod_lt m _ _ _ hm
  obtain ⟨z1, w1⟩ : ∃ zs, IsRow .i64 W a1 len1 cap1 zs := by
    obtain ⟨fuel, hf⟩ := h1
    rcases open_ints Try.underlying22 Try.underlying3 (by kernel_rfl) hf with ⟨hcs, _⟩ | ⟨x, l, c, zs, hcs, _, hl, hm, hz, _, hcell, hwz⟩
    · simp [Value.cells] at hcs
      obtain ⟨rfl, rfl, rfl⟩ := hcs
      exact ⟨[], .inl ⟨rfl, rfl, rfl, rfl⟩⟩
    · simp [Value.cells] at hcs
      obtain ⟨rfl, rfl, rfl⟩ := hcs
      exact ⟨zs, .inr ⟨_, rfl, hl, hm, by simpa using hz, hcell, hwz⟩⟩
  clear hA0 hval0
  refine (walk a0 len0 cap0 z0 a1 len1 cap1 z1 W w0 w1).mono fun e W' ⟨he, bel⟩ => ?_
  subst he
  exact ⟨_, rfl, _, _, _, [], _, [], hW', trodAll_mk1 (shut_bool Try.underlying4 _), (trodAll_cons_mk (Below.trod laidOut (by kernel_rfl) (of_decide_eq_true (by kernel_rfl)) k0 bel lt0) (trodAll_cons_mk (Below.trod laidOut (by kernel_rfl) (of_decide_eq_true (by kernel_rfl)) k1 bel lt1) trodAll_mk0)), rfl, bel.frame _, fun h => by cases h⟩

theorem over : Rows.fnExactNatCmpRow.holds Try.pinned (OpenSpec.ofChange Rows.fnExactNatCmpSpec) :=
  OpenClaim.holds_of_wide 6 Try.f6 rfl rfl rfl rfl rfl rfl rfl ⟨rfl, rfl, rfl, rfl, rfl⟩ rfl rfl rfl rfl rfl (by kernel_rfl) Try.func6 (by kernel_rfl)
    (of_decide_eq_true (by kernel_rfl)) (by unfold Func.isWrapper; first | (rw [if_pos (by decide +kernel)]; kernel_rfl) | (rw [if_neg (by decide +kernel)]; exact ⟨rfl, rfl⟩))
    (fun os started H enc _ => lifted os started H enc)

/-- ████ THE STATEMENT ████ -/
theorem proved : Rows.FnExactNatCmpSaid := over
end fnExactNatCmp
theorem fnExactNatCmp_holds : Rows.FnExactNatCmpSaid := fnExactNatCmp.proved
#print axioms fnExactNatCmp_holds
end Go.Proofs.Ythokphoojmpajac
