/- For every slice of bytes the law FnNatRoot returns true and leaves its argument as it was; no condition. -/
import Derived.Test.YthokphoojmpajaaRows
import Derived.WalkKit
import Derived.ProofKit
import Derived.OpenShut
import Derived.ShutString
import Derived.ChangeOld
import Derived.Below
import Derived.Test.YthokphoojmpajaaDrawRoot
import Derived.Test.YthokphoojmpajaaOpMore
import Derived.Test.YthokphoojmpajaaNatRoot
import Derived.Test.YthokphoojmpajaaNatAdd
import Derived.Test.YthokphoojmpajaaNatMul
import Derived.Test.YthokphoojmpajaaNatCmp
import Derived.Test.YthokphoojmpajaaNumCmp
namespace Go.Proofs.Ythokphoojmpajaa
namespace fnNatRoot
open Go.ChangeShapes Go.WideShapes Go.ChangeAt Go.RowKit Go.Proofs.Pin
open Go.ChangeMaps (open_string shut_string)
set_option linter.unusedVariables false

theorem own : ownKnob Try.prog.godebug = none := by kernel_rfl
theorem laidOut : laidOutB Try.prog = true := by kernel_rfl

/-! ### STEP 1: THE WALK: the Go text returns true, AND WRITES NOTHING THAT WAS THERE: 'Below w.heap.size w w'' (Derived/Below.lean: '.refl', '.alloc', '.drew', '.setCell' at a new block, '.trans'). Open each 'IsRow' by 'rcases' AHEAD of 'go_enter'; part every test ahead of the walk. -/

theorem rt_half {x : Nat} (h : (dgs x).length ≤ 256) : (dgs (rt x)).length ≤ 128 := by
  rw [dgs_len_iff] at h ⊢
  exact rt_lt (by rw [← Nat.pow_add]; exact h)
theorem ans_not {n : Nat} (h : ¬ (dgs n).length ≤ 256) : ansL (some n) = [] ∧ ansB (some n) = false := by
  simp only [ansL, ansB, fitL, fitB]
  exact ⟨if_neg h, by simpa using h⟩
set_option maxRecDepth 20000 in
set_option maxHeartbeats 2000000 in
theorem walk (a0 : Option Addr) (len0 cap0 : Nat) (z0 : List Int) (w : World) (w0 : IsRow .u8 w a0 len0 cap0 z0) :
    Calls Try.prog 5 #[.slice a0 len0 cap0] w fun e w' => e = .returned (.bool true) ∧ Below w.heap.size w w' := by
  obtain ⟨h1, h2, h3, h4⟩ := isRow_u8 w0
  clear w0
  by_cases hb0 : (1048576 : Int) < (len0 : Int)
  · go_enter Try.func5, Try.ntmps5
    go_wp2
    go_ret
    exact ⟨rfl, Below.refl _ _⟩
  have C0 : Hid _ := drawRoot_any a0 len0 cap0 _ w h1 h2 h3 (by omega) h4
  clear h1 h2 h3 h4
  have hl0 : (len0 : Int) ≤ 1048576 := by omega
  go_enter Try.func5, Try.ntmps5
  go_wp2_with fail
  refine Calls.mono C0.out ?_
  rintro e w1 ⟨r, cr, xs, rfl, o1, hx, B1⟩
  have sx := o1.sl
  have cx := own_cap o1
  clear o1 C0
  have hx2 : xs.length ≤ 1048576 := by omega
  have c1 := implRoot_op r cr xs w1 sx hx2 cx
  have C2 : Hid (∀ W, Sl W r xs → Calls Try.prog 18 #[.slice r xs.length cr] W fun e w' => e = .returned (.bool (okB xs)) ∧ W = w') := fun W h => (specOk_any r cr xs W h hx2).mono fun e w' h => ⟨h.1, h.2.symm⟩
  obtain ⟨bb, hbbe⟩ : ∃ bb, bb = okB xs := ⟨_, rfl⟩
  rw [← hbbe] at c1 C2
  obtain ⟨R, hR⟩ : ∃ R, R = rtL xs := ⟨_, rfl⟩
  obtain ⟨bx, hbx⟩ : ∃ bx, bx = rtX xs := ⟨_, rfl⟩
  rw [← hR, ← hbx] at c1
  have HD : Hid (bb = okB xs ∧ R = rtL xs ∧ bx = rtX xs) := ⟨hbbe, hR, hbx⟩
  have C1 : Hid _ := c1
  have hbb : (bb != bb) = false := by simp
  clear c1 hbbe hR hbx
  go_wp2_with fail
  refine Calls.mono C1.out ?_
  rintro e w2 ⟨rg, cg, rfl, o2, b2⟩
  have B2 : Below w.heap.size w w2 := B1.trans (b2.mono B1.size)
  have sx2 := sx.keep b2
  have sg2 := o2.sl
  clear b2 o2 C1 sx B1
  go_wp2_with fail
  refine Calls.mono (C2.out _ sx2) ?_
  rintro e w3 ⟨rfl, rfl⟩
  clear C2
  cases bb with
  | false =>
    go_wp2
    go_ret
    exact ⟨rfl, B2⟩
  | true =>
    obtain ⟨h1, h2, h3⟩ := HD.out
    obtain ⟨x, rfl, hx'⟩ := ok_dgs h1.symm
    rw [(rt_yes hx').1] at h2
    rw [(rt_yes hx').2] at h3
    have hrl : (dgs (rt x)).length ≤ 256 := Nat.le_trans (rt_half hx') (by decide)
    have hml : (dgs (rt x * rt x)).length ≤ 256 := Nat.le_trans (dgs_len_le (rt_ok x).1) hx'
    have d1 : dgs 1 = [1] := dgs_one (by decide) (by decide)
    have l1 : (dgs 1).length ≤ 256 := by rw [d1]; decide
    have hul : (dgs (rt x + 1)).length ≤ 256 := Nat.le_trans (sum_len (rt_half hx') (by rw [d1]; decide)) (by decide)
    have c1 := implMul_op rg rg cg cg (dgs (rt x)) (dgs (rt x)) w2 (by rw [← h2]; exact sg2) (by rw [← h2]; exact sg2) (by omega) (by omega)
    rw [op2_yes hrl hrl, (ans_fit hml).1, (ans_fit hml).2] at c1
    have c2 := fun (W : World) (s : Option Addr) (cs : Nat) (hs : Sl W s (dgs (rt x * rt x))) (ha : Sl W r (dgs x)) => implCmp_any s r cs cr (dgs (rt x * rt x)) (dgs x) W hs ha (by omega) (by omega)
    simp only [cmpAns_yes (dgs_ok hml) (dgs_ok hx'), cmp_dgs] at c2
    have c3 := fun (W : World) (t : Option Addr) (hr : Sl W rg (dgs (rt x))) (ht : Sl W t [1]) => implAdd_op rg t cg 1 (dgs (rt x)) (dgs 1) W hr (by rw [d1]; exact ht) (by omega) (by omega)
    simp only [op2_yes hrl l1, (ans_fit hul).1, (ans_fit hul).2] at c3
    rw [d1] at c3
    have c4 := fun (W : World) (u : Option Addr) (cu : Nat) (hu : Sl W u (dgs (rt x + 1))) => implMul_op u u cu cu (dgs (rt x + 1)) (dgs (rt x + 1)) W hu hu (by omega) (by omega)
    simp only [op2_yes hul hul] at c4
    obtain ⟨c, hc⟩ : ∃ c, c = sg ((rt x * rt x : Nat) : Int) (x : Int) := ⟨_, rfl⟩
    rw [← hc] at c2
    have hc1 : (c == 1) = false := by
      have := sg_le (x := ((rt x * rt x : Nat) : Int)) (y := (x : Int)) (by have := (rt_ok x).1; omega)
      rw [beq_eq_false_iff_ne, hc]
      omega
    have hcx : (c == 0) = bx := by rw [h3, hc, sg_zero]
    have hbxx : (bx != bx) = false := by simp
    have c5 := fun (W : World) (t : Option Addr) (ct : Nat) (hl : (dgs ((rt x + 1) * (rt x + 1))).length ≤ 256) (hs : Sl W t (dgs ((rt x + 1) * (rt x + 1)))) (ha : Sl W r (dgs x)) => implCmp_any t r ct cr (dgs ((rt x + 1) * (rt x + 1))) (dgs x) W hs ha (by omega) (by omega)
    have hgt : ∀ hl : (dgs ((rt x + 1) * (rt x + 1))).length ≤ 256, cmpAns (dgs ((rt x + 1) * (rt x + 1))) (dgs x) = 1 := fun hl => by
      rw [cmpAns_yes (dgs_ok hl) (dgs_ok hx'), cmp_dgs]
      exact sg_gt (by have := (rt_ok x).2; omega)
    obtain ⟨M, hM⟩ : ∃ M, M = dgs (rt x * rt x) := ⟨_, rfl⟩
    obtain ⟨U, hU⟩ : ∃ U, U = dgs (rt x + 1) := ⟨_, rfl⟩
    obtain ⟨X, hX⟩ : ∃ X, X = dgs x := ⟨_, rfl⟩
    have hone : ([1] : List Int).length = 1 := rfl
    simp only [← hM, ← hU, ← hX, ← h2, hone] at c1 c2 c3 c4
    rw [← hX] at sx2 ⊢
    by_cases hl : (dgs ((rt x + 1) * (rt x + 1))).length ≤ 256
    · have c5' := fun W t ct => c5 W t ct hl
      simp only [hgt hl] at c5'
      simp only [(ans_fit hl).1, (ans_fit hl).2] at c4
      obtain ⟨T, hT⟩ : ∃ T, T = dgs ((rt x + 1) * (rt x + 1)) := ⟨_, rfl⟩
      simp only [← hT] at c4 c5'
      simp only [← hX] at c5'
      have D1 : Hid _ := c1
      have D2 : Hid _ := c2
      have D3 : Hid _ := c3
      have D4 : Hid _ := c4
      have D5 : Hid _ := c5'
      clear c1 c2 c3 c4 c5 c5' hgt hT hM hU hX hl hc d1 l1 hul hml hrl h1 h2 h3 HD hx hx2 hx' cx hone
      go_wp2_with fail
      refine Calls.mono D1.out ?_
      rintro e w4 ⟨rs, cs, rfl, o4, b4⟩
      have B4 : Below w.heap.size w w4 := B2.trans (b4.mono B2.size)
      have sx4 := sx2.keep b4
      have sg4 := sg2.keep b4
      have ss4 := o4.sl
      clear D1 o4 b4 B2 sx2 sg2
      go_wp2_with fail
      refine Calls.mono (D2.out _ _ _ ss4 sx4) ?_
      rintro e w5 ⟨rfl, b5⟩
      have B5 : Below w.heap.size w w5 := B4.trans (b5.mono B4.size)
      have sx5 := sx4.keep b5
      have sg5 := sg4.keep b5
      have ss5 := ss4.keep b5
      clear b5 B4 sx4 sg4 ss4
      go_wp2_with fail
      refine Calls.mono (D2.out _ _ _ ss5 sx5) ?_
      rintro e w6 ⟨rfl, b6⟩
      have B6 : Below w.heap.size w w6 := B5.trans (b6.mono B5.size)
      have sx6 := sx5.keep b6
      have sg6 := sg5.keep b6
      clear b6 B5 sx5 sg5 ss5 D2
      go_wp2_with fail
      obtain ⟨W, hW⟩ : ∃ W, W = w6.alloc (.cells #[.int .i64 1] 3) := ⟨_, rfl⟩
      have bW : Below w6.heap.size w6 W := by rw [hW]; exact (Below.refl _ _).alloc (Nat.le_refl _) _
      have sA : Sl W (some ⟨w6.heap.size, 0, none⟩) [1] := by
        rw [hW]
        exact (own_of_block (base := w6.heap.size) (zs := [(1 : Int)]) (World.alloc_heap_new w6 _) (Nat.le_refl _) (by simp [maxLen])).sl
      have BW : Below w.heap.size w W := B6.trans (bW.mono B6.size)
      have sxW := sx6.keep bW
      have sgW := sg6.keep bW
      rw [← hW]
      clear hW bW sx6 sg6
      refine Calls.mono (D3.out _ _ sgW sA) ?_
      rintro e w7 ⟨ru, cu, rfl, o7, b7⟩
      have B7 : Below w.heap.size w w7 := BW.trans (b7.mono BW.size)
      have sx7 := sxW.keep b7
      have su7 := o7.sl
      clear D3 o7 b7 BW sxW sgW sA
      go_wp2_with fail
      refine Calls.mono (D4.out _ _ _ su7) ?_
      rintro e w8 ⟨rt8, ct8, rfl, o8, b8⟩
      have B8 : Below w.heap.size w w8 := B7.trans (b8.mono B7.size)
      have sx8 := sx7.keep b8
      have st8 := o8.sl
      clear D4 o8 b8 B7 sx7 su7
      go_wp2_with fail
      refine Calls.mono (D5.out _ _ _ st8 sx8) ?_
      rintro e w9 ⟨rfl, b9⟩
      have B9 : Below w.heap.size w w9 := B8.trans (b9.mono B8.size)
      clear D5 b9 B8 sx8 st8
      go_wp2
      go_ret
      exact ⟨rfl, B9⟩
    · simp only [(ans_not hl).1, (ans_not hl).2] at c4
      have D1 : Hid _ := c1
      have D2 : Hid _ := c2
      have D3 : Hid _ := c3
      have D4 : Hid _ := c4
      clear c1 c2 c3 c4 c5 hgt hM hU hX hl hc d1 l1 hul hml hrl h1 h2 h3 HD hx hx2 hx' cx hone
      go_wp2_with fail
      refine Calls.mono D1.out ?_
      rintro e w4 ⟨rs, cs, rfl, o4, b4⟩
      have B4 : Below w.heap.size w w4 := B2.trans (b4.mono B2.size)
      have sx4 := sx2.keep b4
      have sg4 := sg2.keep b4
      have ss4 := o4.sl
      clear D1 o4 b4 B2 sx2 sg2
      go_wp2_with fail
      refine Calls.mono (D2.out _ _ _ ss4 sx4) ?_
      rintro e w5 ⟨rfl, b5⟩
      have B5 : Below w.heap.size w w5 := B4.trans (b5.mono B4.size)
      have sx5 := sx4.keep b5
      have sg5 := sg4.keep b5
      have ss5 := ss4.keep b5
      clear b5 B4 sx4 sg4 ss4
      go_wp2_with fail
      refine Calls.mono (D2.out _ _ _ ss5 sx5) ?_
      rintro e w6 ⟨rfl, b6⟩
      have B6 : Below w.heap.size w w6 := B5.trans (b6.mono B5.size)
      have sg6 := sg5.keep b6
      clear b6 B5 sx5 sg5 ss5 D2
      go_wp2_with fail
      obtain ⟨W, hW⟩ : ∃ W, W = w6.alloc (.cells #[.int .i64 1] 3) := ⟨_, rfl⟩
      have bW : Below w6.heap.size w6 W := by rw [hW]; exact (Below.refl _ _).alloc (Nat.le_refl _) _
      have sA : Sl W (some ⟨w6.heap.size, 0, none⟩) [1] := by
        rw [hW]
        exact (own_of_block (base := w6.heap.size) (zs := [(1 : Int)]) (World.alloc_heap_new w6 _) (Nat.le_refl _) (by simp [maxLen])).sl
      have BW : Below w.heap.size w W := B6.trans (bW.mono B6.size)
      have sgW := sg6.keep bW
      rw [← hW]
      clear hW bW sg6
      refine Calls.mono (D3.out _ _ sgW sA) ?_
      rintro e w7 ⟨ru, cu, rfl, o7, b7⟩
      have B7 : Below w.heap.size w w7 := BW.trans (b7.mono BW.size)
      have su7 := o7.sl
      clear D3 o7 b7 BW sgW sA
      go_wp2_with fail
      refine Calls.mono (D4.out _ _ _ su7) ?_
      rintro e w8 ⟨rt8, ct8, rfl, o8, b8⟩
      have B8 : Below w.heap.size w w8 := B7.trans (b8.mono B7.size)
      clear D4 o8 b8 B7 su7
      go_wp2
      go_ret
      exact ⟨rfl, B8⟩

/-! ### THE ROW's STEP: WRITTEN OUT: LEAVE IT -/
set_option maxRecDepth 100000 in
theorem lifted (os : Os) (started : os.Started) (H : Type) (enc : TypeId × Value → H) :
    ReturnsInHanded {} Try.checked os 5 .any (Rows.fnNatRootSpec.pre6 enc Try.prog Try.f5 Rows.fnNatRootRow.domain false) (Rows.fnNatRootSpec.post enc Try.prog Try.f5 false true false false) := by
  refine returnsInHanded_of_change (C := Try.checked) own started (by kernel_rfl) Try.func5
    (ChangeSpec.witness6 (enc := enc) (C := Try.checked) false ⟨#[], #[.slice none 0 0], []⟩ 8 (by kernel_rfl) (by kernel_rfl) (by kernel_rfl) (by kernel_rfl)) ?_
  intro W base args ds gs before hval0 hW hcnd _
  have hval : ∀ (j : Nat) t v, Try.f5.params[j]? = some t → args[j]? = some v → Value.okWide Try.prog W .any base t v := hval0
  have hW' := hW
  obtain ⟨p, q, hA0, hV, rfl, hfz, hnd⟩ := hW
  have hA : DataW.TrodAll enc Try.prog W 0 (fun _ => true) true Try.f5.params.toList args.toList ds p := hA0
  rw [Try.params5] at hA hval
  obtain ⟨v0, vs0, d0, ds0, p0, q0, hargs, rfl, rfl, h0, r0⟩ := trodAll_cons hA
  obtain ⟨rfl, rfl, rfl⟩ := trodAll_nil r0
  obtain rfl : args = #[v0] := by cases args; simp_all
  obtain ⟨rfl, rfl⟩ := trodVars_none hV
  obtain ⟨a0, len0, cap0, rfl⟩ := okWide_slice Try.underlying22 (hval 0 22 v0 rfl rfl)
  have k0 := h0
  have lt0 : ∀ x ∈ p0, x.block < W.heap.size := by obtain ⟨m, hm⟩ := k0; exact DataW.trod_lt m _ _ _ hm
  obtain ⟨z0, w0⟩ : ∃ zs, IsRow .u8 W a0 len0 cap0 zs := by
    obtain ⟨fuel, hf⟩ := h0
    rcases open_ints Try.underlying22 Try.underlying5 (by kernel_rfl) hf with ⟨hcs, _⟩ | ⟨x, l, c, zs, hcs, _, hl, hm, hz, _, hcell, hwz⟩
    · simp [Value.cells] at hcs
      obtain ⟨rfl, rfl, rfl⟩ := hcs
      exact ⟨[], .inl ⟨rfl, rfl, rfl, rfl⟩⟩
    · simp [Value.cells] at hcs
      obtain ⟨rfl, rfl, rfl⟩ := hcs
      exact ⟨zs, .inr ⟨_, rfl, hl, hm, by simpa using hz, hcell, hwz⟩⟩
  clear hA0 hval0
  refine (walk a0 len0 cap0 z0 W w0).mono fun e W' ⟨he, bel⟩ => ?_
  subst he
  exact ⟨_, rfl, _, _, _, [], _, [], hW', trodAll_mk1 (shut_bool Try.underlying4 _), (trodAll_cons_mk (Below.trod laidOut (by kernel_rfl) (of_decide_eq_true (by kernel_rfl)) k0 bel lt0) trodAll_mk0), rfl, bel.frame _, fun h => by cases h⟩

theorem over : Rows.fnNatRootRow.holds Try.pinned (OpenSpec.ofChange Rows.fnNatRootSpec) :=
  OpenClaim.holds_of_wide 5 Try.f5 rfl rfl rfl rfl rfl rfl rfl ⟨rfl, rfl, rfl, rfl, rfl⟩ rfl rfl rfl rfl rfl (by kernel_rfl) Try.func5 (by kernel_rfl)
    (of_decide_eq_true (by kernel_rfl)) (by unfold Func.isWrapper; first | (rw [if_pos (by decide +kernel)]; kernel_rfl) | (rw [if_neg (by decide +kernel)]; exact ⟨rfl, rfl⟩))
    (fun os started H enc _ => lifted os started H enc)

/-- ████ THE STATEMENT ████ -/
theorem proved : Rows.FnNatRootSaid := over
end fnNatRoot
theorem fnNatRoot_holds : Rows.FnNatRootSaid := fnNatRoot.proved
#print axioms fnNatRoot_holds
end Go.Proofs.Ythokphoojmpajaa
