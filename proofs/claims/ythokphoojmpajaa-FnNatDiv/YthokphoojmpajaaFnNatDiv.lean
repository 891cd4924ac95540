/- For every slice of bytes the law FnNatDiv returns true and leaves its argument as it was; no condition. -/
import Derived.Test.YthokphoojmpajaaRows
import Derived.WalkKit
import Derived.ProofKit
import Derived.OpenShut
import Derived.ShutString
import Derived.ChangeOld
import Derived.Below
import Derived.Test.YthokphoojmpajaaDrawDiv
import Derived.Test.YthokphoojmpajaaSameS
import Derived.Test.YthokphoojmpajaaOpMore
import Derived.Test.YthokphoojmpajaaNatDiv
import Derived.Test.YthokphoojmpajaaNatAdd
import Derived.Test.YthokphoojmpajaaNatMul
import Derived.Test.YthokphoojmpajaaNatSub
import Derived.Test.YthokphoojmpajaaNatCmp
import Derived.Test.YthokphoojmpajaaNumCmp
namespace Go.Proofs.Ythokphoojmpajaa
namespace fnNatDiv
open Go.ChangeShapes Go.WideShapes Go.ChangeAt Go.RowKit Go.Proofs.Pin
open Go.ChangeMaps (open_string shut_string)
set_option linter.unusedVariables false

theorem own : ownKnob Try.prog.godebug = none := by kernel_rfl
theorem laidOut : laidOutB Try.prog = true := by kernel_rfl

/-! ### STEP 1: THE WALK: the Go text returns true, AND WRITES NOTHING THAT WAS THERE: 'Below w.heap.size w w'' (Derived/Below.lean: '.refl', '.alloc', '.drew', '.setCell' at a new block, '.trans'). Open each 'IsRow' by 'rcases' AHEAD of 'go_enter'; part every test ahead of the walk. -/

set_option maxRecDepth 20000 in
set_option maxHeartbeats 1000000 in
theorem walk (a0 : Option Addr) (len0 cap0 : Nat) (z0 : List Int) (w : World) (w0 : IsRow .u8 w a0 len0 cap0 z0) :
    Calls Try.prog 3 #[.slice a0 len0 cap0] w fun e w' => e = .returned (.bool true) ∧ Below w.heap.size w w' := by
  obtain ⟨h1, h2, h3, h4⟩ := isRow_u8 w0
  clear w0
  by_cases hb0 : (1048576 : Int) < (len0 : Int)
  · go_enter Try.func3, Try.ntmps3
    go_wp2
    go_ret
    exact ⟨rfl, Below.refl _ _⟩
  have C0 : Hid _ := drawDiv_any a0 len0 cap0 _ w h1 h2 h3 (by omega) h4
  clear h1 h2 h3 h4
  have hl0 : (len0 : Int) ≤ 1048576 := by omega
  go_enter Try.func3, Try.ntmps3
  go_wp2_with fail
  refine Calls.mono C0.out ?_
  rintro e w1 ⟨r, cr, xs, s, cs, ys, rfl, o1, p1, hx, hy, B1⟩
  have sx := o1.sl
  have sy := p1.sl
  have cx := own_cap o1
  clear o1 p1 C0
  have hx2 : xs.length ≤ 1048576 := by omega
  have hy2 : ys.length ≤ 1048576 := by omega
  have c1 := implDiv_op r s cr cs xs ys w1 sx sy hx2 hy2 cx
  have c2 := fun (w2 : World) (h1 : Sl w2 r xs) (h2 : Sl w2 s ys) => specDiv_op r s cr cs xs ys w2 h1 h2 hx2 hy2 cx
  obtain ⟨Q, hQ⟩ : ∃ Q, Q = dvQ xs ys := ⟨_, rfl⟩
  obtain ⟨T, hT⟩ : ∃ T, T = dvR xs ys := ⟨_, rfl⟩
  obtain ⟨bb, hbbe⟩ : ∃ bb, bb = dvB xs ys := ⟨_, rfl⟩
  have HD : Hid (Q = dvQ xs ys ∧ T = dvR xs ys ∧ bb = dvB xs ys) := ⟨hQ, hT, hbbe⟩
  simp only [← hQ, ← hT, ← hbbe] at c1 c2
  have C1 : Hid _ := c1
  have C2 : Hid _ := c2
  clear c1 c2 hQ hT hbbe
  have hbb : (bb != bb) = false := by simp
  go_wp2_with fail
  refine Calls.mono C1.out ?_
  rintro e w2 ⟨rq, cq, rt, ct, rfl, oq, ot, _, b2⟩
  have B2 : Below w.heap.size w w2 := B1.trans (b2.mono B1.size)
  have sx2 := sx.keep b2
  have sy2 := sy.keep b2
  have sq2 := oq.sl
  have st2 := ot.sl
  clear b2 oq ot sx sy B1
  go_wp2_with fail
  refine Calls.mono (C2.out _ sx2 sy2) ?_
  rintro e w3 ⟨r9, c9, s9, d9, rfl, _, _, _, b3⟩
  have B3 : Below w.heap.size w w3 := B2.trans (b3.mono B2.size)
  have sx3 := sx2.keep b3
  have sy3 := sy2.keep b3
  have sq3 := sq2.keep b3
  have st3 := st2.keep b3
  clear b3 sx2 sy2 sq2 st2 B2
  go_upto_if 46 with fail
  go_cut [] from 47 (fun wx => Below w.heap.size w wx ∧ Sl wx r xs ∧ Sl wx s ys)
  case first =>
    cases bb with
    | false =>
      go_wp2_with fail
      go_meet
      exact ⟨B3, sx3, sy3⟩
    | true =>
      obtain ⟨hQ, hT, hB⟩ := HD.out
      have hB' := hB.symm
      simp only [dvB, Bool.and_eq_true] at hB'
      obtain ⟨x, rfl, hx'⟩ := ok_dgs hB'.1
      obtain ⟨y, rfl, hy'⟩ := ok_dgs hB'.2.1
      have h0 : y ≠ 0 := by
        intro e
        rw [e, dgs_zero] at hB'
        simp at hB'
      obtain ⟨_, e2, e3⟩ := dv_yes hx' hy' h0
      rw [e2] at hQ
      rw [e3] at hT
      rw [hQ] at sq3
      rw [hT] at st3
      have hq' : (dgs (x / y)).length ≤ 256 := Nat.le_trans (dgs_len_le (Nat.div_le_self x y)) hx'
      have ht' : (dgs (x % y)).length ≤ 256 := Nat.le_trans (dgs_len_le (Nat.mod_le x y)) hx'
      have hm' : (dgs (x / y * y)).length ≤ 256 := Nat.le_trans (dgs_len_le (Nat.div_mul_le_self x y)) hx'
      have hsum : x / y * y + x % y = x := by rw [Nat.mul_comm]; exact Nat.div_add_mod x y
      have C4 := implMul_op rq s cq cs (dgs (x / y)) (dgs y) w3 sq3 sy3 (by omega) (by omega)
      rw [op2_yes hq' hy', (ans_fit hm').1, (ans_fit hm').2] at C4
      have C5 := fun (w4 : World) (rp : Option Addr) (cp : Nat) (hp : Sl w4 rp (dgs (x / y * y))) (ht : Sl w4 rt (dgs (x % y))) => implAdd_op rp rt cp ct (dgs (x / y * y)) (dgs (x % y)) w4 hp ht (by omega) (by omega)
      simp only [op2_yes hm' ht', hsum, (ans_fit hx').1, (ans_fit hx').2] at C5
      have C6 := fun (w5 : World) (ru : Option Addr) (cu : Nat) (hp : Sl w5 ru (dgs x)) (ht : Sl w5 r (dgs x)) => (same_any ru r cu cr (dgs x) (dgs x) w5 hp ht (by omega) (by omega)).mono (R' := fun e w' => e = .returned (.bool true) ∧ ∃ q, w' = w5.drewN q) (fun e w' h => ⟨by rw [h.1]; simp, h.2⟩)
      have C7 := fun (w6 : World) (ht : Sl w6 rt (dgs (x % y))) (hp : Sl w6 s (dgs y)) => implCmp_any rt s ct cs (dgs (x % y)) (dgs y) w6 ht hp (by omega) (by omega)
      have hcm : cmpAns (dgs (x % y)) (dgs y) = -1 := by
        rw [cmpAns_yes (dgs_ok ht') (dgs_ok hy'), cmp_dgs]
        exact sg_lt (Int.ofNat_lt.mpr (Nat.mod_lt _ (by omega)))
      simp only [hcm] at C7
      obtain ⟨X, hX⟩ : ∃ X, X = dgs x := ⟨_, rfl⟩
      obtain ⟨Y, hY⟩ : ∃ Y, Y = dgs y := ⟨_, rfl⟩
      obtain ⟨M, hM⟩ : ∃ M, M = dgs (x / y * y) := ⟨_, rfl⟩
      rw [← hX] at sx3 ⊢
      rw [← hY] at sy3 ⊢
      simp only [← hX, ← hY, ← hQ, ← hT, ← hM] at C4 C5 C6 C7
      rw [← hQ] at sq3
      rw [← hT] at st3
      have HX : Hid (X = dgs x) := hX
      have HY : Hid (Y = dgs y) := hY
      have D4 : Hid _ := C4
      have D5 : Hid _ := C5
      have D6 : Hid _ := C6
      have D7 : Hid _ := C7
      clear C4 C5 C6 C7 hX hY hQ hT hM hB hB' hx' hy' h0 e2 e3 hq' ht' hm' hsum hcm hx hy hx2 hy2 cx HD C1 C2
      go_wp2_with fail
      refine Calls.mono D4.out ?_
      rintro e w4 ⟨rp, cp, rfl, o4, b4⟩
      have B4 : Below w.heap.size w w4 := B3.trans (b4.mono B3.size)
      have sx4 := sx3.keep b4
      have sy4 := sy3.keep b4
      have st4 := st3.keep b4
      have sp4 := o4.sl
      clear o4 b4 D4 sx3 sy3 st3 sq3 B3
      go_wp2_with fail
      refine Calls.mono (D5.out _ _ _ sp4 st4) ?_
      rintro e w5 ⟨ru, cu, rfl, o5, b5⟩
      have B5 : Below w.heap.size w w5 := B4.trans (b5.mono B4.size)
      have sx5 := sx4.keep b5
      have sy5 := sy4.keep b5
      have st5 := st4.keep b5
      have su5 := o5.sl
      clear o5 b5 D5 sx4 sy4 st4 sp4 B4
      go_wp2_with fail
      refine Calls.mono (D6.out _ _ _ su5 sx5) ?_
      rintro e w6 ⟨rfl, q6, rfl⟩
      have st6 : Sl (w5.drewN q6) rt T := st5
      have sy6 : Sl (w5.drewN q6) s Y := sy5
      have sx6 : Sl (w5.drewN q6) r X := sx5
      have B6 := below_dN B5 q6
      clear st5 sy5 sx5 B5 su5
      go_wp2_with fail
      refine Calls.mono (D7.out _ st6 sy6) ?_
      rintro e w7 ⟨rfl, b7⟩
      have B7 := B6.trans (b7.mono B6.size)
      have sx7 := sx6.keep b7
      have sy7 := sy6.keep b7
      clear b7 B6 sx6 sy6 st6
      have hX := HX.out
      have hY := HY.out
      clear HX HY D6 D7
      subst hX hY
      go_wp2_with fail
      go_meet
      exact ⟨B7, sx7, sy7⟩
  case rest =>
    obtain ⟨B4, sx4, sy4⟩ := hcut
    have c1 := implAdd_op r s cr cs xs ys wc sx4 sy4 hx2 hy2
    have c2 := fun (w2 : World) (h1 : Sl w2 r xs) (h2 : Sl w2 s ys) => specAdd_op r s cr cs xs ys w2 h1 h2 hx2 hy2
    obtain ⟨S, hS⟩ : ∃ S, S = ansL (op2 (fun x y => some (x + y)) xs ys) := ⟨_, rfl⟩
    obtain ⟨b2, hb2⟩ : ∃ b2, b2 = ansB (op2 (fun x y => some (x + y)) xs ys) := ⟨_, rfl⟩
    simp only [← hS, ← hb2] at c1 c2
    have C3 : Hid _ := c1
    have C4 : Hid _ := c2
    have HE : Hid (S = ansL (op2 (fun x y => some (x + y)) xs ys) ∧ b2 = ansB (op2 (fun x y => some (x + y)) xs ys)) := ⟨hS, hb2⟩
    have hb2n : (b2 != b2) = false := by simp
    clear c1 c2 hS hb2 HD C1 C2
    go_wp2_with fail
    refine Calls.mono C3.out ?_
    rintro e w5 ⟨rs, cs5, rfl, o5, b5⟩
    have B5 : Below w.heap.size w w5 := B4.trans (b5.mono B4.size)
    have sx5 := sx4.keep b5
    have sy5 := sy4.keep b5
    have ss5 := o5.sl
    clear o5 b5 C3 sx4 sy4 B4
    go_wp2_with fail
    refine Calls.mono (C4.out _ sx5 sy5) ?_
    rintro e w6 ⟨r6, c6, rfl, _, b6⟩
    have B6 : Below w.heap.size w w6 := B5.trans (b6.mono B5.size)
    have sx6 := sx5.keep b6
    have sy6 := sy5.keep b6
    have ss6 := ss5.keep b6
    clear b6 C4 sx5 sy5 ss5 B5
    cases b2 with
    | false =>
      go_wp2
      go_ret
      exact ⟨rfl, B6⟩
    | true =>
      obtain ⟨hS, hb2⟩ := HE.out
      obtain ⟨x, y, n, rfl, rfl, hx', hy', hf, hn'⟩ := ans_true hb2.symm
      have hn : x + y = n := by simpa using hf
      subst hn
      rw [op2_yes hx' hy', (ans_fit hn').1] at hS
      subst hS
      have C5 := implSub_op rs s cs5 cs (dgs (x + y)) (dgs y) w6 ss6 sy6 (by omega) (by omega)
      have e5 : (if y ≤ x + y then some (x + y - y) else none) = some x := by
        rw [if_pos (Nat.le_add_left _ _)]
        congr 1
        omega
      rw [op2_yes hn' hy'] at C5
      simp only [e5, (ans_fit hx').1, (ans_fit hx').2] at C5
      have C6 := fun (w7 : World) (ru : Option Addr) (cu : Nat) (hp : Sl w7 ru (dgs x)) (ht : Sl w7 r (dgs x)) => (same_any ru r cu cr (dgs x) (dgs x) w7 hp ht (by omega) (by omega)).mono (R' := fun e w' => e = .returned (.bool true) ∧ ∃ q, w' = w7.drewN q) (fun e w' h => ⟨by rw [h.1]; simp, h.2⟩)
      have C7 := fun (w8 : World) (ht : Sl w8 rs (dgs (x + y))) (hp : Sl w8 r (dgs x)) => implCmp_any rs r cs5 cr (dgs (x + y)) (dgs x) w8 ht hp (by omega) (by omega)
      have hcm : 0 ≤ cmpAns (dgs (x + y)) (dgs x) := by
        rw [cmpAns_yes (dgs_ok hn') (dgs_ok hx'), cmp_dgs]
        unfold sg
        split <;> (try split) <;> omega
      obtain ⟨cc, hcc⟩ : ∃ cc, cc = cmpAns (dgs (x + y)) (dgs x) := ⟨_, rfl⟩
      rw [← hcc] at hcm
      obtain ⟨X, hX⟩ : ∃ X, X = dgs x := ⟨_, rfl⟩
      obtain ⟨Y, hY⟩ : ∃ Y, Y = dgs y := ⟨_, rfl⟩
      obtain ⟨S, hS⟩ : ∃ S, S = dgs (x + y) := ⟨_, rfl⟩
      simp only [← hcc] at C7
      simp only [← hX, ← hY, ← hS] at C5 C6 C7
      rw [← hX] at sx6 ⊢
      rw [← hY] at sy6 ⊢
      rw [← hS] at ss6 ⊢
      have D5 : Hid _ := C5
      have D6 : Hid _ := C6
      have D7 : Hid _ := C7
      clear C5 C6 C7 hX hY hS hcc e5 hx' hy' hn' hf hb2 HE hx hy hx2 hy2 cx
      go_wp2_with fail
      refine Calls.mono D5.out ?_
      rintro e w7 ⟨ru, cu, rfl, o7, b7⟩
      have B7 : Below w.heap.size w w7 := B6.trans (b7.mono B6.size)
      have sx7 := sx6.keep b7
      have ss7 := ss6.keep b7
      have su7 := o7.sl
      clear o7 b7 D5 sx6 sy6 ss6 B6
      go_wp2_with fail
      refine Calls.mono (D6.out _ _ _ su7 sx7) ?_
      rintro e w8 ⟨rfl, q8, rfl⟩
      have ss8 : Sl (w7.drewN q8) rs S := ss7
      have sx8 : Sl (w7.drewN q8) r X := sx7
      have B8 := below_dN B7 q8
      clear ss7 sx7 su7 B7
      go_wp2_with fail
      refine Calls.mono (D7.out _ ss8 sx8) ?_
      rintro e w9 ⟨rfl, b9⟩
      have B9 := B8.trans (b9.mono B8.size)
      go_wp2
      go_ret
      exact ⟨rfl, B9⟩

/-! ### THE ROW's STEP: WRITTEN OUT: LEAVE IT -/
set_option maxRecDepth 100000 in
theorem lifted (os : Os) (started : os.Started) (H : Type) (enc : TypeId × Value → H) :
    ReturnsInHanded {} Try.checked os 3 .any (Rows.fnNatDivSpec.pre6 enc Try.prog Try.f3 Rows.fnNatDivRow.domain false) (Rows.fnNatDivSpec.post enc Try.prog Try.f3 false true false false) := by
  refine returnsInHanded_of_change (C := Try.checked) own started (by kernel_rfl) Try.func3
    (ChangeSpec.witness6 (enc := enc) (C := Try.checked) false ⟨#[], #[.slice none 0 0], []⟩ 8 (by kernel_rfl) (by kernel_rfl) (by kernel_rfl) (by kernel_rfl)) ?_
  intro W base args ds gs before hval0 hW hcnd _
  have hval : ∀ (j : Nat) t v, Try.f3.params[j]? = some t → args[j]? = some v → Value.okWide Try.prog W .any base t v := hval0
  have hW' := hW
  obtain ⟨p, q, hA0, hV, rfl, hfz, hnd⟩ := hW
  have hA : DataW.TrodAll enc Try.prog W 0 (fun _ => true) true Try.f3.params.toList args.toList ds p := hA0
  rw [Try.params3] at hA hval
  obtain ⟨v0, vs0, d0, ds0, p0, q0, hargs, rfl, rfl, h0, r0⟩ := trodAll_cons hA
  obtain ⟨rfl, rfl, rfl⟩ := trodAll_nil r0
  obtain rfl : args = #[v0] := by cases args; simp_all
  obtain ⟨rfl, rfl⟩ := trodVars_none hV
  obtain ⟨a0, len0, cap0, rfl⟩ := okWide_slice Try.underlying22 (hval 0 22 v0 rfl rfl)
  have k0 := h0
  have lt0 : ∀ x ∈ p0, x.block < W.heap.size := by obtain ⟨m, hm⟩ := k0; exact DataW.trod_lt m _ _ _ hm
  obtain ⟨z0, w0⟩ : ∃ zs, IsRow .u8 W a0 len0 cap0 zs := by
    obtain ⟨fuel, hf⟩ := h0
    rcases open_ints Try.underlying22 Try.underlying5 (by kernel_rfl) hf with ⟨hcs, _⟩ | ⟨x, l, c, zs, hcs, _, hl, hm, hz, _, hcell, hwz⟩
    · simp [Value.cells] at hcs
      obtain ⟨rfl, rfl, rfl⟩ := hcs
      exact ⟨[], .inl ⟨rfl, rfl, rfl, rfl⟩⟩
    · simp [Value.cells] at hcs
      obtain ⟨rfl, rfl, rfl⟩ := hcs
      exact ⟨zs, .inr ⟨_, rfl, hl, hm, by simpa using hz, hcell, hwz⟩⟩
  clear hA0 hval0
  refine (walk a0 len0 cap0 z0 W w0).mono fun e W' ⟨he, bel⟩ => ?_
  subst he
  exact ⟨_, rfl, _, _, _, [], _, [], hW', trodAll_mk1 (shut_bool Try.underlying4 _), (trodAll_cons_mk (Below.trod laidOut (by kernel_rfl) (of_decide_eq_true (by kernel_rfl)) k0 bel lt0) trodAll_mk0), rfl, bel.frame _, fun h => by cases h⟩

theorem over : Rows.fnNatDivRow.holds Try.pinned (OpenSpec.ofChange Rows.fnNatDivSpec) :=
  OpenClaim.holds_of_wide 3 Try.f3 rfl rfl rfl rfl rfl rfl rfl ⟨rfl, rfl, rfl, rfl, rfl⟩ rfl rfl rfl rfl rfl (by kernel_rfl) Try.func3 (by kernel_rfl)
    (of_decide_eq_true (by kernel_rfl)) (by unfold Func.isWrapper; first | (rw [if_pos (by decide +kernel)]; kernel_rfl) | (rw [if_neg (by decide +kernel)]; exact ⟨rfl, rfl⟩))
    (fun os started H enc _ => lifted os started H enc)

/-- ████ THE STATEMENT ████ -/
theorem proved : Rows.FnNatDivSaid := over
end fnNatDiv
theorem fnNatDiv_holds : Rows.FnNatDivSaid := fnNatDiv.proved
#print axioms fnNatDiv_holds
end Go.Proofs.Ythokphoojmpajaa
