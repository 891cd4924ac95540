/- For every slice of bytes the law FnNatText returns true and leaves its argument as it was; no condition. -/
import Derived.Test.YthokphoojmpajaaRows
import Derived.WalkKit
import Derived.ProofKit
import Derived.OpenShut
import Derived.ShutString
import Derived.ChangeOld
import Derived.Below
import Derived.Test.YthokphoojmpajaaDrawText
import Derived.Test.YthokphoojmpajaaDrawDiv
import Derived.Test.YthokphoojmpajaaNatRead
import Derived.Test.YthokphoojmpajaaSameS
import Derived.Test.YthokphoojmpajaaOpMore
namespace Go.Proofs.Ythokphoojmpajaa
namespace fnNatText
open Go.ChangeShapes Go.WideShapes Go.ChangeAt Go.RowKit Go.Proofs.Pin
open Go.ChangeMaps (open_string shut_string)
set_option linter.unusedVariables false

theorem own : ownKnob Try.prog.godebug = none := by kernel_rfl
theorem laidOut : laidOutB Try.prog = true := by kernel_rfl

/-! ### STEP 1: THE WALK: the Go text returns true, AND WRITES NOTHING THAT WAS THERE: 'Below w.heap.size w w'' (Derived/Below.lean: '.refl', '.alloc', '.drew', '.setCell' at a new block, '.trans'). Open each 'IsRow' by 'rcases' AHEAD of 'go_enter'; part every test ahead of the walk. -/

set_option maxRecDepth 20000 in
set_option maxHeartbeats 2000000 in
theorem walk (a0 : Option Addr) (len0 cap0 : Nat) (z0 : List Int) (w : World) (w0 : IsRow .u8 w a0 len0 cap0 z0) :
    Calls Try.prog 4 #[.slice a0 len0 cap0] w fun e w' => e = .returned (.bool true) ∧ Below w.heap.size w w' := by
  obtain ⟨h1, h2, h3, h4⟩ := isRow_u8 w0
  clear w0
  by_cases hb0 : (1048576 : Int) < (len0 : Int)
  · go_enter Try.func4, Try.ntmps4
    go_wp2
    go_ret
    exact ⟨rfl, Below.refl _ _⟩
  have C0 : Hid _ := drawNatText_any a0 len0 cap0 _ w h1 h2 h3 (by omega) h4
  have hl0 : (len0 : Int) ≤ 1048576 := by omega
  go_enter Try.func4, Try.ntmps4
  go_wp2_with fail
  refine Calls.mono C0.out ?_
  rintro e w1 ⟨r, cr, xs, rfl, o1, hx, B1⟩
  have sx := o1.sl
  have hx2 : xs.length ≤ 1048576 := by omega
  have SU1 := h1.keep B1
  have C1 : Hid _ := implText_any r cr xs w1 sx hx2
  have C2 : Hid (∀ W, Sl W r xs → Calls Try.prog 18 #[.slice r xs.length cr] W fun e w' => e = .returned (.bool (okB xs)) ∧ W = w') := fun W h => (specOk_any r cr xs W h hx2).mono fun e w' h => ⟨h.1, h.2.symm⟩
  clear C0 o1 h1
  cases hok : okB xs with
  | false =>
    rw [hok] at C2
    rw [textA_no hok] at C1
    clear hok
    go_wp2_with fail
    refine Calls.mono C1.out ?_
    rintro e w2 ⟨rfl, b2⟩
    have B2 : Below w.heap.size w w2 := B1.trans (b2.mono B1.size)
    have SU2 := SU1.keep b2
    have sx2 := sx.keep b2
    clear C1 b2 B1 SU1 sx
    go_wp2_with fail
    refine Calls.mono (C2.out _ sx2) ?_
    rintro e w3 ⟨rfl, rfl⟩
    clear C2 sx2
    obtain ⟨WW, hWW⟩ : ∃ WW, WW = w2 := ⟨_, rfl⟩
    have SU := SU2
    have BW := B2
    rw [← hWW] at SU BW ⊢
    clear SU2 B2 hWW
    have C3 : Hid _ := drawNatRead_any a0 len0 cap0 _ WW SU h2 h3 (by omega) h4
    clear SU h2 h3 h4
    go_wp2_with fail
    refine Calls.mono C3.out ?_
    rintro e w6 ⟨t, rfl, ht, b6⟩
    have B6 : Below w.heap.size w w6 := BW.trans (b6.mono BW.size)
    clear C3 b6 BW
    have c4 := implRead_op t w6 (by omega)
    have c5 := fun W => specRead_op t W (by omega)
    have HBK : Hid (∀ m, readO t = some m → natText t = true ∧ m = num t t.size) := fun m hm => by
      by_cases q1 : t.size ≤ 1300
      · cases q2 : natText t with
        | false => rw [readO_no2 q2] at hm; cases hm
        | true => rw [readO_yes q1 q2] at hm; cases hm; exact ⟨rfl, rfl⟩
      · rw [readO_no1 q1] at hm; cases hm
    obtain ⟨bo, hbo⟩ : ∃ bo, bo = ansB (readO t) := ⟨_, rfl⟩
    obtain ⟨Ls, hLs⟩ : ∃ Ls, Ls = ansL (readO t) := ⟨_, rfl⟩
    rw [← hbo, ← hLs] at c4
    simp only [← hbo, ← hLs] at c5
    have HLS : Hid (bo = ansB (readO t) ∧ Ls = ansL (readO t)) := ⟨hbo, hLs⟩
    have C4 : Hid _ := c4
    have C5 : Hid _ := c5
    have hbb : (bo != bo) = false := by simp
    clear c4 c5 hbo hLs
    go_wp2_with fail
    refine Calls.mono C4.out ?_
    rintro e w7 ⟨r7, c7, rfl, o7, b7⟩
    have B7 : Below w.heap.size w w7 := B6.trans (b7.mono B6.size)
    clear C4 b7 B6
    go_wp2_with fail
    refine Calls.mono (C5.out w7) ?_
    rintro e w8 ⟨r8, c8, rfl, o8, b8⟩
    have B8 : Below w.heap.size w w8 := B7.trans (b8.mono B7.size)
    have s7 := o7.sl.keep b8
    clear C5 b8 B7 o7 o8
    cases bo with
    | false =>
      go_wp2
      go_ret
      exact ⟨rfl, B8⟩
    | true =>
      obtain ⟨e1, e2⟩ := HLS.out
      cases hro : readO t with
      | none => rw [hro] at e1; cases e1
      | some m =>
        obtain ⟨q1, q2⟩ := HBK.out m hro
        rw [hro] at e1 e2
        have hfit : (dgs m).length ≤ 256 := by simpa [ansB, fitB] using e1.symm
        rw [(ans_fit hfit).1] at e2
        have htt : textA Ls = t := by rw [e2, textA_yes hfit, q2]; exact txt_back q1
        have C9 : Hid _ := implText_any r7 c7 Ls w8 s7 (by rw [e2]; omega)
        rw [htt] at C9
        have htl : (t.toList == t.toList) = true := by simp
        clear e1 e2 hro q1 q2 hfit htt HLS HBK s7
        go_wp2_with fail
        refine Calls.mono C9.out ?_
        rintro e w9 ⟨rfl, b9⟩
        have B9 : Below w.heap.size w w9 := B8.trans (b9.mono B8.size)
        go_wp2
        go_ret
        exact ⟨rfl, B9⟩
  | true =>
    rw [hok] at C2
    obtain ⟨x, hxe, hx'⟩ := ok_dgs hok
    have htx := txt_some x
    have hsz := txt_len hx'
    have hrd : readO (txt x) = some x := by rw [readO_yes (by omega) (txt_natText x), txt_val]
    rw [hxe, textA_yes hx', ← hxe] at C1
    have c3 := fun W => implRead_op (txt x) W (by omega)
    simp only [hrd, (ans_fit hx').1, (ans_fit hx').2, ← hxe] at c3
    obtain ⟨T, hT⟩ : ∃ T, T = txt x := ⟨_, rfl⟩
    rw [← hT] at C1 htx
    simp only [← hT] at c3
    have C3' : Hid _ := c3
    have hne : (T.toList == []) = false := by rw [eqE, decide_eq_false_iff_not]; omega
    have hself : decide (xs = xs) = true := by simp
    clear hok hxe hx' hT hrd htx hsz c3
    go_wp2_with fail
    refine Calls.mono C1.out ?_
    rintro e w2 ⟨rfl, b2⟩
    have B2 : Below w.heap.size w w2 := B1.trans (b2.mono B1.size)
    have SU2 := SU1.keep b2
    have sx2 := sx.keep b2
    clear C1 b2 B1 SU1 sx
    go_wp2_with fail
    refine Calls.mono (C2.out _ sx2) ?_
    rintro e w3 ⟨rfl, rfl⟩
    clear C2
    go_wp2_with fail
    refine Calls.mono (C3'.out _) ?_
    rintro e w3 ⟨r3, c3, rfl, o3, b3⟩
    have B3 : Below w.heap.size w w3 := B2.trans (b3.mono B2.size)
    have SU3 := SU2.keep b3
    have sx3 := sx2.keep b3
    have C4' : Hid _ := same_any r r3 cr c3 xs xs w3 sx3 o3.sl hx2 hx2
    clear C3' b3 B2 SU2 sx2 o3 sx3
    go_wp2_with fail
    refine Calls.mono C4'.out ?_
    rintro e w4 ⟨rfl, q, rfl⟩
    obtain ⟨WW, hWW⟩ : ∃ WW, WW = w3.drewN q := ⟨_, rfl⟩
    have SU : SlU WW a0 (z0.take len0) := by rw [hWW]; exact slU_dN SU3 q
    have BW : Below w.heap.size w WW := by rw [hWW]; exact below_dN B3 q
    rw [← hWW]
    clear SU3 B3 hWW C4'
    have C3 : Hid _ := drawNatRead_any a0 len0 cap0 _ WW SU h2 h3 (by omega) h4
    clear SU h2 h3 h4
    go_wp2_with fail
    refine Calls.mono C3.out ?_
    rintro e w6 ⟨t, rfl, ht, b6⟩
    have B6 : Below w.heap.size w w6 := BW.trans (b6.mono BW.size)
    clear C3 b6 BW
    have c4 := implRead_op t w6 (by omega)
    have c5 := fun W => specRead_op t W (by omega)
    have HBK : Hid (∀ m, readO t = some m → natText t = true ∧ m = num t t.size) := fun m hm => by
      by_cases q1 : t.size ≤ 1300
      · cases q2 : natText t with
        | false => rw [readO_no2 q2] at hm; cases hm
        | true => rw [readO_yes q1 q2] at hm; cases hm; exact ⟨rfl, rfl⟩
      · rw [readO_no1 q1] at hm; cases hm
    obtain ⟨bo, hbo⟩ : ∃ bo, bo = ansB (readO t) := ⟨_, rfl⟩
    obtain ⟨Ls, hLs⟩ : ∃ Ls, Ls = ansL (readO t) := ⟨_, rfl⟩
    rw [← hbo, ← hLs] at c4
    simp only [← hbo, ← hLs] at c5
    have HLS : Hid (bo = ansB (readO t) ∧ Ls = ansL (readO t)) := ⟨hbo, hLs⟩
    have C4 : Hid _ := c4
    have C5 : Hid _ := c5
    have hbb : (bo != bo) = false := by simp
    clear c4 c5 hbo hLs
    go_wp2_with fail
    refine Calls.mono C4.out ?_
    rintro e w7 ⟨r7, c7, rfl, o7, b7⟩
    have B7 : Below w.heap.size w w7 := B6.trans (b7.mono B6.size)
    clear C4 b7 B6
    go_wp2_with fail
    refine Calls.mono (C5.out w7) ?_
    rintro e w8 ⟨r8, c8, rfl, o8, b8⟩
    have B8 : Below w.heap.size w w8 := B7.trans (b8.mono B7.size)
    have s7 := o7.sl.keep b8
    clear C5 b8 B7 o7 o8
    cases bo with
    | false =>
      go_wp2
      go_ret
      exact ⟨rfl, B8⟩
    | true =>
      obtain ⟨e1, e2⟩ := HLS.out
      cases hro : readO t with
      | none => rw [hro] at e1; cases e1
      | some m =>
        obtain ⟨q1, q2⟩ := HBK.out m hro
        rw [hro] at e1 e2
        have hfit : (dgs m).length ≤ 256 := by simpa [ansB, fitB] using e1.symm
        rw [(ans_fit hfit).1] at e2
        have htt : textA Ls = t := by rw [e2, textA_yes hfit, q2]; exact txt_back q1
        have C9 : Hid _ := implText_any r7 c7 Ls w8 s7 (by rw [e2]; omega)
        rw [htt] at C9
        have htl : (t.toList == t.toList) = true := by simp
        clear e1 e2 hro q1 q2 hfit htt HLS HBK s7
        go_wp2_with fail
        refine Calls.mono C9.out ?_
        rintro e w9 ⟨rfl, b9⟩
        have B9 : Below w.heap.size w w9 := B8.trans (b9.mono B8.size)
        go_wp2
        go_ret
        exact ⟨rfl, B9⟩

/-! ### THE ROW's STEP: WRITTEN OUT: LEAVE IT -/
set_option maxRecDepth 100000 in
theorem lifted (os : Os) (started : os.Started) (H : Type) (enc : TypeId × Value → H) :
    ReturnsInHanded {} Try.checked os 4 .any (Rows.fnNatTextSpec.pre6 enc Try.prog Try.f4 Rows.fnNatTextRow.domain false) (Rows.fnNatTextSpec.post enc Try.prog Try.f4 false true false false) := by
  refine returnsInHanded_of_change (C := Try.checked) own started (by kernel_rfl) Try.func4
    (ChangeSpec.witness6 (enc := enc) (C := Try.checked) false ⟨#[], #[.slice none 0 0], []⟩ 8 (by kernel_rfl) (by kernel_rfl) (by kernel_rfl) (by kernel_rfl)) ?_
  intro W base args ds gs before hval0 hW hcnd _
  have hval : ∀ (j : Nat) t v, Try.f4.params[j]? = some t → args[j]? = some v → Value.okWide Try.prog W .any base t v := hval0
  have hW' := hW
  obtain ⟨p, q, hA0, hV, rfl, hfz, hnd⟩ := hW
  have hA : DataW.TrodAll enc Try.prog W 0 (fun _ => true) true Try.f4.params.toList args.toList ds p := hA0
  rw [Try.params4] at hA hval
  obtain ⟨v0, vs0, d0, ds0, p0, q0, hargs, rfl, rfl, h0, r0⟩ := trodAll_cons hA
  obtain ⟨rfl, rfl, rfl⟩ := trodAll_nil r0
  obtain rfl : args = #[v0] := by cases args; simp_all
  obtain ⟨rfl, rfl⟩ := trodVars_none hV
  obtain ⟨a0, len0, cap0, rfl⟩ := okWide_slice Try.underlying22 (hval 0 22 v0 rfl rfl)
  have k0 := h0
  have lt0 : ∀ x ∈ p0, x.block < W.heap.size := by obtain ⟨m, hm⟩ := k0; exact DataW.trod_lt m _ _ _ hm
  obtain ⟨z0, w0⟩ : ∃ zs, IsRow .u8 W a0 len0 cap0 zs := by
    obtain ⟨fuel, hf⟩ := h0
    rcases open_ints Try.underlying22 Try.underlying5 (by kernel_rfl) hf with ⟨hcs, _⟩ | ⟨x, l, c, zs, hcs, _, hl, hm, hz, _, hcell, hwz⟩
    · simp [Value.cells] at hcs
      obtain ⟨rfl, rfl, rfl⟩ := hcs
      exact ⟨[], .inl ⟨rfl, rfl, rfl, rfl⟩⟩
    · simp [Value.cells] at hcs
      obtain ⟨rfl, rfl, rfl⟩ := hcs
      exact ⟨zs, .inr ⟨_, rfl, hl, hm, by simpa using hz, hcell, hwz⟩⟩
  clear hA0 hval0
  refine (walk a0 len0 cap0 z0 W w0).mono fun e W' ⟨he, bel⟩ => ?_
  subst he
  exact ⟨_, rfl, _, _, _, [], _, [], hW', trodAll_mk1 (shut_bool Try.underlying4 _), (trodAll_cons_mk (Below.trod laidOut (by kernel_rfl) (of_decide_eq_true (by kernel_rfl)) k0 bel lt0) trodAll_mk0), rfl, bel.frame _, fun h => by cases h⟩

theorem over : Rows.fnNatTextRow.holds Try.pinned (OpenSpec.ofChange Rows.fnNatTextSpec) :=
  OpenClaim.holds_of_wide 4 Try.f4 rfl rfl rfl rfl rfl rfl rfl ⟨rfl, rfl, rfl, rfl, rfl⟩ rfl rfl rfl rfl rfl (by kernel_rfl) Try.func4 (by kernel_rfl)
    (of_decide_eq_true (by kernel_rfl)) (by unfold Func.isWrapper; first | (rw [if_pos (by decide +kernel)]; kernel_rfl) | (rw [if_neg (by decide +kernel)]; exact ⟨rfl, rfl⟩))
    (fun os started H enc _ => lifted os started H enc)

/-- ████ THE STATEMENT ████ -/
theorem proved : Rows.FnNatTextSaid := over
end fnNatText
theorem fnNatText_holds : Rows.FnNatTextSaid := fnNatText.proved
#print axioms fnNatText_holds
end Go.Proofs.Ythokphoojmpajaa
