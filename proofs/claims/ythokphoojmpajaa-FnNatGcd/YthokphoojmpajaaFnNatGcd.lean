/- For every slice of bytes the law FnNatGcd returns true and leaves its argument as it was; no condition. -/
import Derived.Test.YthokphoojmpajaaRows
import Derived.WalkKit
import Derived.ProofKit
import Derived.OpenShut
import Derived.ShutString
import Derived.ChangeOld
import Derived.Below
import Derived.Test.YthokphoojmpajaaDrawGcd
import Derived.Test.YthokphoojmpajaaSameS
import Derived.Test.YthokphoojmpajaaOpMore
import Derived.Test.YthokphoojmpajaaNatDiv
import Derived.Test.YthokphoojmpajaaNatGcd
namespace Go.Proofs.Ythokphoojmpajaa
namespace fnNatGcd
open Go.ChangeShapes Go.WideShapes Go.ChangeAt Go.RowKit Go.Proofs.Pin
open Go.ChangeMaps (open_string shut_string)
set_option linter.unusedVariables false

theorem own : ownKnob Try.prog.godebug = none := by kernel_rfl
theorem laidOut : laidOutB Try.prog = true := by kernel_rfl

/-! ### STEP 1: THE WALK: the Go text returns true, AND WRITES NOTHING THAT WAS THERE: 'Below w.heap.size w w'' (Derived/Below.lean: '.refl', '.alloc', '.drew', '.setCell' at a new block, '.trans'). Open each 'IsRow' by 'rcases' AHEAD of 'go_enter'; part every test ahead of the walk. -/

/-- What both numbers are divided by the greatest common divisor have none but 1. -/
theorem gcd_co {x y : Nat} (h : Nat.gcd x y ≠ 0) : Nat.gcd (x / Nat.gcd x y) (y / Nat.gcd x y) = 1 := by
  rw [Nat.gcd_div (Nat.gcd_dvd_left x y) (Nat.gcd_dvd_right x y), Nat.div_self (Nat.pos_of_ne_zero h)]
set_option maxRecDepth 20000 in
set_option maxHeartbeats 2000000 in
theorem walk (a0 : Option Addr) (len0 cap0 : Nat) (z0 : List Int) (w : World) (w0 : IsRow .u8 w a0 len0 cap0 z0) :
    Calls Try.prog 6 #[.slice a0 len0 cap0] w fun e w' => e = .returned (.bool true) ∧ Below w.heap.size w w' := by
  obtain ⟨h1, h2, h3, h4⟩ := isRow_u8 w0
  clear w0
  by_cases hb0 : (1048576 : Int) < (len0 : Int)
  · go_enter Try.func6, Try.ntmps6
    go_wp2
    go_ret
    exact ⟨rfl, Below.refl _ _⟩
  have C0 : Hid _ := drawGcd_any a0 len0 cap0 _ w h1 h2 h3 (by omega) h4
  clear h1 h2 h3 h4
  have hl0 : (len0 : Int) ≤ 1048576 := by omega
  go_enter Try.func6, Try.ntmps6
  go_wp2_with fail
  refine Calls.mono C0.out ?_
  rintro e w1 ⟨r, cr, xs, s, cs, ys, rfl, o1, p1, hx, hy, B1⟩
  have sx := o1.sl
  have sy := p1.sl
  have cx := own_cap o1
  have cy := own_cap p1
  clear o1 p1 C0
  have hx2 : xs.length ≤ 1048576 := by omega
  have hy2 : ys.length ≤ 1048576 := by omega
  have c1 := implGcd_op r s cr cs xs ys w1 sx sy hx2 hy2 cx cy
  have c2 := fun (w2 : World) (h1 : Sl w2 r xs) (h2 : Sl w2 s ys) => implGcd_op s r cs cr ys xs w2 h2 h1 hy2 hx2 cy cx
  have c3 := fun (w2 : World) (h1 : Sl w2 r xs) (h2 : Sl w2 s ys) => specGcd_op r s cr cs xs ys w2 h1 h2 hx2 hy2 cx cy
  have hsym : op2 (fun x y => some (Nat.gcd x y)) ys xs = op2 (fun x y => some (Nat.gcd x y)) xs ys := by
    unfold op2
    cases okB xs <;> cases okB ys <;> simp [Nat.gcd_comm]
  simp only [hsym] at c2
  obtain ⟨G, hG⟩ : ∃ G, G = ansL (op2 (fun x y => some (Nat.gcd x y)) xs ys) := ⟨_, rfl⟩
  obtain ⟨bb, hbbe⟩ : ∃ bb, bb = ansB (op2 (fun x y => some (Nat.gcd x y)) xs ys) := ⟨_, rfl⟩
  have hGl := ansL_len (op2 (fun x y => some (Nat.gcd x y)) xs ys)
  rw [← hG] at hGl
  simp only [← hG, ← hbbe] at c1 c2 c3
  have HD : Hid (G = ansL (op2 (fun x y => some (Nat.gcd x y)) xs ys) ∧ bb = ansB (op2 (fun x y => some (Nat.gcd x y)) xs ys)) := ⟨hG, hbbe⟩
  have C1 : Hid _ := c1
  have C2 : Hid _ := c2
  have C3 : Hid _ := c3
  have C4 : Hid (∀ (w5 : World) (ru rv : Option Addr) (cu cv : Nat), Sl w5 ru G → Sl w5 rv G → Calls Try.prog 12 #[.slice ru G.length cu, .slice rv G.length cv] w5 fun e w' => e = .returned (.bool true) ∧ ∃ q, w' = w5.drewN q) := fun w5 ru rv cu cv h1 h2 => (same_any ru rv cu cv G G w5 h1 h2 (by omega) (by omega)).mono fun e w' h => ⟨by rw [h.1]; simp, h.2⟩
  have hbb : (bb != bb) = false := by simp
  clear c1 c2 c3 hG hbbe hsym
  go_wp2_with fail
  refine Calls.mono C1.out ?_
  rintro e w2 ⟨rg, cg, rfl, o2, b2⟩
  have B2 : Below w.heap.size w w2 := B1.trans (b2.mono B1.size)
  have sx2 := sx.keep b2
  have sy2 := sy.keep b2
  have sg2 := o2.sl
  have kg := own_cap o2
  clear b2 o2 C1 sx sy B1
  go_wp2_with fail
  refine Calls.mono (C2.out _ sx2 sy2) ?_
  rintro e w3 ⟨rh, ch, rfl, o3, b3⟩
  have B3 : Below w.heap.size w w3 := B2.trans (b3.mono B2.size)
  have sx3 := sx2.keep b3
  have sy3 := sy2.keep b3
  have sg3 := sg2.keep b3
  have sh3 := o3.sl
  clear b3 o3 C2 sx2 sy2 sg2 B2
  go_wp2_with fail
  refine Calls.mono (C3.out _ sx3 sy3) ?_
  rintro e w4 ⟨rw4, cw4, rfl, o4, b4⟩
  have B4 : Below w.heap.size w w4 := B3.trans (b4.mono B3.size)
  have sx4 := sx3.keep b4
  have sy4 := sy3.keep b4
  have sg4 := sg3.keep b4
  have sh4 := sh3.keep b4
  have sw4 := o4.sl
  clear b4 o4 C3 sx3 sy3 sg3 sh3 B3
  go_wp2_with fail
  refine Calls.mono (C4.out _ _ _ _ _ sg4 sw4) ?_
  rintro e w5 ⟨rfl, q5, rfl⟩
  have sx5 : Sl (w4.drewN q5) r xs := sx4
  have sy5 : Sl (w4.drewN q5) s ys := sy4
  have sg5 : Sl (w4.drewN q5) rg G := sg4
  have sh5 : Sl (w4.drewN q5) rh G := sh4
  have B5 := below_dN B4 q5
  clear sx4 sy4 sg4 sh4 sw4 B4
  go_wp2_with fail
  refine Calls.mono (C4.out _ _ _ _ _ sg5 sh5) ?_
  rintro e w6 ⟨rfl, q6, hq6⟩
  obtain ⟨q7, hq7⟩ : ∃ q7, (w4.drewN q5).drewN q6 = w4.drewN q7 := ⟨_, World.drewN_drewN _ _ _⟩
  rw [hq7] at hq6
  subst hq6
  have sx6 : Sl (w4.drewN q7) r xs := sx5
  have sy6 : Sl (w4.drewN q7) s ys := sy5
  have sg6 : Sl (w4.drewN q7) rg G := sg5
  have B6 : Below w.heap.size w (w4.drewN q7) := by rw [← hq7]; exact below_dN B5 q6
  clear sx5 sy5 sg5 sh5 B5 hq7 C4
  cases bb with
  | false =>
    have hG0 : G = [] := by
      obtain ⟨h1, h2⟩ := HD.out
      rw [h1]
      cases ho : op2 (fun x y => some (Nat.gcd x y)) xs ys with
      | none => rfl
      | some n =>
        rw [ho] at h2
        simp only [ansB, fitB] at h2
        simp only [ansL, fitL]
        rw [if_neg (by simpa using h2.symm)]
    subst hG0
    go_wp2
    go_ret
    exact ⟨rfl, B6⟩
  | true =>
    obtain ⟨hG, hb⟩ := HD.out
    obtain ⟨x, y, n, rfl, rfl, hx', hy', hf, hn'⟩ := ans_true hb.symm
    have hn : Nat.gcd x y = n := by simpa using hf
    subst hn
    rw [op2_yes hx' hy', (ans_fit hn').1] at hG
    clear hf hb HD
    by_cases h00 : x = 0 ∧ y = 0
    · obtain ⟨rfl, rfl⟩ := h00
      rw [Nat.gcd_zero_left] at hG
      subst hG
      rw [dgs_zero]
      clear hx hy hx2 hy2 hx' hy' hn' sx6 sy6 sg6 hGl kg cx cy
      go_wp2
      go_ret
      exact ⟨rfl, B6⟩
    · have hg0 : Nat.gcd x y ≠ 0 := fun h => h00 (Nat.gcd_eq_zero_iff.1 h)
      have hco := gcd_co hg0
      have hdx : x % Nat.gcd x y = 0 := Nat.mod_eq_zero_of_dvd (Nat.gcd_dvd_left x y)
      have hdy : y % Nat.gcd x y = 0 := Nat.mod_eq_zero_of_dvd (Nat.gcd_dvd_right x y)
      have c1 := implDiv_op r rg cr cg (dgs x) G (w4.drewN q7) sx6 sg6 hx2 (by omega) cx
      have c2 := fun (w8 : World) (h1 : Sl w8 s (dgs y)) (h2 : Sl w8 rg G) => implDiv_op s rg cs cg (dgs y) G w8 h1 h2 hy2 (by omega) cy
      obtain ⟨d1, d2, d3⟩ := dv_yes hx' hn' hg0
      obtain ⟨d4, d5, d6⟩ := dv_yes hy' hn' hg0
      rw [hdx, dgs_zero] at d3
      rw [hdy, dgs_zero] at d6
      rw [← hG] at d1 d2 d3 d4 d5 d6
      simp only [d1, d2, d3] at c1
      simp only [d4, d5, d6] at c2
      have lu : (dgs (x / Nat.gcd x y)).length ≤ 256 := Nat.le_trans (dgs_len_le (Nat.div_le_self x _)) hx'
      have lv : (dgs (y / Nat.gcd x y)).length ≤ 256 := Nat.le_trans (dgs_len_le (Nat.div_le_self y _)) hy'
      have c3 := fun (w8 : World) (ru rv : Option Addr) (cu cv : Nat) (h1 : Sl w8 ru (dgs (x / Nat.gcd x y))) (h2 : Sl w8 rv (dgs (y / Nat.gcd x y))) (h3 : (dgs (x / Nat.gcd x y)).length ≤ cu) (h4 : (dgs (y / Nat.gcd x y)).length ≤ cv) => implGcd_op ru rv cu cv _ _ w8 h1 h2 (by omega) (by omega) h3 h4
      have d1' : dgs 1 = [1] := dgs_digit (by decide) (by decide)
      have l1 : (dgs 1).length ≤ 256 := by rw [d1']; simp
      simp only [op2_yes lu lv, hco, (ans_fit l1).1, (ans_fit l1).2, d1'] at c3
      have c4 := fun (w8 : World) (ru rv : Option Addr) (cu cv : Nat) (h1 : Sl w8 ru [1]) (h2 : Sl w8 rv [1]) => (same_any ru rv cu cv [1] [1] w8 h1 h2 (by simp) (by simp)).mono (R' := fun e w' => e = .returned (.bool true) ∧ ∃ q, w' = w8.drewN q) (fun e w' h => ⟨by rw [h.1]; simp, h.2⟩)
      have hlen : ((dgs x).length = 0 ∧ 0 < (dgs y).length) ∨ 0 < (dgs x).length := by
        by_cases hx0 : x = 0
        · subst hx0
          exact .inl ⟨by rw [dgs_zero]; rfl, len_pos (fun h => h00 ⟨rfl, h⟩)⟩
        · exact .inr (len_pos hx0)
      obtain ⟨X, hX⟩ : ∃ X, X = dgs x := ⟨_, rfl⟩
      obtain ⟨Y, hY⟩ : ∃ Y, Y = dgs y := ⟨_, rfl⟩
      obtain ⟨U, hU⟩ : ∃ U, U = dgs (x / Nat.gcd x y) := ⟨_, rfl⟩
      obtain ⟨V, hV⟩ : ∃ V, V = dgs (y / Nat.gcd x y) := ⟨_, rfl⟩
      simp only [← hX, ← hY, ← hU, ← hV] at c1 c2 c3 hlen
      rw [← hX] at sx6 ⊢
      rw [← hY] at sy6 ⊢
      have D1 : Hid _ := c1
      have D2 : Hid _ := c2
      have D3 : Hid _ := c3
      have D4 : Hid _ := c4
      clear c1 c2 c3 c4 hX hY hU hV hG hg0 hco hdx hdy d1 d2 d3 d4 d5 d6 d1' l1 lu lv hx hy hx2 hy2 hx' hy' hn' hGl kg cx cy h00
      have hcase : ((X.length : Int) == 0) = true ∧ ((Y.length : Int) == 0) = false ∨ ((X.length : Int) == 0) = false := by
        rcases hlen with ⟨h1, h2⟩ | h1
        · exact .inl ⟨by rw [beq_iff_eq]; omega, by rw [beq_eq_false_iff_ne]; omega⟩
        · exact .inr (by rw [beq_eq_false_iff_ne]; omega)
      clear hlen
      rcases hcase with ⟨hX0, hY0⟩ | hX0
      all_goals
        go_wp2_with fail
        refine Calls.mono D1.out ?_
        rintro e w8 ⟨ru, cu, rv, cv, rfl, ou, _, _, b8⟩
        have B8 : Below w.heap.size w w8 := B6.trans (b8.mono B6.size)
        have sy8 := sy6.keep b8
        have sg8 := sg6.keep b8
        have su8 := ou.sl
        have ku := own_cap ou
        clear D1 ou b8 B6 sy6 sg6 sx6
        go_wp2_with fail
        refine Calls.mono (D2.out _ sy8 sg8) ?_
        rintro e w9 ⟨rp, cp, rt, ct, rfl, op, _, _, b9⟩
        have B9 : Below w.heap.size w w9 := B8.trans (b9.mono B8.size)
        have su9 := su8.keep b9
        have sp9 := op.sl
        have kp := own_cap op
        clear D2 op b9 B8 sy8 sg8 su8
        go_wp2_with fail
        refine Calls.mono (D3.out _ _ _ _ _ su9 sp9 ku kp) ?_
        rintro e w10 ⟨ro, co, rfl, oo, b10⟩
        have B10 : Below w.heap.size w w10 := B9.trans (b10.mono B9.size)
        have so10 := oo.sl
        clear D3 oo b10 B9 su9 sp9
        go_wp2_with fail
        have bA : Below w10.heap.size w10 (w10.alloc (.cells #[.int .i64 1] 3)) := (Below.refl _ _).alloc (Nat.le_refl _) _
        have sA : Sl (w10.alloc (.cells #[.int .i64 1] 3)) (some ⟨w10.heap.size, 0, none⟩) [1] := .inr ⟨w10.heap.size, 0, rfl, by simp, fun i hi => by
          have : i = 0 := by simpa using hi
          subst this
          simp [go_sem]⟩
        refine Calls.mono (D4.out _ _ _ _ _ (so10.keep bA) sA) ?_
        rintro e w11 ⟨rfl, q11, rfl⟩
        have B11 := below_dN (B10.alloc B10.size (.cells #[.int .i64 1] 3)) q11
        go_wp2
        go_ret
        exact ⟨rfl, B11⟩

/-! ### THE ROW's STEP: WRITTEN OUT: LEAVE IT -/
set_option maxRecDepth 100000 in
theorem lifted (os : Os) (started : os.Started) (H : Type) (enc : TypeId × Value → H) :
    ReturnsInHanded {} Try.checked os 6 .any (Rows.fnNatGcdSpec.pre6 enc Try.prog Try.f6 Rows.fnNatGcdRow.domain false) (Rows.fnNatGcdSpec.post enc Try.prog Try.f6 false true false false) := by
  refine returnsInHanded_of_change (C := Try.checked) own started (by kernel_rfl) Try.func6
    (ChangeSpec.witness6 (enc := enc) (C := Try.checked) false ⟨#[], #[.slice none 0 0], []⟩ 8 (by kernel_rfl) (by kernel_rfl) (by kernel_rfl) (by kernel_rfl)) ?_
  intro W base args ds gs before hval0 hW hcnd _
  have hval : ∀ (j : Nat) t v, Try.f6.params[j]? = some t → args[j]? = some v → Value.okWide Try.prog W .any base t v := hval0
  have hW' := hW
  obtain ⟨p, q, hA0, hV, rfl, hfz, hnd⟩ := hW
  have hA : DataW.TrodAll enc Try.prog W 0 (fun _ => true) true Try.f6.params.toList args.toList ds p := hA0
  rw [Try.params6] at hA hval
  obtain ⟨v0, vs0, d0, ds0, p0, q0, hargs, rfl, rfl, h0, r0⟩ := trodAll_cons hA
  obtain ⟨rfl, rfl, rfl⟩ := trodAll_nil r0
  obtain rfl : args = #[v0] := by cases args; simp_all
  obtain ⟨rfl, rfl⟩ := trodVars_none hV
  obtain ⟨a0, len0, cap0, rfl⟩ := okWide_slice Try.underlying22 (hval 0 22 v0 rfl rfl)
  have k0 := h0
  have lt0 : ∀ x ∈ p0, x.block < W.heap.size := by obtain ⟨m, hm⟩ := k0; exact DataW.trod_lt m _ _ _ hm
  obtain ⟨z0, w0⟩ : ∃ zs, IsRow .u8 W a0 len0 cap0 zs := by
    obtain ⟨fuel, hf⟩ := h0
    rcases open_ints Try.underlying22 Try.underlying5 (by kernel_rfl) hf with ⟨hcs, _⟩ | ⟨x, l, c, zs, hcs, _, hl, hm, hz, _, hcell, hwz⟩
    · simp [Value.cells] at hcs
      obtain ⟨rfl, rfl, rfl⟩ := hcs
      exact ⟨[], .inl ⟨rfl, rfl, rfl, rfl⟩⟩
    · simp [Value.cells] at hcs
      obtain ⟨rfl, rfl, rfl⟩ := hcs
      exact ⟨zs, .inr ⟨_, rfl, hl, hm, by simpa using hz, hcell, hwz⟩⟩
  clear hA0 hval0
  refine (walk a0 len0 cap0 z0 W w0).mono fun e W' ⟨he, bel⟩ => ?_
  subst he
  exact ⟨_, rfl, _, _, _, [], _, [], hW', trodAll_mk1 (shut_bool Try.underlying4 _), (trodAll_cons_mk (Below.trod laidOut (by kernel_rfl) (of_decide_eq_true (by kernel_rfl)) k0 bel lt0) trodAll_mk0), rfl, bel.frame _, fun h => by cases h⟩

theorem over : Rows.fnNatGcdRow.holds Try.pinned (OpenSpec.ofChange Rows.fnNatGcdSpec) :=
  OpenClaim.holds_of_wide 6 Try.f6 rfl rfl rfl rfl rfl rfl rfl ⟨rfl, rfl, rfl, rfl, rfl⟩ rfl rfl rfl rfl rfl (by kernel_rfl) Try.func6 (by kernel_rfl)
    (of_decide_eq_true (by kernel_rfl)) (by unfold Func.isWrapper; first | (rw [if_pos (by decide +kernel)]; kernel_rfl) | (rw [if_neg (by decide +kernel)]; exact ⟨rfl, rfl⟩))
    (fun os started H enc _ => lifted os started H enc)

/-- ████ THE STATEMENT ████ -/
theorem proved : Rows.FnNatGcdSaid := over
end fnNatGcd
theorem fnNatGcd_holds : Rows.FnNatGcdSaid := fnNatGcd.proved
#print axioms fnNatGcd_holds
end Go.Proofs.Ythokphoojmpajaa
