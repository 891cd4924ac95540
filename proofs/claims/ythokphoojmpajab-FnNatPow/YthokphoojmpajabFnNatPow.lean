/- For every two slices of bytes the law FnNatPow returns true and leaves its arguments as they were; no condition. -/
import Derived.Test.YthokphoojmpajabRows
import Derived.WalkKit
import Derived.ProofKit
import Derived.OpenShut
import Derived.ShutString
import Derived.ChangeOld
import Derived.Below
import Derived.Test.YthokphoojmpajabDrawDiv
import Derived.Test.YthokphoojmpajabDrawPow
import Derived.Test.YthokphoojmpajabSameS
import Derived.Test.YthokphoojmpajabOpMore
import Derived.Test.YthokphoojmpajabNatPow
import Derived.Test.YthokphoojmpajabNatMul
namespace Go.Proofs.Ythokphoojmpajab
namespace fnNatPow
open Go.ChangeShapes Go.WideShapes Go.ChangeAt Go.RowKit Go.Proofs.Pin
open Go.ChangeMaps (open_string shut_string)
set_option linter.unusedVariables false

theorem own : ownKnob Try.prog.godebug = none := by kernel_rfl
theorem laidOut : laidOutB Try.prog = true := by kernel_rfl

/-! ### STEP 1: THE WALK: the Go text returns true, AND WRITES NOTHING THAT WAS THERE: 'Below w.heap.size w w'' (Derived/Below.lean: '.refl', '.alloc', '.drew', '.setCell' at a new block, '.trans'). Open each 'IsRow' by 'rcases' AHEAD of 'go_enter'; part every test ahead of the walk. -/

theorem pow_true {xs : List Int} {n : Int} (h : ansB (powO xs n) = true) : ∃ x, xs = dgs x ∧ (dgs x).length ≤ 256 ∧ 0 ≤ n ∧ n ≤ 64 ∧ powO xs n = some (x ^ n.toNat) ∧ (dgs (x ^ n.toNat)).length ≤ 256 := by
  unfold powO at h ⊢
  cases h1 : okB xs with
  | false => rw [h1] at h; simp [ansB] at h
  | true =>
    obtain ⟨x, rfl, hx⟩ := ok_dgs h1
    rw [h1] at h
    by_cases hn : 0 ≤ n ∧ n ≤ 64
    · rw [if_pos rfl, if_pos hn, val_dgs, Int.toNat_natCast] at h
      refine ⟨x, rfl, hx, hn.1, hn.2, by rw [if_pos rfl, if_pos hn, val_dgs, Int.toNat_natCast], ?_⟩
      simp only [ansB, fitB, decide_eq_true_eq] at h
      exact h
    · rw [if_pos rfl, if_neg hn] at h
      simp [ansB] at h
theorem pow_two {x : Nat} {m n : Int} (hm : 0 ≤ m) (hn : 0 ≤ n) (hmn : m + n ≤ 64) (hx : (dgs x).length ≤ 256) : powO (dgs x) (m + n) = some (x ^ m.toNat * x ^ n.toNat) := by
  unfold powO
  rw [if_pos (dgs_ok hx), if_pos ⟨by omega, hmn⟩, val_dgs, Int.toNat_natCast, ← Nat.pow_add]
  congr 2
  omega
set_option maxRecDepth 20000 in
set_option maxHeartbeats 2000000 in
theorem walk (a0 : Option Addr) (len0 cap0 : Nat) (z0 : List Int) (a1 : Option Addr) (len1 cap1 : Nat) (z1 : List Int) (w : World) (w0 : IsRow .u8 w a0 len0 cap0 z0) (w1 : IsRow .u8 w a1 len1 cap1 z1) :
    Calls Try.prog 3 #[.slice a0 len0 cap0, .slice a1 len1 cap1] w fun e w' => e = .returned (.bool true) ∧ Below w.heap.size w w' := by
  obtain ⟨h1, h2, h3, h4⟩ := isRow_u8 w0
  obtain ⟨k1, k2, k3, k4⟩ := isRow_u8 w1
  clear w0 w1
  by_cases hb0 : (1048576 : Int) < (len0 : Int)
  · go_enter Try.func3, Try.ntmps3
    go_wp2
    go_ret
    exact ⟨rfl, Below.refl _ _⟩
  by_cases hb1 : (1048576 : Int) < (len1 : Int)
  · go_enter Try.func3, Try.ntmps3
    go_wp2
    go_ret
    exact ⟨rfl, Below.refl _ _⟩
  have C0 : Hid _ := drawPow_any a0 len0 cap0 _ w h1 h2 h3 (by omega) h4
  have C1 : Hid (∀ w1, Below w.heap.size w w1 → Calls Try.prog 5 #[.slice a1 len1 cap1] w1 fun e w' => ∃ r cr zs n, e = .returned (.tuple #[.slice r zs.length cr, .int .i64 n]) ∧ OwnI w' w1.heap.size r cr zs ∧ zs.length ≤ 257 ∧ -1 ≤ n ∧ n ≤ 65 ∧ Below w1.heap.size w1 w') := fun w1 hB => drawPow_any a1 len1 cap1 _ w1 (by
      rcases k1 with h0 | ⟨b, off, he, hlt, hc⟩
      · exact .inl h0
      · exact .inr ⟨b, off, he, Nat.lt_of_lt_of_le hlt hB.size, fun i hi => (hB.cell (p := ⟨b, off + i, none⟩) hlt).trans (hc i hi)⟩) k2 k3 (by omega) k4
  have hl0 : (len0 : Int) ≤ 1048576 := by omega
  have hl1 : (len1 : Int) ≤ 1048576 := by omega
  clear h1 h2 h3 h4 k1 k2 k3 k4
  go_enter Try.func3, Try.ntmps3
  go_wp2_with fail
  refine Calls.mono C0.out ?_
  rintro e w1 ⟨r, cr, xs, m, rfl, o1, hx, hm0, hm1, B1⟩
  clear C0
  go_wp2_with fail
  refine Calls.mono (C1.out _ B1) ?_
  rintro e w2 ⟨r9, c9, z9, n, rfl, o9, _, hn0, hn1, b2⟩
  have B2 : Below w.heap.size w w2 := B1.trans (b2.mono B1.size)
  have sx2 := (o1.keep b2).sl
  clear C1 o1 o9 b2 B1
  have hx2 : xs.length ≤ 1048576 := by omega
  have c1 := fun (w3 : World) (h : Sl w3 r xs) => implPow_op r cr xs m w3 h hx2
  have c2 := fun (w3 : World) (h : Sl w3 r xs) => implPow_op r cr xs n w3 h hx2
  have c3 := fun (w3 : World) (h : Sl w3 r xs) => specPow_op r cr xs m w3 h hx2
  have hl1' := ansL_len (powO xs m)
  have hl2' := ansL_len (powO xs n)
  obtain ⟨X, hX⟩ : ∃ X, X = ansL (powO xs m) := ⟨_, rfl⟩
  obtain ⟨Y, hY⟩ : ∃ Y, Y = ansL (powO xs n) := ⟨_, rfl⟩
  obtain ⟨u, hu⟩ : ∃ u, u = ansB (powO xs m) := ⟨_, rfl⟩
  obtain ⟨v, hv⟩ : ∃ v, v = ansB (powO xs n) := ⟨_, rfl⟩
  simp only [← hX, ← hu] at c1 c3 hl1'
  simp only [← hY, ← hv] at c2 hl2'
  have HD : Hid (X = ansL (powO xs m) ∧ Y = ansL (powO xs n) ∧ u = ansB (powO xs m) ∧ v = ansB (powO xs n)) := ⟨hX, hY, hu, hv⟩
  have C1 : Hid _ := c1
  have C2 : Hid _ := c2
  have C3 : Hid _ := c3
  have huu : (u != u) = false := by simp
  clear c1 c2 c3 hX hY hu hv
  go_wp2_with fail
  refine Calls.mono (C1.out _ sx2) ?_
  rintro e w3 ⟨ra, ca, rfl, o3, b3⟩
  have B3 : Below w.heap.size w w3 := B2.trans (b3.mono B2.size)
  have sx3 := sx2.keep b3
  have sa3 := o3.sl
  clear C1 o3 b3 sx2 B2
  go_wp2_with fail
  refine Calls.mono (C2.out _ sx3) ?_
  rintro e w4 ⟨rb, cb, rfl, o4, b4⟩
  have B4 : Below w.heap.size w w4 := B3.trans (b4.mono B3.size)
  have sx4 := sx3.keep b4
  have sa4 := sa3.keep b4
  have sb4 := o4.sl
  clear C2 o4 b4 sx3 sa3 B3
  go_wp2_with fail
  refine Calls.mono (C3.out _ sx4) ?_
  rintro e w5 ⟨r5, c5, rfl, _, b5⟩
  have B5 : Below w.heap.size w w5 := B4.trans (b5.mono B4.size)
  have sx5 := sx4.keep b5
  have sa5 := sa4.keep b5
  have sb5 := sb4.keep b5
  clear C3 b5 sx4 sa4 sb4 B4
  cases u with
  | false =>
    go_wp2
    go_ret
    exact ⟨rfl, B5⟩
  | true =>
    cases v with
    | false =>
      go_wp2
      go_ret
      exact ⟨rfl, B5⟩
    | true =>
      by_cases hmn : 64 < m + n
      · go_wp2
        go_ret
        exact ⟨rfl, B5⟩
      · obtain ⟨hX, hY, hu, hv⟩ := HD.out
        obtain ⟨x, rfl, hx', hm2, hm3, e1, f1⟩ := pow_true hu.symm
        obtain ⟨x2, hxe, _, hn2, hn3, e2, f2⟩ := pow_true hv.symm
        have hxx : x2 = x := by
          have h := congrArg val hxe
          rw [val_dgs, val_dgs] at h
          omega
        subst hxx
        rw [e1, (ans_fit f1).1] at hX
        rw [e2, (ans_fit f2).1] at hY
        have c4 := implPow_op r cr (dgs x2) (m + n) w5 sx5 hx2
        rw [pow_two hm2 hn2 (by omega) hx'] at c4
        have c5 := fun (w6 : World) (h1 : Sl w6 ra X) (h2 : Sl w6 rb Y) => implMul_op ra rb ca cb X Y w6 h1 h2 (by omega) (by omega)
        have e5 : op2 (fun x y => some (x * y)) X Y = some (x2 ^ m.toNat * x2 ^ n.toNat) := by rw [hX, hY, op2_yes f1 f2]
        simp only [e5] at c5
        have hZl := ansL_len (some (x2 ^ m.toNat * x2 ^ n.toNat))
        obtain ⟨Z, hZ⟩ : ∃ Z, Z = ansL (some (x2 ^ m.toNat * x2 ^ n.toNat)) := ⟨_, rfl⟩
        obtain ⟨bz, hbz⟩ : ∃ bz, bz = ansB (some (x2 ^ m.toNat * x2 ^ n.toNat)) := ⟨_, rfl⟩
        simp only [← hZ, ← hbz] at c4 c5 hZl
        obtain ⟨D, hD⟩ : ∃ D, D = dgs x2 := ⟨_, rfl⟩
        rw [← hD] at c4 sx5 ⊢
        have D4 : Hid _ := c4
        have D5 : Hid _ := c5
        have D6 : Hid (∀ (w5 : World) (ru rv : Option Addr) (cu cv : Nat), Sl w5 ru Z → Sl w5 rv Z → Calls Try.prog 9 #[.slice ru Z.length cu, .slice rv Z.length cv] w5 fun e w' => e = .returned (.bool true) ∧ ∃ q, w' = w5.drewN q) := fun w5 ru rv cu cv h1 h2 => (same_any ru rv cu cv Z Z w5 h1 h2 (by omega) (by omega)).mono fun e w' h => ⟨by rw [h.1]; simp, h.2⟩
        have hbb : (bz == bz) = true := by simp
        clear c4 c5 hD hZ hbz e5 hX hY hu hv HD e1 e2 f1 f2 hx' hxe hx hx2
        go_wp2_with fail
        refine Calls.mono D4.out ?_
        rintro e w6 ⟨rz, cz, rfl, o6, b6⟩
        have B6 : Below w.heap.size w w6 := B5.trans (b6.mono B5.size)
        have sa6 := sa5.keep b6
        have sb6 := sb5.keep b6
        have sz6 := o6.sl
        clear D4 o6 b6 sa5 sb5 sx5 B5
        go_wp2_with fail
        refine Calls.mono (D5.out _ sa6 sb6) ?_
        rintro e w7 ⟨rp, cp, rfl, o7, b7⟩
        have B7 : Below w.heap.size w w7 := B6.trans (b7.mono B6.size)
        have sz7 := sz6.keep b7
        have sp7 := o7.sl
        clear D5 o7 b7 sa6 sb6 sz6 B6
        go_wp2_with fail
        refine Calls.mono (D6.out _ _ _ _ _ sz7 sp7) ?_
        rintro e w8 ⟨rfl, q8, rfl⟩
        have B8 := below_dN B7 q8
        go_wp2
        go_ret
        exact ⟨rfl, B8⟩

/-! ### THE ROW's STEP: WRITTEN OUT: LEAVE IT -/
set_option maxRecDepth 100000 in
theorem lifted (os : Os) (started : os.Started) (H : Type) (enc : TypeId × Value → H) :
    ReturnsInHanded {} Try.checked os 3 .any (Rows.fnNatPowSpec.pre6 enc Try.prog Try.f3 Rows.fnNatPowRow.domain false) (Rows.fnNatPowSpec.post enc Try.prog Try.f3 false true false false) := by
  refine returnsInHanded_of_change (C := Try.checked) own started (by kernel_rfl) Try.func3
    (ChangeSpec.witness6 (enc := enc) (C := Try.checked) false ⟨#[], #[.slice none 0 0, .slice none 0 0], []⟩ 8 (by kernel_rfl) (by kernel_rfl) (by kernel_rfl) (by kernel_rfl)) ?_
  intro W base args ds gs before hval0 hW hcnd _
  have hval : ∀ (j : Nat) t v, Try.f3.params[j]? = some t → args[j]? = some v → Value.okWide Try.prog W .any base t v := hval0
  have hW' := hW
  obtain ⟨p, q, hA0, hV, rfl, hfz, hnd⟩ := hW
  have hA : DataW.TrodAll enc Try.prog W 0 (fun _ => true) true Try.f3.params.toList args.toList ds p := hA0
  rw [Try.params3] at hA hval
  obtain ⟨v0, vs0, d0, ds0, p0, q0, hargs, rfl, rfl, h0, r0⟩ := trodAll_cons hA
  obtain ⟨v1, vs1, d1, ds1, p1, q1, rfl, rfl, rfl, h1, r1⟩ := trodAll_cons r0
  obtain ⟨rfl, rfl, rfl⟩ := trodAll_nil r1
  obtain rfl : args = #[v0, v1] := by cases args; simp_all
  obtain ⟨rfl, rfl⟩ := trodVars_none hV
  obtain ⟨a0, len0, cap0, rfl⟩ := okWide_slice Try.underlying22 (hval 0 22 v0 rfl rfl)
  have k0 := h0
  have lt0 : ∀ x ∈ p0, x.block < W.heap.size := by obtain ⟨m, hm⟩ := k0; exact DataW.trod_lt m _ _ _ hm
  obtain ⟨z0, w0⟩ : ∃ zs, IsRow .u8 W a0 len0 cap0 zs := by
    obtain ⟨fuel, hf⟩ := h0
    rcases open_ints Try.underlying22 Try.underlying5 (by kernel_rfl) hf with ⟨hcs, _⟩ | ⟨x, l, c, zs, hcs, _, hl, hm, hz, _, hcell, hwz⟩
    · simp [Value.cells] at hcs
      obtain ⟨rfl, rfl, rfl⟩ := hcs
      exact ⟨[], .inl ⟨rfl, rfl, rfl, rfl⟩⟩
    · simp [Value.cells] at hcs
      obtain ⟨rfl, rfl, rfl⟩ := hcs
      exact ⟨zs, .inr ⟨_, rfl, hl, hm, by simpa using hz, hcell, hwz⟩⟩
  obtain ⟨a1, len1, cap1, rfl⟩ := okWide_slice Try.underlying22 (hval 1 22 v1 rfl rfl)
  have k1 := h1
  have lt1 : ∀ x ∈ p1, x.block < W.heap.size := by obtain ⟨m, hm⟩ := k1; exact DataW.trod_lt m _ _ _ hm
  obtain ⟨z1, w1⟩ : ∃ zs, IsRow .u8 W a1 len1 cap1 zs := by
    obtain ⟨fuel, hf⟩ := h1
    rcases open_ints Try.underlying22 Try.underlying5 (by kernel_rfl) hf with ⟨hcs, _⟩ | ⟨x, l, c, zs, hcs, _, hl, hm, hz, _, hcell, hwz⟩
    · simp [Value.cells] at hcs
      obtain ⟨rfl, rfl, rfl⟩ := hcs
      exact ⟨[], .inl ⟨rfl, rfl, rfl, rfl⟩⟩
    · simp [Value.cells] at hcs
      obtain ⟨rfl, rfl, rfl⟩ := hcs
      exact ⟨zs, .inr ⟨_, rfl, hl, hm, by simpa using hz, hcell, hwz⟩⟩
  clear hA0 hval0
  refine (walk a0 len0 cap0 z0 a1 len1 cap1 z1 W w0 w1).mono fun e W' ⟨he, bel⟩ => ?_
  subst he
  exact ⟨_, rfl, _, _, _, [], _, [], hW', trodAll_mk1 (shut_bool Try.underlying4 _), (trodAll_cons_mk (Below.trod laidOut (by kernel_rfl) (of_decide_eq_true (by kernel_rfl)) k0 bel lt0) (trodAll_cons_mk (Below.trod laidOut (by kernel_rfl) (of_decide_eq_true (by kernel_rfl)) k1 bel lt1) trodAll_mk0)), rfl, bel.frame _, fun h => by cases h⟩

theorem over : Rows.fnNatPowRow.holds Try.pinned (OpenSpec.ofChange Rows.fnNatPowSpec) :=
  OpenClaim.holds_of_wide 3 Try.f3 rfl rfl rfl rfl rfl rfl rfl ⟨rfl, rfl, rfl, rfl, rfl⟩ rfl rfl rfl rfl rfl (by kernel_rfl) Try.func3 (by kernel_rfl)
    (of_decide_eq_true (by kernel_rfl)) (by unfold Func.isWrapper; first | (rw [if_pos (by decide +kernel)]; kernel_rfl) | (rw [if_neg (by decide +kernel)]; exact ⟨rfl, rfl⟩))
    (fun os started H enc _ => lifted os started H enc)

/-- ████ THE STATEMENT ████ -/
theorem proved : Rows.FnNatPowSaid := over
end fnNatPow
theorem fnNatPow_holds : Rows.FnNatPowSaid := fnNatPow.proved
#print axioms fnNatPow_holds
end Go.Proofs.Ythokphoojmpajab
