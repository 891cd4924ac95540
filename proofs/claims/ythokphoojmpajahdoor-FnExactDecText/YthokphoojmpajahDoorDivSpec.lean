/- The contract of spec.l1Div, the long way: the digits of quotient and rest. -/
import Derived.Test.YthokphoojmpajahDoorGShl
import Derived.Test.YthokphoojmpajahDoorGNum
import Derived.Test.YthokphoojmpajahDoorDivClose
import Derived.Test.YthokphoojmpajahDoorGCmpN
import Derived.Test.YthokphoojmpajahDoorOfSpec
import Derived.Test.YthokphoojmpajahDoorGSA
import Derived.Deep.CutRange
import Derived.Deep.DeepFit
import Derived.Deep.RegionWith
import Derived.Deep.QuietTactic
import Derived.BigQuiet
namespace Go.Proofs.YthokphoojmpajahDoor
open Go.RowKit Go.Proofs.Pin

theorem dgs_len_mul {x u : Nat} (hu : u < 65536) : (dgs (x * u)).length ≤ (dgs x).length + 1 := by
  rw [dgs_len_iff]
  have h1 : x < 65536 ^ (dgs x).length := (dgs_len_iff x _).1 (Nat.le_refl _)
  rw [Nat.pow_succ]
  exact Nat.mul_lt_mul'' h1 hu
theorem dgs_len_pos {y : Nat} (h : 0 < y) : 0 < (dgs y).length := by
  rcases Nat.eq_zero_or_pos (dgs y).length with h1 | h1
  · have := val_dgs y
    rw [List.length_eq_zero_iff.mp h1] at this
    simp [val] at this
    omega
  · exact h1
theorem top_digit {y : Nat} (h : 0 < y) : 0 < (dgs y).getD ((dgs y).length - 1) 0 := by
  have h1 := dgs_len_pos h
  have h2 := (Dg_dgs y).at ((dgs y).length - 1)
  rcases can_dgs y with hc | hc
  · omega
  · omega

theorem sh1_any (r : Option Addr) (cr R : Nat) (w : World) (h : Sl w r (dgs R)) (hl : (dgs R).length ≤ 30000) :
    Calls Tryd.prog 54 #[.slice r (dgs R).length cr, .int .i64 1] w fun e w' => ∃ r6 c6, e = .returned (.slice r6 (dgs (R * 65536)).length c6) ∧ OwnI w' w.heap.size r6 c6 (dgs (R * 65536)) ∧ Below w.heap.size w w' := by
  have h1 := l1Shl_any r cr R 1 w h hl (by omega)
  rw [Nat.pow_one] at h1
  exact h1
theorem trim_same (r : Option Addr) (cr z : Nat) (w : World) (h : Sl w r (dgs z)) (hl : (dgs z).length ≤ 30000) :
    Calls Tryd.prog 43 #[.slice r (dgs z).length cr] w fun e w' => ∃ r6 c6, e = .returned (.slice r6 (dgs z).length c6) ∧ OwnI w' w.heap.size r6 c6 (dgs z) ∧ Below w.heap.size w w' := by
  have h1 := l1Trim_any r cr (dgs z) w h (by omega)
  rw [row_dgs (Dg_dgs z) (val_dgs z)] at h1
  exact h1
theorem rest_len {R Y xj : Nat} (hR : R < Y) (hx : xj < 65536) : (dgs (R * 65536 + xj)).length ≤ (dgs Y).length + 1 ∧ (dgs (R * 65536)).length ≤ (dgs Y).length + 1 := by
  have h2 : (R + 1) * 65536 ≤ Y * 65536 := Nat.mul_le_mul_right _ hR
  have h4 : (dgs (Y * 65536)).length ≤ (dgs Y).length + 1 := by
    rw [dgs_len_iff, Nat.pow_succ]
    have h7 : Y < 65536 ^ (dgs Y).length := (dgs_len_iff Y _).1 (Nat.le_refl _)
    omega
  obtain ⟨A, hA⟩ : ∃ A, A = R * 65536 + xj := ⟨_, rfl⟩
  obtain ⟨B, hB⟩ : ∃ B, B = R * 65536 := ⟨_, rfl⟩
  obtain ⟨C, hC⟩ : ∃ C, C = Y * 65536 := ⟨_, rfl⟩
  have h7 : A ≤ C := by omega
  have h8 : B ≤ C := by omega
  rw [← hC] at h4
  rw [← hA, ← hB]
  clear hA hB hC h2
  exact ⟨Nat.le_trans (dgs_len_le h7) h4, Nat.le_trans (dgs_len_le h8) h4⟩
theorem wrap_digit {d : Nat} (h : d < 65536) : IntKind.u64.wrap (d : Int) = d := by
  simp [IntKind.wrap, IntKind.bits, IntKind.signed]
  omega
theorem digit_len {d : Nat} (h : d < 65536) : (dgs d).length ≤ 1 := by
  by_cases h0 : d = 0
  · subst h0; simp [dgs_zero]
  · rw [dgs_digit h0 h]; simp

/-- The guess of a digit, off the two highest of the rest by the divisor's highest one. -/
theorem guess_fact {R1 Y n R xj : Nat} (hn : n = (dgs Y).length) (hY : 0 < Y) (hR : R < Y) (hx : xj < 65536) (hR1 : R1 = R * 65536 + xj) :
    ∃ (p q t G : Nat), (dgs R1).getD n 0 = (p : Int) ∧ (dgs R1).getD (n - 1) 0 = (q : Int) ∧ (dgs Y).getD (n - 1) 0 = (t : Int) ∧ p < 65536 ∧ q < 65536 ∧ 0 < t ∧ t < 65536 ∧ ((p : Int) * 65536 + q) / t = (G : Int) ∧ R1 / Y ≤ G ∧ R1 / Y ≤ 65535 := by
  have hl := dgs_len_pos hY
  rw [← hn] at hl
  obtain ⟨m, hm⟩ : ∃ m, n = m + 1 := ⟨n - 1, by omega⟩
  have hYlt : Y < 65536 ^ n := by rw [hn]; exact (dgs_len_iff Y _).1 (Nat.le_refl _)
  have hm1 : n - 1 = m := by omega
  have ht : Y / 65536 ^ m % 65536 = Y / 65536 ^ m := by
    apply Nat.mod_eq_of_lt
    rw [Nat.div_lt_iff_lt_mul (Nat.pow_pos (by omega))]
    rw [hm, Nat.pow_succ, Nat.mul_comm] at hYlt
    exact hYlt
  have htop := top_digit hY
  rw [← hn, hm1, dgs_at, ht] at htop
  have hR1lt : R1 < 65536 ^ (m + 2) := by
    have h1 : (R + 1) * 65536 ≤ 65536 ^ n * 65536 := Nat.mul_le_mul_right _ (by omega)
    have h2 : 65536 ^ (m + 2) = 65536 ^ n * 65536 := by rw [hm, Nat.pow_succ, Nat.pow_succ]
    rw [h2]
    omega
  have hsplit := pow_split R1 m hR1lt
  have hge := guess_ge (r := R1) (y := Y) (m := m) (t := Y / 65536 ^ m) (Nat.div_mul_le_self _ _) (by omega)
  have hq1 : R1 / Y < 65536 := by
    rw [Nat.div_lt_iff_lt_mul hY]
    have h2 : (R + 1) * 65536 ≤ Y * 65536 := Nat.mul_le_mul_right _ hR
    rw [Nat.mul_comm 65536 Y]
    omega
  refine ⟨R1 / 65536 ^ (m + 1) % 65536, R1 / 65536 ^ m % 65536, Y / 65536 ^ m, R1 / 65536 ^ m / (Y / 65536 ^ m), ?_, ?_, ?_, Nat.mod_lt _ (by omega), Nat.mod_lt _ (by omega), by omega, ?_, ?_, hge, Nat.le_of_lt_succ hq1⟩
  · rw [hm, dgs_at]
  · rw [hm1, dgs_at]
  · rw [hm1, dgs_at, ht]
  · rw [← ht]; exact Nat.mod_lt _ (by omega)
  · rw [hsplit]
    simp

set_option maxRecDepth 100000 in
set_option maxHeartbeats 1600000 in
theorem l1DivLong_any (a b : Option Addr) (ca cb : Nat) (x y : Nat) (w : World) (ha : Sl w a (dgs x)) (hb : Sl w b (dgs y)) (hx : (dgs x).length ≤ 2000) (hy : (dgs y).length ≤ 2000) (h2 : 2 ≤ (dgs y).length) (hxy : y ≤ x) :
    Calls Tryd.prog 31 #[.slice a (dgs x).length ca, .slice b (dgs y).length cb] w fun e w' => ∃ r cr s cs, e = .returned (.tuple #[.slice r (dgs (x / y)).length cr, .slice s (dgs (x % y)).length cs]) ∧ OwnI w' w.heap.size r cr (dgs (x / y)) ∧ OwnI w' w.heap.size s cs (dgs (x % y)) ∧ Below w.heap.size w w' := by
  obtain ⟨i0, hi, hz0, hz1, hz2⟩ := info_parts Tryd.info3
  have hy0 : 0 < y := by
    rcases Nat.eq_zero_or_pos y with h | h
    · subst h; simp [dgs_zero] at h2
    · exact h
  have htop := top_digit hy0
  have hdt := (Dg_dgs y).at ((dgs y).length - 1)
  obtain ⟨t, ht⟩ : ∃ t, t = (dgs y).getD ((dgs y).length - 1) 0 := ⟨_, rfl⟩
  rw [← ht] at htop hdt
  obtain ⟨up, hup⟩ : ∃ up : Nat, up = (65536 / (t + 1)).toNat := ⟨_, rfl⟩
  have hupI : (up : Int) = 65536 / (t + 1) := by
    rw [hup]
    exact Int.toNat_of_nonneg (Int.ediv_nonneg (by omega) (by omega))
  have hup0 : 0 < up := by
    have h : 1 ≤ 65536 / (t + 1) := by
      rw [Int.le_ediv_iff_mul_le (by omega)]
      omega
    omega
  have hup1 : up < 65536 := by
    have h : 65536 / (t + 1) < 65536 := Int.ediv_lt_of_lt_mul (by omega) (by omega)
    omega
  have C1 : Hid (Calls Tryd.prog 52 #[.slice a (dgs x).length ca, .slice b (dgs y).length cb] w fun e w' => e = .returned (.int .i64 (sg x y)) ∧ ∃ q, w' = w.drewN q) := by
    have h := l1Cmp_any a b ca cb (dgs x) (dgs y) w ha hb (by omega) (by omega)
    rw [cmp_dgs] at h
    exact h
  have hsg : ¬ sg (x : Int) (y : Int) < 0 := by unfold sg; split <;> (try split) <;> omega
  have CX : Hid (∀ wr, Below w.heap.size w wr → Calls Tryd.prog 45 #[.slice a (dgs x).length ca, .int .i64 (up : Int)] wr fun e w' => ∃ r cr, e = .returned (.slice r (dgs (x * up)).length cr) ∧ OwnI w' wr.heap.size r cr (dgs (x * up)) ∧ Below wr.heap.size wr w') := fun wr hw => l1Times_any a ca x up wr (ha.keep hw) (by omega) hup1
  have CY : Hid (∀ wr, Below w.heap.size w wr → Calls Tryd.prog 45 #[.slice b (dgs y).length cb, .int .i64 (up : Int)] wr fun e w' => ∃ r cr, e = .returned (.slice r (dgs (y * up)).length cr) ∧ OwnI w' wr.heap.size r cr (dgs (y * up)) ∧ Below wr.heap.size wr w') := fun wr hw => l1Times_any b cb y up wr (hb.keep hw) (by omega) hup1
  obtain ⟨bb, offb, hbe, hbb, hcb⟩ := Sl.cells hb (k := (dgs y).length - 1) (by omega)
  rw [← ht] at hcb
  obtain ⟨lb, hlb⟩ : ∃ lb, lb = (dgs y).length := ⟨_, rfl⟩
  obtain ⟨la, hla⟩ : ∃ la, la = (dgs x).length := ⟨_, rfl⟩
  have hlx := dgs_len_mul (x := x) hup1
  have hly := dgs_len_mul (x := y) hup1
  have hXY : y * up ≤ x * up := Nat.mul_le_mul_right _ hxy
  have hlen := dgs_len_le hXY
  have hYpos := Nat.mul_pos hy0 hup0
  have hnpos := dgs_len_pos hYpos
  have hend := fun (R : Nat) (q : Int) => long_end (x := x) (y := y) (up := up) (R := R) (q := q) hy0 hup0
  obtain ⟨X, hX⟩ : ∃ X, X = x * up := ⟨_, rfl⟩
  obtain ⟨Y, hY⟩ : ∃ Y, Y = y * up := ⟨_, rfl⟩
  rw [← hX] at CX hlx hXY hlen hend
  rw [← hY] at CY hly hXY hlen hYpos hnpos hend
  obtain ⟨lx, hlxe⟩ : ∃ lx, lx = (dgs X).length := ⟨_, rfl⟩
  obtain ⟨n, hne⟩ : ∃ n, n = (dgs Y).length := ⟨_, rfl⟩
  have HLX : Hid (lx = (dgs X).length) := hlxe
  have HLY : Hid (n = (dgs Y).length) := hne
  have HEND : Hid (∀ (R : Nat) (q : Int), R < Y → (X : Int) = q * Y + R → q = ((x / y : Nat) : Int) ∧ R = x % y * up) := hend
  rw [← hlxe] at hlx hlen
  rw [← hne] at hly hlen hnpos
  rw [← hla] at hx hlx C1 CX ⊢
  rw [← hlb] at hy hly h2 C1 CY hcb ⊢
  subst hbe
  have hupR : 65536 / (t + 1) = (up : Int) := hupI.symm
  clear hupI
  have hlbI : (1 : Int) < lb := by omega
  have hlb1 : ((lb : Int) == 1) = false := by simp; omega
  clear ha hb hlb hla ht hup hX hY hlxe hne hend hxy hy0
  go_enter Tryd.func31, Tryd.ntmps31
  go_wp2_with fail
  refine Calls.mono C1.out ?_
  rintro e w1 ⟨rfl, q1, rfl⟩
  have hb1 : Below w.heap.size w (w.drewN q1) := below_dN (Below.refl _ _) _
  go_wp2_with fail
  refine Calls.mono (CX.out _ hb1) ?_
  rintro e w2 ⟨rx, crx, rfl, ox2, b2⟩
  have hb2 : Below w.heap.size w w2 := hb1.trans (b2.mono hb1.size)
  go_wp2_with fail
  refine Calls.mono (CY.out _ hb2) ?_
  rintro e w3 ⟨ry, cry, rfl, oy3, b3⟩
  have hb3 : Below w.heap.size w w3 := hb2.trans (b3.mono hb2.size)
  have HW3 : Hid (w.heap.size ≤ w3.heap.size) := hb3.size
  have sx3 := (ox2.keep b3).sl
  have sy3 := oy3.sl
  rw [← HLX.out, ← HLY.out]
  obtain ⟨N, hN⟩ : ∃ N, lx = N + n := ⟨lx - n, by omega⟩
  have HNN : Hid (lx = N + n) := hN
  have hNb : N + 1 ≤ 3000 := by omega
  have hnb : n ≤ 3000 := by omega
  have hxb : lx ≤ 3000 := by omega
  clear ox2 oy3 b2 b3 hb1 hb2 C1 CX CY hN hcb
  go_wp2_with (at_make; refine wpList_make_full _ rfl _ _ 22 rfl w3.heap.size 3 i0 (.int .i64 0) 1 Tryd.underlying22 hi hz0 hz1 _ _ _ _ (N + 1) rfl rfl (by have := HNN.out; omega) (by have := HNN.out; omega) (by rw [hz2]; omega) (by unfold maxLen; omega) (Nat.le_refl _) ?_; intro w4 hown4 hgrow4)
  have hb4' : Below w3.heap.size w3 w4 := (Below.refl _ _).grown hgrow4 (Nat.le_refl _) (fun k hk => by cases hk)
  have hrow4 := make_row hown4
  have hl0 : (List.replicate (N + 1) (0 : Int)).length = N + 1 := by simp
  have hq4 : w4.ownsRow w3.heap.size 3 1 (.slice (some ⟨w3.heap.size, 0, none⟩) (N + 1) (N + 1)) (N + 1) ((List.replicate (N + 1) (0 : Int)).map (Value.int .i64)) := by
    have h := own_of_block (base := w3.heap.size) (zs := List.replicate (N + 1) (0 : Int)) (g := w3.heap.size) (w := w4) (by rw [List.map_replicate]; exact hrow4) (Nat.le_refl _) (by rw [hl0]; unfold maxLen; omega)
    unfold OwnI at h
    rw [hl0] at h
    exact h
  have hz4 : w3.heap.size < w4.heap.size := lt_of_block hrow4
  have sx4 := sx3.keep hb4'
  have sy4 := sy3.keep hb4'
  have AX : Hid (Apart rx (dgs X) w3.heap.size) := sx3.later (Nat.le_refl _)
  have AY : Hid (Apart ry (dgs Y) w3.heap.size) := sy3.later (Nat.le_refl _)
  have hb4 : Below w.heap.size w w4 := hb3.trans (hb4'.mono hb3.size)
  have T5 := l1Top_any rx crx (dgs X) (N + 1) w4 sx4 (by rw [← HLX.out]; omega) (by rw [← HLX.out, HNN.out]; omega)
  have e5 : ((N + 1 : Nat) : Int) = (lx : Int) - n + 1 := by have := HNN.out; omega
  rw [dgs_drop, ← HLX.out, e5] at T5
  have HT5 : Hid _ := T5
  have hR0 : X / 65536 ^ (N + 1) < Y := by
    have h1 : X < 65536 ^ lx := by rw [HLX.out]; exact (dgs_len_iff X _).1 (Nat.le_refl _)
    have h2 : ¬ Y < 65536 ^ (n - 1) := fun e => by have h := (dgs_len_iff Y _).2 e; rw [← HLY.out] at h; omega
    have h3 : X / 65536 ^ (N + 1) < 65536 ^ (n - 1) := by
      rw [Nat.div_lt_iff_lt_mul (Nat.pow_pos (by decide)), ← Nat.pow_add]
      have e : n - 1 + (N + 1) = lx := by have := HNN.out; omega
      rw [e]; exact h1
    omega
  clear T5 hown4 hgrow4 hrow4 hl0 sx3 sy3 e5
  go_wp2_with fail
  refine Calls.mono HT5.out ?_
  rintro e w5 ⟨r5, cr5, rfl, o5, b5⟩
  have hq5 : w5.ownsRow w3.heap.size 3 1 (.slice (some ⟨w3.heap.size, 0, none⟩) (N + 1) (N + 1)) (N + 1) ((List.replicate (N + 1) (0 : Int)).map (Value.int .i64)) := by
    have h : OwnI w4 w3.heap.size (some ⟨w3.heap.size, 0, none⟩) (N + 1) (List.replicate (N + 1) 0) := by
      unfold OwnI
      rw [List.length_replicate]
      exact hq4
    have h2 := h.keep b5
    unfold OwnI at h2
    rw [List.length_replicate] at h2
    exact h2
  have sx5 := sx4.keep b5
  have sy5 := sy4.keep b5
  have hb5 : Below w.heap.size w w5 := hb4.trans (b5.mono hb4.size)
  have o5' : OwnI w5 (w3.heap.size + 1) r5 cr5 (dgs (X / 65536 ^ (N + 1))) := o5.mono (by omega)
  clear o5 b5 hq4 sx4 sy4 hb4 hb4' hb3 HT5
  go_wp2
  go_loopw [13, 14] (fun v i wr => ∃ (k R : Nat) (out : List Int) (r : Option Addr) (cr : Nat), k ≤ N + 1 ∧ i = .int .i64 ((k : Int) - 1) ∧ v = .slice r (dgs R).length cr ∧ R < Y ∧ out.length = N + 1 ∧ Dg out ∧ ((X / 65536 ^ k : Nat) : Int) = val (out.drop k) * Y + R ∧ OwnI wr (w3.heap.size + 1) r cr (dgs R) ∧ wr.ownsRow w3.heap.size 3 1 (.slice (some ⟨w3.heap.size, 0, none⟩) (N + 1) (N + 1)) (N + 1) (out.map (Value.int .i64)) ∧ Sl wr rx (dgs X) ∧ Sl wr ry (dgs Y) ∧ Below w.heap.size w wr) (fun _ i _ => (intOf i + 1).toNat)
  case atStart => exact ⟨N + 1, X / 65536 ^ (N + 1), List.replicate (N + 1) 0, r5, cr5, Nat.le_refl _, by congr 1; have := HNN.out; omega, rfl, hR0, by simp, Dg.zeros _, by rw [List.drop_of_length_le (by simp)]; simp [val], o5', hq5, sx5, sy5, hb5⟩
  case round =>
    obtain ⟨k, R, out, r, cr, hk, hki, rfl, hRY, hol, hdo, hval, ho, hq, hsx, hsy, hb⟩ := hrel
    have HRY : Hid (R < Y) := hRY
    have HL : Hid (out.length = N + 1) := hol
    have HD : Hid (Dg out) := hdo
    have HV : Hid (((X / 65536 ^ k : Nat) : Int) = val (out.drop k) * Y + R) := hval
    have HO : Hid (OwnI wr (w3.heap.size + 1) r cr (dgs R)) := ho
    have HQ : Hid (wr.ownsRow w3.heap.size 3 1 (.slice (some ⟨w3.heap.size, 0, none⟩) (N + 1) (N + 1)) (N + 1) (out.map (Value.int .i64))) := hq
    have HX : Hid (Sl wr rx (dgs X)) := hsx
    have HY : Hid (Sl wr ry (dgs Y)) := hsy
    have HB : Hid (Below w.heap.size w wr) := hb
    clear hRY hol hdo hval ho hq hsx hsy hb hq5 sx5 sy5 hb5 o5' hR0
    by_cases hk0 : k = 0
    · subst hk0
      have hi' : u14 = .int .i64 (-1) := by rw [hki]; rfl
      subst hi'
      have he := HEND.out R (val out) HRY.out (by have h := HV.out; simpa using h)
      have hRl : (dgs R).length ≤ 3000 := by have h := dgs_len_le (Nat.le_of_lt HRY.out); rw [← HLY.out] at h; omega
      have D6 := l1DivSmall_any r cr R (up : Int) wr HO.out.sl (by omega) (by omega) (by omega)
      have e6 : R / up = x % y := by rw [he.2]; exact Nat.mul_div_cancel _ hup0
      simp only [Int.toNat_natCast] at D6
      rw [e6] at D6
      have HD6 : Hid _ := D6
      have HE1 : Hid (val out = ((x / y : Nat) : Int)) := he.1
      clear D6 he e6 hki
      go_wp2_with fail
      refine Calls.mono HD6.out ?_
      rintro e w7 ⟨s7, cs7, rfl, o7, b7⟩
      have hb7 := HB.out.trans (b7.mono HB.out.size)
      have o7' := o7.mono HB.out.size
      have hq7 : OwnI w7 w3.heap.size (some ⟨w3.heap.size, 0, none⟩) (N + 1) out := by
        have h : OwnI wr w3.heap.size (some ⟨w3.heap.size, 0, none⟩) (N + 1) out := by
          unfold OwnI
          rw [HL.out]
          exact HQ.out
        exact h.keep b7
      have T8 := l1Trim_any (some ⟨w3.heap.size, 0, none⟩) (N + 1) out w7 hq7.sl (by rw [HL.out]; omega)
      rw [row_dgs HD.out HE1.out, HL.out] at T8
      have HT8 : Hid _ := T8
      clear T8 o7 b7 hq7
      go_wp2_with fail
      refine Calls.mono HT8.out ?_
      rintro e w8 ⟨r8, cr8, rfl, o8, b8⟩
      have hb8 := hb7.trans (b8.mono hb7.size)
      have o8' := o8.mono hb7.size
      have s8 := o7'.keep b8
      clear o8 b8 hb7 o7'
      go_wp2
      go_ret2
      exact ⟨r8, cr8, s7, cs7, rfl, o8', s8, hb8⟩
    · obtain ⟨j, rfl⟩ : ∃ j, k = j + 1 := ⟨k - 1, by omega⟩
      have hi' : u14 = .int .i64 (j : Int) := by rw [hki]; congr 1; omega
      subst hi'
      clear hki
      have hjx : j < (dgs X).length := by rw [← HLX.out, HNN.out]; omega
      obtain ⟨bx, offx, hxe, hbx, hcx⟩ := Sl.cells HX.out hjx
      subst hxe
      obtain ⟨xj, hxj⟩ : ∃ xj : Nat, xj = X / 65536 ^ j % 65536 := ⟨_, rfl⟩
      rw [dgs_at, ← hxj] at hcx
      have HXJ : Hid (xj = X / 65536 ^ j % 65536) := hxj
      have hxj1 : xj < 65536 := by rw [hxj]; exact Nat.mod_lt _ (by decide)
      have hRl : (dgs R).length ≤ 3000 := by have h := dgs_len_le (Nat.le_of_lt HRY.out); rw [← HLY.out] at h; omega
      have hlens := rest_len HRY.out hxj1
      rw [← HLY.out] at hlens
      have hxjl := digit_len hxj1
      have CSh : Hid (Calls Tryd.prog 54 #[.slice r (dgs R).length cr, .int .i64 1] wr.drew fun e w' => ∃ r6 c6, e = .returned (.slice r6 (dgs (R * 65536)).length c6) ∧ OwnI w' wr.heap.size r6 c6 (dgs (R * 65536)) ∧ Below wr.heap.size wr w') := (sh1_any r cr R wr.drew HO.out.sl (by omega)).mono fun e w' ⟨r6, c6, h1, h2, h3⟩ => ⟨r6, c6, h1, h2, ⟨h3.os, h3.tape, h3.output, h3.size, h3.block⟩⟩
      have CNo : Hid (∀ wq, Calls Tryd.prog 46 #[.int .u64 (IntKind.u64.wrap (xj : Int))] wq fun e w' => ∃ r6 c6, e = .returned (.slice r6 (dgs xj).length c6) ∧ OwnI w' wq.heap.size r6 c6 (dgs xj) ∧ Below wq.heap.size wq w') := fun wq => by rw [wrap_digit hxj1]; exact specOf_any xj wq (by omega)
      have CAd : Hid (∀ wq r6 c6 r7 c7, Sl wq r6 (dgs (R * 65536)) → Sl wq r7 (dgs xj) → Calls Tryd.prog 44 #[.slice r6 (dgs (R * 65536)).length c6, .slice r7 (dgs xj).length c7] wq fun e w' => ∃ r6 c6, e = .returned (.slice r6 (dgs (R * 65536 + xj)).length c6) ∧ OwnI w' wq.heap.size r6 c6 (dgs (R * 65536 + xj)) ∧ Below wq.heap.size wq w') := fun wq r6 c6 r7 c7 h6 h7 => l1Add_any r6 r7 c6 c7 (R * 65536) xj wq h6 h7 (by omega) (by omega)
      have CTr : Hid (∀ wq r6 c6, Sl wq r6 (dgs (R * 65536 + xj)) → Calls Tryd.prog 43 #[.slice r6 (dgs (R * 65536 + xj)).length c6] wq fun e w' => ∃ r6 c6, e = .returned (.slice r6 (dgs (R * 65536 + xj)).length c6) ∧ OwnI w' wq.heap.size r6 c6 (dgs (R * 65536 + xj)) ∧ Below wq.heap.size wq w') := fun wq r6 c6 h6 => trim_same r6 c6 _ wq h6 (by omega)
      have hR1l := hlens.1
      obtain ⟨S1, hS1⟩ : ∃ S1, S1 = dgs (R * 65536) := ⟨_, rfl⟩
      obtain ⟨S2, hS2⟩ : ∃ S2, S2 = dgs xj := ⟨_, rfl⟩
      obtain ⟨R1, hR1⟩ : ∃ R1, R1 = R * 65536 + xj := ⟨_, rfl⟩
      have HR1 : Hid (R1 = R * 65536 + xj) := hR1
      rw [← hR1] at CAd CTr hR1l
      rw [← hS1] at CSh CAd
      rw [← hS2] at CNo CAd
      obtain ⟨RL, hRL⟩ : ∃ RL, RL = dgs R := ⟨_, rfl⟩
      rw [← hRL] at CSh ⊢
      clear hS1 hS2 hR1 hlens hxjl hxj hRL
      have hjI : (j : Int) < lx := by have := HNN.out; omega
      go_upto_region 15 with fail
      go_cut [13] from 73 to 122 (fun v wx => ∃ r1 c1, v = .slice r1 (dgs R1).length c1 ∧ OwnI wx wr.heap.size r1 c1 (dgs R1) ∧ Below wr.heap.size wr wx)
      case first =>
        go_region_with (first | (go_at_call 54; refine Calls.mono CSh.out ?_; rintro e w6 ⟨r6, c6, rfl, o6, b6⟩; have hcx6 : w6.cell? ⟨bx, offx + j, none⟩ = some (.int .i64 (xj : Int)) := (b6.cell (p := ⟨bx, offx + j, none⟩) hbx).trans hcx) | (go_at_call 46; refine Calls.mono (CNo.out _) ?_; rintro e w7 ⟨r7, c7, rfl, o7, b7⟩; have s67 := (o6.keep b7).sl; have s77 := o7.sl; have b67 := b6.trans (b7.mono b6.size)) | (go_at_call 44; refine Calls.mono (CAd.out _ _ _ _ _ s67 s77) ?_; rintro e w8 ⟨r8, c8, rfl, o8, b8⟩; have s88 := o8.sl; have b68 := b67.trans (b8.mono b67.size)) | (go_at_call 43; refine Calls.mono (CTr.out _ _ _ s88) ?_; rintro e w9 ⟨r9, c9, rfl, o9, b9⟩; have b69 := b68.trans (b9.mono b68.size); have o99 := o9.mono b68.size))
        all_goals
          go_wp2_with fail
          go_meet
          exact ⟨r9, c9, rfl, o99, b69⟩
      case rest =>
      obtain ⟨r1, c1, rfl, o1, b1⟩ := hcut
      obtain ⟨p, q, tY, G, hp, hq, ht, hp1, hq1, ht0, ht1, hG, hGe, hQe⟩ := guess_fact HLY.out hYpos HRY.out hxj1 HR1.out
      obtain ⟨GI, hGI⟩ : ∃ GI : Int, GI = (G : Int) := ⟨_, rfl⟩
      have HGG : Hid (GI = (G : Int)) := hGI
      rw [← hGI] at hG
      clear hGI
      have hb1 : Below w.heap.size w wc := HB.out.trans (b1.mono HB.out.size)
      have hsy1 := HY.out.keep b1
      have hsx1 := HX.out.keep b1
      have hq1' : OwnI wc w3.heap.size (some ⟨w3.heap.size, 0, none⟩) (N + 1) out := by
        have h : OwnI wr w3.heap.size (some ⟨w3.heap.size, 0, none⟩) (N + 1) out := by
          unfold OwnI
          rw [HL.out]
          exact HQ.out
        exact h.keep b1
      have hz1 : w3.heap.size + 1 ≤ wr.heap.size := own_lt (cap := N + 1) (zs := out) (base := w3.heap.size) (by unfold OwnI; rw [HL.out]; exact HQ.out)
      have o1' := o1.mono hz1
      obtain ⟨by1, offy, hye, hby, hcy⟩ := Sl.cells hsy1 (k := n - 1) (by rw [← HLY.out]; omega)
      rw [ht] at hcy
      have A1 : Hid (∀ m, Calls Tryd.prog 55 #[.slice r1 (dgs R1).length c1, .int .i64 (n : Int)] (wc.drewN m) fun e w' => e = .returned (.int .i64 (p : Int)) ∧ w' = wc.drewN m) := fun m => by
        have h := l1At_any r1 c1 (dgs R1) n (wc.drewN m) o1.sl
        rw [hp] at h
        exact h.mono fun e w' h => ⟨h.1, h.2.symm⟩
      have A2 : Hid (∀ m, Calls Tryd.prog 55 #[.slice r1 (dgs R1).length c1, .int .i64 ((n : Int) - 1)] (wc.drewN m) fun e w' => e = .returned (.int .i64 (q : Int)) ∧ w' = wc.drewN m) := fun m => by
        have h := l1At_any r1 c1 (dgs R1) (n - 1) (wc.drewN m) o1.sl
        rw [hq] at h
        have e : ((n - 1 : Nat) : Int) = (n : Int) - 1 := by omega
        rw [e] at h
        exact h.mono fun e w' h => ⟨h.1, h.2.symm⟩
      have HBW : Hid (wr.heap.size ≤ wc.heap.size) := b1.size
      have HSY : Hid (Sl wc ry (dgs Y)) := hsy1
      have HSX : Hid (Sl wc (some ⟨bx, offx, none⟩) (dgs X)) := hsx1
      have HOQ : Hid (OwnI wc w3.heap.size (some ⟨w3.heap.size, 0, none⟩) (N + 1) out) := hq1'
      have HO1 : Hid (OwnI wc (w3.heap.size + 1) r1 c1 (dgs R1)) := o1'
      have HB1 : Hid (Below w.heap.size w wc) := hb1
      obtain ⟨L1, hL1⟩ : ∃ L1, L1 = dgs R1 := ⟨_, rfl⟩
      rw [← hL1] at A1 A2 ⊢
      have HL1 : Hid (L1 = dgs R1) := hL1
      subst hye
      have hnI : (1 : Int) ≤ n := by omega
      have htI : (0 : Int) < tY := by omega
      clear hp hq ht o1 b1 hb1 hsy1 hsx1 hq1' o1' hL1 CSh CNo CAd CTr hcx hbx
      go_wp2_with fail
      go_quiet ((first | (go_at_call_of 55 (Value.int IntKind.i64 (n : Int)); exact Calls.quiet_of_same (A1.out _)) | (go_at_call 55; exact Calls.quiet_of_same (A2.out _))))
      obtain ⟨wd, hwd⟩ : ∃ wd, wd = wc.drewN nq := ⟨_, rfl⟩
      have hbd : Below wc.heap.size wc wd := by rw [hwd]; exact below_dN (Below.refl _ _) _
      rw [← hwd]
      clear hwd A1 A2
      obtain ⟨g0, hg0⟩ : ∃ g0, g0 = min G 65535 := ⟨_, rfl⟩
      have hg1 : g0 ≤ 65535 := by omega
      have hg2 : R1 / Y ≤ g0 := by
        obtain ⟨Q, hQ⟩ : ∃ Q, Q = R1 / Y := ⟨_, rfl⟩
        rw [← hQ] at hGe hQe ⊢
        omega
      have HG2 : Hid (R1 / Y ≤ g0) := hg2
      have CT : Hid (Calls Tryd.prog 45 #[.slice (some ⟨by1, offy, none⟩) n cry, .int .i64 (g0 : Int)] wd fun e w' => ∃ r6 c6, e = .returned (.slice r6 (dgs (Y * g0)).length c6) ∧ OwnI w' wd.heap.size r6 c6 (dgs (Y * g0)) ∧ Below wd.heap.size wd w') := by
        have h := l1Times_any (some ⟨by1, offy, none⟩) cry Y g0 wd (HSY.out.keep hbd) (by rw [← HLY.out]; omega) (by omega)
        rw [← HLY.out] at h
        exact h
      have hYl3 : (dgs Y).length ≤ 3000 := by rw [← HLY.out]; omega
      have hpl : ∀ gg : Nat, gg ≤ 65535 → (dgs (Y * gg)).length ≤ 4000 := fun gg h => Nat.le_trans (dgs_len_mul (x := Y) (u := gg) (by omega)) (by omega)
      have hrl : (dgs R1).length ≤ 4000 := by omega
      have CC1 : Hid (∀ wq gg rp cp, gg ≤ 65535 → R1 < Y * gg → Below wc.heap.size wc wq → OwnI wq wc.heap.size rp cp (dgs (Y * gg)) → Calls Tryd.prog 52 #[.slice rp (dgs (Y * gg)).length cp, .slice r1 (dgs R1).length c1] wq fun e w' => e = .returned (.int .i64 1) ∧ Below wc.heap.size wc w' ∧ OwnI w' wc.heap.size rp cp (dgs (Y * gg))) := fun wq gg rp cp hg hlt hb ho => by
        have h := l1Cmp_any rp r1 cp c1 (dgs (Y * gg)) (dgs R1) wq ho.sl (HO1.out.keep hb).sl (Nat.le_trans (hpl gg hg) (by decide)) (Nat.le_trans hrl (by decide))
        rw [cmp_dgs, sg_gt (Int.ofNat_lt.mpr hlt)] at h
        exact h.mono fun e w' ⟨h1, m, h2⟩ => ⟨h1, by rw [h2]; exact below_dN hb _, by rw [h2]; exact ho⟩
      have CC2 : Hid (∀ wq gg rp cp, gg ≤ 65535 → Y * gg ≤ R1 → Below wc.heap.size wc wq → OwnI wq wc.heap.size rp cp (dgs (Y * gg)) → Calls Tryd.prog 52 #[.slice rp (dgs (Y * gg)).length cp, .slice r1 (dgs R1).length c1] wq fun e w' => ∃ s : Int, s ≤ 0 ∧ e = .returned (.int .i64 s) ∧ Below wc.heap.size wc w' ∧ OwnI w' wc.heap.size rp cp (dgs (Y * gg))) := fun wq gg rp cp hg hle hb ho => by
        have h := l1Cmp_any rp r1 cp c1 (dgs (Y * gg)) (dgs R1) wq ho.sl (HO1.out.keep hb).sl (Nat.le_trans (hpl gg hg) (by decide)) (Nat.le_trans hrl (by decide))
        rw [cmp_dgs] at h
        have hs : sg ((Y * gg : Nat) : Int) (R1 : Int) ≤ 0 := by
          rcases Nat.lt_or_eq_of_le hle with h3 | h3
          · rw [sg_lt (Int.ofNat_lt.mpr h3)]; decide
          · rw [sg_eq (by rw [h3])]; decide
        exact h.mono fun e w' ⟨h1, m, h2⟩ => ⟨_, hs, h1, by rw [h2]; exact below_dN hb _, by rw [h2]; exact ho⟩
      have CS : Hid (∀ wq gg rp cp, gg ≤ 65535 → R1 / Y ≤ gg → R1 < Y * gg → Below wc.heap.size wc wq → OwnI wq wc.heap.size rp cp (dgs (Y * gg)) → 1 ≤ gg ∧ R1 / Y ≤ gg - 1 ∧ Calls Tryd.prog 56 #[.slice rp (dgs (Y * gg)).length cp, .slice (some ⟨by1, offy, none⟩) n cry] wq fun e w' => ∃ r6 c6, e = .returned (.slice r6 (dgs (Y * (gg - 1))).length c6) ∧ OwnI w' wc.heap.size r6 c6 (dgs (Y * (gg - 1))) ∧ Below wc.heap.size wc w') := fun wq gg rp cp hg hge hlt hb ho => by
        obtain ⟨h1, h2, h3⟩ := guess_down hYpos hge hlt
        refine ⟨h1, h2, ?_⟩
        have h := l1Sub_any rp (some ⟨by1, offy, none⟩) cp cry (Y * gg) Y wq ho.sl (HSY.out.keep hb) (Nat.le_trans (hpl gg hg) (by decide)) (Nat.le_mul_of_pos_right Y h1)
        rw [h3, ← HLY.out] at h
        exact h.mono fun e w' ⟨r6, c6, k1, k2, k3⟩ => ⟨r6, c6, k1, k2.mono hb.size, hb.trans (k3.mono hb.size)⟩
      have CE : Hid (∀ (wy : World) (gg : Nat) rp cp, R1 / Y ≤ gg → Y * gg ≤ R1 → Below wc.heap.size wc wy → OwnI wy wc.heap.size rp cp (dgs (Y * gg)) → Calls Tryd.prog 56 #[.slice r1 (dgs R1).length c1, .slice rp (dgs (Y * gg)).length cp] (wy.setCell ⟨w3.heap.size, j, none⟩ (.int .i64 (gg : Int))) fun e w' => ∃ r6 c6, e = .returned (.slice r6 (dgs (R1 % Y)).length c6) ∧ ((X / 65536 ^ j : Nat) : Int) = val ((out.set j (gg : Int)).drop j) * Y + (R1 % Y : Nat) ∧ OwnI w' (w3.heap.size + 1) r6 c6 (dgs (R1 % Y)) ∧ w'.ownsRow w3.heap.size 3 1 (.slice (some ⟨w3.heap.size, 0, none⟩) (N + 1) (N + 1)) (N + 1) ((out.set j (gg : Int)).map (Value.int .i64)) ∧ Sl w' (some ⟨bx, offx, none⟩) (dgs X) ∧ Sl w' (some ⟨by1, offy, none⟩) (dgs Y) ∧ Below w.heap.size w w') := fun wy gg rp cp hge hle hb ho => div_close hYpos HXJ.out HR1.out hk HL.out HV.out hge hle (Nat.le_trans hrl (by decide)) HB1.out HW3.out HOQ.out HO1.out HSX.out HSY.out AX.out AY.out hb ho
      have CQ : Hid (∀ wy, Below wc.heap.size wc wy → wy.ownsRow w3.heap.size 3 1 (.slice (some ⟨w3.heap.size, 0, none⟩) (N + 1) (N + 1)) (N + 1) (out.map (Value.int .i64)) ∧ ∃ v, wy.cell? ⟨w3.heap.size, j, none⟩ = some v) := fun wy hb => div_cell hk HL.out (HOQ.out.keep hb)
      have HRM : Hid (R1 % Y < Y) := Nat.mod_lt _ hYpos
      obtain ⟨RM, hRM⟩ : ∃ RM, RM = R1 % Y := ⟨_, rfl⟩
      simp only [← hRM] at CE HRM
      clear hRM
      obtain ⟨D, hD⟩ : ∃ D : Nat → List Int, D = fun g => dgs (Y * g) := ⟨_, rfl⟩
      have hDD : ∀ g, dgs (Y * g) = D g := fun g => by rw [hD]
      simp only [hDD, ← HL1.out] at CT CC1 CC2 CS CE
      obtain ⟨gI, hgI⟩ : ∃ gI : Int, gI = (g0 : Int) := ⟨_, rfl⟩
      have HGI : Hid (gI = (g0 : Int)) := hgI
      rw [← hgI] at CT
      have hbranch : (65536 ≤ GI ∧ gI = 65535) ∨ (GI < 65536 ∧ gI = GI) := by have := HGG.out; omega
      clear hg0 hg2 hGe hQe hD hgI hDD hpl hrl
      rcases hbranch with ⟨hG1, hg⟩ | ⟨hG1, hg⟩
      all_goals
        go_wp2_with fail
        go_goals
        have hg' := congrArg (Value.int IntKind.i64) hg.symm
        rw [hg']
        refine Calls.mono CT.out ?_
        rintro e w10 ⟨rp, cp, rfl, op, bp⟩
        have hbp := hbd.trans (bp.mono hbd.size)
        have op' := op.mono hbd.size
        clear op bp CT
        go_wp2
        go_loopw [15, 16] (fun g v wx => ∃ (gg : Nat) (rp : Option Addr) (cp : Nat), gg ≤ 65535 ∧ g = .int .i64 (gg : Int) ∧ v = .slice rp (D gg).length cp ∧ R1 / Y ≤ gg ∧ OwnI wx wc.heap.size rp cp (D gg) ∧ Below wc.heap.size wc wx) (fun g _ _ => (intOf g).toNat)
        case atStart => exact ⟨g0, rp, cp, hg1, by rw [← HGI.out], rfl, HG2.out, op', hbp⟩
        case round =>
          obtain ⟨gg, rp2, cp2, hgg, rfl, rfl, hge, hop, hbz⟩ := hrel
          have HGE : Hid (R1 / Y ≤ gg) := hge
          by_cases hc : R1 < Y * gg
          · have HC : Hid (R1 < Y * gg) := hc
            have hgd := guess_down hYpos hge hc
            have hgd1 := hgd.1
            have HGD : Hid (R1 / Y ≤ gg - 1) := hgd.2.1
            have HC1 : Hid _ := CC1.out wr gg rp2 cp2 hgg hc hbz hop
            clear hgd hc hge hop hbz
            go_wp2_with fail
            refine Calls.mono HC1.out ?_
            rintro e w11 ⟨rfl, hb11, ho11⟩
            have HC2 : Hid _ := (CS.out w11 gg rp2 cp2 hgg HGE.out HC.out hb11 ho11).2.2
            clear hb11 ho11
            go_wp2_with fail
            refine Calls.mono HC2.out ?_
            rintro e w12 ⟨r12, c12, rfl, o12, b12⟩
            go_wp2
            go_roundw
            case rel => exact ⟨gg - 1, r12, c12, by omega, by congr 1; omega, rfl, HGD.out, o12, b12⟩
            case measure => simp [intOf]; omega
          · have hc' : Y * gg ≤ R1 := Nat.le_of_not_lt hc
            have HC : Hid (Y * gg ≤ R1) := hc'
            have HC1 : Hid _ := CC2.out wr gg rp2 cp2 hgg hc' hbz hop
            clear hc hc' hge hop hbz
            go_wp2_with fail
            refine Calls.mono HC1.out ?_
            rintro e w11 ⟨s, hs, rfl, hb11, ho11⟩
            obtain ⟨hrow, old, hcell⟩ := CQ.out w11 hb11
            have hfz := hrow.frozenAt j
            have HCE : Hid _ := CE.out w11 gg rp2 cp2 HGE.out HC.out hb11 ho11
            have hjI2 : (j : Int) < N + 1 := by omega
            clear hb11 ho11 hrow
            go_wp2_with fail
            refine Calls.mono HCE.out ?_
            rintro e w13 ⟨r13, c13, rfl, v13, o13, q13, sx13, sy13, b13⟩
            go_wp2
            go_roundw
            case rel => exact ⟨j, RM, out.set j (gg : Int), r13, c13, by omega, by rfl, rfl, HRM.out, by rw [List.length_set]; exact HL.out, HD.out.set (by omega) (by omega), v13, o13, q13, sx13, sy13, b13⟩
            case measure => simp [intOf]
end Go.Proofs.YthokphoojmpajahDoor
