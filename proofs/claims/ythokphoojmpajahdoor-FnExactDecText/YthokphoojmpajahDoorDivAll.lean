/- The contract of spec.l1Div: quotient and rest, at every divisor but 0. -/
import Derived.Test.YthokphoojmpajahDoorDivSpec
namespace Go.Proofs.YthokphoojmpajahDoor
open Go.RowKit Go.Proofs.Pin

set_option maxRecDepth 20000 in
theorem l1DivLess_any (a b : Option Addr) (ca cb : Nat) (x y : Nat) (w : World) (ha : Sl w a (dgs x)) (hb : Sl w b (dgs y)) (hx : (dgs x).length ≤ 2000) (hy : (dgs y).length ≤ 2000) (hxy : x < y) :
    Calls Tryd.prog 31 #[.slice a (dgs x).length ca, .slice b (dgs y).length cb] w fun e w' => ∃ r cr s cs, e = .returned (.tuple #[.slice r (dgs (x / y)).length cr, .slice s (dgs (x % y)).length cs]) ∧ OwnI w' w.heap.size r cr (dgs (x / y)) ∧ OwnI w' w.heap.size s cs (dgs (x % y)) ∧ Below w.heap.size w w' := by
  rw [Nat.div_eq_of_lt hxy, Nat.mod_eq_of_lt hxy, dgs_zero]
  have C1 : Hid (Calls Tryd.prog 52 #[.slice a (dgs x).length ca, .slice b (dgs y).length cb] w fun e w' => e = .returned (.int .i64 (-1)) ∧ ∃ q, w' = w.drewN q) := by
    have h := l1Cmp_any a b ca cb (dgs x) (dgs y) w ha hb (by omega) (by omega)
    rw [cmp_dgs, sg_lt (Int.ofNat_lt.mpr hxy)] at h
    exact h
  have C2 : Hid (∀ q, Calls Tryd.prog 43 #[.slice a (dgs x).length ca] (w.drewN q) fun e w' => ∃ r6 c6, e = .returned (.slice r6 (dgs x).length c6) ∧ OwnI w' w.heap.size r6 c6 (dgs x) ∧ Below w.heap.size w w') := fun q => (trim_same a ca x (w.drewN q) ha (by omega)).mono fun e w' ⟨r6, c6, h1, h2, h3⟩ => ⟨r6, c6, h1, h2, ⟨h3.os, h3.tape, h3.output, h3.size, h3.block⟩⟩
  obtain ⟨A, hA⟩ : ∃ A, A = dgs x := ⟨_, rfl⟩
  obtain ⟨B, hB⟩ : ∃ B, B = dgs y := ⟨_, rfl⟩
  rw [← hA] at hx C1 C2 ⊢
  rw [← hB] at hy C1 ⊢
  clear hA hB ha hb hxy
  go_enter Tryd.func31, Tryd.ntmps31
  go_wp2_with fail
  refine Calls.mono C1.out ?_
  rintro e w1 ⟨rfl, q1, rfl⟩
  go_wp2_with fail
  refine Calls.mono (C2.out _) ?_
  rintro e w2 ⟨r2, c2, rfl, o2, b2⟩
  go_wp2
  go_ret2
  exact ⟨none, 0, r2, c2, rfl, OwnI.nil _ _, o2, b2⟩

set_option maxRecDepth 20000 in
set_option maxHeartbeats 400000 in
theorem l1DivOne_any (a b : Option Addr) (ca cb : Nat) (x y : Nat) (w : World) (ha : Sl w a (dgs x)) (hb : Sl w b (dgs y)) (hx : (dgs x).length ≤ 2000) (hy0 : y ≠ 0) (hy1 : y < 65536) (hxy : y ≤ x) :
    Calls Tryd.prog 31 #[.slice a (dgs x).length ca, .slice b (dgs y).length cb] w fun e w' => ∃ r cr s cs, e = .returned (.tuple #[.slice r (dgs (x / y)).length cr, .slice s (dgs (x % y)).length cs]) ∧ OwnI w' w.heap.size r cr (dgs (x / y)) ∧ OwnI w' w.heap.size s cs (dgs (x % y)) ∧ Below w.heap.size w w' := by
  have hl1 : (dgs y).length = 1 := by rw [dgs_digit hy0 hy1]; rfl
  have C1 : Hid (Calls Tryd.prog 52 #[.slice a (dgs x).length ca, .slice b (dgs y).length cb] w fun e w' => e = .returned (.int .i64 (sg x y)) ∧ ∃ q, w' = w.drewN q) := by
    have h := l1Cmp_any a b ca cb (dgs x) (dgs y) w ha hb (by omega) (by omega)
    rw [cmp_dgs] at h
    exact h
  have hsg : ¬ sg (x : Int) (y : Int) < 0 := by unfold sg; split <;> (try split) <;> omega
  obtain ⟨bb, offb, hbe, hbb, hcb⟩ := Sl.cells hb (k := 0) (by omega)
  have hd0 : (dgs y).getD 0 0 = (y : Int) := by rw [dgs_digit hy0 hy1]; rfl
  rw [hd0, Nat.add_zero] at hcb
  have C2 : Hid (∀ q, Calls Tryd.prog 38 #[.slice a (dgs x).length ca, .int .i64 (y : Int)] (w.drewN q) fun e w' => ∃ r cr, e = .returned (.tuple #[.slice r (dgs (x / y)).length cr, .int .i64 ((x % y : Nat) : Int)]) ∧ OwnI w' w.heap.size r cr (dgs (x / y)) ∧ Below w.heap.size w w') := fun q => by
    have h := l1DivSmall_any a ca x (y : Int) (w.drewN q) ha (by omega) (by omega) (by omega)
    simp only [Int.toNat_natCast] at h
    exact h.mono fun e w' ⟨r6, c6, h1, h2, h3⟩ => ⟨r6, c6, h1, h2, ⟨h3.os, h3.tape, h3.output, h3.size, h3.block⟩⟩
  have hm : x % y < 65536 := Nat.lt_trans (Nat.mod_lt _ (by omega)) hy1
  obtain ⟨m, hme⟩ : ∃ m, m = x % y := ⟨_, rfl⟩
  rw [← hme] at C2 hm ⊢
  have C3 : Hid (∀ wq, Below w.heap.size w wq → Calls Tryd.prog 46 #[.int .u64 (m : Int)] wq fun e w' => ∃ r6 c6, e = .returned (.slice r6 (dgs m).length c6) ∧ OwnI w' w.heap.size r6 c6 (dgs m) ∧ Below wq.heap.size wq w') := fun wq hw => by
    exact (specOf_any m wq (by omega)).mono fun e w' ⟨r6, c6, h1, h2, h3⟩ => ⟨r6, c6, h1, h2.mono hw.size, h3⟩
  obtain ⟨A, hA⟩ : ∃ A, A = dgs x := ⟨_, rfl⟩
  obtain ⟨Q, hQ⟩ : ∃ Q, Q = dgs (x / y) := ⟨_, rfl⟩
  obtain ⟨M, hM⟩ : ∃ M, M = dgs m := ⟨_, rfl⟩
  rw [← hA] at hx C1 C2 ⊢
  rw [hl1] at C1 ⊢
  rw [← hQ] at C2 ⊢
  rw [← hM] at C3 ⊢
  clear hA hQ hM ha hb hd0 hme hl1 hxy
  subst hbe
  go_enter Tryd.func31, Tryd.ntmps31
  go_wp2_with fail
  refine Calls.mono C1.out ?_
  rintro e w1 ⟨rfl, q1, rfl⟩
  go_wp2_with fail
  refine Calls.mono (C2.out _) ?_
  rintro e w2 ⟨r2, c2, rfl, o2, b2⟩
  go_wp2_with fail
  refine Calls.mono (C3.out _ b2) ?_
  rintro e w3 ⟨r3, c3, rfl, o3, b3⟩
  have o23 := o2.keep b3
  have b23 := b2.trans (b3.mono b2.size)
  go_wp2
  go_ret2
  exact ⟨r2, c2, r3, c3, rfl, o23, o3, b23⟩

theorem l1Div_any (a b : Option Addr) (ca cb : Nat) (x y : Nat) (w : World) (ha : Sl w a (dgs x)) (hb : Sl w b (dgs y)) (hx : (dgs x).length ≤ 2000) (hy : (dgs y).length ≤ 2000) (hy0 : y ≠ 0) :
    Calls Tryd.prog 31 #[.slice a (dgs x).length ca, .slice b (dgs y).length cb] w fun e w' => ∃ r cr s cs, e = .returned (.tuple #[.slice r (dgs (x / y)).length cr, .slice s (dgs (x % y)).length cs]) ∧ OwnI w' w.heap.size r cr (dgs (x / y)) ∧ OwnI w' w.heap.size s cs (dgs (x % y)) ∧ Below w.heap.size w w' := by
  by_cases hxy : x < y
  · exact l1DivLess_any a b ca cb x y w ha hb hx hy hxy
  · by_cases hy1 : y < 65536
    · exact l1DivOne_any a b ca cb x y w ha hb hx hy0 hy1 (Nat.le_of_not_lt hxy)
    · refine l1DivLong_any a b ca cb x y w ha hb hx hy ?_ (Nat.le_of_not_lt hxy)
      refine Nat.lt_of_not_le fun h => hy1 ?_
      have h2 := (dgs_len_iff y 1).1 h
      rw [Nat.pow_one] at h2
      exact h2
end Go.Proofs.YthokphoojmpajahDoor
