/- The contract of digits.dividedBy: the digits of quotient and rest, at every divisor but 0. -/
import Derived.Test.YthokphoojmpajahDoorGLong
import Derived.Test.YthokphoojmpajahDoorCopied
namespace Go.Proofs.YthokphoojmpajahDoor
open Go.RowKit Go.Shelf Go.Sort Go.Proofs.Pin

set_option maxRecDepth 20000 in
theorem divLess_any (a b : Option Addr) (ca cb : Nat) (x y : Nat) (w : World) (ha : Sl w a (dgs x)) (hb : Sl w b (dgs y)) (hx : (dgs x).length ≤ 2000) (hxy : x < y) :
    Calls Tryd.prog 58 #[.slice a (dgs x).length ca, .slice b (dgs y).length cb] w fun e w' => ∃ r cr s cs, e = .returned (.tuple #[.slice r (dgs (x / y)).length cr, .slice s (dgs (x % y)).length cs]) ∧ OwnI w' w.heap.size r cr (dgs (x / y)) ∧ OwnI w' w.heap.size s cs (dgs (x % y)) ∧ Ap r s ∧ Below w.heap.size w w' := by
  rw [Nat.div_eq_of_lt hxy, Nat.mod_eq_of_lt hxy, dgs_zero]
  have C1 : Hid (Calls Tryd.prog 75 #[.slice a (dgs x).length ca, .slice b (dgs y).length cb] w fun e w' => e = .returned (.int .i64 (-1)) ∧ Below w.heap.size w w') := by
    have h := cmp_any a b ca cb (dgs x) (dgs y) w ha hb (by omega)
    rw [cmp_dgs, sg_lt (Int.ofNat_lt.mpr hxy)] at h
    exact h
  have C2 : Hid (∀ w1, Below w.heap.size w w1 → Calls Tryd.prog 48 #[.slice a (dgs x).length ca] w1 fun e w' => ∃ r6 c6, e = .returned (.slice r6 (dgs x).length c6) ∧ OwnI w' w.heap.size r6 c6 (dgs x) ∧ Below w.heap.size w w') := fun w1 hb1 => (copied_any a ca (dgs x) w1 (ha.keep hb1) (by omega)).mono fun e w' ⟨r, cr, h1, h2, h3⟩ => ⟨r, cr, h1, h2.mono hb1.size, hb1.trans (h3.mono hb1.size)⟩
  obtain ⟨A, hA⟩ : ∃ A, A = dgs x := ⟨_, rfl⟩
  obtain ⟨B, hB⟩ : ∃ B, B = dgs y := ⟨_, rfl⟩
  rw [← hA] at hx C1 C2 ⊢
  rw [← hB] at C1 ⊢
  clear hA hB ha hb hxy
  go_enter Tryd.func58, Tryd.ntmps58
  go_wp2_with fail
  refine Calls.mono C1.out ?_
  rintro e w1 ⟨rfl, hb1⟩
  go_wp2_with fail
  refine Calls.mono (C2.out _ hb1) ?_
  rintro e w2 ⟨r, cr, rfl, ho, hb2⟩
  go_wp2
  go_ret2
  exact ⟨none, 0, r, cr, rfl, OwnI.nil _ _, ho, (fun _ _ h => by cases h), hb2⟩

set_option maxRecDepth 20000 in
theorem divOne_any (a b : Option Addr) (ca cb : Nat) (x y : Nat) (w : World) (ha : Sl w a (dgs x)) (hb : Sl w b (dgs y)) (hx : (dgs x).length ≤ 2000) (hy : (dgs y).length = 1) (hxy : y ≤ x) :
    Calls Tryd.prog 58 #[.slice a (dgs x).length ca, .slice b (dgs y).length cb] w fun e w' => ∃ r cr s cs, e = .returned (.tuple #[.slice r (dgs (x / y)).length cr, .slice s (dgs (x % y)).length cs]) ∧ OwnI w' w.heap.size r cr (dgs (x / y)) ∧ OwnI w' w.heap.size s cs (dgs (x % y)) ∧ Ap r s ∧ Below w.heap.size w w' := by
  have hyb : y < 65536 := by have := (dgs_len_iff y 1).1 (by omega); simpa using this
  have hy0 : y ≠ 0 := by intro h; rw [h, dgs_zero] at hy; simp at hy
  have hd := dgs_digit hy0 hyb
  obtain ⟨b0, off0, rfl, hb0, hc0⟩ := Sl.cells hb (k := 0) (by omega)
  rw [hd] at hc0
  simp only [List.getD_cons_zero, Nat.add_zero] at hc0
  have C1 : Hid (Calls Tryd.prog 75 #[.slice a (dgs x).length ca, .slice (some ⟨b0, off0, none⟩) 1 cb] w fun e w' => (∃ c : Int, 0 ≤ c ∧ e = .returned (.int .i64 c)) ∧ Below w.heap.size w w') := by
    have h := cmp_any a (some ⟨b0, off0, none⟩) ca cb (dgs x) (dgs y) w ha hb (by omega)
    rw [cmp_dgs, hy] at h
    refine h.mono ?_
    rintro e w' ⟨h1, h2⟩
    exact ⟨⟨_, by unfold sg; split <;> (try split) <;> omega, h1⟩, h2⟩
  have C2 : Hid (∀ w1, Below w.heap.size w w1 → Calls Tryd.prog 67 #[.slice a (dgs x).length ca, .int .i64 (y : Int)] w1 fun e w' => ∃ r cr, e = .returned (.tuple #[.slice r (dgs (x / y)).length cr, .int .i64 ((x % y : Nat) : Int)]) ∧ OwnI w' w.heap.size r cr (dgs (x / y)) ∧ Below w.heap.size w w') := fun w1 hb1 => by
    have h := cut_any a ca x (y : Int) w1 (ha.keep hb1) (by omega) (by omega) (by omega)
    rw [Int.toNat_natCast] at h
    exact h.mono fun e w' ⟨r, cr, h1, h2, h3⟩ => ⟨r, cr, h1, h2.mono hb1.size, hb1.trans (h3.mono hb1.size)⟩
  have hm : x % y < 65536 := Nat.lt_trans (Nat.mod_lt _ (by omega)) hyb
  have C3 : Hid (∀ w1 base g, OwnI w1 base (some ⟨g, 0, none⟩) 1 [((x % y : Nat) : Int)] → Calls Tryd.prog 76 #[.slice (some ⟨g, 0, none⟩) 1 1] w1 fun e w' => e = .returned (.slice (some ⟨g, 0, none⟩) (dgs (x % y)).length 1) ∧ OwnI w' base (some ⟨g, 0, none⟩) 1 (dgs (x % y)) ∧ w1 = w') := fun w1 base g ho => by
    have h := trimmed_any base (some ⟨g, 0, none⟩) 1 _ w1 ho (by simp)
    rw [row_dgs (Dg.cons (by omega) (by omega) Dg.nil) (n := x % y) (by simp only [val]; omega)] at h
    exact h
  obtain ⟨A, hA⟩ : ∃ A, A = dgs x := ⟨_, rfl⟩
  obtain ⟨qd, hqd⟩ : ∃ qd, qd = dgs (x / y) := ⟨_, rfl⟩
  obtain ⟨rd, hrd⟩ : ∃ rd, rd = dgs (x % y) := ⟨_, rfl⟩
  obtain ⟨z, hz⟩ : ∃ z : Int, z = ((x % y : Nat) : Int) := ⟨_, rfl⟩
  obtain ⟨yI, hyI⟩ : ∃ yI : Int, yI = (y : Int) := ⟨_, rfl⟩
  rw [hy]
  rw [← hA] at hx C1 C2 ⊢
  rw [← hqd] at C2 ⊢
  rw [← hrd] at C3 ⊢
  rw [← hz] at C2 C3
  rw [← hyI] at C2 hc0
  clear hA hqd hrd hz hyI ha hb hxy hd hm hy hyb hy0
  have hmix : Tryd.prog.follows .mixedOrders = true := by kernel_rfl
  go_enter Tryd.func58, Tryd.ntmps58
  go_wp2_with fail
  refine Calls.mono C1.out ?_
  rintro e w1 ⟨⟨c, hc, rfl⟩, hb1⟩
  have hc1 : w1.cell? ⟨b0, off0, none⟩ = some (.int .i64 yI) := (hb1.cell (p := ⟨b0, off0, none⟩) hb0).trans hc0
  have HB1 : Hid (Below w.heap.size w w1) := hb1
  clear hb1 hc0
  go_wp2_with fail
  refine Calls.mono (C2.out _ HB1.out) ?_
  rintro e w2 ⟨r, cr, rfl, ho, hb2⟩
  have HO : Hid (OwnI w2 w.heap.size r cr qd ∧ Below w.heap.size w w2) := ⟨ho, hb2⟩
  clear ho hb2 hc1
  go_wp2_with fail
  have ho2 : OwnI (w2.alloc (.cells #[.int .i64 z] 3)) w.heap.size (some ⟨w2.heap.size, 0, none⟩) 1 [z] := own_of_block (zs := [z]) (World.alloc_heap_new w2 _) HO.out.2.size (by simp; unfold maxLen; omega)
  refine Calls.mono (C3.out _ _ _ ho2) ?_
  rintro e w3 ⟨rfl, ho3, rfl⟩
  go_wp2
  go_ret2
  refine ⟨r, cr, some ⟨w2.heap.size, 0, none⟩, 1, rfl, HO.out.1.kept (World.grownBy_alloc w2 _ none) (fun _ _ e => by cases e), ho3, ?_, HO.out.2.alloc HO.out.2.size _⟩
  intro p q hp hq
  cases hq
  rcases HO.out.1.parts with ⟨h, _⟩ | ⟨g, h, _, hl⟩
  · rw [h] at hp
    cases hp
  · rw [h] at hp
    cases hp
    show g ≠ w2.heap.size
    omega

set_option maxRecDepth 20000 in
theorem divBy_any (a b : Option Addr) (ca cb : Nat) (x y : Nat) (w : World) (ha : Sl w a (dgs x)) (hb : Sl w b (dgs y)) (hx : (dgs x).length ≤ 2000) (hy : (dgs y).length ≤ 2000) (hy0 : y ≠ 0) (hca : (dgs x).length ≤ ca) :
    Calls Tryd.prog 58 #[.slice a (dgs x).length ca, .slice b (dgs y).length cb] w fun e w' => ∃ r cr s cs, e = .returned (.tuple #[.slice r (dgs (x / y)).length cr, .slice s (dgs (x % y)).length cs]) ∧ OwnI w' w.heap.size r cr (dgs (x / y)) ∧ OwnI w' w.heap.size s cs (dgs (x % y)) ∧ Ap r s ∧ Below w.heap.size w w' := by
  by_cases hxy : x < y
  · exact divLess_any a b ca cb x y w ha hb hx hxy
  · have hle : y ≤ x := by omega
    by_cases h1 : (dgs y).length = 1
    · exact divOne_any a b ca cb x y w ha hb hx h1 hle
    · have h2 : 2 ≤ (dgs y).length := by
        rcases Nat.eq_zero_or_pos (dgs y).length with h | h
        · exfalso
          have hv := val_dgs y
          rw [List.length_eq_zero_iff.mp h] at hv
          simp [val] at hv
          omega
        · omega
      have C1 : Hid (Calls Tryd.prog 75 #[.slice a (dgs x).length ca, .slice b (dgs y).length cb] w fun e w' => (∃ c : Int, 0 ≤ c ∧ e = .returned (.int .i64 c)) ∧ Below w.heap.size w w') := by
        have h := cmp_any a b ca cb (dgs x) (dgs y) w ha hb (by omega)
        rw [cmp_dgs] at h
        refine h.mono ?_
        rintro e w' ⟨h1, h2⟩
        exact ⟨⟨_, by unfold sg; split <;> (try split) <;> omega, h1⟩, h2⟩
      have C2 : Hid (∀ w1, Below w.heap.size w w1 → Calls Tryd.prog 77 #[.slice a (dgs x).length ca, .slice b (dgs y).length cb] w1 fun e w' => ∃ r cr s cs, e = .returned (.tuple #[.slice r (dgs (x / y)).length cr, .slice s (dgs (x % y)).length cs]) ∧ OwnI w' w.heap.size r cr (dgs (x / y)) ∧ OwnI w' w.heap.size s cs (dgs (x % y)) ∧ Ap r s ∧ Below w.heap.size w w') := fun w1 hb1 => (longDiv_any a b ca cb x y w1 (ha.keep hb1) (hb.keep hb1) hx hy h2 hle hca).mono fun e w' ⟨r, cr, s, cs, k1, k2, k3, k4, k5⟩ => ⟨r, cr, s, cs, k1, k2.mono hb1.size, k3.mono hb1.size, k4, hb1.trans (k5.mono hb1.size)⟩
      obtain ⟨A, hA⟩ : ∃ A, A = dgs x := ⟨_, rfl⟩
      obtain ⟨B, hB⟩ : ∃ B, B = dgs y := ⟨_, rfl⟩
      obtain ⟨qd, hqd⟩ : ∃ qd, qd = dgs (x / y) := ⟨_, rfl⟩
      obtain ⟨rd, hrd⟩ : ∃ rd, rd = dgs (x % y) := ⟨_, rfl⟩
      rw [← hA] at hx C1 C2 ⊢
      rw [← hB] at hy h1 h2 C1 C2 ⊢
      rw [← hqd, ← hrd] at C2 ⊢
      clear hA hB hqd hrd ha hb hxy hle hca
      go_enter Tryd.func58, Tryd.ntmps58
      go_wp2_with fail
      refine Calls.mono C1.out ?_
      rintro e w1 ⟨⟨c, hc, rfl⟩, hb1⟩
      go_wp2_with fail
      refine Calls.mono (C2.out _ hb1) ?_
      rintro e w2 ⟨r, cr, s, cs, rfl, h3, h4, h5, h6⟩
      go_wp2
      go_ret2
      exact ⟨r, cr, s, cs, rfl, h3, h4, h5, h6⟩
end Go.Proofs.YthokphoojmpajahDoor
