/- The contracts of spec.NatDiv and impl.NatDiv. -/
import Derived.Test.YthokphoojmpajabOk
import Derived.Test.YthokphoojmpajabOp2
import Derived.Test.YthokphoojmpajabDivAll
import Derived.Test.YthokphoojmpajabDivBy
namespace Go.Proofs.Ythokphoojmpajab
open Go.RowKit Go.Proofs.Pin

/-- Quotient, rest and whether there is one, as spec and impl give them. -/
def dvB (xs ys : List Int) : Bool := okB xs && (okB ys && decide (ys ≠ []))
def dvQ (xs ys : List Int) : List Int := if dvB xs ys = true then dgs ((val xs).toNat / (val ys).toNat) else []
def dvR (xs ys : List Int) : List Int := if dvB xs ys = true then dgs ((val xs).toNat % (val ys).toNat) else []
theorem dv_no {xs ys : List Int} (h : dvB xs ys = false) : dvQ xs ys = [] ∧ dvR xs ys = [] := by simp [dvQ, dvR, h]
theorem dv_no1 {xs ys : List Int} (h : okB xs = false) : dvB xs ys = false := by simp [dvB, h]
theorem dv_no2 {xs ys : List Int} (h : okB ys = false) : dvB xs ys = false := by simp [dvB, h]
theorem dv_no3 {xs : List Int} : dvB xs [] = false := by simp [dvB]
theorem dv_yes {x y : Nat} (hx : (dgs x).length ≤ 256) (hy : (dgs y).length ≤ 256) (h0 : y ≠ 0) : dvB (dgs x) (dgs y) = true ∧ dvQ (dgs x) (dgs y) = dgs (x / y) ∧ dvR (dgs x) (dgs y) = dgs (x % y) := by
  have hn : dgs y ≠ [] := by
    intro h
    have hv := val_dgs y
    rw [h] at hv
    simp [val] at hv
    omega
  have hB : dvB (dgs x) (dgs y) = true := by simp [dvB, dgs_ok hx, dgs_ok hy, hn]
  refine ⟨hB, ?_, ?_⟩
  · simp only [dvQ, hB, if_true, val_dgs, Int.toNat_natCast]
  · simp only [dvR, hB, if_true, val_dgs, Int.toNat_natCast]
theorem dv_len (xs ys : List Int) : (dvQ xs ys).length ≤ 256 ∧ (dvR xs ys).length ≤ 256 := by
  cases h : dvB xs ys with
  | false => rw [(dv_no h).1, (dv_no h).2]; simp
  | true =>
    simp only [dvB, Bool.and_eq_true] at h
    obtain ⟨x, rfl, hx'⟩ := ok_dgs h.1
    obtain ⟨y, rfl, hy'⟩ := ok_dgs h.2.1
    have h0 : y ≠ 0 := by
      intro e
      rw [e, dgs_zero] at h
      simp at h
    rw [(dv_yes hx' hy' h0).2.1, (dv_yes hx' hy' h0).2.2]
    have h1 := dgs_len_le (Nat.div_le_self x y)
    have h2 := dgs_len_le (Nat.mod_le x y)
    omega

/-- What a function that divides is said to do; 'A' is what it says of its two answers' memory. -/
def Div2 (F : Nat) (A : Option Addr → Option Addr → Prop) : Prop := ∀ (a b : Option Addr) (ca cb : Nat) (xs ys : List Int) (w : World), Sl w a xs → Sl w b ys → xs.length ≤ 1048576 → ys.length ≤ 1048576 → xs.length ≤ ca →
  Calls Try.prog F #[.slice a xs.length ca, .slice b ys.length cb] w fun e w' => ∃ r cr s cs, e = .returned (.tuple #[.slice r (dvQ xs ys).length cr, .slice s (dvR xs ys).length cs, .bool (dvB xs ys)]) ∧ OwnI w' w.heap.size r cr (dvQ xs ys) ∧ OwnI w' w.heap.size s cs (dvR xs ys) ∧ A r s ∧ Below w.heap.size w w'

set_option maxHeartbeats 400000 in
theorem implDiv_op : Div2 16 Ap := by
  intro a b ca cb xs ys w ha hb hx hy hca
  cases h1 : okB xs with
  | false =>
    have hB := dv_no1 (ys := ys) h1
    rw [hB, (dv_no hB).1, (dv_no hB).2]
    go_enter Try.func16, Try.ntmps16
    go_wp2_with (go_at_call 13; refine (implOk_any _ _ xs _ ha hx).mono ?_; rintro e w' ⟨rfl, rfl⟩)
    go_ret3
    exact ⟨none, 0, none, 0, rfl, OwnI.nil _ _, OwnI.nil _ _, (fun _ _ h => by cases h), Below.refl _ _⟩
  | true =>
    cases h2 : okB ys with
    | false =>
      have hB := dv_no2 (xs := xs) h2
      rw [hB, (dv_no hB).1, (dv_no hB).2]
      go_enter Try.func16, Try.ntmps16
      go_wp2_with fail
      refine (implOk_any _ _ xs _ ha hx).mono ?_
      rintro e w' ⟨rfl, rfl⟩
      go_wp2_with fail
      refine (implOk_any _ _ ys _ hb hy).mono ?_
      rintro e w' ⟨rfl, rfl⟩
      go_wp2
      go_ret3
      exact ⟨none, 0, none, 0, rfl, OwnI.nil _ _, OwnI.nil _ _, (fun _ _ h => by cases h), Below.refl _ _⟩
    | true =>
      obtain ⟨x, rfl, hx'⟩ := ok_dgs h1
      obtain ⟨y, rfl, hy'⟩ := ok_dgs h2
      have c1 := (implOk_any a ca (dgs x) w ha hx).mono (R' := fun e w' => e = .returned (.bool (okB (dgs x))) ∧ w = w') fun e w' h => ⟨h.1, h.2.symm⟩
      have c2 := (implOk_any b cb (dgs y) w hb hy).mono (R' := fun e w' => e = .returned (.bool (okB (dgs y))) ∧ w = w') fun e w' h => ⟨h.1, h.2.symm⟩
      rw [h1] at c1
      rw [h2] at c2
      by_cases h0 : y = 0
      · subst h0
        rw [dgs_zero] at c2 ⊢
        have hB := dv_no3 (xs := dgs x)
        rw [hB, (dv_no hB).1, (dv_no hB).2]
        obtain ⟨X, hX⟩ : ∃ X, X = dgs x := ⟨_, rfl⟩
        rw [← hX] at c1 ⊢
        have C1 : Hid _ := c1
        have C2 : Hid _ := c2
        clear c1 c2 hX h1 h2 ha hb hx hy hx' hy' hB hca
        go_enter Try.func16, Try.ntmps16
        go_wp2_with fail
        refine Calls.mono C1.out ?_
        rintro e w' ⟨rfl, rfl⟩
        go_wp2_with fail
        refine Calls.mono C2.out ?_
        rintro e w' ⟨rfl, rfl⟩
        go_wp2
        go_ret3
        exact ⟨none, 0, none, 0, rfl, OwnI.nil _ _, OwnI.nil _ _, (fun _ _ h => by cases h), Below.refl _ _⟩
      · obtain ⟨e1, e2, e3⟩ := dv_yes hx' hy' h0
        rw [e1, e2, e3]
        have c4 := divBy_any a b ca cb x y w ha hb (by omega) (by omega) h0 hca
        have hY0 : 0 < (dgs y).length := by
          rcases Nat.eq_zero_or_pos (dgs y).length with h | h
          · exfalso
            have hv := val_dgs y
            rw [List.length_eq_zero_iff.mp h] at hv
            simp [val] at hv
            omega
          · exact h
        obtain ⟨X, hX⟩ : ∃ X, X = dgs x := ⟨_, rfl⟩
        obtain ⟨Y, hY⟩ : ∃ Y, Y = dgs y := ⟨_, rfl⟩
        obtain ⟨Z, hZ⟩ : ∃ Z, Z = dgs (x / y) := ⟨_, rfl⟩
        obtain ⟨V, hV⟩ : ∃ V, V = dgs (x % y) := ⟨_, rfl⟩
        rw [← hX] at c1 c4 ⊢
        rw [← hY] at c2 c4 hY0 ⊢
        rw [← hZ, ← hV] at c4 ⊢
        have C1 : Hid _ := c1
        have C2 : Hid _ := c2
        have C4 : Hid _ := c4
        have hYI : (0 : Int) < (Y.length : Int) := by omega
        clear c1 c2 c4 hX hY hZ hV h1 h2 ha hb hx hy hx' hy' e1 e2 e3 hca hY0
        go_enter Try.func16, Try.ntmps16
        go_wp2_with fail
        refine Calls.mono C1.out ?_
        rintro e w' ⟨rfl, rfl⟩
        go_wp2_with fail
        refine Calls.mono C2.out ?_
        rintro e w' ⟨rfl, rfl⟩
        go_wp2_with fail
        refine Calls.mono C4.out ?_
        rintro e w2 ⟨r, cr, s, cs, rfl, ho, ho2, hap, hb2⟩
        go_wp2
        go_ret3
        exact ⟨r, cr, s, cs, rfl, ho, ho2, hap, hb2⟩
end Go.Proofs.Ythokphoojmpajab
