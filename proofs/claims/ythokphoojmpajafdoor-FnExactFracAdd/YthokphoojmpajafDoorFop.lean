/- What an operation on fractions answers, as numbers say it; what a fraction that is ok is. -/
import Derived.Test.YthokphoojmpajafDoorFr8
namespace Go.Proofs.YthokphoojmpajafDoor
open Go.RowKit Go.Proofs.Pin

/-- What FracOk has found. -/
theorem fok_parts {b : Bool} {X Y : List Int} (h : fokB b X Y = true) : ∃ x y : Nat, X = dgs x ∧ Y = dgs y ∧ (dgs x).length ≤ 256 ∧ (dgs y).length ≤ 256 ∧ y ≠ 0 ∧ (b = true → x ≠ 0) ∧ Nat.gcd x y = 1 := by
  unfold fokB at h
  simp only [Bool.and_eq_true, decide_eq_true_eq, Bool.not_eq_true'] at h
  obtain ⟨h1, h2, h3, h4, h5⟩ := h
  obtain ⟨x, rfl, lx⟩ := ok_dgs h1
  obtain ⟨y, rfl, ly⟩ := ok_dgs h2
  refine ⟨x, y, rfl, rfl, lx, ly, ?_, ?_, ?_⟩
  · intro h; exact h3 ((dgs_nil_iff y).2 h)
  · intro hb h
    subst hb
    simp [(dgs_nil_iff x).2 h] at h4
  · simpa [val_dgs] using h5
theorem fok_mk {b : Bool} {x y : Nat} (lx : (dgs x).length ≤ 256) (ly : (dgs y).length ≤ 256) (hy : y ≠ 0) (hb : b = true → x ≠ 0) (hg : Nat.gcd x y = 1) : fokB b (dgs x) (dgs y) = true := by
  rw [fok_yes lx ly (fun h => hy ((dgs_nil_iff y).1 h)) (by
    cases b with
    | false => rfl
    | true => simp [(dgs_nil_iff x), hb rfl])]
  simpa using hg

def op1A (f : Bool → Nat → Nat → FAns) (b : Bool) (X Y : List Int) : FAns := if fokB b X Y = true then f b (val X).toNat (val Y).toNat else noA
def op2A (f : Bool → Nat → Nat → Bool → Nat → Nat → FAns) (b : Bool) (X Y : List Int) (b' : Bool) (X' Y' : List Int) : FAns := if fokB b X Y = true ∧ fokB b' X' Y' = true then f b (val X).toNat (val Y).toNat b' (val X').toNat (val Y').toNat else noA
theorem op1A_yes {f : Bool → Nat → Nat → FAns} {b : Bool} {x y : Nat} (h : fokB b (dgs x) (dgs y) = true) : op1A f b (dgs x) (dgs y) = f b x y := by
  unfold op1A; rw [if_pos h, val_dgs, val_dgs, Int.toNat_natCast, Int.toNat_natCast]
theorem op1A_no {f : Bool → Nat → Nat → FAns} {b : Bool} {X Y : List Int} (h : fokB b X Y = false) : op1A f b X Y = noA := by
  unfold op1A; rw [if_neg (by simp [h])]
theorem op2A_yes {f : Bool → Nat → Nat → Bool → Nat → Nat → FAns} {b : Bool} {x y : Nat} {b' : Bool} {x' y' : Nat} (h : fokB b (dgs x) (dgs y) = true) (h' : fokB b' (dgs x') (dgs y') = true) : op2A f b (dgs x) (dgs y) b' (dgs x') (dgs y') = f b x y b' x' y' := by
  unfold op2A; rw [if_pos ⟨h, h'⟩, val_dgs, val_dgs, val_dgs, val_dgs, Int.toNat_natCast, Int.toNat_natCast, Int.toNat_natCast, Int.toNat_natCast]
theorem op2A_no1 {f : Bool → Nat → Nat → Bool → Nat → Nat → FAns} {b : Bool} {X Y : List Int} {b' : Bool} {X' Y' : List Int} (h : fokB b X Y = false) : op2A f b X Y b' X' Y' = noA := by
  unfold op2A; rw [if_neg (by simp [h])]
theorem op2A_no2 {f : Bool → Nat → Nat → Bool → Nat → Nat → FAns} {b : Bool} {X Y : List Int} {b' : Bool} {X' Y' : List Int} (h : fokB b' X' Y' = false) : op2A f b X Y b' X' Y' = noA := by
  unfold op2A; rw [if_neg (by simp [h])]
theorem makeA_len (b : Bool) (x y : Nat) : (makeA b x y).X.length ≤ 256 ∧ (makeA b x y).Y.length ≤ 256 := by
  unfold makeA
  split
  · rename_i h; exact h
  · exact ⟨Nat.zero_le _, Nat.zero_le _⟩

/-- The sign that FracNeg leaves. -/
def ngB (b : Bool) (x : Nat) : Bool := !b && decide (x ≠ 0)
theorem negB_dgs (b : Bool) (x : Nat) : negB b (dgs x).length = ngB b x := by
  unfold negB ngB
  congr 1
  exact decide_eq_decide.2 (dgs_pos_len x)
/-- The sum, the difference, the product, the quotient, in lowest terms. -/
def mulA (b : Bool) (x y : Nat) (b' : Bool) (x' y' : Nat) : FAns := makeA (b != b') (x * x') (y * y')
def divA (b : Bool) (x y : Nat) (b' : Bool) (x' y' : Nat) : FAns := if x' = 0 then noA else makeA (b != b') (x * y') (y * x')
end Go.Proofs.YthokphoojmpajafDoor
