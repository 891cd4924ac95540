/- What DecText answers, place by place. -/
import Derived.Test.YthokphoojmpajahDoorDecImp2
import Derived.Test.YthokphoojmpajahDoorDecForm
namespace Go.Proofs.YthokphoojmpajahDoor
open Go.RowKit Go.Proofs.Pin

theorem dc_eq {x y : Nat} (h : fokB false (dgs x) (dgs y) = true) : dcB false (dgs x) (dgs y) = ((decO x y).isSome && decide ((decT x y).size ≤ 60)) ∧ dcT false (dgs x) (dgs y) = if ((decO x y).isSome && decide ((decT x y).size ≤ 60)) = true then decT x y else ⟨#[]⟩ := by
  have eB : dcB false (dgs x) (dgs y) = ((decO x y).isSome && decide ((decT x y).size ≤ 60)) := by
    unfold dcB
    rw [h, val_dgs, val_dgs, Int.toNat_natCast, Int.toNat_natCast]
    simp
  refine ⟨eB, ?_⟩
  unfold dcT
  rw [eB, val_dgs, val_dgs, Int.toNat_natCast, Int.toNat_natCast]
theorem dc_no {x y : Nat} (h : fokB false (dgs x) (dgs y) = true) (hj : ∀ j, j < 59 → x * 10 ^ j % y ≠ 0) : dcB false (dgs x) (dgs y) = false ∧ dcT false (dgs x) (dgs y) = ⟨#[]⟩ := by
  rw [(dc_eq h).1, (dc_eq h).2, decO_none hj]
  exact ⟨rfl, rfl⟩
theorem dc_at {x y k : Nat} (h : fokB false (dgs x) (dgs y) = true) (hk : k < 60) (h0 : x * 10 ^ k % y = 0) (hj : ∀ j, j < k → x * 10 ^ j % y ≠ 0) :
    ((pointT (txt (x * 10 ^ k / y)) k).size ≤ 60 → dcB false (dgs x) (dgs y) = true ∧ dcT false (dgs x) (dgs y) = pointT (txt (x * 10 ^ k / y)) k) ∧ (60 < (pointT (txt (x * 10 ^ k / y)) k).size → dcB false (dgs x) (dgs y) = false ∧ dcT false (dgs x) (dgs y) = ⟨#[]⟩) := by
  by_cases h59 : k = 59
  · subst h59
    have hb := point_59 (txt (x * 10 ^ 59 / y)) 59 (Nat.le_refl _)
    exact ⟨fun h2 => by omega, fun _ => dc_no h hj⟩
  · have e := decO_some (by omega) h0 hj
    have eT : decT x y = pointT (txt (x * 10 ^ k / y)) k := by unfold decT; rw [e]
    rw [(dc_eq h).1, (dc_eq h).2, eT, e]
    constructor
    · intro h2; simp [h2]
    · intro h2
      have h3 : ¬ (pointT (txt (x * 10 ^ k / y)) k).size ≤ 60 := by omega
      simp [h3]
theorem txt_ge (t : ByteArray) (k : Nat) : t.size ≤ (pointT t k).size := by
  rw [point_size]
  split
  · exact Nat.le_refl _
  · have := (pad_size t k).2; omega
theorem big_txt {n : Nat} (h : 256 < (dgs n).length) : 60 < (txt n).size := by
  have hn : n ≠ 0 := by intro e; rw [e, dgs_zero] at h; simp at h
  rw [txt_size hn]
  refine Nat.lt_of_not_le fun h2 => ?_
  have h3 := nd_lt n
  have h4 : n < 10 ^ 60 := Nat.lt_of_lt_of_le h3 (Nat.pow_le_pow_right (by decide) h2)
  have h5 : (dgs n).length ≤ 60 := (dgs_len_iff n 60).2 (Nat.lt_of_lt_of_le h4 (Nat.pow_le_pow_left (by decide) 60))
  omega
end Go.Proofs.YthokphoojmpajahDoor
