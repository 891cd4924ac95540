/- The contract of spec.l1Pow2: the digits of a power of two. -/
import Derived.Test.YthokphoojmpajagDoorRootNum
import Derived.Test.YthokphoojmpajagDoorGShl
namespace Go.Proofs.YthokphoojmpajagDoor
open Go.RowKit Go.Proofs.Pin

theorem wrap_small (P : Nat) (h : P < 65536) : wrap64 (P : Int) = (P : Int) := by unfold wrap64; omega
theorem wrap_pow (k : Nat) : wrap64 ((2 : Int) ^ (k % 16)) = ((2 ^ (k % 16) : Nat) : Int) := by
  rw [← wrap_small _ (pow16_lt k)]
  push_cast
  rfl

set_option maxRecDepth 20000 in
theorem l1Pow2_any (k : Nat) (w : World) (hk : k ≤ 5000) :
    Calls Tryd.prog 88 #[.int .i64 (k : Int)] w fun e w' => ∃ r cr, e = .returned (.slice r (dgs (2 ^ k)).length cr) ∧ OwnI w' w.heap.size r cr (dgs (2 ^ k)) ∧ Below w.heap.size w w' := by
  have hp := wrap_pow k
  have hd : dgs (2 ^ (k % 16)) = [((2 ^ (k % 16) : Nat) : Int)] := dgs_one (Nat.ne_of_gt (Nat.two_pow_pos _)) (pow16_lt k)
  obtain ⟨W, hW⟩ : ∃ W, W = w.alloc (.cells #[.int .i64 ((2 ^ (k % 16) : Nat) : Int)] 3) := ⟨_, rfl⟩
  have B0 : Below w.heap.size w W := by rw [hW]; exact (Below.refl _ w).alloc (Nat.le_refl _) _
  have hs : Sl W (some ⟨w.heap.size, 0, none⟩) (dgs (2 ^ (k % 16))) := by
    rw [hd, hW]
    exact (own_of_block (base := w.heap.size) (zs := [((2 ^ (k % 16) : Nat) : Int)]) (World.alloc_heap_new w _) (Nat.le_refl _) (by simp [maxLen])).sl
  have C := l1Shl_any (some ⟨w.heap.size, 0, none⟩) 1 (2 ^ (k % 16)) (k / 16) W hs (by rw [hd]; simp) (by omega)
  rw [pow2_split, show (dgs (2 ^ (k % 16))).length = 1 by rw [hd]; rfl, show ((k / 16 : Nat) : Int) = (k : Int) / 16 by omega] at C
  have CH : Hid _ := C
  obtain ⟨D, hD⟩ : ∃ D, D = dgs (2 ^ k) := ⟨_, rfl⟩
  rw [← hD] at CH ⊢
  have HP : Hid (wrap64 ((2 : Int) ^ (k % 16)) = ((2 ^ (k % 16) : Nat) : Int)) := hp
  clear C hs hd hp hD
  go_enter Tryd.func88, Tryd.ntmps88
  go_wp2_with fail
  rw [HP.out, ← hW]
  refine Calls.mono CH.out ?_
  rintro e w2 ⟨r, cr, rfl, ho, hb⟩
  have ho2 := ho.mono B0.size
  have hb2 := B0.trans (hb.mono B0.size)
  clear ho hb hW B0
  go_wp2
  go_ret
  exact ⟨r, cr, rfl, ho2, hb2⟩
end Go.Proofs.YthokphoojmpajagDoor
