/- The contract of spec.NatOf: the digits of a number below 2^64, in a row of the call's own. -/
import Derived.Test.YthokphoojmpajahDoorProg
import Derived.Test.YthokphoojmpajahDoorBase
import Derived.Test.YthokphoojmpajahDoorGEq
import Derived.WalkKit
import Derived.Outline
import Derived.WalkSpells
namespace Go.Proofs.YthokphoojmpajahDoor
open Go.RowKit Go.Proofs.Pin

set_option maxRecDepth 20000 in
set_option maxHeartbeats 400000 in
theorem specOf_any (x : Nat) (w : World) (hx : x ≤ 18446744073709551615) :
    Calls Tryd.prog 46 #[.int .u64 x] w fun e w' => ∃ a cap, e = .returned (.slice a (dgs x).length cap) ∧ OwnI w' w.heap.size a cap (dgs x) ∧ Below w.heap.size w w' := by
  obtain ⟨i0, hi, hz0, hz1, hz2⟩ := info_parts Tryd.info3
  go_enter Tryd.func46, Tryd.ntmps46
  go_wp2
  go_loopw [0, 3] (fun q v wr => ∃ (m : Nat) (pre : List Int), q = .int .u64 m ∧ m ≤ x ∧ pre.length ≤ 4 ∧ m < 65536 ^ (4 - pre.length) ∧ pre ++ dgs m = dgs x ∧ wr.ownsRow w.heap.size 3 1 v pre.length (pre.map (Value.int .i64)) ∧ Below w.heap.size w wr) (fun q _ _ => (intOf q).toNat)
  case atStart => exact ⟨x, [], rfl, Nat.le_refl _, by simp, by simp; omega, by simp, World.ownsRow_nil _ _ _ _, Below.refl _ _⟩
  case round =>
    obtain ⟨m, pre, rfl, hmx, hp4, hsm, heq, hown, hb⟩ := hrel
    have HE : Hid (pre ++ dgs m = dgs x) := heq
    have HS : Hid (m < 65536 ^ (4 - pre.length)) := hsm
    have HB : Hid (Below w.heap.size w wr) := hb
    have hmx' : (m : Int) ≤ 18446744073709551615 := by omega
    by_cases hm : 0 < m
    · have hm' : (0 : Int) < m := by omega
      have hst := step_small hm hp4 hsm
      clear heq hsm hb
      go_wp2_with (at_builtin; refine wpList_append_own _ rfl _ _ 22 rfl w.heap.size 3 i0 (.int .i64 0) 1 8 Tryd.underlying22 hi hz0 hz1 hz2 rfl (by decide) _ _ _ rfl (hown.alloc _) ⟨wr.heap.size, 0, none⟩ 1 1 [.int .i64 ((m : Int) % 65536)] rfl rfl (cell_one_new _ _ _) (by simp [Value.oneCell']) ?c3 ?c4 ?c5 ?_)
      case c3 => unfold maxLen; omega
      case c4 => omega
      case c5 => have := HB.out.size; simp; omega
      intro v' w1 hown' hgrow _
      have HO : Hid (w1.ownsRow w.heap.size 3 1 v' (pre ++ [(m : Int) % 65536]).length ((pre ++ [(m : Int) % 65536]).map (Value.int .i64))) := by
        have h := hown'
        simp only [List.map_append, List.map_cons, List.map_nil, List.length_append, List.length_cons, List.length_nil]
        exact h
      have HB1 : Hid (Below w.heap.size w w1) := below_append HB.out (Nat.le_refl _) hown hgrow
      have HT : Hid (pre.length + 1 ≤ 4 ∧ m / 65536 < 65536 ^ (4 - (pre.length + 1))) := hst
      clear hown' hgrow hown hst
      go_wp2
      go_roundw
      case rel => exact ⟨m / 65536, pre ++ [(m : Int) % 65536], by go_num, by omega, by have := HT.out.1; simp; omega, by simpa using HT.out.2, by rw [← HE.out, dgs_pos (n := m) (by omega)]; simp, HO.out, HB1.out⟩
      case measure => simp [intOf]; omega
    · have hm0 : m = 0 := by omega
      subst hm0
      have hz : pre = dgs x := by simpa [dgs_zero] using heq
      obtain ⟨a, cap, hv, ho⟩ := OwnI.of_row hown
      have HO : Hid (OwnI wr w.heap.size a cap pre) := ho
      subst hv
      have HZ : Hid (pre = dgs x) := hz
      clear heq hown hz ho hsm hb
      go_wp2
      go_ret
      exact ⟨a, cap, by rw [← HZ.out]; rfl, by rw [← HZ.out]; exact HO.out, HB.out⟩

end Go.Proofs.YthokphoojmpajahDoor
