/- The contract of spec.l1Shl: digits of nought laid below. -/
import Derived.Test.YthokphoojmpajafDoorDivSmall
namespace Go.Proofs.YthokphoojmpajafDoor
open Go.RowKit Go.Proofs.Pin

set_option maxRecDepth 20000 in
set_option maxHeartbeats 400000 in
theorem l1Shl_any (a : Option Addr) (ca : Nat) (x m : Nat) (w : World) (ha : Sl w a (dgs x)) (hx : (dgs x).length ≤ 30000) (hm : m ≤ 30000) :
    Calls Tryd.prog 71 #[.slice a (dgs x).length ca, .int .i64 (m : Int)] w fun e w' => ∃ r cr, e = .returned (.slice r (dgs (x * 65536 ^ m)).length cr) ∧ OwnI w' w.heap.size r cr (dgs (x * 65536 ^ m)) ∧ Below w.heap.size w w' := by
  obtain ⟨i0, hi, hz0, hz1, hz2⟩ := info_parts Tryd.info3
  by_cases h0 : x = 0
  · subst h0
    have e : dgs (0 * 65536 ^ m) = [] := by rw [Nat.zero_mul]; rfl
    rw [e, dgs_zero]
    clear ha hx e
    go_enter Tryd.func71, Tryd.ntmps71
    go_wp2
    go_ret
    exact ⟨none, 0, rfl, OwnI.nil _ _, Below.refl _ _⟩
  · obtain ⟨A, hA⟩ : ∃ A, A = dgs x := ⟨_, rfl⟩
    obtain ⟨R, hR⟩ : ∃ R, R = dgs (x * 65536 ^ m) := ⟨_, rfl⟩
    have HR : Hid (List.replicate m (0 : Int) ++ A = R) := by rw [hA, hR]; exact dgs_shift m x h0
    have hpos : 0 < A.length := by
      rw [hA]
      rcases Nat.eq_zero_or_pos (dgs x).length with h1 | h1
      · have := val_dgs x
        rw [List.length_eq_zero_iff.mp h1] at this
        simp [val] at this
        omega
      · exact h1
    rw [← hA] at ha hx ⊢
    rw [← hR]
    have HSA : Hid (Sl w a A) := ha
    obtain ⟨n, hn⟩ : ∃ n, n = A.length := ⟨_, rfl⟩
    have HN : Hid (n = A.length) := hn
    have hn0 : ((n : Int) == 0) = false := by simp; omega
    have hn2 : n ≤ 30000 := by omega
    rw [← hn]
    clear hA hR ha hx hn hpos h0
    go_enter Tryd.func71, Tryd.ntmps71
    go_wp2_with (at_make; refine wpList_make_full _ rfl _ _ 22 rfl w.heap.size 3 i0 (.int .i64 0) 1 Tryd.underlying22 hi hz0 hz1 _ _ _ _ m rfl rfl rfl rfl (by rw [hz2]; omega) (by unfold maxLen; omega) (Nat.le_refl _) ?_; intro w1 hown hgrow)
    have hbel : Below w.heap.size w w1 := (Below.refl _ _).grown hgrow (Nat.le_refl _) (fun k hk => by cases hk)
    have hown1 : w1.ownsRow w.heap.size 3 1 (.slice (some ⟨w.heap.size, 0, none⟩) m m) m ((List.replicate m (0 : Int)).map (Value.int .i64)) := by
      have h := hown
      have e : (madeCells (Value.int .i64 0).cells (m * 1)).toList = List.replicate m (Value.int .i64 0) := by
        rw [Nat.mul_one]
        exact toList_madeCells_one _ _
      rw [e] at h
      rw [List.map_replicate]
      exact h
    clear hown hgrow
    go_loopw [5, 6] (fun v i wr => ∃ t : Nat, t ≤ n ∧ i = .int .i64 t ∧ wr.ownsRow w.heap.size 3 1 v (m + t) ((List.replicate m (0 : Int) ++ A.take t).map (Value.int .i64)) ∧ Below w.heap.size w wr) (fun _ i _ => n - (intOf i).toNat)
    case atStart => exact ⟨0, Nat.zero_le _, rfl, by simpa using hown1, hbel⟩
    case round =>
      obtain ⟨t, ht, rfl, hown, hb⟩ := hrel
      have HB : Hid (Below w.heap.size w wr) := hb
      clear hown1 hbel
      by_cases hlt : t < n
      · have hlt' : (t : Int) < n := by omega
        obtain ⟨b, off, rfl, hb', hc⟩ := Sl.cells HSA.out (k := t) (by rw [← HN.out]; exact hlt)
        obtain ⟨x, hx⟩ : ∃ x, x = A.getD t 0 := ⟨_, rfl⟩
        have hcx : wr.cell? ⟨b, off + t, none⟩ = some (.int .i64 x) := by rw [hb.cell (p := ⟨b, off + t, none⟩) hb', hc, hx]
        have HX : Hid (x = A.getD t 0) := hx
        obtain ⟨cs, hcs⟩ : ∃ cs, cs = (List.replicate m (0 : Int) ++ A.take t).map (Value.int .i64) := ⟨_, rfl⟩
        have HCS : Hid (cs = (List.replicate m (0 : Int) ++ A.take t).map (Value.int .i64)) := hcs
        rw [← hcs] at hown
        clear hx hc hb hcs
        go_wp2_with (at_builtin; refine wpList_append_own _ rfl _ _ 22 rfl w.heap.size 3 i0 (.int .i64 0) 1 8 Tryd.underlying22 hi hz0 hz1 hz2 rfl (by decide) _ _ _ rfl (hown.alloc _) ⟨wr.heap.size, 0, none⟩ 1 1 [.int .i64 x] rfl rfl (cell_one_new _ _ _) (by simp [Value.oneCell']) ?_ ?_ ?_ ?_)
        rotate_left 3
        · intro v' w1 hown' hgrow _
          have HO : Hid (w1.ownsRow w.heap.size 3 1 v' (m + (t + 1)) ((List.replicate m (0 : Int) ++ A.take (t + 1)).map (Value.int .i64))) := by
            show w1.ownsRow w.heap.size 3 1 v' (m + (t + 1)) ((List.replicate m (0 : Int) ++ A.take (t + 1)).map (Value.int .i64))
            rw [take_next (by rw [← HN.out]; omega), ← HX.out, ← List.append_assoc, List.map_append, ← HCS.out, ← Nat.add_assoc]
            exact hown'
          have HB1 : Hid (Below w.heap.size w w1) := below_append HB.out (Nat.le_refl _) hown hgrow
          clear hown' hgrow hown
          go_wp2
          go_roundw
          case rel => exact ⟨t + 1, by omega, by go_num, HO.out, HB1.out⟩
          case measure => simp [intOf]; omega
        · unfold maxLen; omega
        · omega
        · have := HB.out.size; simp; omega
      · have htn : t = n := by omega
        have hAt : A.take t = A := List.take_of_length_le (by rw [← HN.out]; omega)
        rw [hAt, HR.out] at hown
        obtain ⟨r, cr, hv, ho⟩ := OwnI.of_row hown
        have HO : Hid (OwnI wr w.heap.size r cr R) := ho
        subst hv
        clear hown ho hb hAt
        go_wp2
        go_ret
        exact ⟨r, cr, rfl, HO.out, HB.out⟩
end Go.Proofs.YthokphoojmpajafDoor
