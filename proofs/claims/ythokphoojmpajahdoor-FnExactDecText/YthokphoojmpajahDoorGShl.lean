/- The contracts of spec.l1DivSmall, l1Times, l1Top, l1Shl. The contract of spec.l1Shl: digits of nought laid below. -/
import Derived.Test.YthokphoojmpajahDoorMul
import Derived.Test.YthokphoojmpajahDoorGNum
namespace Go.Proofs.YthokphoojmpajahDoor
open Go.RowKit Go.Proofs.Pin

set_option maxRecDepth 20000 in
set_option maxHeartbeats 800000 in
theorem l1DivSmall_any (a : Option Addr) (ca : Nat) (x : Nat) (d : Int) (w : World) (ha : Sl w a (dgs x)) (hx : (dgs x).length ≤ 65536) (hd0 : 0 < d) (hd1 : d < 65536) :
    Calls Tryd.prog 38 #[.slice a (dgs x).length ca, .int .i64 d] w fun e w' => ∃ r cr, e = .returned (.tuple #[.slice r (dgs (x / d.toNat)).length cr, .int .i64 ((x % d.toNat : Nat) : Int)]) ∧ OwnI w' w.heap.size r cr (dgs (x / d.toNat)) ∧ Below w.heap.size w w' := by
  obtain ⟨i0, hi, hz0, hz1, hz2⟩ := info_parts Tryd.info3
  obtain ⟨A, hA⟩ : ∃ A, A = dgs x := ⟨_, rfl⟩
  have DA : Hid (Dg A) := by rw [hA]; exact Dg_dgs x
  have VA : Hid (val A = x) := by rw [hA]; exact val_dgs x
  rw [← hA] at ha hx ⊢
  have HSA : Hid (Sl w a A) := ha
  obtain ⟨n, hn⟩ : ∃ n, n = A.length := ⟨_, rfl⟩
  have HN : Hid (n = A.length) := hn
  have hn2 : n ≤ 65536 := by omega
  rw [← hn]
  obtain ⟨rm, hrm⟩ : ∃ rm : Int, rm = ((x % d.toNat : Nat) : Int) := ⟨_, rfl⟩
  have HRM : Hid (rm = ((x % d.toNat : Nat) : Int)) := hrm
  obtain ⟨Q, hQ⟩ : ∃ Q, Q = dgs (x / d.toNat) := ⟨_, rfl⟩
  have HQ : Hid (Q = dgs (x / d.toNat)) := hQ
  rw [← hrm, ← hQ]
  clear hA ha hn hx hrm hQ
  go_enter Tryd.func38, Tryd.ntmps38
  go_wp2_with (at_make; refine wpList_make_full _ rfl _ _ 22 rfl w.heap.size 3 i0 (.int .i64 0) 1 Tryd.underlying22 hi hz0 hz1 _ _ _ _ n rfl rfl rfl rfl (by rw [hz2]; omega) (by unfold maxLen; omega) (Nat.le_refl _) ?_; intro w1 hown hgrow)
  have hrow := make_row hown
  have hbel : Below w.heap.size w w1 := (Below.refl _ _).grown hgrow (Nat.le_refl _) (fun k hk => by cases hk)
  have hl0 : (List.replicate n (0 : Int)).length = n := by simp
  have hown1 : w1.ownsRow w.heap.size 3 1 (.slice (some ⟨w.heap.size, 0, none⟩) n n) n ((List.replicate n (0 : Int)).map (Value.int .i64)) := by
    have h := own_of_block (base := w.heap.size) (zs := List.replicate n (0 : Int)) (g := w.heap.size) (w := w1) (by rw [List.map_replicate]; exact hrow) (Nat.le_refl _) (by rw [hl0]; unfold maxLen; omega)
    unfold OwnI at h
    rw [hl0] at h
    exact h
  clear hown hgrow hrow hl0
  go_loopw [7, 8] (fun r i wr => ∃ (k : Nat) (out : List Int) (rr : Int), k ≤ n ∧ i = .int .i64 ((k : Int) - 1) ∧ r = .int .i64 rr ∧ 0 ≤ rr ∧ rr < d ∧ out.length = n ∧ Dg out ∧ val (A.drop k) = val (out.drop k) * d + rr ∧ wr.ownsRow w.heap.size 3 1 (.slice (some ⟨w.heap.size, 0, none⟩) n n) n (out.map (Value.int .i64)) ∧ Below w.heap.size w wr) (fun _ i _ => (intOf i + 1).toNat)
  case atStart => exact ⟨n, List.replicate n 0, 0, Nat.le_refl _, by go_num, rfl, by omega, hd0, by simp, Dg.zeros n, by rw [HN.out, val_end]; simp [val], hown1, hbel⟩
  case round =>
    obtain ⟨k, out, rr, hk, hki, rfl, hr0, hr1, hol, hdo, hval, hown, hb⟩ := hrel
    have HB : Hid (Below w.heap.size w wr) := hb
    have HV : Hid (val (A.drop k) = val (out.drop k) * d + rr) := hval
    have HD : Hid (Dg out) := hdo
    have HL : Hid (out.length = n) := hol
    clear hval hdo hol hown1 hbel
    by_cases hk0 : k = 0
    · subst hk0
      have hi' : u8 = .int .i64 (-1) := by rw [hki]; rfl
      subst hi'
      have hend := div_end (x := x) hd0 hr0 hr1 (by have h := HV.out; simp only [List.drop_zero] at h; rw [← VA.out]; exact h)
      have hrr : rr = rm := by rw [HRM.out]; exact hend.2
      have hsl : Sl wr (some ⟨w.heap.size, 0, none⟩) out := Sl.of_own (n := n) (cap := n) hown
      have T := l1Trim_any (some ⟨w.heap.size, 0, none⟩) n out wr hsl (by rw [HL.out]; omega)
      rw [row_dgs HD.out hend.1, ← HQ.out, HL.out] at T
      have HT : Hid _ := T
      subst hrr
      clear T hsl hend hki hown hb
      go_wp2_with fail
      refine Calls.mono HT.out ?_
      rintro e w4 ⟨r, cr, rfl, ho, hb4⟩
      have ho2 := ho.mono HB.out.size
      have hb5 := HB.out.trans (hb4.mono HB.out.size)
      clear ho hb4
      go_wp2
      go_ret2
      exact ⟨r, cr, rfl, ho2, hb5⟩
    · obtain ⟨j, rfl⟩ : ∃ j, k = j + 1 := ⟨k - 1, by omega⟩
      have hi' : u8 = .int .i64 (j : Int) := by rw [hki]; congr 1; omega
      subst hi'
      have hjn : j < n := by omega
      have hjA : j < A.length := by rw [← HN.out]; exact hjn
      have hdg := DA.out.at j
      have hstep := div_step (j := j) (d := d) hjA (by rw [HL.out]; exact hjn) HV.out
      obtain ⟨ba, offa, rfl, hba, hc1⟩ := Sl.cells HSA.out hjA
      have hca : wr.cell? ⟨ba, offa + j, none⟩ = some (.int .i64 (A.getD j 0)) := (hb.cell (p := ⟨ba, offa + j, none⟩) hba).trans hc1
      have hcell : ∃ v, wr.cell? ⟨w.heap.size, j, none⟩ = some v := by
        rw [hown.cellAt j (by omega)]
        have hl := hown.1
        exact ⟨_, List.getElem?_eq_getElem (by omega)⟩
      obtain ⟨old, hcell⟩ := hcell
      have hfz := hown.frozenAt j
      have hst := hown.stored j (.int .i64 ((rr * 65536 + A.getD j 0) / d))
      have hdd := div_digit hd0 (by omega) hr0 hr1 hdg.1 hdg.2
      have hmm := mod_bound (s := rr * 65536 + A.getD j 0) hd0
      obtain ⟨z, hz⟩ : ∃ z, z = A.getD j 0 := ⟨_, rfl⟩
      rw [← hz] at hdg hca hstep hst hdd hmm
      have HS : Hid (val (A.drop j) = val ((out.set j ((rr * 65536 + z) / d)).drop j) * d + (rr * 65536 + z) % d) := hstep
      have HO : Hid ((wr.setCell ⟨w.heap.size, j, none⟩ (.int .i64 ((rr * 65536 + z) / d))).ownsRow w.heap.size 3 1 (.slice (some ⟨w.heap.size, 0, none⟩) n n) n ((out.set j ((rr * 65536 + z) / d)).map (Value.int .i64))) := by
        rw [List.map_set]; exact hst.1
      have HDD : Hid (0 ≤ (rr * 65536 + z) / d ∧ (rr * 65536 + z) / d < 65536) := hdd
      have HMM : Hid (0 ≤ (rr * 65536 + z) % d ∧ (rr * 65536 + z) % d < d) := hmm
      have hjI : (j : Int) < n := by omega
      clear hstep hst hown hz hc1 hb hdd hmm hki hjA
      go_wp2
      go_roundw
      case rel => exact ⟨j, out.set j ((rr * 65536 + z) / d), (rr * 65536 + z) % d, by omega, by go_num, rfl, HMM.out.1, HMM.out.2, by rw [List.length_set]; exact HL.out, HD.out.set HDD.out.1 HDD.out.2, HS.out, HO.out, HB.out.setCell (Nat.le_refl _) _⟩
      case measure => simp [intOf]

theorem own_lit (w : World) (z : Int) : OwnI (w.alloc (.cells #[.int .i64 z] 3)) w.heap.size (some ⟨w.heap.size, 0, none⟩) 1 [z] := World.ownsRow_lit w #[.int .i64 z] 1 (Nat.le_refl _) (by unfold maxLen; omega) (by simp)

set_option maxRecDepth 20000 in
theorem l1Times_any (a : Option Addr) (ca : Nat) (x d : Nat) (w : World) (ha : Sl w a (dgs x)) (hx : (dgs x).length ≤ 30000) (hd : d < 65536) :
    Calls Tryd.prog 45 #[.slice a (dgs x).length ca, .int .i64 (d : Int)] w fun e w' => ∃ r cr, e = .returned (.slice r (dgs (x * d)).length cr) ∧ OwnI w' w.heap.size r cr (dgs (x * d)) ∧ Below w.heap.size w w' := by
  by_cases h0 : d = 0
  · subst h0
    have e : dgs (x * 0) = [] := by rw [Nat.mul_zero]; rfl
    rw [e]
    obtain ⟨X, hX⟩ : ∃ X, X = dgs x := ⟨_, rfl⟩
    rw [← hX]
    clear hX ha hx e
    go_enter Tryd.func45, Tryd.ntmps45
    go_wp2
    go_ret
    exact ⟨none, 0, rfl, OwnI.nil _ _, Below.refl _ _⟩
  · have hd1 : ((d : Int) == 0) = false := by simp; omega
    have M := l1Mul_any a (some ⟨w.heap.size, 0, none⟩) ca 1 x d (w.alloc (.cells #[.int .i64 (d : Int)] 3)) (ha.keep ((Below.refl _ _).alloc (Nat.le_refl _) _)) (by rw [dgs_digit h0 hd]; exact (own_lit w d).sl) hx (by rw [dgs_digit h0 hd]; simp)
    rw [dgs_digit h0 hd] at M
    have HM : Hid (Calls Tryd.prog 32 #[.slice a (dgs x).length ca, .slice (some ⟨w.heap.size, 0, none⟩) 1 1] (w.alloc (.cells #[.int .i64 (d : Int)] 3)) fun e w' => ∃ r cr, e = .returned (.slice r (dgs (x * d)).length cr) ∧ OwnI w' (w.alloc (.cells #[.int .i64 (d : Int)] 3)).heap.size r cr (dgs (x * d)) ∧ Below (w.alloc (.cells #[.int .i64 (d : Int)] 3)).heap.size (w.alloc (.cells #[.int .i64 (d : Int)] 3)) w') := M
    obtain ⟨X, hX⟩ : ∃ X, X = dgs x := ⟨_, rfl⟩
    obtain ⟨Z, hZ⟩ : ∃ Z, Z = dgs (x * d) := ⟨_, rfl⟩
    rw [← hX, ← hZ] at HM
    rw [← hX, ← hZ]
    clear M hX hZ ha hx
    go_enter Tryd.func45, Tryd.ntmps45
    go_wp2_with fail
    refine Calls.mono HM.out ?_
    rintro e w1 ⟨r, cr, rfl, ho, hb⟩
    have hb0 : Below w.heap.size w (w.alloc (.cells #[.int .i64 (d : Int)] 3)) := (Below.refl _ _).alloc (Nat.le_refl _) _
    have ho2 := ho.mono hb0.size
    have hb2 := hb0.trans (hb.mono hb0.size)
    clear ho hb hb0
    go_wp2
    go_ret
    exact ⟨r, cr, rfl, ho2, hb2⟩

set_option maxRecDepth 20000 in
set_option maxHeartbeats 400000 in
theorem l1Top_any (a : Option Addr) (ca : Nat) (zs : List Int) (k : Nat) (w : World) (h : Sl w a zs) (hlen : zs.length ≤ 1048576) (hk : k ≤ zs.length) :
    Calls Tryd.prog 53 #[.slice a zs.length ca, .int .i64 (k : Int)] w fun e w' => ∃ r cr, e = .returned (.slice r (zs.drop k).length cr) ∧ OwnI w' w.heap.size r cr (zs.drop k) ∧ Below w.heap.size w w' := by
  obtain ⟨i0, hi, hz0, hz1, hz2⟩ := info_parts Tryd.info3
  obtain ⟨n, hn⟩ : ∃ n, n = zs.length := ⟨_, rfl⟩
  have HN : Hid (n = zs.length) := hn
  have hn2 : n ≤ 1048576 := by omega
  have hkn : k ≤ n := by omega
  have HSA : Hid (Sl w a zs) := h
  obtain ⟨R, hR⟩ : ∃ R, R = zs.drop k := ⟨_, rfl⟩
  have HR : Hid (R = zs.drop k) := hR
  have HRL : Hid (R.length = n - k) := by show R.length = n - k; rw [hR, List.length_drop, hn]
  rw [← hn, ← hR]
  clear hn hlen h hR hk
  go_enter Tryd.func53, Tryd.ntmps53
  go_wp2
  go_loopw [5, 6] (fun v i wr => ∃ t : Nat, k + t ≤ n ∧ i = .int .i64 ((k + t : Nat) : Int) ∧ wr.ownsRow w.heap.size 3 1 v t ((R.take t).map (Value.int .i64)) ∧ Below w.heap.size w wr) (fun _ i _ => n - (intOf i).toNat)
  case atStart => exact ⟨0, by omega, rfl, World.ownsRow_nil _ _ _ _, Below.refl _ _⟩
  case round =>
    obtain ⟨t, ht, rfl, hown, hb⟩ := hrel
    have HB : Hid (Below w.heap.size w wr) := hb
    by_cases hlt : k + t < n
    · have hlt' : ((k + t : Nat) : Int) < n := by omega
      obtain ⟨b, off, rfl, hb', hc⟩ := Sl.cells HSA.out (k := k + t) (by rw [← HN.out]; exact hlt)
      obtain ⟨x, hx⟩ : ∃ x, x = zs.getD (k + t) 0 := ⟨_, rfl⟩
      have hcx : wr.cell? ⟨b, off + (k + t), none⟩ = some (.int .i64 x) := by rw [hb.cell (p := ⟨b, off + (k + t), none⟩) hb', hc, hx]
      have HX : Hid (x = R.getD t 0) := by
        show x = R.getD t 0
        rw [hx, HR.out]
        simp [List.getD_eq_getElem?_getD, List.getElem?_drop]
      clear hx hc hb
      go_wp2_with (at_builtin; refine wpList_append_own _ rfl _ _ 22 rfl w.heap.size 3 i0 (.int .i64 0) 1 8 Tryd.underlying22 hi hz0 hz1 hz2 rfl (by decide) _ _ _ rfl (hown.alloc _) ⟨wr.heap.size, 0, none⟩ 1 1 [.int .i64 x] rfl rfl (cell_one_new _ _ _) (by simp [Value.oneCell']) ?_ ?_ ?_ ?_)
      rotate_left 3
      · intro v' w1 hown' hgrow _
        have HO : Hid (w1.ownsRow w.heap.size 3 1 v' (t + 1) ((R.take (t + 1)).map (Value.int .i64))) := by
          show w1.ownsRow w.heap.size 3 1 v' (t + 1) ((R.take (t + 1)).map (Value.int .i64))
          rw [take_next (by rw [HRL.out]; omega), ← HX.out, List.map_append, List.map_take]
          exact hown'
        have HB1 : Hid (Below w.heap.size w w1) := below_append HB.out (Nat.le_refl _) hown hgrow
        clear hown' hgrow hown
        go_wp2
        go_roundw
        case rel => exact ⟨t + 1, by omega, by go_num, HO.out, HB1.out⟩
        case measure => simp [intOf]; omega
      · unfold maxLen; omega
      · omega
      · have := HB.out.size; simp; omega
    · have htn : k + t = n := by omega
      have hRt : R.take t = R := List.take_of_length_le (by rw [HRL.out]; omega)
      rw [hRt] at hown
      obtain ⟨r, cr, hv, ho⟩ := OwnI.of_row hown
      have HO : Hid (OwnI wr w.heap.size r cr R) := ho
      subst hv
      clear hown ho hb hRt
      go_wp2
      go_ret
      exact ⟨r, cr, rfl, HO.out, HB.out⟩
end Go.Proofs.YthokphoojmpajahDoor

namespace Go.Proofs.YthokphoojmpajahDoor
open Go.RowKit Go.Proofs.Pin

set_option maxRecDepth 20000 in
set_option maxHeartbeats 400000 in
theorem l1Shl_any (a : Option Addr) (ca : Nat) (x m : Nat) (w : World) (ha : Sl w a (dgs x)) (hx : (dgs x).length ≤ 30000) (hm : m ≤ 30000) :
    Calls Tryd.prog 54 #[.slice a (dgs x).length ca, .int .i64 (m : Int)] w fun e w' => ∃ r cr, e = .returned (.slice r (dgs (x * 65536 ^ m)).length cr) ∧ OwnI w' w.heap.size r cr (dgs (x * 65536 ^ m)) ∧ Below w.heap.size w w' := by
  obtain ⟨i0, hi, hz0, hz1, hz2⟩ := info_parts Tryd.info3
  by_cases h0 : x = 0
  · subst h0
    have e : dgs (0 * 65536 ^ m) = [] := by rw [Nat.zero_mul]; rfl
    rw [e, dgs_zero]
    clear ha hx e
    go_enter Tryd.func54, Tryd.ntmps54
    go_wp2
    go_ret
    exact ⟨none, 0, rfl, OwnI.nil _ _, Below.refl _ _⟩
  · obtain ⟨A, hA⟩ : ∃ A, A = dgs x := ⟨_, rfl⟩
    obtain ⟨R, hR⟩ : ∃ R, R = dgs (x * 65536 ^ m) := ⟨_, rfl⟩
    have HR : Hid (List.replicate m (0 : Int) ++ A = R) := by rw [hA, hR]; exact dgs_shift m x h0
    have hpos : 0 < A.length := by
      rw [hA]
      rcases Nat.eq_zero_or_pos (dgs x).length with h1 | h1
      · have := val_dgs x
        rw [List.length_eq_zero_iff.mp h1] at this
        simp [val] at this
        omega
      · exact h1
    rw [← hA] at ha hx ⊢
    rw [← hR]
    have HSA : Hid (Sl w a A) := ha
    obtain ⟨n, hn⟩ : ∃ n, n = A.length := ⟨_, rfl⟩
    have HN : Hid (n = A.length) := hn
    have hn0 : ((n : Int) == 0) = false := by simp; omega
    have hn2 : n ≤ 30000 := by omega
    rw [← hn]
    clear hA hR ha hx hn hpos h0
    go_enter Tryd.func54, Tryd.ntmps54
    go_wp2_with (at_make; refine wpList_make_full _ rfl _ _ 22 rfl w.heap.size 3 i0 (.int .i64 0) 1 Tryd.underlying22 hi hz0 hz1 _ _ _ _ m rfl rfl rfl rfl (by rw [hz2]; omega) (by unfold maxLen; omega) (Nat.le_refl _) ?_; intro w1 hown hgrow)
    have hbel : Below w.heap.size w w1 := (Below.refl _ _).grown hgrow (Nat.le_refl _) (fun k hk => by cases hk)
    have hown1 : w1.ownsRow w.heap.size 3 1 (.slice (some ⟨w.heap.size, 0, none⟩) m m) m ((List.replicate m (0 : Int)).map (Value.int .i64)) := by
      have h := hown
      have e : (madeCells (Value.int .i64 0).cells (m * 1)).toList = List.replicate m (Value.int .i64 0) := by
        rw [Nat.mul_one]
        exact toList_madeCells_one _ _
      rw [e] at h
      rw [List.map_replicate]
      exact h
    clear hown hgrow
    go_loopw [5, 6] (fun v i wr => ∃ t : Nat, t ≤ n ∧ i = .int .i64 t ∧ wr.ownsRow w.heap.size 3 1 v (m + t) ((List.replicate m (0 : Int) ++ A.take t).map (Value.int .i64)) ∧ Below w.heap.size w wr) (fun _ i _ => n - (intOf i).toNat)
    case atStart => exact ⟨0, Nat.zero_le _, rfl, by simpa using hown1, hbel⟩
    case round =>
      obtain ⟨t, ht, rfl, hown, hb⟩ := hrel
      have HB : Hid (Below w.heap.size w wr) := hb
      clear hown1 hbel
      by_cases hlt : t < n
      · have hlt' : (t : Int) < n := by omega
        obtain ⟨b, off, rfl, hb', hc⟩ := Sl.cells HSA.out (k := t) (by rw [← HN.out]; exact hlt)
        obtain ⟨x, hx⟩ : ∃ x, x = A.getD t 0 := ⟨_, rfl⟩
        have hcx : wr.cell? ⟨b, off + t, none⟩ = some (.int .i64 x) := by rw [hb.cell (p := ⟨b, off + t, none⟩) hb', hc, hx]
        have HX : Hid (x = A.getD t 0) := hx
        obtain ⟨cs, hcs⟩ : ∃ cs, cs = (List.replicate m (0 : Int) ++ A.take t).map (Value.int .i64) := ⟨_, rfl⟩
        have HCS : Hid (cs = (List.replicate m (0 : Int) ++ A.take t).map (Value.int .i64)) := hcs
        rw [← hcs] at hown
        clear hx hc hb hcs
        go_wp2_with (at_builtin; refine wpList_append_own _ rfl _ _ 22 rfl w.heap.size 3 i0 (.int .i64 0) 1 8 Tryd.underlying22 hi hz0 hz1 hz2 rfl (by decide) _ _ _ rfl (hown.alloc _) ⟨wr.heap.size, 0, none⟩ 1 1 [.int .i64 x] rfl rfl (cell_one_new _ _ _) (by simp [Value.oneCell']) ?_ ?_ ?_ ?_)
        rotate_left 3
        · intro v' w1 hown' hgrow _
          have HO : Hid (w1.ownsRow w.heap.size 3 1 v' (m + (t + 1)) ((List.replicate m (0 : Int) ++ A.take (t + 1)).map (Value.int .i64))) := by
            show w1.ownsRow w.heap.size 3 1 v' (m + (t + 1)) ((List.replicate m (0 : Int) ++ A.take (t + 1)).map (Value.int .i64))
            rw [take_next (by rw [← HN.out]; omega), ← HX.out, ← List.append_assoc, List.map_append, ← HCS.out, ← Nat.add_assoc]
            exact hown'
          have HB1 : Hid (Below w.heap.size w w1) := below_append HB.out (Nat.le_refl _) hown hgrow
          clear hown' hgrow hown
          go_wp2
          go_roundw
          case rel => exact ⟨t + 1, by omega, by go_num, HO.out, HB1.out⟩
          case measure => simp [intOf]; omega
        · unfold maxLen; omega
        · omega
        · have := HB.out.size; simp; omega
      · have htn : t = n := by omega
        have hAt : A.take t = A := List.take_of_length_le (by rw [← HN.out]; omega)
        rw [hAt, HR.out] at hown
        obtain ⟨r, cr, hv, ho⟩ := OwnI.of_row hown
        have HO : Hid (OwnI wr w.heap.size r cr R) := ho
        subst hv
        clear hown ho hb hAt
        go_wp2
        go_ret
        exact ⟨r, cr, rfl, HO.out, HB.out⟩
end Go.Proofs.YthokphoojmpajahDoor
