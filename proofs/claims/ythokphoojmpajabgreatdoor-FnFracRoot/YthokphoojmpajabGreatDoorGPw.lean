/- The contract of laws.pwSame. The contract of laws.pwFrac at two fractions that are the same. -/
import Derived.Test.YthokphoojmpajabGreatDoorProg
import Derived.Test.YthokphoojmpajabGreatDoorBase
import Derived.Test.YthokphoojmpajabGreatDoorGEq
import Derived.WalkKit
import Derived.Outline
import Derived.WalkSpells
import Derived.Deep.QuietTactic
import Derived.BigQuiet
import Derived.Test.YthokphoojmpajabGreatDoorFr1
namespace Go.Proofs.YthokphoojmpajabGreatDoor
open Go.RowKit Go.Proofs.Pin

set_option maxRecDepth 20000 in
set_option maxHeartbeats 400000 in
theorem same_any (a b : Option Addr) (ca cb : Nat) (xs ys : List Int) (w : World) (ha : Sl w a xs) (hb : Sl w b ys) (hx : xs.length ≤ 1048576) (hy : ys.length ≤ 1048576) :
    Calls Tryz.prog 17 #[.slice a xs.length ca, .slice b ys.length cb] w fun e w' => e = .returned (.bool (decide (xs = ys))) ∧ ∃ q, w' = w.drewN q := by
  by_cases hl : xs.length = ys.length
  · obtain ⟨n, hn⟩ : ∃ n, n = xs.length := ⟨_, rfl⟩
    have HX : Hid (n = xs.length) := hn
    have HY : Hid (n = ys.length) := hn.trans hl
    have hca : ∀ k, k < n → ∃ b off, a = some ⟨b, off, none⟩ ∧ w.cell? ⟨b, off + k, none⟩ = some (.int .i64 (xs.getD k 0)) := by
      intro k hk
      rcases ha with rfl | ⟨b, off, rfl, hb, hc⟩
      · simp at hn; omega
      · exact ⟨b, off, rfl, hc k (by omega)⟩
    have hcb : ∀ k, k < n → ∃ b' off, b = some ⟨b', off, none⟩ ∧ w.cell? ⟨b', off + k, none⟩ = some (.int .i64 (ys.getD k 0)) := by
      intro k hk
      rcases hb with rfl | ⟨b', off, rfl, hb, hc⟩
      · simp only [List.length_nil] at hl; omega
      · exact ⟨b', off, rfl, hc k (by omega)⟩
    have hn2 : n ≤ 1048576 := by omega
    rw [← hl, ← hn]
    clear hl hn ha hb hx hy
    go_enter Tryz.func17, Tryz.ntmps17
    go_wp2
    go_loopw [5] (fun i wr => ∃ k : Nat, k ≤ n ∧ i = .int .i64 k ∧ (∀ i, i < k → xs.getD i 0 = ys.getD i 0) ∧ ∃ q, wr = w.drewN q) (fun i _ => n - (intOf i).toNat)
    case atStart => exact ⟨0, Nat.zero_le _, rfl, fun i hi => absurd hi (by omega), 0, rfl⟩
    case round =>
      obtain ⟨k, hk, rfl, hall, q, rfl⟩ := hrel
      have HA : Hid (∀ i, i < k → xs.getD i 0 = ys.getD i 0) := hall
      clear hall
      by_cases hlt : k < n
      · obtain ⟨ba, offa, rfl, hc1⟩ := hca k hlt
        obtain ⟨bb, offb, rfl, hc2⟩ := hcb k hlt
        obtain ⟨x, hx⟩ : ∃ z, z = xs.getD k 0 := ⟨_, rfl⟩
        obtain ⟨y, hy⟩ : ∃ z, z = ys.getD k 0 := ⟨_, rfl⟩
        rw [← hx] at hc1
        rw [← hy] at hc2
        have HX1 : Hid (x = xs.getD k 0) := hx
        have HY1 : Hid (y = ys.getD k 0) := hy
        clear hx hy hca hcb
        have hlt' : (k : Int) < (n : Int) := by omega
        by_cases hxy : x = y
        · have hne : (x != y) = false := by simp [hxy]
          have HE : Hid (x = y) := hxy
          clear hxy
          go_wp2_with fail
          go_quiet (fail)
          go_wp2
          go_roundw
          case rel => exact ⟨k + 1, by omega, by go_num, eq_step HA.out (by rw [← HX1.out, ← HY1.out]; exact HE.out), q + nq, rfl⟩
          case measure => simp [intOf]; omega
        · have hne : (x != y) = true := by simp [hxy]
          have HE : Hid (x ≠ y) := hxy
          clear hxy
          go_wp2_with fail
          go_quiet (fail)
          go_wp2
          go_ret
          exact ⟨ret_bool (eq_not (k := k) (by rw [← HX1.out, ← HY1.out]; exact HE.out)).symm, q + nq, World.drewN_drewN _ _ _⟩
      · have hkn : k = n := by omega
        subst hkn
        clear hca hcb
        go_wp2
        go_ret
        exact ⟨ret_bool (eq_end (by rw [← HX.out]; exact HY.out) (by rw [← HX.out]; exact HA.out)).symm, _, rfl⟩
  · have hne : ((xs.length : Int) != (ys.length : Int)) = true := by simp; omega
    go_enter Tryz.func17, Tryz.ntmps17
    go_wp2
    go_ret
    exact ⟨ret_bool (eq_len hl).symm, 0, rfl⟩
end Go.Proofs.YthokphoojmpajabGreatDoor

namespace Go.Proofs.YthokphoojmpajabGreatDoor
open Go.RowKit Go.Proofs.Pin

set_option maxRecDepth 20000 in
set_option maxHeartbeats 1000000 in
theorem pwFrac_any (b : Bool) (r s r' s' : Option Addr) (c d c' d' : Nat) (X Y : List Int) (w : World) (h1 : Sl w r X) (h2 : Sl w s Y) (h3 : Sl w r' X) (h4 : Sl w s' Y) (lX : X.length ≤ 1048576) (lY : Y.length ≤ 1048576) :
    Calls Tryz.prog 9 #[fracV b r X.length c s Y.length d, fracV b r' X.length c' s' Y.length d'] w fun e w' => e = .returned (.bool true) ∧ Below w.heap.size w w' := by
  obtain ⟨w0, hw0⟩ : ∃ w0, w0 = (w.alloc (.cells #[.bool b, .slice r X.length c, .slice s Y.length d] 25)).alloc (.cells #[.bool b, .slice r' X.length c', .slice s' Y.length d'] 25) := ⟨_, rfl⟩
  have B0 : Below w.heap.size w w0 := by rw [hw0]; exact ((Below.refl _ w).alloc (Nat.le_refl _) _).alloc (by simp) _
  have k1 : BoxC w0 w.heap.size 25 #[.bool b, .slice r X.length c, .slice s Y.length d] := by rw [hw0]; exact boxc_alloc (boxc_new _ _ _) _
  have k2 : BoxC w0 (w.heap.size + 1) 25 #[.bool b, .slice r' X.length c', .slice s' Y.length d'] := by
    rw [hw0]
    have h := boxc_new (w.alloc (.cells #[.bool b, .slice r X.length c, .slice s Y.length d] 25)) 25 #[.bool b, .slice r' X.length c', .slice s' Y.length d']
    rw [World.size_alloc] at h
    exact h
  have C1 : Hid (Calls Tryz.prog 17 #[.slice r X.length c, .slice r' X.length c'] w0 fun e w' => e = .returned (.bool true) ∧ Below w0.heap.size w0 w') := (same_any r r' c c' X X w0 (h1.keep B0) (h3.keep B0) lX lX).mono fun e w' ⟨h, q, hq⟩ => ⟨by rw [h]; simp, by rw [hq]; exact below_dN (Below.refl _ _) q⟩
  have C2 : Hid (∀ W, Sl W s Y → Sl W s' Y → Calls Tryz.prog 17 #[.slice s Y.length d, .slice s' Y.length d'] W fun e w' => e = .returned (.bool true) ∧ Below W.heap.size W w') := fun W h h' => (same_any s s' d d' Y Y W h h' lY lY).mono fun e w' ⟨h, q, hq⟩ => ⟨by rw [h]; simp, by rw [hq]; exact below_dN (Below.refl _ _) q⟩
  have y1 := h2.keep B0
  have y2 := h4.keep B0
  obtain ⟨p0, p1, p2, pf, pn⟩ := boxc3 k1
  obtain ⟨q0, q1, q2, qf, qn⟩ := boxc3 k2
  have hbb : (b == b) = true := by simp
  unfold fracV
  clear h1 h2 h3 h4 lX lY
  go_enter Tryz.func9, Tryz.ntmps9
  go_wp2_with fail
  rw [← hw0]
  clear hw0
  refine Calls.mono C1.out ?_
  rintro e w1 ⟨rfl, b1⟩
  clear p0 p1 p2 pf pn q0 q1 q2 qf qn
  have k11 := boxc_keep k1 b1
  have k21 := boxc_keep k2 b1
  have y11 := y1.keep b1
  have y21 := y2.keep b1
  have B1 := B0.trans (b1.mono B0.size)
  obtain ⟨p0, p1, p2, pf, pn⟩ := boxc3 k11
  obtain ⟨q0, q1, q2, qf, qn⟩ := boxc3 k21
  clear k1 k2 y1 y2 b1 B0 C1
  go_wp2_with fail
  refine Calls.mono (C2.out _ y11 y21) ?_
  rintro e w2 ⟨rfl, b2⟩
  have HB : Hid (Below w.heap.size w w2) := B1.trans (b2.mono B1.size)
  clear b2 B1 k11 k21 y11 y21 C2 p0 p1 p2 q0 q1 q2
  go_wp2
  go_ret
  exact ⟨rfl, HB.out⟩
end Go.Proofs.YthokphoojmpajabGreatDoor
