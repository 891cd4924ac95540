/- The contract of laws.pwSame. -/
import Derived.Test.YthokphoojmpajabDoorProg
import Derived.Test.YthokphoojmpajabDoorBase
import Derived.Test.YthokphoojmpajabDoorGEq
import Derived.WalkKit
import Derived.Outline
import Derived.WalkSpells
import Derived.Deep.QuietTactic
import Derived.BigQuiet
namespace Go.Proofs.YthokphoojmpajabDoor
open Go.RowKit Go.Proofs.Pin

set_option maxRecDepth 20000 in
set_option maxHeartbeats 400000 in
theorem same_any (a b : Option Addr) (ca cb : Nat) (xs ys : List Int) (w : World) (ha : Sl w a xs) (hb : Sl w b ys) (hx : xs.length ≤ 1048576) (hy : ys.length ≤ 1048576) :
    Calls Tryd.prog 28 #[.slice a xs.length ca, .slice b ys.length cb] w fun e w' => e = .returned (.bool (decide (xs = ys))) ∧ ∃ q, w' = w.drewN q := by
  by_cases hl : xs.length = ys.length
  · obtain ⟨n, hn⟩ : ∃ n, n = xs.length := ⟨_, rfl⟩
    have HX : Hid (n = xs.length) := hn
    have HY : Hid (n = ys.length) := hn.trans hl
    have hca : ∀ k, k < n → ∃ b off, a = some ⟨b, off, none⟩ ∧ w.cell? ⟨b, off + k, none⟩ = some (.int .i64 (xs.getD k 0)) := by
      intro k hk
      rcases ha with rfl | ⟨b, off, rfl, hb, hc⟩
      · simp at hn; omega
      · exact ⟨b, off, rfl, hc k (by omega)⟩
    have hcb : ∀ k, k < n → ∃ b' off, b = some ⟨b', off, none⟩ ∧ w.cell? ⟨b', off + k, none⟩ = some (.int .i64 (ys.getD k 0)) := by
      intro k hk
      rcases hb with rfl | ⟨b', off, rfl, hb, hc⟩
      · simp only [List.length_nil] at hl; omega
      · exact ⟨b', off, rfl, hc k (by omega)⟩
    have hn2 : n ≤ 1048576 := by omega
    rw [← hl, ← hn]
    clear hl hn ha hb hx hy
    go_enter Tryd.func28, Tryd.ntmps28
    go_wp2
    go_loopw [5] (fun i wr => ∃ k : Nat, k ≤ n ∧ i = .int .i64 k ∧ (∀ i, i < k → xs.getD i 0 = ys.getD i 0) ∧ ∃ q, wr = w.drewN q) (fun i _ => n - (intOf i).toNat)
    case atStart => exact ⟨0, Nat.zero_le _, rfl, fun i hi => absurd hi (by omega), 0, rfl⟩
    case round =>
      obtain ⟨k, hk, rfl, hall, q, rfl⟩ := hrel
      have HA : Hid (∀ i, i < k → xs.getD i 0 = ys.getD i 0) := hall
      clear hall
      by_cases hlt : k < n
      · obtain ⟨ba, offa, rfl, hc1⟩ := hca k hlt
        obtain ⟨bb, offb, rfl, hc2⟩ := hcb k hlt
        obtain ⟨x, hx⟩ : ∃ z, z = xs.getD k 0 := ⟨_, rfl⟩
        obtain ⟨y, hy⟩ : ∃ z, z = ys.getD k 0 := ⟨_, rfl⟩
        rw [← hx] at hc1
        rw [← hy] at hc2
        have HX1 : Hid (x = xs.getD k 0) := hx
        have HY1 : Hid (y = ys.getD k 0) := hy
        clear hx hy hca hcb
        have hlt' : (k : Int) < (n : Int) := by omega
        by_cases hxy : x = y
        · have hne : (x != y) = false := by simp [hxy]
          have HE : Hid (x = y) := hxy
          clear hxy
          go_wp2_with fail
          go_quiet (fail)
          go_wp2
          go_roundw
          case rel => exact ⟨k + 1, by omega, by go_num, eq_step HA.out (by rw [← HX1.out, ← HY1.out]; exact HE.out), q + nq, rfl⟩
          case measure => simp [intOf]; omega
        · have hne : (x != y) = true := by simp [hxy]
          have HE : Hid (x ≠ y) := hxy
          clear hxy
          go_wp2_with fail
          go_quiet (fail)
          go_wp2
          go_ret
          exact ⟨ret_bool (eq_not (k := k) (by rw [← HX1.out, ← HY1.out]; exact HE.out)).symm, q + nq, World.drewN_drewN _ _ _⟩
      · have hkn : k = n := by omega
        subst hkn
        clear hca hcb
        go_wp2
        go_ret
        exact ⟨ret_bool (eq_end (by rw [← HX.out]; exact HY.out) (by rw [← HX.out]; exact HA.out)).symm, _, rfl⟩
  · have hne : ((xs.length : Int) != (ys.length : Int)) = true := by simp; omega
    go_enter Tryd.func28, Tryd.ntmps28
    go_wp2
    go_ret
    exact ⟨ret_bool (eq_len hl).symm, 0, rfl⟩
end Go.Proofs.YthokphoojmpajabDoor
