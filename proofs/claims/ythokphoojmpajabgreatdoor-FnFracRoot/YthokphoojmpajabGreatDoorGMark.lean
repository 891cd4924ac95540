/- The contracts of markIntS (it writes the numbers from k on into a row of the call's own) and heldIntS (it finds them there). The contracts of spec.NatOk and impl.NatOk: both tell whether the digits are a number, and leave the world as it is. -/
import Derived.Test.YthokphoojmpajabGreatDoorProg
import Derived.Test.YthokphoojmpajabGreatDoorBase
import Derived.WalkKit
import Derived.Outline
import Derived.WalkSpells
namespace Go.Proofs.YthokphoojmpajabGreatDoor
open Go.RowKit Go.Proofs.Pin

end Go.Proofs.YthokphoojmpajabGreatDoor

namespace Go.Proofs.YthokphoojmpajabGreatDoor
open Go.RowKit Go.Proofs.Pin

set_option maxRecDepth 20000 in
set_option maxHeartbeats 400000 in
theorem specOk_any (a : Option Addr) (cap : Nat) (zs : List Int) (w : World) (h : Sl w a zs) (hlen : zs.length ≤ 1048576) :
    Calls Tryz.prog 37 #[.slice a zs.length cap] w fun e w' => e = .returned (.bool (okB zs)) ∧ w' = w := by
  by_cases hl : 256 < zs.length
  · have hl' : (256 : Int) < (zs.length : Int) := by omega
    go_enter Tryz.func37, Tryz.ntmps37
    go_wp2
    go_ret
    exact ⟨ret_bool (okB_long hl).symm, rfl⟩
  rcases h with rfl | ⟨b, off, rfl, hlt, hc⟩
  · go_enter Tryz.func37, Tryz.ntmps37
    go_wp2
    refine wp_loop_rounds 1 ?_
    rw [rounds_succ]
    go_wp2
    go_ret
    exact ⟨rfl, rfl⟩
  · obtain ⟨n, hn⟩ : ∃ n, n = zs.length := ⟨_, rfl⟩
    by_cases h0 : n = 0
    · have : zs = [] := List.length_eq_zero_iff.mp (by omega)
      subst this
      go_enter Tryz.func37, Tryz.ntmps37
      go_wp2
      refine wp_loop_rounds 1 ?_
      rw [rounds_succ]
      go_wp2
      go_ret
      exact ⟨rfl, rfl⟩
    · rw [← hn]
      have hc' : ∀ i, i < n → w.cell? ⟨b, off + i, none⟩ = some (.int .i64 (zs.getD i 0)) := fun i hi => hc i (by omega)
      have hlast := hc' (n - 1) (by omega)
      obtain ⟨zl, hzl⟩ : ∃ z, z = zs.getD (n - 1) 0 := ⟨_, rfl⟩
      rw [← hzl] at hlast
      have HL : Hid (zl = zs.getD (zs.length - 1) 0) := by rw [← hn]; exact hzl
      have HN : Hid (n = zs.length) := hn
      have hn0 : ((n : Int) == 0) = false := by simp; omega
      have hn1 : (0 : Int) < n := by omega
      have hn2 : n ≤ 256 := by omega
      clear hzl hn hc hlen hl
      go_enter Tryz.func37, Tryz.ntmps37
      go_wp2
      go_loop [3] (fun i => ∃ k : Nat, k ≤ n ∧ i = .int .i64 k ∧ ∀ i, i < k → dig (zs.getD i 0) = true) (fun i => n - (intOf i).toNat)
      case atStart => exact ⟨0, Nat.zero_le _, rfl, fun i hi => absurd hi (by omega)⟩
      case round =>
        obtain ⟨k, hk, rfl, hall⟩ := hrel
        have HA : Hid (∀ i, i < k → dig (zs.getD i 0) = true) := hall
        clear hall
        by_cases hlt : k < n
        · have hcell := hc' k hlt
          obtain ⟨z, hz⟩ : ∃ z, z = zs.getD k 0 := ⟨_, rfl⟩
          rw [← hz] at hcell
          have HZ : Hid (z = zs.getD k 0) := hz
          clear hz hc'
          by_cases hneg : z < 0
          · go_wp2
            go_ret
            exact ⟨ret_bool (okB_bad (k := k) (by rw [← HN.out]; exact hlt) (by rw [← HZ.out]; exact dig_lo hneg)).symm, rfl⟩
          · by_cases hbig : 65536 ≤ z
            · go_wp2
              go_ret
              exact ⟨ret_bool (okB_bad (k := k) (by rw [← HN.out]; exact hlt) (by rw [← HZ.out]; exact dig_hi hbig)).symm, rfl⟩
            · go_wp2
              go_round
              case rel => exact ⟨k + 1, by omega, by go_num, dig_step HA.out (by rw [← HZ.out]; exact dig_yes (by omega) (by omega))⟩
              case measure => simp [intOf]; omega
        · have hkn : k = n := by omega
          subst hkn
          go_wp2
          go_ret
          exact ⟨ret_bool (by rw [okB_end (by rw [← HN.out]; exact hn2) (by rw [← HN.out]; omega) (by rw [← HN.out]; exact HA.out), ← HL.out]), rfl⟩
set_option maxRecDepth 20000 in
set_option maxHeartbeats 400000 in
theorem implOk_any (a : Option Addr) (cap : Nat) (zs : List Int) (w : World) (h : Sl w a zs) (hlen : zs.length ≤ 1048576) :
    Calls Tryz.prog 78 #[.slice a zs.length cap] w fun e w' => e = .returned (.bool (okB zs)) ∧ w' = w := by
  by_cases hl : 256 < zs.length
  · have hl' : (256 : Int) < (zs.length : Int) := by omega
    go_enter Tryz.func78, Tryz.ntmps78
    go_wp2
    go_ret
    exact ⟨ret_bool (okB_long hl).symm, rfl⟩
  rcases h with rfl | ⟨b, off, rfl, hlt, hc⟩
  · go_enter Tryz.func78, Tryz.ntmps78
    go_wp2
    refine wp_loop_rounds 1 ?_
    rw [rounds_succ]
    go_wp2
    go_ret
    exact ⟨rfl, rfl⟩
  · obtain ⟨n, hn⟩ : ∃ n, n = zs.length := ⟨_, rfl⟩
    by_cases h0 : n = 0
    · have : zs = [] := List.length_eq_zero_iff.mp (by omega)
      subst this
      go_enter Tryz.func78, Tryz.ntmps78
      go_wp2
      refine wp_loop_rounds 1 ?_
      rw [rounds_succ]
      go_wp2
      go_ret
      exact ⟨rfl, rfl⟩
    · rw [← hn]
      have hc' : ∀ i, i < n → w.cell? ⟨b, off + i, none⟩ = some (.int .i64 (zs.getD i 0)) := fun i hi => hc i (by omega)
      have hlast := hc' (n - 1) (by omega)
      obtain ⟨zl, hzl⟩ : ∃ z, z = zs.getD (n - 1) 0 := ⟨_, rfl⟩
      rw [← hzl] at hlast
      have HL : Hid (zl = zs.getD (zs.length - 1) 0) := by rw [← hn]; exact hzl
      have HN : Hid (n = zs.length) := hn
      have hn0 : ((n : Int) == 0) = false := by simp; omega
      have hn1 : (0 : Int) < n := by omega
      have hn2 : n ≤ 256 := by omega
      clear hzl hn hc hlen hl
      go_enter Tryz.func78, Tryz.ntmps78
      go_wp2
      go_loop [10] (fun i => ∃ k : Nat, k ≤ n ∧ i = .int .i64 k ∧ ∀ i, i < k → dig (zs.getD i 0) = true) (fun i => n - (intOf i).toNat)
      case atStart => exact ⟨0, Nat.zero_le _, rfl, fun i hi => absurd hi (by omega)⟩
      case round =>
        obtain ⟨k, hk, rfl, hall⟩ := hrel
        have HA : Hid (∀ i, i < k → dig (zs.getD i 0) = true) := hall
        clear hall
        by_cases hlt : k < n
        · have hcell := hc' k hlt
          obtain ⟨z, hz⟩ : ∃ z, z = zs.getD k 0 := ⟨_, rfl⟩
          rw [← hz] at hcell
          have HZ : Hid (z = zs.getD k 0) := hz
          clear hz hc'
          by_cases hneg : z < 0
          · go_wp2
            go_ret
            exact ⟨ret_bool (okB_bad (k := k) (by rw [← HN.out]; exact hlt) (by rw [← HZ.out]; exact dig_lo hneg)).symm, rfl⟩
          · by_cases hbig : 65536 ≤ z
            · go_wp2
              go_ret
              exact ⟨ret_bool (okB_bad (k := k) (by rw [← HN.out]; exact hlt) (by rw [← HZ.out]; exact dig_hi hbig)).symm, rfl⟩
            · go_wp2
              go_round
              case rel => exact ⟨k + 1, by omega, by go_num, dig_step HA.out (by rw [← HZ.out]; exact dig_yes (by omega) (by omega))⟩
              case measure => simp [intOf]; omega
        · have hkn : k = n := by omega
          subst hkn
          go_wp2
          go_ret
          exact ⟨ret_bool (by rw [okB_end (by rw [← HN.out]; exact hn2) (by rw [← HN.out]; omega) (by rw [← HN.out]; exact HA.out), ← HL.out]), rfl⟩
end Go.Proofs.YthokphoojmpajabGreatDoor
