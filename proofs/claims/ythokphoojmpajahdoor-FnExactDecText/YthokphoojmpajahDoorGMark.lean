/- The contracts of markIntS (it writes the numbers from k on into a row of the call's own) and heldIntS (it finds them there). The contracts of spec.NatOk and impl.NatOk: both tell whether the digits are a number, and leave the world as it is. -/
import Derived.Test.YthokphoojmpajahDoorProg
import Derived.Test.YthokphoojmpajahDoorBase
import Derived.WalkKit
import Derived.Outline
import Derived.WalkSpells
namespace Go.Proofs.YthokphoojmpajahDoor
open Go.RowKit Go.Proofs.Pin

set_option maxRecDepth 20000 in
set_option maxHeartbeats 400000 in
theorem mark_any (base : Nat) (a : Option Addr) (cap : Nat) (zs : List Int) (k : Int) (w : World) (h : OwnI w base a cap zs) (hlen : zs.length ≤ 1048576) (hk0 : 0 ≤ k) (hk1 : k ≤ 100000000) :
    Calls Tryd.prog 29 #[.slice a zs.length cap, .int .i64 k] w fun e w' => e = .returned (.int .i64 (k + zs.length)) ∧ OwnI w' base a cap (marked k zs.length) ∧ w.grownBy w' (a.map (·.block)) := by
  rcases h.parts with ⟨rfl, rfl, rfl⟩ | ⟨g, rfl, hbg, hgl⟩
  · go_enter Tryd.func29, Tryd.ntmps29
    go_wp2
    refine wp_loop_rounds 1 ?_
    rw [rounds_succ]
    go_wp2
    go_ret
    exact ⟨ret_int (by simp), OwnI.nil _ _, World.grownBy.refl _ _⟩
  · have h1 : w.ownsRow base 3 1 (.slice (some ⟨g, 0, none⟩) zs.length cap) zs.length ((marked k 0 ++ zs.drop 0).map (Value.int .i64)) := by rw [← marked_none]; exact h
    obtain ⟨n, hn⟩ : ∃ n, n = zs.length := ⟨_, rfl⟩
    have HN : Hid (n = zs.length) := hn
    rw [← hn] at h1
    have hn2 : n ≤ 1048576 := by omega
    show Calls Tryd.prog 29 _ w fun e w' => e = .returned (.int .i64 (k + zs.length)) ∧ w'.ownsRow base 3 1 (.slice (some ⟨g, 0, none⟩) (marked k zs.length).length cap) (marked k zs.length).length ((marked k zs.length).map (Value.int .i64)) ∧ w.grownBy w' (some g)
    rw [marked_length, ← marked_full, ← hn]
    clear h hn hlen
    go_enter Tryd.func29, Tryd.ntmps29
    go_wp2
    go_loopw [1, 5] (fun q i wr => ∃ j : Nat, j ≤ n ∧ i = .int .i64 j ∧ q = .int .i64 (k + j) ∧ wr.ownsRow base 3 1 (.slice (some ⟨g, 0, none⟩) n cap) n ((marked k j ++ zs.drop j).map (Value.int .i64)) ∧ w.grownBy wr (some g)) (fun _ i _ => n - (intOf i).toNat)
    case atStart => exact ⟨0, Nat.zero_le _, rfl, by simp, h1, World.grownBy.refl _ _⟩
    case round =>
      obtain ⟨j, hj, rfl, rfl, hown, hgr⟩ := hrel
      by_cases hlt : j < n
      · have hfz := hown.frozenAt j
        have hold : ∃ v, wr.cell? ⟨g, j, none⟩ = some v := by
          rw [hown.cellAt j (by omega)]
          have hl := hown.1
          exact ⟨_, List.getElem?_eq_getElem (by omega)⟩
        obtain ⟨old, hold⟩ := hold
        have hst := hown.stored j (.int .i64 (k + j))
        rw [marked_set (by rw [← HN.out]; exact hlt)] at hst
        have HS : Hid ((wr.setCell ⟨g, j, none⟩ (.int .i64 (k + j))).ownsRow base 3 1 (.slice (some ⟨g, 0, none⟩) n cap) n ((marked k (j + 1) ++ zs.drop (j + 1)).map (Value.int .i64))) := hst.1
        have HG : Hid (w.grownBy (wr.setCell ⟨g, j, none⟩ (.int .i64 (k + j))) (some g)) := grown_two hgr hst.2
        clear hst hown hgr h1
        go_wp2
        go_roundw
        case rel => exact ⟨j + 1, by omega, by go_num, by go_num, HS.out, HG.out⟩
        case measure => simp [intOf]; omega
      · have hkn : j = n := by omega
        subst hkn
        have HO : Hid (wr.ownsRow base 3 1 (.slice (some ⟨g, 0, none⟩) j cap) j ((marked k j ++ zs.drop j).map (Value.int .i64))) := hown
        have HG : Hid (w.grownBy wr (some g)) := hgr
        clear hown hgr h1
        go_wp2
        go_ret
        exact ⟨rfl, HO.out, HG.out⟩

set_option maxRecDepth 20000 in
set_option maxHeartbeats 400000 in
theorem held_any (a : Option Addr) (cap n : Nat) (k : Int) (w : World) (h : Sl w a (marked k n)) (hlen : n ≤ 1048576) (hk0 : 0 ≤ k) (hk1 : k ≤ 100000000) :
    Calls Tryd.prog 30 #[.slice a n cap, .int .i64 k] w fun e w' => e = .returned (.int .i64 (k + n)) ∧ w' = w := by
  have hcell : ∀ j, j < n → ∃ b off, a = some ⟨b, off, none⟩ ∧ w.cell? ⟨b, off + j, none⟩ = some (.int .i64 (k + j)) := by
    intro j hj
    have hml := marked_length k n
    rcases h with h | ⟨b, off, rfl, hb, hc⟩
    · rw [h] at hml; simp at hml; omega
    · exact ⟨b, off, rfl, by rw [hc j (by omega), marked_getD k n j hj]⟩
  clear h
  go_enter Tryd.func30, Tryd.ntmps30
  go_wp2
  go_loop [1, 5] (fun q i => ∃ j : Nat, j ≤ n ∧ i = .int .i64 j ∧ q = .int .i64 (k + j)) (fun _ i => n - (intOf i).toNat)
  case atStart => exact ⟨0, Nat.zero_le _, rfl, by simp⟩
  case round =>
    obtain ⟨j, hj, rfl, rfl⟩ := hrel
    by_cases hlt : j < n
    · obtain ⟨b, off, rfl, hc⟩ := hcell j hlt
      have hne : ((k + (j : Int)) != (k + (j : Int))) = false := by simp
      clear hcell
      go_wp2
      go_round
      case rel => exact ⟨j + 1, by omega, by go_num, by go_num⟩
      case measure => simp [intOf]; omega
    · have hkn : j = n := by omega
      subst hkn
      clear hcell
      go_wp2
      go_ret
      exact ⟨rfl, rfl⟩
end Go.Proofs.YthokphoojmpajahDoor

namespace Go.Proofs.YthokphoojmpajahDoor
open Go.RowKit Go.Proofs.Pin

set_option maxRecDepth 20000 in
set_option maxHeartbeats 400000 in
theorem specOk_any (a : Option Addr) (cap : Nat) (zs : List Int) (w : World) (h : Sl w a zs) (hlen : zs.length ≤ 1048576) :
    Calls Tryd.prog 36 #[.slice a zs.length cap] w fun e w' => e = .returned (.bool (okB zs)) ∧ w' = w := by
  by_cases hl : 256 < zs.length
  · have hl' : (256 : Int) < (zs.length : Int) := by omega
    go_enter Tryd.func36, Tryd.ntmps36
    go_wp2
    go_ret
    exact ⟨ret_bool (okB_long hl).symm, rfl⟩
  rcases h with rfl | ⟨b, off, rfl, hlt, hc⟩
  · go_enter Tryd.func36, Tryd.ntmps36
    go_wp2
    refine wp_loop_rounds 1 ?_
    rw [rounds_succ]
    go_wp2
    go_ret
    exact ⟨rfl, rfl⟩
  · obtain ⟨n, hn⟩ : ∃ n, n = zs.length := ⟨_, rfl⟩
    by_cases h0 : n = 0
    · have : zs = [] := List.length_eq_zero_iff.mp (by omega)
      subst this
      go_enter Tryd.func36, Tryd.ntmps36
      go_wp2
      refine wp_loop_rounds 1 ?_
      rw [rounds_succ]
      go_wp2
      go_ret
      exact ⟨rfl, rfl⟩
    · rw [← hn]
      have hc' : ∀ i, i < n → w.cell? ⟨b, off + i, none⟩ = some (.int .i64 (zs.getD i 0)) := fun i hi => hc i (by omega)
      have hlast := hc' (n - 1) (by omega)
      obtain ⟨zl, hzl⟩ : ∃ z, z = zs.getD (n - 1) 0 := ⟨_, rfl⟩
      rw [← hzl] at hlast
      have HL : Hid (zl = zs.getD (zs.length - 1) 0) := by rw [← hn]; exact hzl
      have HN : Hid (n = zs.length) := hn
      have hn0 : ((n : Int) == 0) = false := by simp; omega
      have hn1 : (0 : Int) < n := by omega
      have hn2 : n ≤ 256 := by omega
      clear hzl hn hc hlen hl
      go_enter Tryd.func36, Tryd.ntmps36
      go_wp2
      go_loop [3] (fun i => ∃ k : Nat, k ≤ n ∧ i = .int .i64 k ∧ ∀ i, i < k → dig (zs.getD i 0) = true) (fun i => n - (intOf i).toNat)
      case atStart => exact ⟨0, Nat.zero_le _, rfl, fun i hi => absurd hi (by omega)⟩
      case round =>
        obtain ⟨k, hk, rfl, hall⟩ := hrel
        have HA : Hid (∀ i, i < k → dig (zs.getD i 0) = true) := hall
        clear hall
        by_cases hlt : k < n
        · have hcell := hc' k hlt
          obtain ⟨z, hz⟩ : ∃ z, z = zs.getD k 0 := ⟨_, rfl⟩
          rw [← hz] at hcell
          have HZ : Hid (z = zs.getD k 0) := hz
          clear hz hc'
          by_cases hneg : z < 0
          · go_wp2
            go_ret
            exact ⟨ret_bool (okB_bad (k := k) (by rw [← HN.out]; exact hlt) (by rw [← HZ.out]; exact dig_lo hneg)).symm, rfl⟩
          · by_cases hbig : 65536 ≤ z
            · go_wp2
              go_ret
              exact ⟨ret_bool (okB_bad (k := k) (by rw [← HN.out]; exact hlt) (by rw [← HZ.out]; exact dig_hi hbig)).symm, rfl⟩
            · go_wp2
              go_round
              case rel => exact ⟨k + 1, by omega, by go_num, dig_step HA.out (by rw [← HZ.out]; exact dig_yes (by omega) (by omega))⟩
              case measure => simp [intOf]; omega
        · have hkn : k = n := by omega
          subst hkn
          go_wp2
          go_ret
          exact ⟨ret_bool (by rw [okB_end (by rw [← HN.out]; exact hn2) (by rw [← HN.out]; omega) (by rw [← HN.out]; exact HA.out), ← HL.out]), rfl⟩
set_option maxRecDepth 20000 in
set_option maxHeartbeats 400000 in
theorem implOk_any (a : Option Addr) (cap : Nat) (zs : List Int) (w : World) (h : Sl w a zs) (hlen : zs.length ≤ 1048576) :
    Calls Tryd.prog 61 #[.slice a zs.length cap] w fun e w' => e = .returned (.bool (okB zs)) ∧ w' = w := by
  by_cases hl : 256 < zs.length
  · have hl' : (256 : Int) < (zs.length : Int) := by omega
    go_enter Tryd.func61, Tryd.ntmps61
    go_wp2
    go_ret
    exact ⟨ret_bool (okB_long hl).symm, rfl⟩
  rcases h with rfl | ⟨b, off, rfl, hlt, hc⟩
  · go_enter Tryd.func61, Tryd.ntmps61
    go_wp2
    refine wp_loop_rounds 1 ?_
    rw [rounds_succ]
    go_wp2
    go_ret
    exact ⟨rfl, rfl⟩
  · obtain ⟨n, hn⟩ : ∃ n, n = zs.length := ⟨_, rfl⟩
    by_cases h0 : n = 0
    · have : zs = [] := List.length_eq_zero_iff.mp (by omega)
      subst this
      go_enter Tryd.func61, Tryd.ntmps61
      go_wp2
      refine wp_loop_rounds 1 ?_
      rw [rounds_succ]
      go_wp2
      go_ret
      exact ⟨rfl, rfl⟩
    · rw [← hn]
      have hc' : ∀ i, i < n → w.cell? ⟨b, off + i, none⟩ = some (.int .i64 (zs.getD i 0)) := fun i hi => hc i (by omega)
      have hlast := hc' (n - 1) (by omega)
      obtain ⟨zl, hzl⟩ : ∃ z, z = zs.getD (n - 1) 0 := ⟨_, rfl⟩
      rw [← hzl] at hlast
      have HL : Hid (zl = zs.getD (zs.length - 1) 0) := by rw [← hn]; exact hzl
      have HN : Hid (n = zs.length) := hn
      have hn0 : ((n : Int) == 0) = false := by simp; omega
      have hn1 : (0 : Int) < n := by omega
      have hn2 : n ≤ 256 := by omega
      clear hzl hn hc hlen hl
      go_enter Tryd.func61, Tryd.ntmps61
      go_wp2
      go_loop [10] (fun i => ∃ k : Nat, k ≤ n ∧ i = .int .i64 k ∧ ∀ i, i < k → dig (zs.getD i 0) = true) (fun i => n - (intOf i).toNat)
      case atStart => exact ⟨0, Nat.zero_le _, rfl, fun i hi => absurd hi (by omega)⟩
      case round =>
        obtain ⟨k, hk, rfl, hall⟩ := hrel
        have HA : Hid (∀ i, i < k → dig (zs.getD i 0) = true) := hall
        clear hall
        by_cases hlt : k < n
        · have hcell := hc' k hlt
          obtain ⟨z, hz⟩ : ∃ z, z = zs.getD k 0 := ⟨_, rfl⟩
          rw [← hz] at hcell
          have HZ : Hid (z = zs.getD k 0) := hz
          clear hz hc'
          by_cases hneg : z < 0
          · go_wp2
            go_ret
            exact ⟨ret_bool (okB_bad (k := k) (by rw [← HN.out]; exact hlt) (by rw [← HZ.out]; exact dig_lo hneg)).symm, rfl⟩
          · by_cases hbig : 65536 ≤ z
            · go_wp2
              go_ret
              exact ⟨ret_bool (okB_bad (k := k) (by rw [← HN.out]; exact hlt) (by rw [← HZ.out]; exact dig_hi hbig)).symm, rfl⟩
            · go_wp2
              go_round
              case rel => exact ⟨k + 1, by omega, by go_num, dig_step HA.out (by rw [← HZ.out]; exact dig_yes (by omega) (by omega))⟩
              case measure => simp [intOf]; omega
        · have hkn : k = n := by omega
          subst hkn
          go_wp2
          go_ret
          exact ⟨ret_bool (by rw [okB_end (by rw [← HN.out]; exact hn2) (by rw [← HN.out]; omega) (by rw [← HN.out]; exact HA.out), ← HL.out]), rfl⟩
end Go.Proofs.YthokphoojmpajahDoor
