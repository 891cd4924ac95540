/- What Lean reckons of the type int of the translation. The contract of laws.eqIntS. The contracts of toIntS (a copy in new memory) and eqIntS (the same elements). -/
import Derived.Test.YthokphoojmpajahDoorProg
import Derived.Test.YthokphoojmpajahDoorBase
import Derived.WalkKit
import Derived.Outline
import Derived.WalkSpells
import Derived.Deep.QuietTactic
import Derived.BigQuiet
namespace Go.Proofs.YthokphoojmpajahDoor
open Go.RowKit Go.Proofs.Pin

theorem Tryd.info3 : (Tryd.prog.info? 3).map (fun i => (i.zero, i.size, i.bytes)) = some (some (.int .i64 0), 1, 8) := by kernel_rfl
end Go.Proofs.YthokphoojmpajahDoor

namespace Go.Proofs.YthokphoojmpajahDoor
open Go.RowKit Go.Proofs.Pin

set_option maxRecDepth 20000 in
set_option maxHeartbeats 400000 in
theorem eqIntS_any (a b : Option Addr) (ca cb : Nat) (xs ys : List Int) (w : World) (ha : Sl w a xs) (hb : Sl w b ys) (hx : xs.length ≤ 1048576) (hy : ys.length ≤ 1048576) :
    Calls Tryd.prog 25 #[.slice a xs.length ca, .slice b ys.length cb] w fun e w' => e = .returned (.bool (decide (xs = ys))) ∧ ∃ q, w' = w.drewN q := by
  by_cases hl : xs.length = ys.length
  · obtain ⟨n, hn⟩ : ∃ n, n = xs.length := ⟨_, rfl⟩
    have HX : Hid (n = xs.length) := hn
    have HY : Hid (n = ys.length) := hn.trans hl
    have hca : ∀ k, k < n → ∃ b off, a = some ⟨b, off, none⟩ ∧ w.cell? ⟨b, off + k, none⟩ = some (.int .i64 (xs.getD k 0)) := by
      intro k hk
      rcases ha with rfl | ⟨b, off, rfl, hb, hc⟩
      · simp at hn; omega
      · exact ⟨b, off, rfl, hc k (by omega)⟩
    have hcb : ∀ k, k < n → ∃ b' off, b = some ⟨b', off, none⟩ ∧ w.cell? ⟨b', off + k, none⟩ = some (.int .i64 (ys.getD k 0)) := by
      intro k hk
      rcases hb with rfl | ⟨b', off, rfl, hb, hc⟩
      · simp only [List.length_nil] at hl; omega
      · exact ⟨b', off, rfl, hc k (by omega)⟩
    have hn2 : n ≤ 1048576 := by omega
    rw [← hl, ← hn]
    clear hl hn ha hb hx hy
    go_enter Tryd.func25, Tryd.ntmps25
    go_wp2
    go_loopw [5] (fun i wr => ∃ k : Nat, k ≤ n ∧ i = .int .i64 k ∧ (∀ i, i < k → xs.getD i 0 = ys.getD i 0) ∧ ∃ q, wr = w.drewN q) (fun i _ => n - (intOf i).toNat)
    case atStart => exact ⟨0, Nat.zero_le _, rfl, fun i hi => absurd hi (by omega), 0, rfl⟩
    case round =>
      obtain ⟨k, hk, rfl, hall, q, rfl⟩ := hrel
      have HA : Hid (∀ i, i < k → xs.getD i 0 = ys.getD i 0) := hall
      clear hall
      by_cases hlt : k < n
      · obtain ⟨ba, offa, rfl, hc1⟩ := hca k hlt
        obtain ⟨bb, offb, rfl, hc2⟩ := hcb k hlt
        obtain ⟨x, hx⟩ : ∃ z, z = xs.getD k 0 := ⟨_, rfl⟩
        obtain ⟨y, hy⟩ : ∃ z, z = ys.getD k 0 := ⟨_, rfl⟩
        rw [← hx] at hc1
        rw [← hy] at hc2
        have HX1 : Hid (x = xs.getD k 0) := hx
        have HY1 : Hid (y = ys.getD k 0) := hy
        clear hx hy hca hcb
        have hlt' : (k : Int) < (n : Int) := by omega
        by_cases hxy : x = y
        · have hne : (x != y) = false := by simp [hxy]
          have HE : Hid (x = y) := hxy
          clear hxy
          go_wp2_with fail
          go_quiet (fail)
          go_wp2
          go_roundw
          case rel => exact ⟨k + 1, by omega, by go_num, eq_step HA.out (by rw [← HX1.out, ← HY1.out]; exact HE.out), q + nq, rfl⟩
          case measure => simp [intOf]; omega
        · have hne : (x != y) = true := by simp [hxy]
          have HE : Hid (x ≠ y) := hxy
          clear hxy
          go_wp2_with fail
          go_quiet (fail)
          go_wp2
          go_ret
          exact ⟨ret_bool (eq_not (k := k) (by rw [← HX1.out, ← HY1.out]; exact HE.out)).symm, q + nq, World.drewN_drewN _ _ _⟩
      · have hkn : k = n := by omega
        subst hkn
        clear hca hcb
        go_wp2
        go_ret
        exact ⟨ret_bool (eq_end (by rw [← HX.out]; exact HY.out) (by rw [← HX.out]; exact HA.out)).symm, _, rfl⟩
  · have hne : ((xs.length : Int) != (ys.length : Int)) = true := by simp; omega
    go_enter Tryd.func25, Tryd.ntmps25
    go_wp2
    go_ret
    exact ⟨ret_bool (eq_len hl).symm, 0, rfl⟩
end Go.Proofs.YthokphoojmpajahDoor

namespace Go.Proofs.YthokphoojmpajahDoor
open Go.RowKit Go.Proofs.Pin


set_option maxRecDepth 20000 in
set_option maxHeartbeats 400000 in
theorem toIntS_any (a : Option Addr) (cap : Nat) (zs : List Int) (w : World) (h : Sl w a zs) (hlen : zs.length ≤ 1048576) :
    Calls Tryd.prog 21 #[.slice a zs.length cap] w fun e w' => e = .returned (.slice (some ⟨w.heap.size, 0, none⟩) zs.length zs.length) ∧
      w'.ownsRow w.heap.size 3 1 (.slice (some ⟨w.heap.size, 0, none⟩) zs.length zs.length) zs.length (zs.map (Value.int .i64)) ∧ Below w.heap.size w w' := by
  obtain ⟨i0, hi, hz0, hz1, hz2⟩ := info_parts Tryd.info3
  obtain ⟨n, hn⟩ : ∃ n, n = zs.length := ⟨_, rfl⟩
  have HN : Hid (n = zs.length) := hn
  have hcell : ∀ k, k < n → ∃ b off, a = some ⟨b, off, none⟩ ∧ b < w.heap.size ∧ w.cell? ⟨b, off + k, none⟩ = some (.int .i64 (zs.getD k 0)) := by
    intro k hk
    rcases h with rfl | ⟨b, off, rfl, hb, hc⟩
    · simp at hn; omega
    · exact ⟨b, off, rfl, hb, hc k (by omega)⟩
  have hn2 : n ≤ 1048576 := by omega
  rw [← hn]
  clear hn h hlen
  go_enter Tryd.func21, Tryd.ntmps21
  go_wp2_with (at_make; refine wpList_make_full _ rfl _ _ 22 rfl w.heap.size 3 i0 (.int .i64 0) 1 Tryd.underlying22 hi hz0 hz1 _ _ _ _ n rfl rfl rfl rfl ?b2 ?b3 (Nat.le_refl _) ?_)
  case b2 => rw [hz2]; omega
  case b3 => unfold maxLen; omega
  intro w1 hown hgrow
  have hbel : Below w.heap.size w w1 := (Below.refl _ _).grown hgrow (Nat.le_refl _) (fun k hk => by cases hk)
  clear hgrow
  have hown1 : w1.ownsRow w.heap.size 3 1 (.slice (some ⟨w.heap.size, 0, none⟩) n n) n ((zs.take 0 ++ List.replicate (zs.length - 0) 0).map (Value.int .i64)) := by
    rw [← ints_none, ← HN.out]; exact hown
  clear hown
  go_wp2
  go_loopw [4] (fun i wr => ∃ k : Nat, k ≤ n ∧ i = .int .i64 k ∧ wr.ownsRow w.heap.size 3 1 (.slice (some ⟨w.heap.size, 0, none⟩) n n) n ((zs.take k ++ List.replicate (zs.length - k) 0).map (Value.int .i64)) ∧ Below w.heap.size w wr) (fun i _ => n - (intOf i).toNat)
  case atStart => exact ⟨0, Nat.zero_le _, rfl, hown1, hbel⟩
  case round =>
    obtain ⟨k, hk, rfl, hown, hb⟩ := hrel
    by_cases hlt : k < n
    · obtain ⟨b, off, rfl, hbl, hc⟩ := hcell k hlt
      obtain ⟨z, hz⟩ : ∃ z, z = zs.getD k 0 := ⟨_, rfl⟩
      have HZ : Hid (z = zs.getD k 0) := hz
      have hc1 : wr.cell? ⟨b, off + k, none⟩ = some (.int .i64 z) := by rw [hb.cell (p := ⟨b, off + k, none⟩) hbl, hc, hz]
      have hfz := hown.frozenAt k
      have hold : ∃ v, wr.cell? ⟨w.heap.size, k, none⟩ = some v := by
        rw [hown.cellAt k (by omega)]
        have hl := hown.1
        exact ⟨_, List.getElem?_eq_getElem (by omega)⟩
      obtain ⟨old, hold⟩ := hold
      have hst := hown.stored k (.int .i64 z)
      rw [hz, ints_set (by rw [← HN.out]; exact hlt), ← hz] at hst
      have HS : Hid ((wr.setCell ⟨w.heap.size, k, none⟩ (.int .i64 z)).ownsRow w.heap.size 3 1 (.slice (some ⟨w.heap.size, 0, none⟩) n n) n ((zs.take (k + 1) ++ List.replicate (zs.length - (k + 1)) 0).map (Value.int .i64))) := hst.1
      have HB : Hid (Below w.heap.size w wr) := hb
      clear hst hz hc hown hb hcell hown1 hbel
      go_wp2
      go_roundw
      case rel => exact ⟨k + 1, by omega, by go_num, HS.out, HB.out.setCell (Nat.le_refl _) _⟩
      case measure => simp [intOf]; omega
    · have hkn : k = n := by omega
      subst hkn
      rw [HN.out, ints_full, ← HN.out] at hown
      have HO : Hid (wr.ownsRow w.heap.size 3 1 (.slice (some ⟨w.heap.size, 0, none⟩) k k) k (zs.map (Value.int .i64))) := hown
      have HB : Hid (Below w.heap.size w wr) := hb
      clear hown hb hcell hown1 hbel
      go_wp2
      go_ret
      exact ⟨rfl, HO.out, HB.out⟩

end Go.Proofs.YthokphoojmpajahDoor
