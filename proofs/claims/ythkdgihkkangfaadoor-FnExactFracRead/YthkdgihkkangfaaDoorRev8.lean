/- slices.Reverse at bytes, walked. -/
import Derived.Test.YthkdgihkkangfaaDoorBytes
import Derived.Sort.WalkB12
import Derived.Lib.SlicesMore
import Derived.Deep.RegionWith
import Derived.Deep.LoopGhost
import Derived.WalkKit
namespace Go.Proofs.YthkdgihkkangfaaDoor
open Go.RowKit Go.Lib Go.Sort Go.Proofs.Pin

@[reducible] def enc8 (z : Int) : Value := .int .u8 z

set_option maxHeartbeats 1600000 in
set_option maxRecDepth 1000000 in
theorem reverse8 (blk off cap : Nat) (d : Array Int) (w : World) (hH : Holds enc8 w blk off d) (hsz : d.size ≤ 9223372036854775807) :
    Calls Tryd.prog 68 #[.slice (some ⟨blk, off, none⟩) d.size cap] w fun e w' => e = .returned (.tuple #[]) ∧ ∃ n, w' = putRow enc8 (Sort.ahead w n) blk off d.reverse := by
  go_enter Tryd.func68, Tryd.ntmps68
  go_wp2
  go_loopg [2, 3] d.size (fun k s2 s3 wr => ∃ (i jn : Nat) (jz : Int) (dk : Array Int) (n : Nat), s2 = .int .i64 i ∧ s3 = .int .i64 jz ∧ ((i : Int) < jz → jz = jn ∧ jn < d.size) ∧ (¬ (i : Int) < jz → ¬ i < jn) ∧ jn - i ≤ k ∧
    dk.size = d.size ∧ wr = putRow enc8 (Sort.ahead w n) blk off dk ∧ reverseLoop i jn dk = reverseLoop 0 (d.size - 1) d)
  case atStart => exact ⟨0, d.size - 1, (d.size : Int) - 1, d, 0, rfl, rfl, fun h => ⟨by omega, by omega⟩, fun h => by omega, by omega, rfl, (putRow_self enc8 w blk off d hH).symm, rfl⟩
  case round =>
    obtain ⟨i, jn, jz, dk, n, rfl, rfl, h1, h2, hk, hds, hwr, heq⟩ := hrel
    by_cases hlt : (i : Int) < jz
    · obtain ⟨rfl, hjn⟩ := h1 hlt
      have hij : i < jn := by omega
      have hHk : Holds enc8 wr blk off dk := by rw [hwr]; exact holds_putRow enc8 _ blk off d dk (holds_ahead enc8 w n blk off d hH) hds
      obtain ⟨ci, fi⟩ := hHk i (by omega)
      simp only [enc8] at ci
      obtain ⟨cj, fj⟩ := hHk jn (by omega)
      simp only [enc8] at cj
      have A : Aside (wr = putRow enc8 (Sort.ahead w n) blk off dk) := hwr
      clear hwr hHk hH h1 h2
      go_wp2_with fail
      go_region
      go_wp2
      go_roundg (jn - 1 - (i + 1))
      case measure => omega
      case rel =>
        rw [reverseLoop, if_pos hij] at heq
        exact ⟨i + 1, jn - 1, (jn : Int) - 1, swp dk i jn, n + 1, by simp, rfl, fun h => ⟨by omega, by omega⟩, fun h => by omega, Nat.le_refl _, by rw [size_swp]; exact hds,
          swap_world enc8 (by omega) (by omega) A.out (by first | rfl | simp [enc8, getElem!_pos, show jn < dk.size by omega]) (by first | rfl | simp [enc8, getElem!_pos, show i < dk.size by omega]), heq⟩
    · have hnot := h2 hlt
      go_wp2
      go_end0
      refine ⟨rfl, n, ?_⟩
      rw [reverseLoop, if_neg hnot] at heq
      rw [← Lib.reverseLoop_reverse, ← heq]

/-- The row's cells behind it, and what else has turned: nothing below the row's block. -/
theorem reverse8_any (B g cap L : Nat) (zs : List Int) (w : World) (hl : zs.length = L) (hB : B ≤ g) (hm : L ≤ 1048576) (hc : ∀ i, i < L → w.cell? ⟨g, i, none⟩ = some (.int .u8 (zs.getD i 0))) (hf : ∀ i, i < L → w.frozen? ⟨g, i, none⟩ = false) :
    Calls Tryd.prog 68 #[.slice (some ⟨g, 0, none⟩) L cap] w fun e w' => e = .returned (.tuple #[]) ∧ (∀ i, i < L → w'.cell? ⟨g, i, none⟩ = some (.int .u8 (zs.reverse.getD i 0))) ∧ Below B w w' := by
  have hH : Holds enc8 w g 0 zs.toArray := fun j hj => by
    have hj' : j < L := by simpa [hl] using hj
    have e : (zs.toArray)[j]! = zs.getD j 0 := by
      rw [getElem!_pos _ j hj]
      simp [List.getD_eq_getElem?_getD, List.getElem?_eq_getElem (show j < zs.length by omega)]
    rw [Nat.zero_add, e]
    exact ⟨hc j hj', hf j hj'⟩
  have h := reverse8 g 0 cap zs.toArray w hH (by simp; omega)
  have hs : zs.toArray.size = L := by simpa using hl
  rw [hs] at h
  refine h.mono ?_
  rintro e w' ⟨rfl, n, rfl⟩
  refine ⟨rfl, fun i hi => ?_, ?_⟩
  · have h2 := (holds_putRow enc8 (Sort.ahead w n) g 0 zs.toArray zs.toArray.reverse (holds_ahead enc8 w n g 0 zs.toArray hH) (by simp) i (by simpa [hl] using hi)).1
    rw [Nat.zero_add] at h2
    rw [h2, getElem!_pos _ i (by simpa [hl] using hi)]
    simp [enc8, List.getD_eq_getElem?_getD, List.getElem?_eq_getElem (show i < zs.reverse.length by simp; omega)]
  · have hr : ∀ k, k ≠ g → (putRow enc8 (Sort.ahead w n) g 0 zs.toArray.reverse).heap[k]? = w.heap[k]? := fun k hk => by
      show ((Sort.ahead w n).heap.modify g _)[k]? = _
      rw [Array.getElem?_modify, if_neg (Ne.symm hk)]
      rfl
    exact ⟨rfl, rfl, rfl, by rw [size_putRow]; exact Nat.le_refl _, fun k hk => hr k (by omega)⟩
end Go.Proofs.YthkdgihkkangfaaDoor
