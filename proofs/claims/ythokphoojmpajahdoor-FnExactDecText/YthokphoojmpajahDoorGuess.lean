/- The contracts of digits.pairBelow and of guessDigit. -/
import Derived.Test.YthokphoojmpajahDoorGAr
import Derived.Deep.QuietTactic
import Derived.BigQuiet
import Derived.BigRegion
namespace Go.Proofs.YthokphoojmpajahDoor
open Go.RowKit Go.Proofs.Pin

set_option maxRecDepth 20000 in
theorem pairBelow_any (a : Option Addr) (cap : Nat) (zs : List Int) (i : Nat) (w : World) (h : Sl w a zs) (h2 : 2 ≤ i) (hi : i ≤ zs.length) (hl : zs.length ≤ 65536) :
    Calls Tryd.prog 87 #[.slice a zs.length cap, .int .i64 (i : Int)] w fun e w' => e = .returned (.agg #[.int .i64 (zs.getD (i - 1) 0), .int .i64 (zs.getD (i - 2) 0)]) ∧ Below w.heap.size w w' := by
  obtain ⟨b, off, rfl, hb, hc1⟩ := Sl.cells h (k := i - 1) (by omega)
  obtain ⟨b', off', he, hb', hc2⟩ := Sl.cells h (k := i - 2) (by omega)
  cases he
  obtain ⟨j, rfl⟩ : ∃ j, i = j + 2 := ⟨i - 2, by omega⟩
  have e1 : j + 2 - 1 = j + 1 := by omega
  have e2 : j + 2 - 2 = j := by omega
  rw [e1] at hc1
  rw [e2] at hc2
  rw [e1, e2]
  obtain ⟨p, hp⟩ : ∃ p, p = zs.getD (j + 1) 0 := ⟨_, rfl⟩
  obtain ⟨q, hq⟩ : ∃ q, q = zs.getD j 0 := ⟨_, rfl⟩
  rw [← hp] at hc1 ⊢
  rw [← hq] at hc2 ⊢
  obtain ⟨n, hn⟩ : ∃ n, n = zs.length := ⟨_, rfl⟩
  rw [← hn] at hi hl ⊢
  have hiI : (j : Int) + 2 ≤ n := by omega
  have hc1' : (w.alloc (.cells #[.int .i64 0, .int .i64 0] 127)).cell? ⟨b, off + (j + 1), none⟩ = some (.int .i64 p) := (((Below.refl _ w).alloc (Nat.le_refl _) _).cell (p := ⟨b, off + (j + 1), none⟩) hb).trans hc1
  have hc2' : (w.alloc (.cells #[.int .i64 0, .int .i64 0] 127)).cell? ⟨b, off + j, none⟩ = some (.int .i64 q) := (((Below.refl _ w).alloc (Nat.le_refl _) _).cell (p := ⟨b, off + j, none⟩) hb).trans hc2
  clear hp hq hn h e1 e2
  go_enter Tryd.func87, Tryd.ntmps87
  go_wp2
  go_big_region
  have hb0 : Below w.heap.size w (w.alloc (.cells #[.int .i64 p, .int .i64 q] 127)) := (Below.refl _ w).alloc (Nat.le_refl _) _
  have hb1 : Below w.heap.size w (w.alloc (.cells #[.int .i64 p, .int .i64 q] 127)).drew := ⟨hb0.os, hb0.tape, hb0.output, hb0.size, hb0.block⟩
  go_wp2
  refine ⟨rfl, .agg #[.int .i64 p, .int .i64 q], ?_, rfl, hb1⟩
  simp [results, Tryd.f87, go_sem]

/-- '==' of two pairs. -/
theorem eqPair (a b c d : Int) (w : World) : (Op.equalIn 10000 127 (.agg #[.int .i64 a, .int .i64 b]) (.agg #[.int .i64 c, .int .i64 d])).run Tryd.prog w = .ok (a == c && b == d) w := by
  have u3 := Tryd.underlying3
  have a3 := Tryd.isAgg3
  have z3 := Tryd.sizeOf3
  rw [show (10000 : Nat) = 9999 + 1 from rfl, Op.equalIn]
  simp only [Sem.run_bind, run_underlying Tryd.underlying127, Result.andThen_ok]
  simp only [Std.Legacy.Range.forIn_eq_forIn_range', Std.Legacy.Range.size, Nat.sub_zero, Nat.add_sub_cancel, Nat.div_one, List.range'_succ, List.range'_zero, List.forIn_cons, List.forIn_nil]
  go_simp
  by_cases h1 : a = c <;> by_cases h2 : b = d <;> simp [h1, h2]
set_option maxRecDepth 20000 in
attribute [local go_sem] eqPair

theorem guess_same (p q z : Int) (w : World) :
    Calls Tryd.prog 86 #[.agg #[.int .i64 p, .int .i64 q], .int .i64 z, .agg #[.int .i64 p, .int .i64 q]] w fun e w' => e = .returned (.int .i64 65535) ∧ Below w.heap.size w w' := by
  go_enter Tryd.func86, Tryd.ntmps86
  go_wp2
  go_ret
  exact ⟨rfl, ((Below.refl _ w).alloc (Nat.le_refl _) _).alloc (by simp) _⟩

set_option maxRecDepth 20000 in
theorem guess_other (p q z p' q' : Int) (w : World) (hp0 : 0 ≤ p) (hp1 : p < 65536) (hq0 : 0 ≤ q) (hq1 : q < 65536) (hz0 : 0 ≤ z) (hz1 : z < 65536) (hr0 : 0 < p') (hr1 : p' < 65536) (hs0 : 0 ≤ q') (hs1 : q' < 65536) (hne : ¬ (p = p' ∧ q = q')) :
    Calls Tryd.prog 86 #[.agg #[.int .i64 p, .int .i64 q], .int .i64 z, .agg #[.int .i64 p', .int .i64 q']] w fun e w' => e = .returned (.int .i64 (((p * 65536 + q) * 65536 + z) / (p' * 65536 + q'))) ∧ Below w.heap.size w w' := by
  have hb : (p == p' && q == q') = false := by
    by_cases h1 : p = p' <;> by_cases h2 : q = q' <;> simp [h1, h2] <;> exact hne ⟨h1, h2⟩
  go_enter Tryd.func86, Tryd.ntmps86
  go_wp2
  go_ret
  exact ⟨rfl, ((Below.refl _ w).alloc (Nat.le_refl _) _).alloc (by simp) _⟩
end Go.Proofs.YthokphoojmpajahDoor
