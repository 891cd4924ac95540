/- The contract of impl.NatOf: the digits of a number below 2^64, in a row of the call's own. The contracts of spec.FracInt and impl.FracInt. -/
import Derived.Test.YthokphoojmpajaaGreatDoorProg
import Derived.Test.YthokphoojmpajaaGreatDoorBase
import Derived.Test.YthokphoojmpajaaGreatDoorGEq
import Derived.WalkKit
import Derived.Outline
import Derived.WalkSpells
import Derived.Test.YthokphoojmpajaaGreatDoorOfSpec
import Derived.Test.YthokphoojmpajaaGreatDoorFracLaw
import Derived.RangeFuncBox
namespace Go.Proofs.YthokphoojmpajaaGreatDoor
open Go.RowKit Go.Proofs.Pin

end Go.Proofs.YthokphoojmpajaaGreatDoor

namespace Go.Proofs.YthokphoojmpajaaGreatDoor
open Go.RowKit Go.Proofs.Pin

theorem own_of_block2 {w : World} {base g : Nat} {zs : List Int} (h : w.heap[g]? = some (.cells (zs.map (Value.int .i64)).toArray 3 (0, 0))) (hb : base ≤ g) (hl : zs.length ≤ maxLen) : OwnI w base (some ⟨g, 0, none⟩) zs.length zs :=
  ⟨by simp, .inr ⟨g, zs.length, _, rfl, hb, h, Nat.le_refl _, hl, by simp, by simp [← List.map_take]⟩⟩

set_option maxRecDepth 20000 in
theorem specFracInt_any (n : Int) (w : World) (h0 : -9223372036854775808 ≤ n) (h1 : n ≤ 9223372036854775807) :
    Calls Tryz.prog 37 #[.int .i64 n] w fun e w' => ∃ r cr s, e = .returned (fracV (decide (n < 0)) r (dgs n.natAbs).length cr s 1 1) ∧ OwnI w' w.heap.size r cr (dgs n.natAbs) ∧ OwnI w' w.heap.size s 1 [1] ∧ Below w.heap.size w w' := by
  unfold fracV
  have hx : n.natAbs ≤ 18446744073709551615 := by omega
  have C : Hid (∀ w : World, Calls Tryz.prog 55 #[.int .u64 (n.natAbs : Int)] w fun e w' => ∃ a cap, e = .returned (.slice a (dgs n.natAbs).length cap) ∧ OwnI w' w.heap.size a cap (dgs n.natAbs) ∧ Below w.heap.size w w') := fun w => specOf_any _ w hx
  obtain ⟨D, hD⟩ : ∃ D, D = dgs n.natAbs := ⟨_, rfl⟩
  rw [← hD] at C ⊢
  obtain ⟨m, hm⟩ : ∃ m : Int, m = (n.natAbs : Int) := ⟨_, rfl⟩
  rw [← hm] at C
  clear hD hx
  by_cases hn : n < 0
  · have e : m = -n := by omega
    have hwr : IntKind.u64.wrap (-IntKind.u64.wrap n) = -n := by simp [IntKind.wrap, IntKind.bits, IntKind.signed]; omega
    subst e
    clear hm
    go_enter Tryz.func37, Tryz.ntmps37
    go_wp2_with fail
    refine (C.out _).mono ?_
    rintro e w1 ⟨r, cr, rfl, o1, b1⟩
    have z1 : w.heap.size + 3 ≤ w1.heap.size := by have := b1.size; simp at this; omega
    have z0 : w.heap.size < w1.heap.size := by omega
    have z2 : w.heap.size + 1 + 1 < w1.heap.size := by omega
    have d0 : w1.cell? ⟨w.heap.size, 0, none⟩ = some (.bool false) := by rw [b1.cell (p := ⟨w.heap.size, 0, none⟩) (by simp; omega)]; simp [go_sem]
    have d1 : w1.cell? ⟨w.heap.size, 1, none⟩ = some (.slice none 0 0) := by rw [b1.cell (p := ⟨w.heap.size, 1, none⟩) (by simp; omega)]; simp [go_sem]
    have d2 : w1.cell? ⟨w.heap.size, 2, none⟩ = some (.slice none 0 0) := by rw [b1.cell (p := ⟨w.heap.size, 2, none⟩) (by simp; omega)]; simp [go_sem]
    have e0 : w1.cell? ⟨w.heap.size + 1 + 1, 0, none⟩ = some (.bool true) := by rw [b1.cell (p := ⟨w.heap.size + 1 + 1, 0, none⟩) (by simp)]; simp [go_sem]
    have e1 : w1.cell? ⟨w.heap.size + 1 + 1, 1, none⟩ = some (.slice none 0 0) := by rw [b1.cell (p := ⟨w.heap.size + 1 + 1, 1, none⟩) (by simp)]; simp [go_sem]
    have e2 : w1.cell? ⟨w.heap.size + 1 + 1, 2, none⟩ = some (.slice (some ⟨w.heap.size + 1, 0, none⟩) 1 1) := by rw [b1.cell (p := ⟨w.heap.size + 1 + 1, 2, none⟩) (by simp)]; simp [go_sem]
    have f0 : ∀ j, w1.frozen? ⟨w.heap.size, j, none⟩ = false := by
      intro j
      rw [b1.frozen (p := ⟨w.heap.size, j, none⟩) (by simp; omega)]
      simp [go_sem]
    have f1 : ∀ j, w1.frozen? ⟨w.heap.size + 1 + 1, j, none⟩ = false := by
      intro j
      rw [b1.frozen (p := ⟨w.heap.size + 1 + 1, j, none⟩) (by simp)]
      simp [go_sem]
    go_wp2
    have hne : ∀ g, r = some g → w.heap.size + 3 ≤ g.block := by
      intro g hg
      rcases o1.parts with ⟨h, _⟩ | ⟨g', h, hge, _⟩
      · rw [h] at hg; cases hg
      · rw [h] at hg; cases hg; simp at hge; exact hge
    have hq : OwnI w1 w.heap.size (some ⟨w.heap.size + 1, 0, none⟩) 1 [1] := by
      have h0 : OwnI ((w.alloc (.cells #[.bool false, .slice none 0 0, .slice none 0 0] 25)).alloc (.cells #[.int .i64 1] 3)) w.heap.size (some ⟨w.heap.size + 1, 0, none⟩) 1 [1] := own_of_block2 (zs := [1]) (by have h := World.alloc_heap_new (w.alloc (.cells #[.bool false, .slice none 0 0, .slice none 0 0] 25)) (.cells #[.int .i64 1] 3); simpa using h) (by omega) (by simp; unfold maxLen; omega)
      exact (h0.kept (World.grownBy_alloc _ _ none) (fun _ _ e => by cases e)).keep b1
    obtain ⟨W4, hW4⟩ : ∃ W4, W4 = (((w1.setCell ⟨w.heap.size + 1 + 1, 1, none⟩ (.slice r D.length cr)).setCell ⟨w.heap.size, 0, none⟩ (.bool true)).setCell ⟨w.heap.size, 1, none⟩ (.slice r D.length cr)).setCell ⟨w.heap.size, 2, none⟩ (.slice (some ⟨w.heap.size + 1, 0, none⟩) 1 1) := ⟨_, rfl⟩
    have hg4 : grown2 w1 W4 (some (w.heap.size + 1 + 1)) (some w.heap.size) := by rw [hW4]; exact ⟨_, gr_set _ _ _ _, grown_two (grown_two (gr_set _ _ _ _) (gr_set _ _ _ _)) (gr_set _ _ _ _)⟩
    obtain ⟨wm, g1, g2⟩ := hg4
    have ho : OwnI W4 w.heap.size r cr D := ((o1.mono (base' := w.heap.size) (by simp; omega)).kept g1 (fun g hg e => by have := hne g hg; simp at e; omega)).kept g2 (fun g hg e => by have := hne g hg; simp at e; omega)
    have hq4 : OwnI W4 w.heap.size (some ⟨w.heap.size + 1, 0, none⟩) 1 [1] := (hq.kept g1 (fun g hg e => by cases hg; simp at e)).kept g2 (fun g hg e => by cases hg; simp at e)
    have hb1 : Below w.heap.size w w1 := (((((Below.refl _ w).alloc (Nat.le_refl _) _).alloc (by simp) _).alloc (by simp; omega) _).trans (b1.mono (by simp; omega)))
    have hB : Below w.heap.size w W4 := (hb1.grown g1 (by omega) (fun k hk => by cases hk; omega)).grown g2 (Nat.le_trans (by omega) g1.size) (fun k hk => by cases hk; exact Nat.le_refl _)
    subst hW4
    refine ⟨rfl, .agg #[.bool true, .slice r D.length cr, .slice (some ⟨w.heap.size + 1, 0, none⟩) 1 1], ?_, r, cr, some ⟨w.heap.size + 1, 0, none⟩, by simp [hn], ho, hq4, hB⟩
    clear ho hq4 hq hB hb1 g1 g2 hne o1 b1
    simp [results, Tryz.f37, go_sem, d0, d1, d2]
  · have e : m = n := by omega
    subst e
    clear hm
    go_enter Tryz.func37, Tryz.ntmps37
    go_wp2_with fail
    refine (C.out _).mono ?_
    rintro e w1 ⟨r, cr, rfl, o1, b1⟩
    have z1 : w.heap.size + 3 ≤ w1.heap.size := by have := b1.size; simp at this; omega
    have z0 : w.heap.size < w1.heap.size := by omega
    have z2 : w.heap.size + 1 + 1 < w1.heap.size := by omega
    have d0 : w1.cell? ⟨w.heap.size, 0, none⟩ = some (.bool false) := by rw [b1.cell (p := ⟨w.heap.size, 0, none⟩) (by simp; omega)]; simp [go_sem]
    have d1 : w1.cell? ⟨w.heap.size, 1, none⟩ = some (.slice none 0 0) := by rw [b1.cell (p := ⟨w.heap.size, 1, none⟩) (by simp; omega)]; simp [go_sem]
    have d2 : w1.cell? ⟨w.heap.size, 2, none⟩ = some (.slice none 0 0) := by rw [b1.cell (p := ⟨w.heap.size, 2, none⟩) (by simp; omega)]; simp [go_sem]
    have e0 : w1.cell? ⟨w.heap.size + 1 + 1, 0, none⟩ = some (.bool false) := by rw [b1.cell (p := ⟨w.heap.size + 1 + 1, 0, none⟩) (by simp)]; simp [go_sem]
    have e1 : w1.cell? ⟨w.heap.size + 1 + 1, 1, none⟩ = some (.slice none 0 0) := by rw [b1.cell (p := ⟨w.heap.size + 1 + 1, 1, none⟩) (by simp)]; simp [go_sem]
    have e2 : w1.cell? ⟨w.heap.size + 1 + 1, 2, none⟩ = some (.slice (some ⟨w.heap.size + 1, 0, none⟩) 1 1) := by rw [b1.cell (p := ⟨w.heap.size + 1 + 1, 2, none⟩) (by simp)]; simp [go_sem]
    have f0 : ∀ j, w1.frozen? ⟨w.heap.size, j, none⟩ = false := by
      intro j
      rw [b1.frozen (p := ⟨w.heap.size, j, none⟩) (by simp; omega)]
      simp [go_sem]
    have f1 : ∀ j, w1.frozen? ⟨w.heap.size + 1 + 1, j, none⟩ = false := by
      intro j
      rw [b1.frozen (p := ⟨w.heap.size + 1 + 1, j, none⟩) (by simp)]
      simp [go_sem]
    go_wp2
    have hne : ∀ g, r = some g → w.heap.size + 3 ≤ g.block := by
      intro g hg
      rcases o1.parts with ⟨h, _⟩ | ⟨g', h, hge, _⟩
      · rw [h] at hg; cases hg
      · rw [h] at hg; cases hg; simp at hge; exact hge
    have hq : OwnI w1 w.heap.size (some ⟨w.heap.size + 1, 0, none⟩) 1 [1] := by
      have h0 : OwnI ((w.alloc (.cells #[.bool false, .slice none 0 0, .slice none 0 0] 25)).alloc (.cells #[.int .i64 1] 3)) w.heap.size (some ⟨w.heap.size + 1, 0, none⟩) 1 [1] := own_of_block2 (zs := [1]) (by have h := World.alloc_heap_new (w.alloc (.cells #[.bool false, .slice none 0 0, .slice none 0 0] 25)) (.cells #[.int .i64 1] 3); simpa using h) (by omega) (by simp; unfold maxLen; omega)
      exact (h0.kept (World.grownBy_alloc _ _ none) (fun _ _ e => by cases e)).keep b1
    obtain ⟨W4, hW4⟩ : ∃ W4, W4 = (((w1.setCell ⟨w.heap.size + 1 + 1, 1, none⟩ (.slice r D.length cr)).setCell ⟨w.heap.size, 0, none⟩ (.bool false)).setCell ⟨w.heap.size, 1, none⟩ (.slice r D.length cr)).setCell ⟨w.heap.size, 2, none⟩ (.slice (some ⟨w.heap.size + 1, 0, none⟩) 1 1) := ⟨_, rfl⟩
    have hg4 : grown2 w1 W4 (some (w.heap.size + 1 + 1)) (some w.heap.size) := by rw [hW4]; exact ⟨_, gr_set _ _ _ _, grown_two (grown_two (gr_set _ _ _ _) (gr_set _ _ _ _)) (gr_set _ _ _ _)⟩
    obtain ⟨wm, g1, g2⟩ := hg4
    have ho : OwnI W4 w.heap.size r cr D := ((o1.mono (base' := w.heap.size) (by simp; omega)).kept g1 (fun g hg e => by have := hne g hg; simp at e; omega)).kept g2 (fun g hg e => by have := hne g hg; simp at e; omega)
    have hq4 : OwnI W4 w.heap.size (some ⟨w.heap.size + 1, 0, none⟩) 1 [1] := (hq.kept g1 (fun g hg e => by cases hg; simp at e)).kept g2 (fun g hg e => by cases hg; simp at e)
    have hb1 : Below w.heap.size w w1 := (((((Below.refl _ w).alloc (Nat.le_refl _) _).alloc (by simp) _).alloc (by simp; omega) _).trans (b1.mono (by simp; omega)))
    have hB : Below w.heap.size w W4 := (hb1.grown g1 (by omega) (fun k hk => by cases hk; omega)).grown g2 (Nat.le_trans (by omega) g1.size) (fun k hk => by cases hk; exact Nat.le_refl _)
    subst hW4
    refine ⟨rfl, .agg #[.bool false, .slice r D.length cr, .slice (some ⟨w.heap.size + 1, 0, none⟩) 1 1], ?_, r, cr, some ⟨w.heap.size + 1, 0, none⟩, by simp [hn], ho, hq4, hB⟩
    clear ho hq4 hq hB hb1 g1 g2 hne o1 b1
    simp [results, Tryz.f37, go_sem, d0, d1, d2]
end Go.Proofs.YthokphoojmpajaaGreatDoor
