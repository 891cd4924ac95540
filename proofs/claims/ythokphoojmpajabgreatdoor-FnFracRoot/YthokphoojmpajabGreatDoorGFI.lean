/- The contract of impl.NatOf: the digits of a number below 2^64, in a row of the call's own. The contracts of spec.FracInt and impl.FracInt. -/
import Derived.Test.YthokphoojmpajabGreatDoorProg
import Derived.Test.YthokphoojmpajabGreatDoorBase
import Derived.Test.YthokphoojmpajabGreatDoorGEq
import Derived.WalkKit
import Derived.Outline
import Derived.WalkSpells
import Derived.Test.YthokphoojmpajabGreatDoorGDivs
import Derived.Test.YthokphoojmpajabGreatDoorFracLaw
import Derived.RangeFuncBox
namespace Go.Proofs.YthokphoojmpajabGreatDoor
open Go.RowKit Go.Proofs.Pin

set_option maxRecDepth 20000 in
set_option maxHeartbeats 400000 in
theorem implOf_any (x : Nat) (w : World) (hx : x ≤ 18446744073709551615) :
    Calls Tryz.prog 41 #[.int .u64 x] w fun e w' => ∃ a cap, e = .returned (.slice a (dgs x).length cap) ∧ OwnI w' w.heap.size a cap (dgs x) ∧ Below w.heap.size w w' := by
  obtain ⟨i0, hi, hz0, hz1, hz2⟩ := info_parts Tryz.info3
  go_enter Tryz.func41, Tryz.ntmps41
  go_wp2
  go_loopw [0, 3] (fun q v wr => ∃ (m : Nat) (pre : List Int), q = .int .u64 m ∧ m ≤ x ∧ pre.length ≤ 4 ∧ m < 65536 ^ (4 - pre.length) ∧ pre ++ dgs m = dgs x ∧ wr.ownsRow w.heap.size 3 1 v pre.length (pre.map (Value.int .i64)) ∧ Below w.heap.size w wr) (fun q _ _ => (intOf q).toNat)
  case atStart => exact ⟨x, [], rfl, Nat.le_refl _, by simp, by simp; omega, by simp, World.ownsRow_nil _ _ _ _, Below.refl _ _⟩
  case round =>
    obtain ⟨m, pre, rfl, hmx, hp4, hsm, heq, hown, hb⟩ := hrel
    have HE : Hid (pre ++ dgs m = dgs x) := heq
    have HS : Hid (m < 65536 ^ (4 - pre.length)) := hsm
    have HB : Hid (Below w.heap.size w wr) := hb
    have hmx' : (m : Int) ≤ 18446744073709551615 := by omega
    by_cases hm : 0 < m
    · have hm' : (0 : Int) < m := by omega
      have hst := step_small hm hp4 hsm
      clear heq hsm hb
      go_wp2_with (at_builtin; refine wpList_append_own _ rfl _ _ 23 rfl w.heap.size 3 i0 (.int .i64 0) 1 8 Tryz.underlying23 hi hz0 hz1 hz2 rfl (by decide) _ _ _ rfl (hown.alloc _) ⟨wr.heap.size, 0, none⟩ 1 1 [.int .i64 ((m : Int) % 65536)] rfl rfl (cell_one_new _ _ _) (by simp [Value.oneCell']) ?c3 ?c4 ?c5 ?_)
      case c3 => unfold maxLen; omega
      case c4 => omega
      case c5 => have := HB.out.size; simp; omega
      intro v' w1 hown' hgrow _
      have HO : Hid (w1.ownsRow w.heap.size 3 1 v' (pre ++ [(m : Int) % 65536]).length ((pre ++ [(m : Int) % 65536]).map (Value.int .i64))) := by
        have h := hown'
        simp only [List.map_append, List.map_cons, List.map_nil, List.length_append, List.length_cons, List.length_nil]
        exact h
      have HB1 : Hid (Below w.heap.size w w1) := below_append HB.out (Nat.le_refl _) hown hgrow
      have HT : Hid (pre.length + 1 ≤ 4 ∧ m / 65536 < 65536 ^ (4 - (pre.length + 1))) := hst
      clear hown' hgrow hown hst
      go_wp2
      go_roundw
      case rel => exact ⟨m / 65536, pre ++ [(m : Int) % 65536], by go_num, by omega, by have := HT.out.1; simp; omega, by simpa using HT.out.2, by rw [← HE.out, dgs_pos (n := m) (by omega)]; simp, HO.out, HB1.out⟩
      case measure => simp [intOf]; omega
    · have hm0 : m = 0 := by omega
      subst hm0
      have hz : pre = dgs x := by simpa [dgs_zero] using heq
      obtain ⟨a, cap, hv, ho⟩ := OwnI.of_row hown
      have HO : Hid (OwnI wr w.heap.size a cap pre) := ho
      subst hv
      have HZ : Hid (pre = dgs x) := hz
      clear heq hown hz ho hsm hb
      go_wp2
      go_ret
      exact ⟨a, cap, by rw [← HZ.out]; rfl, by rw [← HZ.out]; exact HO.out, HB.out⟩

end Go.Proofs.YthokphoojmpajabGreatDoor

namespace Go.Proofs.YthokphoojmpajabGreatDoor
open Go.RowKit Go.Proofs.Pin

theorem own_of_block2 {w : World} {base g : Nat} {zs : List Int} (h : w.heap[g]? = some (.cells (zs.map (Value.int .i64)).toArray 3 (0, 0))) (hb : base ≤ g) (hl : zs.length ≤ maxLen) : OwnI w base (some ⟨g, 0, none⟩) zs.length zs :=
  ⟨by simp, .inr ⟨g, zs.length, _, rfl, hb, h, Nat.le_refl _, hl, by simp, by simp [← List.map_take]⟩⟩

set_option maxRecDepth 20000 in
theorem implFracInt_any (n : Int) (w : World) (h0 : -9223372036854775808 ≤ n) (h1 : n ≤ 9223372036854775807) :
    Calls Tryz.prog 15 #[.int .i64 n] w fun e w' => ∃ r cr s, e = .returned (fracV (decide (n < 0)) r (dgs n.natAbs).length cr s 1 1) ∧ OwnI w' w.heap.size r cr (dgs n.natAbs) ∧ OwnI w' w.heap.size s 1 [1] ∧ (∀ i j, r.map (·.block) = some i → s.map (·.block) = some j → i ≠ j) ∧ Below w.heap.size w w' := by
  unfold fracV
  have hx : n.natAbs ≤ 18446744073709551615 := by omega
  have C : Hid (∀ w : World, Calls Tryz.prog 41 #[.int .u64 (n.natAbs : Int)] w fun e w' => ∃ a cap, e = .returned (.slice a (dgs n.natAbs).length cap) ∧ OwnI w' w.heap.size a cap (dgs n.natAbs) ∧ Below w.heap.size w w') := fun w => implOf_any _ w hx
  obtain ⟨D, hD⟩ : ∃ D, D = dgs n.natAbs := ⟨_, rfl⟩
  rw [← hD] at C ⊢
  obtain ⟨m, hm⟩ : ∃ m : Int, m = (n.natAbs : Int) := ⟨_, rfl⟩
  rw [← hm] at C
  clear hD hx
  by_cases hn : n < 0
  · have e : m = -n := by omega
    have hwr : IntKind.u64.wrap (-IntKind.u64.wrap n) = -n := by simp [IntKind.wrap, IntKind.bits, IntKind.signed]; omega
    subst e
    clear hm
    go_enter Tryz.func15, Tryz.ntmps15
    go_wp2_with fail
    refine (C.out _).mono ?_
    rintro e w1 ⟨r, cr, rfl, o1, b1⟩
    have z1 : w.heap.size < w1.heap.size := by have := b1.size; simp at this; omega
    have c0 : ∀ j v, j < 3 → (#[Value.bool false, Value.slice none 0 0, Value.slice none 0 0])[j]? = some v → w1.cell? ⟨w.heap.size, j, none⟩ = some v := by
      intro j v hj hv
      rw [b1.cell (p := ⟨w.heap.size, j, none⟩) (by simp)]
      simpa [go_sem] using hv
    have d0 := c0 0 _ (by omega) rfl
    have d1 := c0 1 _ (by omega) rfl
    have d2 := c0 2 _ (by omega) rfl
    have f0 : ∀ j, w1.frozen? ⟨w.heap.size, j, none⟩ = false := by
      intro j
      rw [b1.frozen (p := ⟨w.heap.size, j, none⟩) (by simp)]
      simp [go_sem]
    clear c0
    go_wp2
    obtain ⟨W3, hW3⟩ : ∃ W3, W3 = ((w1.setCell ⟨w.heap.size, 0, none⟩ (.bool true)).setCell ⟨w.heap.size, 1, none⟩ (.slice r D.length cr)).setCell ⟨w.heap.size, 2, none⟩ (.slice (some ⟨w1.heap.size, 0, none⟩) 1 1) := ⟨_, rfl⟩
    have hg3 : w1.grownBy W3 (some w.heap.size) := by rw [hW3]; exact grown_two (grown_two (gr_set _ _ _ _) (gr_set _ _ _ _)) (gr_set _ _ _ _)
    have hz3 : W3.heap.size = w1.heap.size := by rw [hW3]; simp
    rw [← hW3]
    have hne : ∀ g, r = some g → some w.heap.size ≠ some g.block := by
      intro g hg e
      rcases o1.parts with ⟨h, _⟩ | ⟨g', h, hge, _⟩
      · rw [h] at hg; cases hg
      · rw [h] at hg; cases hg; simp at e hge; omega
    have ho := ((o1.mono (base' := w.heap.size) (by simp)).kept hg3 hne).kept (World.grownBy_alloc W3 (.cells #[.int .i64 1] 3) none) (fun _ _ e => by cases e)
    have ho1 : OwnI (W3.alloc (.cells #[.int .i64 1] 3)) w.heap.size (some ⟨w1.heap.size, 0, none⟩) 1 [1] := by
      rw [← hz3]
      exact own_of_block2 (zs := [1]) (World.alloc_heap_new W3 _) (by omega) (by simp; unfold maxLen; omega)
    have hB : Below w.heap.size w (W3.alloc (.cells #[.int .i64 1] 3)) := ((((Below.refl _ w).alloc (Nat.le_refl _) _).trans (b1.mono (by simp))).grown hg3 (by omega) (fun k hk => by cases hk; exact Nat.le_refl _)).alloc (by omega) _
    have HP : Hid (∀ i j, r.map (·.block) = some i → (some (⟨w1.heap.size, 0, none⟩ : Addr)).map (·.block) = some j → i ≠ j) := by
      intro i j hi hj
      have h1 := own_block_lt o1 i hi
      cases hj
      simp
      omega
    subst hW3
    refine ⟨rfl, .agg #[.bool true, .slice r D.length cr, .slice (some ⟨w1.heap.size, 0, none⟩) 1 1], ?_, r, cr, some ⟨w1.heap.size, 0, none⟩, by simp [hn], ho, ho1, HP.out, hB⟩
    clear ho ho1 hB HP hne o1 b1 hg3 hz3
    simp [results, Tryz.f15, go_sem, d0, d1, d2, z1]
  · have e : m = n := by omega
    subst e
    clear hm
    go_enter Tryz.func15, Tryz.ntmps15
    go_wp2_with fail
    refine (C.out _).mono ?_
    rintro e w1 ⟨r, cr, rfl, o1, b1⟩
    have z1 : w.heap.size < w1.heap.size := by have := b1.size; simp at this; omega
    have c0 : ∀ j v, j < 3 → (#[Value.bool false, Value.slice none 0 0, Value.slice none 0 0])[j]? = some v → w1.cell? ⟨w.heap.size, j, none⟩ = some v := by
      intro j v hj hv
      rw [b1.cell (p := ⟨w.heap.size, j, none⟩) (by simp)]
      simpa [go_sem] using hv
    have d0 := c0 0 _ (by omega) rfl
    have d1 := c0 1 _ (by omega) rfl
    have d2 := c0 2 _ (by omega) rfl
    have f0 : ∀ j, w1.frozen? ⟨w.heap.size, j, none⟩ = false := by
      intro j
      rw [b1.frozen (p := ⟨w.heap.size, j, none⟩) (by simp)]
      simp [go_sem]
    clear c0
    go_wp2
    obtain ⟨W3, hW3⟩ : ∃ W3, W3 = ((w1.setCell ⟨w.heap.size, 0, none⟩ (.bool false)).setCell ⟨w.heap.size, 1, none⟩ (.slice r D.length cr)).setCell ⟨w.heap.size, 2, none⟩ (.slice (some ⟨w1.heap.size, 0, none⟩) 1 1) := ⟨_, rfl⟩
    have hg3 : w1.grownBy W3 (some w.heap.size) := by rw [hW3]; exact grown_two (grown_two (gr_set _ _ _ _) (gr_set _ _ _ _)) (gr_set _ _ _ _)
    have hz3 : W3.heap.size = w1.heap.size := by rw [hW3]; simp
    rw [← hW3]
    have hne : ∀ g, r = some g → some w.heap.size ≠ some g.block := by
      intro g hg e
      rcases o1.parts with ⟨h, _⟩ | ⟨g', h, hge, _⟩
      · rw [h] at hg; cases hg
      · rw [h] at hg; cases hg; simp at e hge; omega
    have ho := ((o1.mono (base' := w.heap.size) (by simp)).kept hg3 hne).kept (World.grownBy_alloc W3 (.cells #[.int .i64 1] 3) none) (fun _ _ e => by cases e)
    have ho1 : OwnI (W3.alloc (.cells #[.int .i64 1] 3)) w.heap.size (some ⟨w1.heap.size, 0, none⟩) 1 [1] := by
      rw [← hz3]
      exact own_of_block2 (zs := [1]) (World.alloc_heap_new W3 _) (by omega) (by simp; unfold maxLen; omega)
    have hB : Below w.heap.size w (W3.alloc (.cells #[.int .i64 1] 3)) := ((((Below.refl _ w).alloc (Nat.le_refl _) _).trans (b1.mono (by simp))).grown hg3 (by omega) (fun k hk => by cases hk; exact Nat.le_refl _)).alloc (by omega) _
    have HP : Hid (∀ i j, r.map (·.block) = some i → (some (⟨w1.heap.size, 0, none⟩ : Addr)).map (·.block) = some j → i ≠ j) := by
      intro i j hi hj
      have h1 := own_block_lt o1 i hi
      cases hj
      simp
      omega
    subst hW3
    refine ⟨rfl, .agg #[.bool false, .slice r D.length cr, .slice (some ⟨w1.heap.size, 0, none⟩) 1 1], ?_, r, cr, some ⟨w1.heap.size, 0, none⟩, by simp [hn], ho, ho1, HP.out, hB⟩
    clear ho ho1 hB HP hne o1 b1 hg3 hz3
    simp [results, Tryz.f15, go_sem, d0, d1, d2, z1]

set_option maxRecDepth 20000 in
theorem specFracInt_any (n : Int) (w : World) (h0 : -9223372036854775808 ≤ n) (h1 : n ≤ 9223372036854775807) :
    Calls Tryz.prog 73 #[.int .i64 n] w fun e w' => ∃ r cr s, e = .returned (fracV (decide (n < 0)) r (dgs n.natAbs).length cr s 1 1) ∧ OwnI w' w.heap.size r cr (dgs n.natAbs) ∧ OwnI w' w.heap.size s 1 [1] ∧ Below w.heap.size w w' := by
  unfold fracV
  have hx : n.natAbs ≤ 18446744073709551615 := by omega
  have C : Hid (∀ w : World, Calls Tryz.prog 76 #[.int .u64 (n.natAbs : Int)] w fun e w' => ∃ a cap, e = .returned (.slice a (dgs n.natAbs).length cap) ∧ OwnI w' w.heap.size a cap (dgs n.natAbs) ∧ Below w.heap.size w w') := fun w => specOf_any _ w hx
  obtain ⟨D, hD⟩ : ∃ D, D = dgs n.natAbs := ⟨_, rfl⟩
  rw [← hD] at C ⊢
  obtain ⟨m, hm⟩ : ∃ m : Int, m = (n.natAbs : Int) := ⟨_, rfl⟩
  rw [← hm] at C
  clear hD hx
  by_cases hn : n < 0
  · have e : m = -n := by omega
    have hwr : IntKind.u64.wrap (-IntKind.u64.wrap n) = -n := by simp [IntKind.wrap, IntKind.bits, IntKind.signed]; omega
    subst e
    clear hm
    go_enter Tryz.func73, Tryz.ntmps73
    go_wp2_with fail
    refine (C.out _).mono ?_
    rintro e w1 ⟨r, cr, rfl, o1, b1⟩
    have z1 : w.heap.size + 3 ≤ w1.heap.size := by have := b1.size; simp at this; omega
    have z0 : w.heap.size < w1.heap.size := by omega
    have z2 : w.heap.size + 1 + 1 < w1.heap.size := by omega
    have d0 : w1.cell? ⟨w.heap.size, 0, none⟩ = some (.bool false) := by rw [b1.cell (p := ⟨w.heap.size, 0, none⟩) (by simp; omega)]; simp [go_sem]
    have d1 : w1.cell? ⟨w.heap.size, 1, none⟩ = some (.slice none 0 0) := by rw [b1.cell (p := ⟨w.heap.size, 1, none⟩) (by simp; omega)]; simp [go_sem]
    have d2 : w1.cell? ⟨w.heap.size, 2, none⟩ = some (.slice none 0 0) := by rw [b1.cell (p := ⟨w.heap.size, 2, none⟩) (by simp; omega)]; simp [go_sem]
    have e0 : w1.cell? ⟨w.heap.size + 1 + 1, 0, none⟩ = some (.bool true) := by rw [b1.cell (p := ⟨w.heap.size + 1 + 1, 0, none⟩) (by simp)]; simp [go_sem]
    have e1 : w1.cell? ⟨w.heap.size + 1 + 1, 1, none⟩ = some (.slice none 0 0) := by rw [b1.cell (p := ⟨w.heap.size + 1 + 1, 1, none⟩) (by simp)]; simp [go_sem]
    have e2 : w1.cell? ⟨w.heap.size + 1 + 1, 2, none⟩ = some (.slice (some ⟨w.heap.size + 1, 0, none⟩) 1 1) := by rw [b1.cell (p := ⟨w.heap.size + 1 + 1, 2, none⟩) (by simp)]; simp [go_sem]
    have f0 : ∀ j, w1.frozen? ⟨w.heap.size, j, none⟩ = false := by
      intro j
      rw [b1.frozen (p := ⟨w.heap.size, j, none⟩) (by simp; omega)]
      simp [go_sem]
    have f1 : ∀ j, w1.frozen? ⟨w.heap.size + 1 + 1, j, none⟩ = false := by
      intro j
      rw [b1.frozen (p := ⟨w.heap.size + 1 + 1, j, none⟩) (by simp)]
      simp [go_sem]
    go_wp2
    have hne : ∀ g, r = some g → w.heap.size + 3 ≤ g.block := by
      intro g hg
      rcases o1.parts with ⟨h, _⟩ | ⟨g', h, hge, _⟩
      · rw [h] at hg; cases hg
      · rw [h] at hg; cases hg; simp at hge; exact hge
    have hq : OwnI w1 w.heap.size (some ⟨w.heap.size + 1, 0, none⟩) 1 [1] := by
      have h0 : OwnI ((w.alloc (.cells #[.bool false, .slice none 0 0, .slice none 0 0] 25)).alloc (.cells #[.int .i64 1] 3)) w.heap.size (some ⟨w.heap.size + 1, 0, none⟩) 1 [1] := own_of_block2 (zs := [1]) (by have h := World.alloc_heap_new (w.alloc (.cells #[.bool false, .slice none 0 0, .slice none 0 0] 25)) (.cells #[.int .i64 1] 3); simpa using h) (by omega) (by simp; unfold maxLen; omega)
      exact (h0.kept (World.grownBy_alloc _ _ none) (fun _ _ e => by cases e)).keep b1
    obtain ⟨W4, hW4⟩ : ∃ W4, W4 = (((w1.setCell ⟨w.heap.size + 1 + 1, 1, none⟩ (.slice r D.length cr)).setCell ⟨w.heap.size, 0, none⟩ (.bool true)).setCell ⟨w.heap.size, 1, none⟩ (.slice r D.length cr)).setCell ⟨w.heap.size, 2, none⟩ (.slice (some ⟨w.heap.size + 1, 0, none⟩) 1 1) := ⟨_, rfl⟩
    have hg4 : grown2 w1 W4 (some (w.heap.size + 1 + 1)) (some w.heap.size) := by rw [hW4]; exact ⟨_, gr_set _ _ _ _, grown_two (grown_two (gr_set _ _ _ _) (gr_set _ _ _ _)) (gr_set _ _ _ _)⟩
    obtain ⟨wm, g1, g2⟩ := hg4
    have ho : OwnI W4 w.heap.size r cr D := ((o1.mono (base' := w.heap.size) (by simp; omega)).kept g1 (fun g hg e => by have := hne g hg; simp at e; omega)).kept g2 (fun g hg e => by have := hne g hg; simp at e; omega)
    have hq4 : OwnI W4 w.heap.size (some ⟨w.heap.size + 1, 0, none⟩) 1 [1] := (hq.kept g1 (fun g hg e => by cases hg; simp at e)).kept g2 (fun g hg e => by cases hg; simp at e)
    have hb1 : Below w.heap.size w w1 := (((((Below.refl _ w).alloc (Nat.le_refl _) _).alloc (by simp) _).alloc (by simp; omega) _).trans (b1.mono (by simp; omega)))
    have hB : Below w.heap.size w W4 := (hb1.grown g1 (by omega) (fun k hk => by cases hk; omega)).grown g2 (Nat.le_trans (by omega) g1.size) (fun k hk => by cases hk; exact Nat.le_refl _)
    subst hW4
    refine ⟨rfl, .agg #[.bool true, .slice r D.length cr, .slice (some ⟨w.heap.size + 1, 0, none⟩) 1 1], ?_, r, cr, some ⟨w.heap.size + 1, 0, none⟩, by simp [hn], ho, hq4, hB⟩
    clear ho hq4 hq hB hb1 g1 g2 hne o1 b1
    simp [results, Tryz.f73, go_sem, d0, d1, d2]
  · have e : m = n := by omega
    subst e
    clear hm
    go_enter Tryz.func73, Tryz.ntmps73
    go_wp2_with fail
    refine (C.out _).mono ?_
    rintro e w1 ⟨r, cr, rfl, o1, b1⟩
    have z1 : w.heap.size + 3 ≤ w1.heap.size := by have := b1.size; simp at this; omega
    have z0 : w.heap.size < w1.heap.size := by omega
    have z2 : w.heap.size + 1 + 1 < w1.heap.size := by omega
    have d0 : w1.cell? ⟨w.heap.size, 0, none⟩ = some (.bool false) := by rw [b1.cell (p := ⟨w.heap.size, 0, none⟩) (by simp; omega)]; simp [go_sem]
    have d1 : w1.cell? ⟨w.heap.size, 1, none⟩ = some (.slice none 0 0) := by rw [b1.cell (p := ⟨w.heap.size, 1, none⟩) (by simp; omega)]; simp [go_sem]
    have d2 : w1.cell? ⟨w.heap.size, 2, none⟩ = some (.slice none 0 0) := by rw [b1.cell (p := ⟨w.heap.size, 2, none⟩) (by simp; omega)]; simp [go_sem]
    have e0 : w1.cell? ⟨w.heap.size + 1 + 1, 0, none⟩ = some (.bool false) := by rw [b1.cell (p := ⟨w.heap.size + 1 + 1, 0, none⟩) (by simp)]; simp [go_sem]
    have e1 : w1.cell? ⟨w.heap.size + 1 + 1, 1, none⟩ = some (.slice none 0 0) := by rw [b1.cell (p := ⟨w.heap.size + 1 + 1, 1, none⟩) (by simp)]; simp [go_sem]
    have e2 : w1.cell? ⟨w.heap.size + 1 + 1, 2, none⟩ = some (.slice (some ⟨w.heap.size + 1, 0, none⟩) 1 1) := by rw [b1.cell (p := ⟨w.heap.size + 1 + 1, 2, none⟩) (by simp)]; simp [go_sem]
    have f0 : ∀ j, w1.frozen? ⟨w.heap.size, j, none⟩ = false := by
      intro j
      rw [b1.frozen (p := ⟨w.heap.size, j, none⟩) (by simp; omega)]
      simp [go_sem]
    have f1 : ∀ j, w1.frozen? ⟨w.heap.size + 1 + 1, j, none⟩ = false := by
      intro j
      rw [b1.frozen (p := ⟨w.heap.size + 1 + 1, j, none⟩) (by simp)]
      simp [go_sem]
    go_wp2
    have hne : ∀ g, r = some g → w.heap.size + 3 ≤ g.block := by
      intro g hg
      rcases o1.parts with ⟨h, _⟩ | ⟨g', h, hge, _⟩
      · rw [h] at hg; cases hg
      · rw [h] at hg; cases hg; simp at hge; exact hge
    have hq : OwnI w1 w.heap.size (some ⟨w.heap.size + 1, 0, none⟩) 1 [1] := by
      have h0 : OwnI ((w.alloc (.cells #[.bool false, .slice none 0 0, .slice none 0 0] 25)).alloc (.cells #[.int .i64 1] 3)) w.heap.size (some ⟨w.heap.size + 1, 0, none⟩) 1 [1] := own_of_block2 (zs := [1]) (by have h := World.alloc_heap_new (w.alloc (.cells #[.bool false, .slice none 0 0, .slice none 0 0] 25)) (.cells #[.int .i64 1] 3); simpa using h) (by omega) (by simp; unfold maxLen; omega)
      exact (h0.kept (World.grownBy_alloc _ _ none) (fun _ _ e => by cases e)).keep b1
    obtain ⟨W4, hW4⟩ : ∃ W4, W4 = (((w1.setCell ⟨w.heap.size + 1 + 1, 1, none⟩ (.slice r D.length cr)).setCell ⟨w.heap.size, 0, none⟩ (.bool false)).setCell ⟨w.heap.size, 1, none⟩ (.slice r D.length cr)).setCell ⟨w.heap.size, 2, none⟩ (.slice (some ⟨w.heap.size + 1, 0, none⟩) 1 1) := ⟨_, rfl⟩
    have hg4 : grown2 w1 W4 (some (w.heap.size + 1 + 1)) (some w.heap.size) := by rw [hW4]; exact ⟨_, gr_set _ _ _ _, grown_two (grown_two (gr_set _ _ _ _) (gr_set _ _ _ _)) (gr_set _ _ _ _)⟩
    obtain ⟨wm, g1, g2⟩ := hg4
    have ho : OwnI W4 w.heap.size r cr D := ((o1.mono (base' := w.heap.size) (by simp; omega)).kept g1 (fun g hg e => by have := hne g hg; simp at e; omega)).kept g2 (fun g hg e => by have := hne g hg; simp at e; omega)
    have hq4 : OwnI W4 w.heap.size (some ⟨w.heap.size + 1, 0, none⟩) 1 [1] := (hq.kept g1 (fun g hg e => by cases hg; simp at e)).kept g2 (fun g hg e => by cases hg; simp at e)
    have hb1 : Below w.heap.size w w1 := (((((Below.refl _ w).alloc (Nat.le_refl _) _).alloc (by simp) _).alloc (by simp; omega) _).trans (b1.mono (by simp; omega)))
    have hB : Below w.heap.size w W4 := (hb1.grown g1 (by omega) (fun k hk => by cases hk; omega)).grown g2 (Nat.le_trans (by omega) g1.size) (fun k hk => by cases hk; exact Nat.le_refl _)
    subst hW4
    refine ⟨rfl, .agg #[.bool false, .slice r D.length cr, .slice (some ⟨w.heap.size + 1, 0, none⟩) 1 1], ?_, r, cr, some ⟨w.heap.size + 1, 0, none⟩, by simp [hn], ho, hq4, hB⟩
    clear ho hq4 hq hB hb1 g1 g2 hne o1 b1
    simp [results, Tryz.f73, go_sem, d0, d1, d2]
end Go.Proofs.YthokphoojmpajabGreatDoor
