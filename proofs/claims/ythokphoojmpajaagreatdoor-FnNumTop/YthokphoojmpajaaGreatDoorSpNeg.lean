/- The contract of spec.l2Neg. -/
import Derived.Test.YthokphoojmpajaaGreatDoorGFr8
import Derived.Test.YthokphoojmpajaaGreatDoorTrimD
import Derived.Deep.RegionWith
namespace Go.Proofs.YthokphoojmpajaaGreatDoor
open Go.RowKit Go.Proofs.Pin

set_option maxRecDepth 20000 in
set_option maxHeartbeats 2000000 in
theorem l2Neg_any (b : Bool) (r s : Option Addr) (cr cs x y : Nat) (w : World) (hx : Sl w r (dgs x)) (hy : Sl w s (dgs y)) (lx : (dgs x).length ≤ 256) (ly : (dgs y).length ≤ 256) :
    Calls Tryz.prog 54 #[fracV b r (dgs x).length cr s (dgs y).length cs] w fun e w' => ∃ r2 c2 s2 d2, e = .returned (fracV (ngB b x) r2 (dgs x).length c2 s2 (dgs y).length d2) ∧ OwnI w' w.heap.size r2 c2 (dgs x) ∧ OwnI w' w.heap.size s2 d2 (dgs y) ∧ Below w.heap.size w w' := by
  have C1 : Hid (∀ W, Sl W r (dgs x) → Calls Tryz.prog 51 #[.slice r (dgs x).length cr] W fun e w' => ∃ a c, e = .returned (.slice a (dgs x).length c) ∧ OwnI w' W.heap.size a c (dgs x) ∧ Below W.heap.size W w') := fun W h => l1Trim_dgs r cr x W h (by omega)
  have C2 : Hid (∀ W, Sl W s (dgs y) → Calls Tryz.prog 51 #[.slice s (dgs y).length cs] W fun e w' => ∃ a c, e = .returned (.slice a (dgs y).length c) ∧ OwnI w' W.heap.size a c (dgs y) ∧ Below W.heap.size W w') := fun W h => l1Trim_dgs s cs y W h (by omega)
  rw [← negB_dgs]
  obtain ⟨X, hX⟩ : ∃ X, X = dgs x := ⟨_, rfl⟩
  obtain ⟨Y, hY⟩ : ∃ Y, Y = dgs y := ⟨_, rfl⟩
  rw [← hX] at C1 hx
  rw [← hY] at C2 hy
  rw [← hX, ← hY]
  clear hX hY lx ly
  unfold fracV
  obtain ⟨w0, hw0⟩ : ∃ w0, w0 = (w.alloc (.cells #[.bool b, .slice r X.length cr, .slice s Y.length cs] 25)).alloc (.cells #[.bool false, .slice none 0 0, .slice none 0 0] 25) := ⟨_, rfl⟩
  have B0 : Below w.heap.size w w0 := by rw [hw0]; exact ((Below.refl _ w).alloc (Nat.le_refl _) _).alloc (by simp) _
  have k1 : BoxC w0 w.heap.size 25 #[.bool b, .slice r X.length cr, .slice s Y.length cs] := by rw [hw0]; exact boxc_alloc (boxc_new _ _ _) _
  have k2 : BoxC w0 (w.heap.size + 1) 25 #[.bool false, .slice none 0 0, .slice none 0 0] := by
    rw [hw0]
    have h := boxc_new (w.alloc (.cells #[.bool b, .slice r X.length cr, .slice s Y.length cs] 25)) 25 #[.bool false, .slice none 0 0, .slice none 0 0]
    rw [World.size_alloc] at h
    exact h
  have X0 : Hid (Sl w0 r X) := hx.keep B0
  have Y0 : Hid (Sl w0 s Y) := hy.keep B0
  have HB : Hid (Below w.heap.size w w0) := B0
  have K2 : Hid (BoxC w0 (w.heap.size + 1) 25 #[.bool false, .slice none 0 0, .slice none 0 0]) := k2
  have n2 := boxc_lt k2
  obtain ⟨p0, p1, p2, _, n1⟩ := boxc3 k1
  have p0d : w0.drew.cell? ⟨w.heap.size, 0, none⟩ = some (.bool b) := p0
  have p1d : w0.drew.cell? ⟨w.heap.size, 1, none⟩ = some (.slice r X.length cr) := p1
  have p2d : w0.drew.cell? ⟨w.heap.size, 2, none⟩ = some (.slice s Y.length cs) := p2
  clear hx hy B0 k1 k2 p0 p1 p2
  obtain ⟨N, hN⟩ : ∃ N, N = negB b X.length := ⟨_, rfl⟩
  rw [← hN]
  cases b with
  | true =>
    have e : N = false := by rw [hN]; rfl
    subst e
    clear hN
    go_enter Tryz.func54, Tryz.ntmps54
    go_wp2_with fail
    rw [← hw0]
    clear hw0
    refine wp_region_held_drew (S := (fun w' : World => w'.cell? ⟨w.heap.size, 0, none⟩ = some (.bool true) ∧ w'.cell? ⟨w.heap.size, 1, none⟩ = some (.slice r X.length cr) ∧ w'.cell? ⟨w.heap.size, 2, none⟩ = some (.slice s Y.length cs))) (by kernel_rfl) ⟨p0d, p1d, p2d⟩ (fun hHeld => ?_)
    refine wpAnyH_take (i := 0) (v := .pointer (some ⟨w.heap.size, 0, none⟩)) rfl (by kernel_rfl) (by kernel_rfl) (by kernel_rfl) (fun _ _ _ h => h) (Or.inl ⟨by rfl, ?_⟩) (by assumption) ?_
    · intro wz hSw
      go_simp
    refine wpAnyH_take (i := 1) (v := .bool true) rfl (by kernel_rfl) (by kernel_rfl) (by kernel_rfl) (fun _ _ _ h => h) (Or.inl ⟨by rfl, ?_⟩) (by assumption) ?_
    · intro wz hSw
      go_simp
    refine wpAnyH_take (i := 2) (v := .bool false) rfl (by kernel_rfl) (by kernel_rfl) (by kernel_rfl) (fun _ _ _ h => h) (Or.inl ⟨by rfl, ?_⟩) (by assumption) ?_
    · intro wz hSw
      go_simp
    refine wpAnyH_take (i := 3) (v := .bool false) rfl (by kernel_rfl) (by kernel_rfl) (by kernel_rfl) (fun _ _ _ h => h) (Or.inl ⟨by rfl, ?_⟩) (by assumption) ?_
    · intro wz hSw
      go_simp
    refine wpAnyH_take (i := 4) (v := undef) rfl (by kernel_rfl) (by kernel_rfl) (by kernel_rfl) (fun _ _ _ h => h) (Or.inr ⟨by rfl, rfl⟩) (by assumption) ?_
    refine wpAnyH_take (i := 5) (v := undef) rfl (by kernel_rfl) (by kernel_rfl) (by kernel_rfl) (fun _ _ _ h => h) (Or.inr ⟨by rfl, rfl⟩) (by assumption) ?_
    refine wpAnyH_take (i := 6) (v := undef) rfl (by kernel_rfl) (by kernel_rfl) (by kernel_rfl) (fun _ _ _ h => h) (Or.inr ⟨by rfl, rfl⟩) (by assumption) ?_
    refine wpAnyH_take (i := 7) (v := undef) rfl (by kernel_rfl) (by kernel_rfl) (by kernel_rfl) (fun _ _ _ h => h) (Or.inr ⟨by rfl, rfl⟩) (by assumption) ?_
    refine wpAnyH_take (i := 8) (v := .bool false) rfl (by kernel_rfl) (by kernel_rfl) (by kernel_rfl) (fun _ _ _ h => h) (Or.inl ⟨by rfl, ?_⟩) (by assumption) ?_
    · intro wz hSw
      go_simp
    refine wpAnyH_take (i := 9) (v := .pointer (some ⟨w.heap.size, 1, none⟩)) rfl (by kernel_rfl) (by kernel_rfl) (by kernel_rfl) (fun _ _ _ h => h) (Or.inl ⟨by rfl, ?_⟩) (by assumption) ?_
    · intro wz hSw
      go_simp
    refine wpAnyH_take (i := 10) (v := .slice r X.length cr) rfl (by kernel_rfl) (by kernel_rfl) (by kernel_rfl) (fun _ _ _ h => h) (Or.inl ⟨by rfl, ?_⟩) (by assumption) ?_
    · intro wz hSw
      go_simp
    refine wpAnyH_take (i := 12) (v := .pointer (some ⟨w.heap.size, 2, none⟩)) rfl (by kernel_rfl) (by kernel_rfl) (by kernel_rfl) (fun _ _ _ h => h) (Or.inl ⟨by rfl, ?_⟩) (by assumption) ?_
    · intro wz hSw
      go_simp
    refine wpAnyH_take (i := 13) (v := .slice s Y.length cs) rfl (by kernel_rfl) (by kernel_rfl) (by kernel_rfl) (fun _ _ _ h => h) (Or.inl ⟨by rfl, ?_⟩) (by assumption) ?_
    · intro wz hSw
      go_simp
    refine wpAnyH_ready (rs := [11]) (by kernel_rfl) (by simp) ?_
    refine AllReadyH.cons rfl (fun K hK => ?_) AllReadyH.nil
    go_simp
    refine Calls.mono (C1.out w0.drew X0.out) ?_
    rintro e w2 ⟨r2, c2, rfl, o2, b2⟩
    have z2 : w0.heap.size ≤ w2.heap.size := b2.size
    have b2' := below_un2 b2
    go_wp2_with fail
    refine hK.out _ _ ?_ (fun hHeld2 => ?_)
    · exact ⟨(b2.cell (p := ⟨w.heap.size, 0, none⟩) n1).trans p0d, (b2.cell (p := ⟨w.heap.size, 1, none⟩) n1).trans p1d, (b2.cell (p := ⟨w.heap.size, 2, none⟩) n1).trans p2d⟩
    clear hK K
    refine wpAnyH_ready (rs := [14]) (by kernel_rfl) (by simp) ?_
    refine AllReadyH.cons rfl (fun K hK => ?_) AllReadyH.nil
    go_simp
    refine Calls.mono (C2.out _ (Sl.keep Y0.out b2')) ?_
    rintro e w3 ⟨r3, c3, rfl, o3, b3⟩
    have z3 : w2.heap.size ≤ w3.heap.size := b3.size
    have n2' : w.heap.size < w2.heap.size := Nat.lt_of_lt_of_le n1 z2
    obtain ⟨d0, d1, d2, f1, n9⟩ := boxc3 (boxc_keep (boxc_keep K2.out b2') b3)
    go_wp2_with fail
    refine hK.out _ _ ?_ (fun hHeld3 => ?_)
    · exact ⟨(b3.cell (p := ⟨w.heap.size, 0, none⟩) n2').trans hHeld2.1, (b3.cell (p := ⟨w.heap.size, 1, none⟩) n2').trans hHeld2.2.1, (b3.cell (p := ⟨w.heap.size, 2, none⟩) n2').trans hHeld2.2.2⟩
    clear hK K
    refine wpAnyH_take (i := 15) (v := .agg #[.bool false, .slice r2 X.length c2, .slice r3 Y.length c3]) rfl (by kernel_rfl) (by kernel_rfl) (by kernel_rfl) (fun _ _ _ h => h) (Or.inl ⟨by rfl, ?_⟩) (by assumption) ?_
    · intro wz hSw
      go_simp
    refine wpAnyH_ready (rs := [16]) (by kernel_rfl) (by simp) ?_
    refine AllReadyH.cons rfl (fun K hK => ?_) AllReadyH.nil
    go_simp
    refine hK.out _ _ ?_ (fun hHeld4 => ?_)
    · exact ⟨keep_set3 hHeld3.1 (by omega) _ _ _, keep_set3 hHeld3.2.1 (by omega) _ _ _, keep_set3 hHeld3.2.2 (by omega) _ _ _⟩
    clear hK K
    refine wpAnyH_done (by kernel_rfl) ?_ _
    go_wp2
    have hg := gr_set3 w3 (w.heap.size + 1) (.bool false) (.slice r2 X.length c2) (.slice r3 Y.length c3)
    have oX := own_far ((o2.keep b3).mono (base' := w0.heap.size) (Nat.le_refl _)) hg n2
    have oY := own_far o3 hg (by omega)
    have hB : Below w.heap.size w _ := below_set3 ((HB.out.trans (b2'.mono (by exact HB.out.size))).trans (b3.mono (by have := HB.out.size; omega))) (Nat.le_succ w.heap.size) (.bool false) (.slice r2 X.length c2) (.slice r3 Y.length c3)
    refine ⟨rfl, .agg #[.bool false, .slice r2 X.length c2, .slice r3 Y.length c3], ?_, r2, c2, r3, c3, rfl, oX.mono (by have := HB.out.size; omega), oY.mono (by have := HB.out.size; omega), hB⟩
    clear hg oX oY hB o2 o3
    simp [results, Tryz.f54, go_sem, d0, d1, d2]
  | false =>
    have e : N = decide (0 < X.length) := by rw [hN]; simp [negB]
    subst e
    clear hN
    go_enter Tryz.func54, Tryz.ntmps54
    go_wp2_with fail
    rw [← hw0]
    clear hw0
    go_region_held3 (fun w' => w'.cell? ⟨w.heap.size, 0, none⟩ = some (.bool false) ∧ w'.cell? ⟨w.heap.size, 1, none⟩ = some (.slice r X.length cr) ∧ w'.cell? ⟨w.heap.size, 2, none⟩ = some (.slice s Y.length cs))
      (first
        | (with_reducible exact ⟨p0d, p1d, p2d⟩)
        | (go_split_ands; refine ⟨?_, ?_, ?_⟩ <;> first
          | (with_reducible exact keep_set3 (by assumption) (by omega) _ _ _)
          | (rw [b3.cell (by simp; omega)]; with_reducible assumption)
          | (rw [b2.cell (by simp; omega)]; with_reducible assumption)))
      (first
        | (go_at_call_of 51 (Value.slice r X.length cr); refine Calls.mono (C1.out w0.drew (by exact X0.out)) ?_; rintro e w2 ⟨r2, c2, rfl, o2, b2⟩; have z2 : w0.heap.size ≤ w2.heap.size := b2.size; have b2' := below_un2 b2)
        | (go_at_call_of 51 (Value.slice s Y.length cs); refine Calls.mono (C2.out _ (by exact Sl.keep Y0.out b2')) ?_; rintro e w3 ⟨r3, c3, rfl, o3, b3⟩; have z3 : w2.heap.size ≤ w3.heap.size := b3.size; obtain ⟨d0, d1, d2, f1, n1⟩ := boxc3 (boxc_keep (boxc_keep K2.out b2') b3)))
    go_wp2
    have hg := gr_set3 w3 (w.heap.size + 1) (.bool (decide (0 < X.length))) (.slice r2 X.length c2) (.slice r3 Y.length c3)
    have oX := own_far ((o2.keep b3).mono (base' := w0.heap.size) (Nat.le_refl _)) hg n2
    have oY := own_far o3 hg (by omega)
    have hB : Below w.heap.size w _ := below_set3 ((HB.out.trans (b2'.mono (by exact HB.out.size))).trans (b3.mono (by have := HB.out.size; omega))) (Nat.le_succ w.heap.size) (.bool (decide (0 < X.length))) (.slice r2 X.length c2) (.slice r3 Y.length c3)
    refine ⟨rfl, .agg #[.bool (decide (0 < X.length)), .slice r2 X.length c2, .slice r3 Y.length c3], ?_, r2, c2, r3, c3, rfl, oX.mono (by have := HB.out.size; omega), oY.mono (by have := HB.out.size; omega), hB⟩
    clear hg oX oY hB o2 o3
    simp [results, Tryz.f54, go_sem, d0, d1, d2]
end Go.Proofs.YthokphoojmpajaaGreatDoor
