/- The contracts of impl.FracOf and spec.FracOf. -/
import Derived.Test.YthokphoojmpajabGreatDoorGFr8
import Derived.Test.YthokphoojmpajabGreatDoorGSp
import Derived.Test.YthokphoojmpajabGreatDoorGMark
namespace Go.Proofs.YthokphoojmpajabGreatDoor
open Go.RowKit Go.Proofs.Pin

/-- A fraction brought to lowest terms, if its top and bottom are numbers and the bottom is not 0. -/
def ofA (b : Bool) (X Y : List Int) : FAns := if okB X = true ∧ okB Y = true ∧ Y ≠ [] then makeA b (val X).toNat (val Y).toNat else noA
theorem ofA_len (b : Bool) (X Y : List Int) : (ofA b X Y).X.length ≤ 256 ∧ (ofA b X Y).Y.length ≤ 256 := by
  unfold ofA
  split
  · exact makeA_len _ _ _
  · exact ⟨Nat.zero_le _, Nat.zero_le _⟩
theorem ofA_cases (b : Bool) (X Y : List Int) : (okB X = false ∧ ofA b X Y = noA) ∨ (okB X = true ∧ okB Y = false ∧ ofA b X Y = noA) ∨ (okB X = true ∧ okB Y = true ∧ ((Y.length : Int) == 0) = true ∧ ofA b X Y = noA) ∨ (okB X = true ∧ okB Y = true ∧ ((Y.length : Int) == 0) = false ∧ ∃ x y : Nat, X = dgs x ∧ Y = dgs y ∧ (dgs x).length ≤ 256 ∧ (dgs y).length ≤ 256 ∧ y ≠ 0 ∧ ofA b X Y = makeA b x y) := by
  cases h1 : okB X with
  | false => exact .inl ⟨rfl, by simp [ofA, h1]⟩
  | true =>
    cases h2 : okB Y with
    | false => exact .inr (.inl ⟨rfl, rfl, by simp [ofA, h2]⟩)
    | true =>
      by_cases h3 : Y = []
      · exact .inr (.inr (.inl ⟨rfl, rfl, by rw [h3]; rfl, by simp [ofA, h3]⟩))
      · obtain ⟨x, rfl, lx⟩ := ok_dgs h1
        obtain ⟨y, rfl, ly⟩ := ok_dgs h2
        refine .inr (.inr (.inr ⟨rfl, rfl, ?_, x, y, rfl, rfl, lx, ly, fun h => h3 ((dgs_nil_iff y).2 h), ?_⟩))
        · have := List.length_pos_iff.2 h3
          rw [beq_eq_false_iff_ne]
          omega
        · unfold ofA
          rw [if_pos ⟨h1, h2, h3⟩, val_dgs, val_dgs, Int.toNat_natCast, Int.toNat_natCast]

set_option maxRecDepth 20000 in
set_option maxHeartbeats 1000000 in
theorem specFOf_any (b : Bool) (r s : Option Addr) (cr cs : Nat) (X Y : List Int) (w : World) (hX : Sl w r X) (hY : Sl w s Y) (lX : X.length ≤ 1048576) (lY : Y.length ≤ 1048576) :
    Calls Tryz.prog 72 #[.bool b, .slice r X.length cr, .slice s Y.length cs] w fun e w' => RetS w e w' (ofA b X Y) := by
  obtain ⟨w0, hw0⟩ : ∃ w0, w0 = w.alloc (.cells #[.bool false, .slice none 0 0, .slice none 0 0] 25) := ⟨_, rfl⟩
  have B0 : Below w.heap.size w w0 := by rw [hw0]; exact (Below.refl _ w).alloc (Nat.le_refl _) _
  have k0 : BoxC w0 w.heap.size 25 #[.bool false, .slice none 0 0, .slice none 0 0] := by rw [hw0]; exact boxc_new _ _ _
  have C1 : Hid _ := (specOk_any r cr X w0 (hX.keep B0) lX).mono (R' := fun e w' => e = .returned (.bool (okB X)) ∧ w0 = w') fun e w' h => ⟨h.1, h.2.symm⟩
  have C2 : Hid _ := (specOk_any s cs Y w0 (hY.keep B0) lY).mono (R' := fun e w' => e = .returned (.bool (okB Y)) ∧ w0 = w') fun e w' h => ⟨h.1, h.2.symm⟩
  obtain ⟨d0, d1, d2, df, dn⟩ := boxc3 k0
  rcases ofA_cases b X Y with ⟨h1, e⟩ | ⟨h1, h2, e⟩ | ⟨h1, h2, h3, e⟩ | ⟨h1, h2, h3, x, y, hx, hy, lx, ly, hy0, e⟩
  · rw [e]
    rw [h1] at C1
    clear e h1 C2 lX lY hX hY
    go_enter Tryz.func72, Tryz.ntmps72
    go_wp2_with fail
    rw [← hw0]
    refine Calls.mono C1.out ?_
    rintro e w' ⟨rfl, rfl⟩
    clear hw0 C1
    go_wp2
    refine ⟨rfl, .tuple #[.agg #[.bool false, .slice none 0 0, .slice none 0 0], .bool false], ?_, retS_no (below_set3 B0 (Nat.le_refl _) _ _ _)⟩
    simp [results, Tryz.f72, go_sem, d0, d1, d2]
  · rw [e]
    rw [h1] at C1
    rw [h2] at C2
    clear e h1 h2 lX lY hX hY
    go_enter Tryz.func72, Tryz.ntmps72
    go_wp2_with fail
    rw [← hw0]
    refine Calls.mono C1.out ?_
    rintro e w' ⟨rfl, rfl⟩
    clear hw0 C1
    go_wp2_with fail
    refine Calls.mono C2.out ?_
    rintro e w' ⟨rfl, rfl⟩
    clear C2
    go_wp2
    refine ⟨rfl, .tuple #[.agg #[.bool false, .slice none 0 0, .slice none 0 0], .bool false], ?_, retS_no (below_set3 B0 (Nat.le_refl _) _ _ _)⟩
    simp [results, Tryz.f72, go_sem, d0, d1, d2]
  · rw [e]
    rw [h1] at C1
    rw [h2] at C2
    clear e h1 h2 lX lY hX hY
    go_enter Tryz.func72, Tryz.ntmps72
    go_wp2_with fail
    rw [← hw0]
    refine Calls.mono C1.out ?_
    rintro e w' ⟨rfl, rfl⟩
    clear hw0 C1
    go_wp2_with fail
    refine Calls.mono C2.out ?_
    rintro e w' ⟨rfl, rfl⟩
    clear C2
    go_wp2
    refine ⟨rfl, .tuple #[.agg #[.bool false, .slice none 0 0, .slice none 0 0], .bool false], ?_, retS_no (below_set3 B0 (Nat.le_refl _) _ _ _)⟩
    simp [results, Tryz.f72, go_sem, d0, d1, d2]
  · rw [e]
    rw [h1] at C1
    rw [h2] at C2
    subst hx
    subst hy
    have CM : Hid (∀ W, Sl W r (dgs x) → Sl W s (dgs y) → Calls Tryz.prog 49 #[.bool b, .slice r (dgs x).length cr, .slice s (dgs y).length cs] W fun e w' => RetS W e w' (makeA b x y)) := fun W h1 h2 => l2Make_any b r s cr cs x y W h1 h2 (by omega) (by omega) hy0
    obtain ⟨A, hA⟩ : ∃ A, A = makeA b x y := ⟨_, rfl⟩
    obtain ⟨X, hXe⟩ : ∃ X, X = dgs x := ⟨_, rfl⟩
    obtain ⟨Y, hYe⟩ : ∃ Y, Y = dgs y := ⟨_, rfl⟩
    rw [← hA, ← hXe, ← hYe] at CM
    rw [← hXe] at C1 hX
    rw [← hYe] at C2 hY h3
    rw [← hA, ← hXe, ← hYe]
    clear e h1 h2 lX lY hA hXe hYe lx ly hy0
    go_enter Tryz.func72, Tryz.ntmps72
    go_wp2_with fail
    rw [← hw0]
    refine Calls.mono C1.out ?_
    rintro e w' ⟨rfl, rfl⟩
    clear hw0 C1
    go_wp2_with fail
    refine Calls.mono C2.out ?_
    rintro e w' ⟨rfl, rfl⟩
    clear C2 d0 d1 d2 df
    go_wp2_with fail
    refine Calls.mono (CM.out _ (hX.keep B0) (hY.keep B0)) ?_
    rintro e w2 ⟨r5, c5, s5, e5, rfl, o5, p5, b2⟩
    obtain ⟨d0, d1, d2, df, dn2⟩ := boxc3 (boxc_keep k0 b2)
    have H : Hid (RetS w _ _ A) := retS_fin o5 p5 (B0.trans (b2.mono B0.size)) (Nat.le_refl w.heap.size) dn dn (.bool A.b) (.slice r5 A.X.length c5) (.slice s5 A.Y.length e5)
    clear CM b2 B0 k0 o5 p5 hX hY
    unfold fracV at H ⊢
    go_wp2
    refine ⟨rfl, .tuple #[.agg #[.bool A.b, .slice r5 A.X.length c5, .slice s5 A.Y.length e5], .bool A.ok], ?_, H.out⟩
    simp [results, Tryz.f72, go_sem, d0, d1, d2]
end Go.Proofs.YthokphoojmpajabGreatDoor
