/- The contracts of impl.FracAbs and spec.FracAbs. -/
import Derived.Test.YthokphoojmpajafDoorGFr8
import Derived.Test.YthokphoojmpajafDoorGSp
import Derived.Test.YthokphoojmpajafDoorTrimD
namespace Go.Proofs.YthokphoojmpajafDoor
open Go.RowKit Go.Proofs.Pin

def absA (_ : Bool) (x y : Nat) : FAns := ⟨false, dgs x, dgs y, true⟩

theorem absA_len (b : Bool) (X Y : List Int) : (op1A absA b X Y).X.length ≤ 256 ∧ (op1A absA b X Y).Y.length ≤ 256 := by
  cases h : fokB b X Y with
  | false => rw [op1A_no h]; exact ⟨Nat.zero_le _, Nat.zero_le _⟩
  | true =>
    obtain ⟨x, y, rfl, rfl, lx, ly, _⟩ := fok_parts h
    rw [op1A_yes h]
    exact ⟨lx, ly⟩

set_option maxRecDepth 20000 in
set_option maxHeartbeats 1000000 in
theorem implAbs_any (b : Bool) (r s : Option Addr) (cr cs : Nat) (X Y : List Int) (w : World) (hh : Hdl w) (hX : Sl w r X) (hY : Sl w s Y) (lX : X.length ≤ 1048576) (lY : Y.length ≤ 1048576) (cX : X.length ≤ cr) (cY : Y.length ≤ cs) :
    Calls Tryd.prog 20 #[fracV b r X.length cr s Y.length cs] w fun e w' => RetF w e w' (op1A absA b X Y) := by
  obtain ⟨w0, hw0⟩ : ∃ w0, w0 = (w.alloc (.cells #[.bool b, .slice r X.length cr, .slice s Y.length cs] 27)).alloc (.cells #[.bool false, .slice none 0 0, .slice none 0 0] 27) := ⟨_, rfl⟩
  have B0 : Below w.heap.size w w0 := by rw [hw0]; exact ((Below.refl _ w).alloc (Nat.le_refl _) _).alloc (by simp) _
  have k2 : BoxC w0 (w.heap.size + 1) 27 #[.bool false, .slice none 0 0, .slice none 0 0] := by
    rw [hw0]
    have h := boxc_new (w.alloc (.cells #[.bool b, .slice r X.length cr, .slice s Y.length cs] 27)) 27 #[.bool false, .slice none 0 0, .slice none 0 0]
    rw [World.size_alloc] at h
    exact h
  cases h : fokB b X Y with
  | false =>
    rw [op1A_no h]
    have C1 : Hid _ := taken_no b r s cr cs X Y w0 (hX.keep B0) (hY.keep B0) lX lY cX cY h
    have C2 : Hid (∀ W t, Hdl W → Calls Tryd.prog 35 #[frV none 0 0 none 0 0 false, flt t] W fun e w' => e = .returned (.tuple #[fracV false none 0 0 none 0 0, .bool false]) ∧ Below W.heap.size W w') := fun W t h => told_err _ t none none 0 0 0 0 false W h rfl
    unfold fracV fr0 flt at C1
    unfold flt fracV at C2
    unfold frV at C1 C2
    unfold fracV
    clear h lX lY cX cY hX hY
    go_enter Tryd.func20, Tryd.ntmps20
    go_wp2_with fail
    rw [← hw0]
    refine Calls.mono C1.out ?_
    rintro e w1 ⟨⟨t, rfl⟩, b1⟩
    have k21 := boxc_keep k2 b1
    have B1 := B0.trans (b1.mono B0.size)
    have B2 : Below w.heap.size w (w1.alloc (.cells #[.slice none 0 0, .slice none 0 0, .bool false] 47)) := B1.alloc B1.size _
    have h2 := hh.keep B2 hh.pos
    have k22 := boxc_alloc k21 (.cells #[.slice none 0 0, .slice none 0 0, .bool false] 47)
    clear hw0 b1 B0 k2 C1
    go_wp2_with fail
    refine Calls.mono (C2.out _ t h2) ?_
    rintro e w2 ⟨rfl, b2⟩
    obtain ⟨d0, d1, d2, df, dn⟩ := boxc3 (boxc_keep k22 b2)
    have HB : Hid (Below w.heap.size w w2) := B2.trans (b2.mono B2.size)
    clear C2 h2 b2 B1 B2 k21 k22 hh
    go_wp2
    refine ⟨rfl, .tuple #[.agg #[.bool false, .slice none 0 0, .slice none 0 0], .bool false], ?_, retF_no (below_set3 HB.out (by omega) _ _ _)⟩
    simp [results, Tryd.f20, go_sem, d0, d1, d2]
  | true =>
    have C1 : Hid _ := taken_yes b r s cr cs X Y w0 (hX.keep B0) (hY.keep B0) lX lY cX cY h
    have C2 : Hid (∀ W, Sl W r X → Sl W s Y → Calls Tryd.prog 35 #[frV r X.length cr s Y.length cs false, .nilIface] W fun e w' => ∃ r' cr' s' cs', e = .returned (.tuple #[fracV false r' X.length cr' s' Y.length cs', .bool true]) ∧ OwnI w' W.heap.size r' cr' X ∧ OwnI w' W.heap.size s' cs' Y ∧ Ap r' s' ∧ Below W.heap.size W w') := fun W h1 h2 => told_ok _ r s cr cs X Y false W h1 h2 lX lY rfl
    have hA : op1A absA b X Y = ⟨false, X, Y, true⟩ := by
      obtain ⟨x, y, rfl, rfl, _⟩ := fok_parts h
      rw [op1A_yes h]; rfl
    rw [hA]
    unfold fracV frV at C1 C2
    unfold fracV
    clear h lX lY cX cY hA hh
    go_enter Tryd.func20, Tryd.ntmps20
    go_wp2_with fail
    rw [← hw0]
    refine Calls.mono C1.out ?_
    rintro e w1 ⟨rfl, b1⟩
    have k21 := boxc_keep k2 b1
    have B1 := B0.trans (b1.mono B0.size)
    have B2 : Below w.heap.size w (w1.alloc (.cells #[.slice r X.length cr, .slice s Y.length cs, .bool b] 47)) := B1.alloc B1.size _
    have k22 := boxc_alloc k21 (.cells #[.slice r X.length cr, .slice s Y.length cs, .bool b] 47)
    clear hw0 b1 B0 k2 C1
    go_wp2_with fail
    refine Calls.mono (C2.out _ (hX.keep B2) (hY.keep B2)) ?_
    rintro e w2 ⟨r2, c2, s2, e2, rfl, o2, p2, ap2, b2⟩
    obtain ⟨d0, d1, d2, df, dn⟩ := boxc3 (boxc_keep k22 b2)
    have H : Hid (RetF w _ _ ⟨false, X, Y, true⟩) := retF_fin (A := ⟨false, X, Y, true⟩) o2 p2 ap2 (B2.trans (b2.mono B2.size)) (Nat.le_succ w.heap.size) (boxc_lt k22) (.bool false) (.slice r2 X.length c2) (.slice s2 Y.length e2)
    clear C2 b2 B1 B2 k21 k22 o2 p2 ap2 hX hY
    unfold fracV at H
    go_wp2
    refine ⟨rfl, .tuple #[.agg #[.bool false, .slice r2 X.length c2, .slice s2 Y.length e2], .bool true], ?_, H.out⟩
    simp [results, Tryd.f20, go_sem, d0, d1, d2]

set_option maxRecDepth 20000 in
set_option maxHeartbeats 1000000 in
theorem specAbs_any (b : Bool) (r s : Option Addr) (cr cs : Nat) (X Y : List Int) (w : World) (hX : Sl w r X) (hY : Sl w s Y) (lX : X.length ≤ 1048576) (lY : Y.length ≤ 1048576) :
    Calls Tryd.prog 19 #[fracV b r X.length cr s Y.length cs] w fun e w' => RetS w e w' (op1A absA b X Y) := by
  obtain ⟨w0, hw0⟩ : ∃ w0, w0 = (w.alloc (.cells #[.bool b, .slice r X.length cr, .slice s Y.length cs] 27)).alloc (.cells #[.bool false, .slice none 0 0, .slice none 0 0] 27) := ⟨_, rfl⟩
  have B0 : Below w.heap.size w w0 := by rw [hw0]; exact ((Below.refl _ w).alloc (Nat.le_refl _) _).alloc (by simp) _
  have k1 : BoxC w0 w.heap.size 27 #[.bool b, .slice r X.length cr, .slice s Y.length cs] := by rw [hw0]; exact boxc_alloc (boxc_new _ _ _) _
  have k2 : BoxC w0 (w.heap.size + 1) 27 #[.bool false, .slice none 0 0, .slice none 0 0] := by
    rw [hw0]
    have h := boxc_new (w.alloc (.cells #[.bool b, .slice r X.length cr, .slice s Y.length cs] 27)) 27 #[.bool false, .slice none 0 0, .slice none 0 0]
    rw [World.size_alloc] at h
    exact h
  have C1 : Hid _ := specFok_any b r s cr cs X Y w0 (hX.keep B0) (hY.keep B0) lX lY
  cases h : fokB b X Y with
  | false =>
    rw [op1A_no h]
    rw [h] at C1
    unfold fracV at C1 ⊢
    clear h lX lY hX hY
    go_enter Tryd.func19, Tryd.ntmps19
    go_wp2_with fail
    rw [← hw0]
    refine Calls.mono C1.out ?_
    rintro e w1 ⟨rfl, b1⟩
    obtain ⟨d0, d1, d2, df, dn⟩ := boxc3 (boxc_keep k2 b1)
    have HB : Hid (Below w.heap.size w w1) := B0.trans (b1.mono B0.size)
    clear hw0 b1 B0 k1 k2 C1
    go_wp2
    refine ⟨rfl, .tuple #[.agg #[.bool false, .slice none 0 0, .slice none 0 0], .bool false], ?_, retS_no (below_set3 HB.out (by omega) _ _ _)⟩
    simp [results, Tryd.f19, go_sem, d0, d1, d2]
  | true =>
    rw [h] at C1
    obtain ⟨x, y, rfl, rfl, lx, ly, _⟩ := fok_parts h
    rw [op1A_yes h]
    unfold absA
    have CX : Hid (∀ W, Sl W r (dgs x) → Calls Tryd.prog 38 #[.slice r (dgs x).length cr] W fun e w' => ∃ a c, e = .returned (.slice a (dgs x).length c) ∧ OwnI w' W.heap.size a c (dgs x) ∧ Below W.heap.size W w') := fun W h => l1Trim_dgs r cr x W h (by omega)
    have CY : Hid (∀ W, Sl W s (dgs y) → Calls Tryd.prog 38 #[.slice s (dgs y).length cs] W fun e w' => ∃ a c, e = .returned (.slice a (dgs y).length c) ∧ OwnI w' W.heap.size a c (dgs y) ∧ Below W.heap.size W w') := fun W h => l1Trim_dgs s cs y W h (by omega)
    obtain ⟨X, hXe⟩ : ∃ X, X = dgs x := ⟨_, rfl⟩
    obtain ⟨Y, hYe⟩ : ∃ Y, Y = dgs y := ⟨_, rfl⟩
    rw [← hXe] at CX hX
    rw [← hYe] at CY hY
    rw [← hXe, ← hYe] at C1 hw0 k1
    rw [← hXe, ← hYe]
    clear hXe hYe lx ly lX lY h
    unfold fracV at C1 ⊢
    go_enter Tryd.func19, Tryd.ntmps19
    go_wp2_with fail
    rw [← hw0]
    refine Calls.mono C1.out ?_
    rintro e w1 ⟨rfl, b1⟩
    have k11 := boxc_keep k1 b1
    have K2 : Hid (BoxC w1 (w.heap.size + 1) 27 #[.bool false, .slice none 0 0, .slice none 0 0]) := boxc_keep k2 b1
    have HB : Hid (Below w.heap.size w w1) := B0.trans (b1.mono B0.size)
    have X0 : Hid (Sl w1 r X) := hX.keep HB.out
    have Y0 : Hid (Sl w1 s Y) := hY.keep HB.out
    have n2 := boxc_lt K2.out
    obtain ⟨p0, p1, p2, _, n1⟩ := boxc3 k11
    have p1d : w1.drew.cell? ⟨w.heap.size, 1, none⟩ = some (.slice r X.length cr) := p1
    have p2d : w1.drew.cell? ⟨w.heap.size, 2, none⟩ = some (.slice s Y.length cs) := p2
    clear hw0 b1 B0 k1 k2 C1 hX hY k11 p0 p1 p2
    go_wp2_with fail
    go_region_held3 (fun w' => w'.cell? ⟨w.heap.size, 1, none⟩ = some (.slice r X.length cr) ∧ w'.cell? ⟨w.heap.size, 2, none⟩ = some (.slice s Y.length cs))
      (first
        | (with_reducible exact ⟨p1d, p2d⟩)
        | (go_split_ands; refine ⟨?_, ?_⟩ <;> first
          | (with_reducible exact keep_set3 (by assumption) (by omega) _ _ _)
          | (rw [b3.cell (by simp; omega)]; with_reducible assumption)
          | (rw [b2.cell (by simp; omega)]; with_reducible assumption)))
      (first
        | (go_at_call_of 38 (Value.slice r X.length cr); refine Calls.mono (CX.out w1.drew (by exact X0.out)) ?_; rintro e w2 ⟨r2, c2, rfl, o2, b2⟩; have z2 : w1.heap.size ≤ w2.heap.size := b2.size; have b2' := below_un2 b2)
        | (go_at_call_of 38 (Value.slice s Y.length cs); refine Calls.mono (CY.out _ (by exact Sl.keep Y0.out b2')) ?_; rintro e w3 ⟨r3, c3, rfl, o3, b3⟩; have z3 : w2.heap.size ≤ w3.heap.size := b3.size; obtain ⟨d0, d1, d2, f1, n9⟩ := boxc3 (boxc_keep (boxc_keep K2.out b2') b3)))
    have H : Hid (RetS w _ _ ⟨false, X, Y, true⟩) := retS_fin (A := ⟨false, X, Y, true⟩) (o2.keep b3) o3 ((HB.out.trans (b2'.mono (by exact HB.out.size))).trans (b3.mono (by have := HB.out.size; omega))) (Nat.le_succ w.heap.size) (by exact n2) (by omega) (.bool false) (.slice r2 X.length c2) (.slice r3 Y.length c3)
    unfold fracV at H
    go_wp2
    refine ⟨rfl, .tuple #[.agg #[.bool false, .slice r2 X.length c2, .slice r3 Y.length c3], .bool true], ?_, H.out⟩
    simp [results, Tryd.f19, go_sem, d0, d1, d2]
end Go.Proofs.YthokphoojmpajafDoor
