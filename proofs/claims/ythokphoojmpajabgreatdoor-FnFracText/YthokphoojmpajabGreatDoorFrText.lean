/- The contracts of impl.FracText and spec.FracText. -/
import Derived.Test.YthokphoojmpajabGreatDoorGFr8
import Derived.Test.YthokphoojmpajabGreatDoorGDT
import Derived.Test.YthokphoojmpajabGreatDoorGTxt
namespace Go.Proofs.YthokphoojmpajabGreatDoor
open Go.RowKit Go.Proofs.Pin

/-- A fraction's text, of its sign, its numbers' texts, and whether its bottom is 1. -/
def ftxt (b o : Bool) (t u : ByteArray) : ByteArray := match b, o with
  | false, true => t
  | true, true => ⟨#[45]⟩ ++ t
  | false, false => t ++ (⟨#[47]⟩ ++ u)
  | true, false => (⟨#[45]⟩ ++ t) ++ (⟨#[47]⟩ ++ u)
/-- The same, as the specification puts it together. -/
def ftxt2 (b o : Bool) (t u : ByteArray) : ByteArray := match b, o with
  | false, true => t
  | true, true => ⟨#[45]⟩ ++ t
  | false, false => t ++ ⟨#[47]⟩ ++ u
  | true, false => ⟨#[45]⟩ ++ t ++ ⟨#[47]⟩ ++ u
theorem ftxt_spec (b o : Bool) (t u : ByteArray) : ftxt b o t u = ftxt2 b o t u := by
  cases b <;> cases o
  · exact (ByteArray.append_assoc).symm
  · rfl
  · exact (ByteArray.append_assoc).symm
  · rfl
/-- What FracText answers. -/
def ftA (b : Bool) (X Y : List Int) : ByteArray := if fokB b X Y = true then ftxt b (decide (Y = [1])) (txt (val X).toNat) (txt (val Y).toNat) else ⟨#[]⟩
theorem ftA_no {b : Bool} {X Y : List Int} (h : fokB b X Y = false) : ftA b X Y = ⟨#[]⟩ := by simp [ftA, h]
theorem ftA_yes {b : Bool} {x y : Nat} (h : fokB b (dgs x) (dgs y) = true) : ftA b (dgs x) (dgs y) = ftxt b (decide (dgs y = [1])) (txt x) (txt y) := by
  unfold ftA
  rw [if_pos h, val_dgs, val_dgs, Int.toNat_natCast, Int.toNat_natCast]

set_option maxRecDepth 20000 in
set_option maxHeartbeats 1000000 in
theorem frText_any (r s : Option Addr) (cr cs x y : Nat) (b : Bool) (w : World) (hx : Sl w r (dgs x)) (hy : Sl w s (dgs y)) (lx : (dgs x).length ≤ 256) (ly : (dgs y).length ≤ 256) :
    Calls Tryz.prog 43 #[frV r (dgs x).length cr s (dgs y).length cs b] w fun e w' => e = .returned (.string (ftxt b (decide (dgs y = [1])) (txt x) (txt y))) ∧ Below w.heap.size w w' := by
  obtain ⟨w0, hw0⟩ : ∃ w0, w0 = w.alloc (.cells #[.slice r (dgs x).length cr, .slice s (dgs y).length cs, .bool b] 48) := ⟨_, rfl⟩
  have B0 : Below w.heap.size w w0 := by rw [hw0]; exact (Below.refl _ w).alloc (Nat.le_refl _) _
  have k0 : BoxC w0 w.heap.size 48 #[.slice r (dgs x).length cr, .slice s (dgs y).length cs, .bool b] := by rw [hw0]; exact boxc_new _ _ _
  have lT := txt_len lx
  have lU := txt_len ly
  have CT : Hid (∀ W, Sl W r (dgs x) → Calls Tryz.prog 65 #[.slice r (dgs x).length cr] W fun e w' => e = .returned (.string (txt x)) ∧ Below W.heap.size W w') := fun W h => dText_any r cr x W h (by omega)
  have CU : Hid (∀ W, Sl W s (dgs y) → Calls Tryz.prog 65 #[.slice s (dgs y).length cs] W fun e w' => e = .returned (.string (txt y)) ∧ Below W.heap.size W w') := fun W h => dText_any s cs y W h (by omega)
  have CO : Hid (∀ W, Sl W s (dgs y) → Calls Tryz.prog 66 #[.slice s (dgs y).length cs] W fun e w' => e = .returned (.bool (decide (dgs y = [1]))) ∧ W = w') := fun W h => (implOne_any s cs _ W h).mono fun e w'' h => ⟨h.1, h.2.symm⟩
  have x0 := hx.keep B0
  have y0 := hy.keep B0
  obtain ⟨o, ho⟩ : ∃ o, o = decide (dgs y = [1]) := ⟨_, rfl⟩
  obtain ⟨X, hX⟩ : ∃ X, X = dgs x := ⟨_, rfl⟩
  obtain ⟨Y, hY⟩ : ∃ Y, Y = dgs y := ⟨_, rfl⟩
  obtain ⟨T, hT⟩ : ∃ T, T = txt x := ⟨_, rfl⟩
  obtain ⟨U, hU⟩ : ∃ U, U = txt y := ⟨_, rfl⟩
  rw [← ho] at CO ⊢
  rw [← hX, ← hT] at CT
  rw [← hY, ← hU] at CU
  rw [← hY] at CO y0
  rw [← hX] at x0
  rw [← hX, ← hY] at hw0 k0
  rw [← hX, ← hY, ← hT, ← hU]
  rw [← hT] at lT
  rw [← hU] at lU
  unfold frV
  clear ho hX hY hT hU lx ly hx hy
  cases b <;> cases o
  all_goals
    go_enter Tryz.func43, Tryz.ntmps43
    go_wp2_with fail
    rw [← hw0]
    refine Calls.mono (CT.out _ x0) ?_
    rintro e w1 ⟨rfl, b1⟩
    obtain ⟨c0, c1, c2, _, _⟩ := boxc3 (boxc_keep k0 b1)
    have k1 := boxc_keep k0 b1
    have y1 := y0.keep b1
    have B1 := B0.trans (b1.mono B0.size)
    clear hw0 b1 B0 k0 CT x0 y0
    go_wp2_with fail
    refine Calls.mono (CO.out _ y1) ?_
    rintro e w' ⟨rfl, rfl⟩
    clear CO
    go_wp2_with fail
    try (refine Calls.mono (CU.out _ y1) ?_; rintro e w2 ⟨rfl, b2⟩; have B2 := B1.trans (b2.mono B1.size); clear c0 c1 c2 k1 b2 y1 CU; go_wp2)
    go_ret
    first | exact ⟨rfl, B2⟩ | exact ⟨rfl, B1⟩

set_option maxRecDepth 20000 in
set_option maxHeartbeats 1000000 in
theorem implFText_any (b : Bool) (r s : Option Addr) (cr cs : Nat) (X Y : List Int) (w : World) (hh : Hdl w) (hX : Sl w r X) (hY : Sl w s Y) (lX : X.length ≤ 1048576) (lY : Y.length ≤ 1048576) (cX : X.length ≤ cr) (cY : Y.length ≤ cs) :
    Calls Tryz.prog 19 #[fracV b r X.length cr s Y.length cs] w fun e w' => e = .returned (.string (ftA b X Y)) ∧ Below w.heap.size w w' := by
  obtain ⟨w0, hw0⟩ : ∃ w0, w0 = w.alloc (.cells #[.bool b, .slice r X.length cr, .slice s Y.length cs] 25) := ⟨_, rfl⟩
  have B0 : Below w.heap.size w w0 := by rw [hw0]; exact (Below.refl _ w).alloc (Nat.le_refl _) _
  cases h : fokB b X Y with
  | false =>
    rw [ftA_no h]
    have C1 : Hid _ := taken_no b r s cr cs X Y w0 (hX.keep B0) (hY.keep B0) lX lY cX cY h
    have CF : Hid (∀ t W, Hdl W → Calls Tryz.prog 28 #[flt t] W fun e w' => e = .returned (.bool true) ∧ Below W.heap.size W w') := fun t W h => isFault_hit t W h
    unfold fracV fr0 flt at C1
    unfold flt at CF
    unfold frV at C1
    unfold fracV
    clear h lX lY cX cY hX hY
    go_enter Tryz.func19, Tryz.ntmps19
    go_wp2_with fail
    rw [← hw0]
    refine Calls.mono C1.out ?_
    rintro e w1 ⟨⟨t, rfl⟩, b1⟩
    have B1 := B0.trans (b1.mono B0.size)
    have B2 : Below w.heap.size w (w1.alloc (.cells #[.slice none 0 0, .slice none 0 0, .bool false] 48)) := B1.alloc B1.size _
    have h2 := hh.keep B2 hh.pos
    clear hw0 b1 B0 C1
    go_wp2_with fail
    refine Calls.mono (CF.out t _ h2) ?_
    rintro e w2 ⟨rfl, b2⟩
    have HB : Hid (Below w.heap.size w w2) := B2.trans (b2.mono B2.size)
    clear CF h2 b2 B1 B2 hh
    go_wp2
    go_ret
    exact ⟨rfl, HB.out⟩
  | true =>
    obtain ⟨x, y, rfl, rfl, lx, ly, _⟩ := fok_parts h
    rw [ftA_yes h]
    have C1 : Hid _ := taken_yes b r s cr cs (dgs x) (dgs y) w0 (hX.keep B0) (hY.keep B0) lX lY cX cY h
    have CF : Hid (∀ W, Calls Tryz.prog 28 #[.nilIface] W fun e w' => e = .returned (.bool false) ∧ Below W.heap.size W w') := fun W => isFault_nil W
    have CG : Hid (∀ W, Sl W r (dgs x) → Sl W s (dgs y) → Calls Tryz.prog 43 #[frV r (dgs x).length cr s (dgs y).length cs b] W fun e w' => e = .returned (.string (ftxt b (decide (dgs y = [1])) (txt x) (txt y))) ∧ Below W.heap.size W w') := fun W h1 h2 => frText_any r s cr cs x y b W h1 h2 lx ly
    obtain ⟨z, hz⟩ : ∃ z, z = ftxt b (decide (dgs y = [1])) (txt x) (txt y) := ⟨_, rfl⟩
    rw [← hz] at CG ⊢
    obtain ⟨X, hXe⟩ : ∃ X, X = dgs x := ⟨_, rfl⟩
    obtain ⟨Y, hYe⟩ : ∃ Y, Y = dgs y := ⟨_, rfl⟩
    rw [← hXe, ← hYe] at C1 CG hw0
    rw [← hXe] at hX
    rw [← hYe] at hY
    rw [← hXe, ← hYe]
    unfold fracV frV at C1
    unfold frV at CG
    unfold fracV
    clear h lX lY cX cY hz hh hXe hYe lx ly
    go_enter Tryz.func19, Tryz.ntmps19
    go_wp2_with fail
    rw [← hw0]
    refine Calls.mono C1.out ?_
    rintro e w1 ⟨rfl, b1⟩
    have B1 := B0.trans (b1.mono B0.size)
    have B2 : Below w.heap.size w (w1.alloc (.cells #[.slice r X.length cr, .slice s Y.length cs, .bool b] 48)) := B1.alloc B1.size _
    have k2 := boxc_new w1 48 #[.slice r X.length cr, .slice s Y.length cs, .bool b]
    clear hw0 b1 B0 C1
    go_wp2_with fail
    refine Calls.mono (CF.out _) ?_
    rintro e w2 ⟨rfl, b2⟩
    obtain ⟨c0, c1, c2, _, _⟩ := boxc3 (boxc_keep k2 b2)
    have B3 : Below w.heap.size w w2 := B2.trans (b2.mono B2.size)
    clear CF b2 B1 B2 k2
    go_wp2_with fail
    refine Calls.mono (CG.out _ (hX.keep B3) (hY.keep B3)) ?_
    rintro e w3 ⟨rfl, b3⟩
    have HB : Hid (Below w.heap.size w w3) := B3.trans (b3.mono B3.size)
    clear CG b3 B3 c0 c1 c2
    go_wp2
    go_ret
    exact ⟨rfl, HB.out⟩

set_option maxRecDepth 20000 in
set_option maxHeartbeats 1000000 in
theorem specFText_any (b : Bool) (r s : Option Addr) (cr cs : Nat) (X Y : List Int) (w : World) (hX : Sl w r X) (hY : Sl w s Y) (lX : X.length ≤ 1048576) (lY : Y.length ≤ 1048576) :
    Calls Tryz.prog 45 #[fracV b r X.length cr s Y.length cs] w fun e w' => e = .returned (.string (ftA b X Y)) ∧ Below w.heap.size w w' := by
  obtain ⟨w0, hw0⟩ : ∃ w0, w0 = w.alloc (.cells #[.bool b, .slice r X.length cr, .slice s Y.length cs] 25) := ⟨_, rfl⟩
  have B0 : Below w.heap.size w w0 := by rw [hw0]; exact (Below.refl _ w).alloc (Nat.le_refl _) _
  have k0 : BoxC w0 w.heap.size 25 #[.bool b, .slice r X.length cr, .slice s Y.length cs] := by rw [hw0]; exact boxc_new _ _ _
  have C1 : Hid _ := specFok_any b r s cr cs X Y w0 (hX.keep B0) (hY.keep B0) lX lY
  cases h : fokB b X Y with
  | false =>
    rw [ftA_no h]
    rw [h] at C1
    unfold fracV at C1 ⊢
    clear h lX lY hX hY
    go_enter Tryz.func45, Tryz.ntmps45
    go_wp2_with fail
    rw [← hw0]
    refine Calls.mono C1.out ?_
    rintro e w1 ⟨rfl, b1⟩
    have HB : Hid (Below w.heap.size w w1) := B0.trans (b1.mono B0.size)
    clear hw0 b1 B0 k0 C1
    go_wp2
    go_ret
    exact ⟨rfl, HB.out⟩
  | true =>
    obtain ⟨x, y, rfl, rfl, lx, ly, _⟩ := fok_parts h
    rw [ftA_yes h]
    rw [h] at C1
    have lT := txt_len lx
    have lU := txt_len ly
    have CT : Hid (∀ W, Sl W r (dgs x) → Calls Tryz.prog 70 #[.slice r (dgs x).length cr] W fun e w' => e = .returned (.string (txt x)) ∧ Below W.heap.size W w') := fun W h => by
      have h1 := specText_any r cr (dgs x) W h lX
      rw [textA_yes lx] at h1
      exact h1
    have CU : Hid (∀ W, Sl W s (dgs y) → Calls Tryz.prog 70 #[.slice s (dgs y).length cs] W fun e w' => e = .returned (.string (txt y)) ∧ Below W.heap.size W w') := fun W h => by
      have h1 := specText_any s cs (dgs y) W h lY
      rw [textA_yes ly] at h1
      exact h1
    have CO : Hid (∀ W, Sl W s (dgs y) → Calls Tryz.prog 38 #[.slice s (dgs y).length cs] W fun e w' => e = .returned (.bool (decide (dgs y = [1]))) ∧ W = w') := fun W h => (specOne_any s cs _ W h).mono fun e w'' h => ⟨h.1, h.2.symm⟩
    rw [ftxt_spec]
    obtain ⟨o, ho⟩ : ∃ o, o = decide (dgs y = [1]) := ⟨_, rfl⟩
    obtain ⟨X, hXe⟩ : ∃ X, X = dgs x := ⟨_, rfl⟩
    obtain ⟨Y, hYe⟩ : ∃ Y, Y = dgs y := ⟨_, rfl⟩
    obtain ⟨T, hT⟩ : ∃ T, T = txt x := ⟨_, rfl⟩
    obtain ⟨U, hU⟩ : ∃ U, U = txt y := ⟨_, rfl⟩
    rw [← ho] at CO ⊢
    rw [← hXe, ← hT] at CT
    rw [← hYe, ← hU] at CU
    rw [← hYe] at CO hY
    rw [← hXe] at hX
    rw [← hXe, ← hYe] at hw0 k0 C1
    rw [← hXe, ← hYe, ← hT, ← hU]
    rw [← hT] at lT
    rw [← hU] at lU
    have x0 := hX.keep B0
    have y0 := hY.keep B0
    unfold fracV at C1 ⊢
    clear ho hXe hYe hT hU lx ly lX lY h hX hY
    cases b <;> cases o
    all_goals
      go_enter Tryz.func45, Tryz.ntmps45
      go_wp2_with fail
      rw [← hw0]
      refine Calls.mono C1.out ?_
      rintro e w1 ⟨rfl, b1⟩
      have k1 := boxc_keep k0 b1
      obtain ⟨c0, c1, c2, _, _⟩ := boxc3 k1
      have x1 := x0.keep b1
      have y1 := y0.keep b1
      have B1 := B0.trans (b1.mono B0.size)
      clear hw0 b1 B0 k0 C1 x0 y0
      go_wp2_with fail
      refine Calls.mono (CT.out _ x1) ?_
      rintro e w2 ⟨rfl, b2⟩
      have k2 := boxc_keep k1 b2
      have y2 := y1.keep b2
      have B2 := B1.trans (b2.mono B1.size)
      clear c0 c1 c2 k1 x1 y1 b2 B1 CT
      obtain ⟨c0, c1, c2, _, _⟩ := boxc3 k2
      go_wp2_with fail
      refine Calls.mono (CO.out _ y2) ?_
      rintro e w' ⟨rfl, rfl⟩
      clear CO
      go_wp2_with fail
      try (refine Calls.mono (CU.out _ y2) ?_; rintro e w3 ⟨rfl, b3⟩; have B3 := B2.trans (b3.mono B2.size); clear c0 c1 c2 k2 b3 y2 CU; go_wp2)
      go_ret
      first | exact ⟨rfl, B3⟩ | exact ⟨rfl, B2⟩
end Go.Proofs.YthokphoojmpajabGreatDoor
