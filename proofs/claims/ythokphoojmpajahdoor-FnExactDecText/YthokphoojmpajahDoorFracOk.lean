/- The contracts of spec.FracOk and impl.FracOk: a fraction in lowest terms. -/
import Derived.Test.YthokphoojmpajahDoorGMark
import Derived.Test.YthokphoojmpajahDoorGGcd
import Derived.Test.YthokphoojmpajahDoorFracLaw
namespace Go.Proofs.YthokphoojmpajahDoor
open Go.RowKit Go.Proofs.Pin

/-- What FracOk lets by. -/
def fokB (b : Bool) (X Y : List Int) : Bool := okB X && (okB Y && (decide (Y ≠ []) && (!(b && decide (X = [])) && decide (Nat.gcd (val X).toNat (val Y).toNat = 1))))
theorem fok_yes {b : Bool} {x y : Nat} (hx : (dgs x).length ≤ 256) (hy : (dgs y).length ≤ 256) (h0 : dgs y ≠ []) (h1 : (b && decide (dgs x = [])) = false) : fokB b (dgs x) (dgs y) = decide (Nat.gcd x y = 1) := by
  unfold fokB
  rw [dgs_ok hx, dgs_ok hy, h1, val_dgs, val_dgs, Int.toNat_natCast, Int.toNat_natCast]
  simp [h0]
theorem fok_no1 {b : Bool} {X Y : List Int} (h : okB X = false) : fokB b X Y = false := by simp [fokB, h]
theorem fok_no2 {b : Bool} {X Y : List Int} (h : okB Y = false) : fokB b X Y = false := by simp [fokB, h]
theorem fok_no3 {b : Bool} {X : List Int} : fokB b X [] = false := by simp [fokB]
theorem fok_no4 {Y : List Int} : fokB true [] Y = false := by simp [fokB]
theorem one_dgs (g : Nat) : decide (dgs g = [1]) = decide (g = 1) := by
  have d1 : dgs 1 = [1] := dgs_digit (by decide) (by decide)
  by_cases h : g = 1
  · subst h; simp [d1]
  · have : dgs g ≠ [1] := by
      intro e
      have hv := congrArg val e
      rw [val_dgs, ← d1, val_dgs] at hv
      omega
    simp [h, this]

set_option maxRecDepth 20000 in
theorem implOne_any (a : Option Addr) (cap : Nat) (zs : List Int) (w : World) (h : Sl w a zs) :
    Calls Tryd.prog 42 #[.slice a zs.length cap] w fun e w' => e = .returned (.bool (decide (zs = [1]))) ∧ w' = w := by
  by_cases h1 : zs.length = 1
  · obtain ⟨z, rfl⟩ := List.length_eq_one_iff.1 h1
    rcases h with h0 | ⟨b, off, rfl, hlt, hc⟩
    · cases h0
    · have hc0 := hc 0 (by simp)
      simp only [Nat.add_zero, List.getD_cons_zero] at hc0
      have e : decide ([z] = [1]) = (z == 1) := by by_cases hz : z = 1 <;> simp [hz]
      rw [e]
      clear hc h1 e
      go_enter Tryd.func42, Tryd.ntmps42
      go_wp2
      go_ret
      exact ⟨rfl, rfl⟩
  · have e : decide (zs = [1]) = false := by
      apply decide_eq_false
      intro h2
      rw [h2] at h1
      simp at h1
    rw [e]
    have e1 : ((zs.length : Int) == 1) = false := by rw [beq_eq_false_iff_ne]; omega
    clear h1 e h
    go_enter Tryd.func42, Tryd.ntmps42
    go_wp2
    go_ret
    exact ⟨rfl, rfl⟩

set_option maxRecDepth 20000 in
theorem specOne_any (a : Option Addr) (cap : Nat) (zs : List Int) (w : World) (h : Sl w a zs) :
    Calls Tryd.prog 20 #[.slice a zs.length cap] w fun e w' => e = .returned (.bool (decide (zs = [1]))) ∧ w' = w := by
  by_cases h1 : zs.length = 1
  · obtain ⟨z, rfl⟩ := List.length_eq_one_iff.1 h1
    rcases h with h0 | ⟨b, off, rfl, hlt, hc⟩
    · cases h0
    · have hc0 := hc 0 (by simp)
      simp only [Nat.add_zero, List.getD_cons_zero] at hc0
      have e : decide ([z] = [1]) = (z == 1) := by by_cases hz : z = 1 <;> simp [hz]
      rw [e]
      clear hc h1 e
      go_enter Tryd.func20, Tryd.ntmps20
      go_wp2
      go_ret
      exact ⟨rfl, rfl⟩
  · have e : decide (zs = [1]) = false := by
      apply decide_eq_false
      intro h2
      rw [h2] at h1
      simp at h1
    rw [e]
    have e1 : ((zs.length : Int) == 1) = false := by rw [beq_eq_false_iff_ne]; omega
    clear h1 e h
    go_enter Tryd.func20, Tryd.ntmps20
    go_wp2
    go_ret
    exact ⟨rfl, rfl⟩

set_option maxRecDepth 20000 in
set_option maxHeartbeats 1000000 in
theorem implFok_any (b : Bool) (r s : Option Addr) (cr cs : Nat) (X Y : List Int) (w : World) (hX : Sl w r X) (hY : Sl w s Y) (lX : X.length ≤ 1048576) (lY : Y.length ≤ 1048576) (cX : X.length ≤ cr) (cY : Y.length ≤ cs) :
    Calls Tryd.prog 39 #[fracV b r X.length cr s Y.length cs] w fun e w' => e = .returned (.bool (fokB b X Y)) ∧ Below w.heap.size w w' := by
  unfold fracV
  obtain ⟨w0, hw0⟩ : ∃ w0, w0 = w.alloc (.cells #[.bool b, .slice r X.length cr, .slice s Y.length cs] 27) := ⟨_, rfl⟩
  have B0 : Below w.heap.size w w0 := by rw [hw0]; exact (Below.refl _ w).alloc (Nat.le_refl _) _
  have sX := hX.keep B0
  have sY := hY.keep B0
  have K1 : Hid _ := (implOk_any r cr X w0 sX lX).mono (R' := fun e w' => e = .returned (.bool (okB X)) ∧ w0 = w') fun e w' h => ⟨h.1, h.2.symm⟩
  have K2 : Hid _ := (implOk_any s cs Y w0 sY lY).mono (R' := fun e w' => e = .returned (.bool (okB Y)) ∧ w0 = w') fun e w' h => ⟨h.1, h.2.symm⟩
  have fb : FBox w0 w.heap.size b (.slice r X.length cr) (.slice s Y.length cs) := by rw [hw0]; exact fbox_new _ _ _ _
  obtain ⟨q0, q1, q2⟩ := fbox_cells fb
  cases h1 : okB X with
  | false =>
    rw [fok_no1 h1]
    rw [h1] at K1
    clear h1 K2
    go_enter Tryd.func39, Tryd.ntmps39
    go_wp2_with fail
    rw [← hw0]
    clear hw0
    refine Calls.mono K1.out ?_
    rintro e w' ⟨rfl, rfl⟩
    go_wp2
    go_ret
    exact ⟨rfl, B0⟩
  | true =>
    rw [h1] at K1
    cases h2 : okB Y with
    | false =>
      rw [fok_no2 h2]
      rw [h2] at K2
      clear h1 h2
      go_enter Tryd.func39, Tryd.ntmps39
      go_wp2_with fail
      rw [← hw0]
      clear hw0
      refine Calls.mono K1.out ?_
      rintro e w' ⟨rfl, rfl⟩
      go_wp2_with fail
      refine Calls.mono K2.out ?_
      rintro e w' ⟨rfl, rfl⟩
      go_wp2
      go_ret
      exact ⟨rfl, B0⟩
    | true =>
      rw [h2] at K2
      obtain ⟨x, hxe, hx'⟩ := ok_dgs h1
      obtain ⟨y, hye, hy'⟩ := ok_dgs h2
      by_cases h0 : Y = []
      · have e : fokB b X Y = false := by rw [h0]; exact fok_no3
        have hYb : ((Y.length : Int) == 0) = true := by rw [h0]; rfl
        rw [e]
        clear h1 h2 hye hxe h0 e
        go_enter Tryd.func39, Tryd.ntmps39
        go_wp2_with fail
        rw [← hw0]
        clear hw0
        refine Calls.mono K1.out ?_
        rintro e w' ⟨rfl, rfl⟩
        go_wp2_with fail
        refine Calls.mono K2.out ?_
        rintro e w' ⟨rfl, rfl⟩
        go_wp2
        go_ret
        exact ⟨rfl, B0⟩
      · have hYp : 0 < Y.length := List.length_pos_iff.2 h0
        have hYb : ((Y.length : Int) == 0) = false := by rw [beq_eq_false_iff_ne]; omega
        have hcase : (b = true ∧ X = []) ∨ (b && decide (X = [])) = false := by
          cases b with
          | false => exact .inr rfl
          | true =>
            by_cases hX0 : X = []
            · exact .inl ⟨rfl, hX0⟩
            · exact .inr (by simp [hX0])
        rcases hcase with ⟨rfl, hX0⟩ | hbX
        · have e : fokB true X Y = false := by rw [hX0]; exact fok_no4
          have hXb : ((X.length : Int) == 0) = true := by rw [hX0]; rfl
          rw [e]
          clear h1 h2 hye hxe h0 e hX0
          go_enter Tryd.func39, Tryd.ntmps39
          go_wp2_with fail
          rw [← hw0]
          clear hw0
          refine Calls.mono K1.out ?_
          rintro e w' ⟨rfl, rfl⟩
          go_wp2_with fail
          refine Calls.mono K2.out ?_
          rintro e w' ⟨rfl, rfl⟩
          go_wp2
          go_ret
          exact ⟨rfl, B0⟩
        · have hfin : fokB b X Y = decide (dgs (Nat.gcd x y) = [1]) := by
            rw [hxe, hye, fok_yes hx' hy' (by rw [← hye]; exact h0) (by rw [← hxe]; exact hbX), one_dgs]
          have G : Hid (Calls Tryd.prog 62 #[.slice r X.length cr, .slice s Y.length cs] w0 fun e w' => ∃ rg cg, e = .returned (.slice rg (dgs (Nat.gcd x y)).length cg) ∧ Sl w' rg (dgs (Nat.gcd x y)) ∧ Below w0.heap.size w0 w') := by
            have h := gcd_any r s cr cs x y w0 (by rw [← hxe]; exact sX) (by rw [← hye]; exact sY) (by omega) (by omega) (by rw [← hxe]; exact cX) (by rw [← hye]; exact cY)
            rw [← hxe, ← hye] at h
            exact h.mono fun e w' ⟨rg, cg, h1, h2, h3⟩ => ⟨rg, cg, h1, h2.sl, h3⟩
          have O : Hid (∀ (w' : World) (rg : Option Addr) (cg : Nat), Sl w' rg (dgs (Nat.gcd x y)) → Calls Tryd.prog 42 #[.slice rg (dgs (Nat.gcd x y)).length cg] w' fun e w'' => e = .returned (.bool (decide (dgs (Nat.gcd x y) = [1]))) ∧ w' = w'') := fun w' rg cg h => (implOne_any rg cg _ w' h).mono fun e w'' h => ⟨h.1, h.2.symm⟩
          rw [hfin]
          obtain ⟨D, hD⟩ : ∃ D, D = dgs (Nat.gcd x y) := ⟨_, rfl⟩
          rw [← hD] at G O ⊢
          obtain ⟨bz, hbz⟩ : ∃ bz, bz = decide (D = [1]) := ⟨_, rfl⟩
          rw [← hbz] at O ⊢
          have hb2 : (b = false ∧ ((X.length : Int) == 0) = true) ∨ (b = false ∧ ((X.length : Int) == 0) = false) ∨ (b = true ∧ ((X.length : Int) == 0) = false) := by
            cases hXl : ((X.length : Int) == 0) with
            | false =>
              cases b with
              | false => exact .inr (.inl ⟨rfl, rfl⟩)
              | true => exact .inr (.inr ⟨rfl, rfl⟩)
            | true =>
              cases b with
              | false => exact .inl ⟨rfl, rfl⟩
              | true =>
                exfalso
                have hX0 : X ≠ [] := by simpa using hbX
                have := List.length_pos_iff.2 hX0
                rw [beq_iff_eq] at hXl
                omega
          clear hD hbz hfin hxe hye hbX h0 h1 h2 hx' hy' hYp
          rcases hb2 with ⟨rfl, hX0⟩ | ⟨rfl, hX0⟩ | ⟨rfl, hX0⟩
          all_goals
            go_enter Tryd.func39, Tryd.ntmps39
            go_wp2_with fail
            rw [← hw0]
            clear hw0
            refine Calls.mono K1.out ?_
            rintro e w' ⟨rfl, rfl⟩
            go_wp2_with fail
            refine Calls.mono K2.out ?_
            rintro e w' ⟨rfl, rfl⟩
            go_wp2_with fail
            refine Calls.mono G.out ?_
            rintro e w2 ⟨rg, cg, rfl, sg, b2⟩
            go_wp2_with fail
            refine Calls.mono (O.out _ _ _ sg) ?_
            rintro e w' ⟨rfl, rfl⟩
            go_wp2
            go_ret
            exact ⟨rfl, B0.trans (b2.mono B0.size)⟩

set_option maxRecDepth 20000 in
set_option maxHeartbeats 1000000 in
theorem specFok_any (b : Bool) (r s : Option Addr) (cr cs : Nat) (X Y : List Int) (w : World) (hX : Sl w r X) (hY : Sl w s Y) (lX : X.length ≤ 1048576) (lY : Y.length ≤ 1048576) :
    Calls Tryd.prog 18 #[fracV b r X.length cr s Y.length cs] w fun e w' => e = .returned (.bool (fokB b X Y)) ∧ Below w.heap.size w w' := by
  unfold fracV
  obtain ⟨w0, hw0⟩ : ∃ w0, w0 = w.alloc (.cells #[.bool b, .slice r X.length cr, .slice s Y.length cs] 27) := ⟨_, rfl⟩
  have B0 : Below w.heap.size w w0 := by rw [hw0]; exact (Below.refl _ w).alloc (Nat.le_refl _) _
  have sX := hX.keep B0
  have sY := hY.keep B0
  have K1 : Hid _ := (specOk_any r cr X w0 sX lX).mono (R' := fun e w' => e = .returned (.bool (okB X)) ∧ w0 = w') fun e w' h => ⟨h.1, h.2.symm⟩
  have K2 : Hid _ := (specOk_any s cs Y w0 sY lY).mono (R' := fun e w' => e = .returned (.bool (okB Y)) ∧ w0 = w') fun e w' h => ⟨h.1, h.2.symm⟩
  have fb : FBox w0 w.heap.size b (.slice r X.length cr) (.slice s Y.length cs) := by rw [hw0]; exact fbox_new _ _ _ _
  obtain ⟨q0, q1, q2⟩ := fbox_cells fb
  cases h1 : okB X with
  | false =>
    rw [fok_no1 h1]
    rw [h1] at K1
    clear h1 K2
    go_enter Tryd.func18, Tryd.ntmps18
    go_wp2_with fail
    rw [← hw0]
    clear hw0
    refine Calls.mono K1.out ?_
    rintro e w' ⟨rfl, rfl⟩
    go_wp2
    go_ret
    exact ⟨rfl, B0⟩
  | true =>
    rw [h1] at K1
    cases h2 : okB Y with
    | false =>
      rw [fok_no2 h2]
      rw [h2] at K2
      clear h1 h2
      go_enter Tryd.func18, Tryd.ntmps18
      go_wp2_with fail
      rw [← hw0]
      clear hw0
      refine Calls.mono K1.out ?_
      rintro e w' ⟨rfl, rfl⟩
      go_wp2_with fail
      refine Calls.mono K2.out ?_
      rintro e w' ⟨rfl, rfl⟩
      go_wp2
      go_ret
      exact ⟨rfl, B0⟩
    | true =>
      rw [h2] at K2
      obtain ⟨x, hxe, hx'⟩ := ok_dgs h1
      obtain ⟨y, hye, hy'⟩ := ok_dgs h2
      by_cases h0 : Y = []
      · have e : fokB b X Y = false := by rw [h0]; exact fok_no3
        have hYb : ((Y.length : Int) == 0) = true := by rw [h0]; rfl
        rw [e]
        clear h1 h2 hye hxe h0 e
        go_enter Tryd.func18, Tryd.ntmps18
        go_wp2_with fail
        rw [← hw0]
        clear hw0
        refine Calls.mono K1.out ?_
        rintro e w' ⟨rfl, rfl⟩
        go_wp2_with fail
        refine Calls.mono K2.out ?_
        rintro e w' ⟨rfl, rfl⟩
        go_wp2
        go_ret
        exact ⟨rfl, B0⟩
      · have hYp : 0 < Y.length := List.length_pos_iff.2 h0
        have hYb : ((Y.length : Int) == 0) = false := by rw [beq_eq_false_iff_ne]; omega
        have hcase : (b = true ∧ X = []) ∨ (b && decide (X = [])) = false := by
          cases b with
          | false => exact .inr rfl
          | true =>
            by_cases hX0 : X = []
            · exact .inl ⟨rfl, hX0⟩
            · exact .inr (by simp [hX0])
        rcases hcase with ⟨rfl, hX0⟩ | hbX
        · have e : fokB true X Y = false := by rw [hX0]; exact fok_no4
          have hXb : ((X.length : Int) == 0) = true := by rw [hX0]; rfl
          rw [e]
          clear h1 h2 hye hxe h0 e hX0
          go_enter Tryd.func18, Tryd.ntmps18
          go_wp2_with fail
          rw [← hw0]
          clear hw0
          refine Calls.mono K1.out ?_
          rintro e w' ⟨rfl, rfl⟩
          go_wp2_with fail
          refine Calls.mono K2.out ?_
          rintro e w' ⟨rfl, rfl⟩
          go_wp2
          go_ret
          exact ⟨rfl, B0⟩
        · have hfin : fokB b X Y = decide (dgs (Nat.gcd x y) = [1]) := by
            rw [hxe, hye, fok_yes hx' hy' (by rw [← hye]; exact h0) (by rw [← hxe]; exact hbX), one_dgs]
          have G : Hid (Calls Tryd.prog 37 #[.slice r X.length cr, .slice s Y.length cs] w0 fun e w' => ∃ rg cg, e = .returned (.slice rg (dgs (Nat.gcd x y)).length cg) ∧ Sl w' rg (dgs (Nat.gcd x y)) ∧ Below w0.heap.size w0 w') := by
            have h := l1Gcd_any r s cr cs x y w0 (by rw [← hxe]; exact sX) (by rw [← hye]; exact sY) (by omega) (by omega)
            rw [← hxe, ← hye] at h
            exact h.mono fun e w' ⟨rg, cg, h1, h2, h3⟩ => ⟨rg, cg, h1, h2.sl, h3⟩
          have O : Hid (∀ (w' : World) (rg : Option Addr) (cg : Nat), Sl w' rg (dgs (Nat.gcd x y)) → Calls Tryd.prog 20 #[.slice rg (dgs (Nat.gcd x y)).length cg] w' fun e w'' => e = .returned (.bool (decide (dgs (Nat.gcd x y) = [1]))) ∧ w' = w'') := fun w' rg cg h => (specOne_any rg cg _ w' h).mono fun e w'' h => ⟨h.1, h.2.symm⟩
          rw [hfin]
          obtain ⟨D, hD⟩ : ∃ D, D = dgs (Nat.gcd x y) := ⟨_, rfl⟩
          rw [← hD] at G O ⊢
          obtain ⟨bz, hbz⟩ : ∃ bz, bz = decide (D = [1]) := ⟨_, rfl⟩
          rw [← hbz] at O ⊢
          have hb2 : (b = false ∧ ((X.length : Int) == 0) = true) ∨ (b = false ∧ ((X.length : Int) == 0) = false) ∨ (b = true ∧ ((X.length : Int) == 0) = false) := by
            cases hXl : ((X.length : Int) == 0) with
            | false =>
              cases b with
              | false => exact .inr (.inl ⟨rfl, rfl⟩)
              | true => exact .inr (.inr ⟨rfl, rfl⟩)
            | true =>
              cases b with
              | false => exact .inl ⟨rfl, rfl⟩
              | true =>
                exfalso
                have hX0 : X ≠ [] := by simpa using hbX
                have := List.length_pos_iff.2 hX0
                rw [beq_iff_eq] at hXl
                omega
          clear hD hbz hfin hxe hye hbX h0 h1 h2 hx' hy' hYp
          rcases hb2 with ⟨rfl, hX0⟩ | ⟨rfl, hX0⟩ | ⟨rfl, hX0⟩
          all_goals
            go_enter Tryd.func18, Tryd.ntmps18
            go_wp2_with fail
            rw [← hw0]
            clear hw0
            refine Calls.mono K1.out ?_
            rintro e w' ⟨rfl, rfl⟩
            go_wp2_with fail
            refine Calls.mono K2.out ?_
            rintro e w' ⟨rfl, rfl⟩
            go_wp2_with fail
            refine Calls.mono G.out ?_
            rintro e w2 ⟨rg, cg, rfl, sg, b2⟩
            go_wp2_with fail
            refine Calls.mono (O.out _ _ _ sg) ?_
            rintro e w' ⟨rfl, rfl⟩
            go_wp2
            go_ret
            exact ⟨rfl, B0.trans (b2.mono B0.size)⟩
end Go.Proofs.YthokphoojmpajahDoor
