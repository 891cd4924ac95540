/- The operations on fractions, as the laws of many calls call them. -/
import Derived.Test.YthokphoojmpajabGreatDoorGFrA
import Derived.Test.YthokphoojmpajabGreatDoorFrSign
import Derived.Test.YthokphoojmpajabGreatDoorGPw
import Derived.Test.YthokphoojmpajabGreatDoorField
namespace Go.Proofs.YthokphoojmpajabGreatDoor
open Go.RowKit Go.Proofs.Pin

/-- A fraction that can be read, of no great length. -/
def FrR (w : World) (F : FAns) (r s : Option Addr) (c d : Nat) : Prop := Sl w r F.X ∧ Sl w s F.Y ∧ F.X.length ≤ c ∧ F.Y.length ≤ d ∧ F.X.length ≤ 300 ∧ F.Y.length ≤ 300
theorem FrR.keep {w w' : World} {F : FAns} {r s : Option Addr} {c d : Nat} (h : FrR w F r s c d) (b : Below w.heap.size w w') : FrR w' F r s c d := ⟨h.1.keep b, h.2.1.keep b, h.2.2⟩
/-- A store into a box that holds a fraction leaves the slices as they were: a box holds no ints. -/
theorem sl_box {w : World} {g : Nat} {t : TypeId} {b : Bool} {a a' : Option Addr} {n m c d : Nat} {r : Option Addr} {X : List Int} (h : Sl w r X) (k : BoxC w g t #[.bool b, .slice a n c, .slice a' m d]) (x y z : Value) : Sl (((w.setCell ⟨g, 0, none⟩ x).setCell ⟨g, 1, none⟩ y).setCell ⟨g, 2, none⟩ z) r X := by
  rcases h with h | ⟨b0, off, rfl, hlt, hc⟩
  · exact .inl h
  · by_cases hX : X = []
    · exact .inl hX
    · have hp : 0 < X.length := List.length_pos_iff.2 hX
      have hne : b0 ≠ g := by
        intro e
        subst e
        have h0 := hc 0 hp
        rw [boxc_cell k (off + 0)] at h0
        rcases off with _ | _ | _ | off
        · simp at h0
        · simp at h0
        · simp at h0
        · simp at h0
      have hg := gr_set3 w g x y z
      refine .inr ⟨b0, off, rfl, Nat.lt_of_lt_of_le hlt hg.size, fun i hi => ?_⟩
      have hb := hg.block b0 hlt (by intro e; exact hne (Option.some.inj e))
      have h1 := hc i hi
      unfold World.cell? at h1 ⊢
      rw [← h1]
      simp only [hb]
theorem FrR.put {w : World} {g : Nat} {t : TypeId} {b : Bool} {a a' : Option Addr} {n m c' d' : Nat} {F : FAns} {r s : Option Addr} {c d : Nat} (h : FrR w F r s c d) (k : BoxC w g t #[.bool b, .slice a n c', .slice a' m d']) (x y z : Value) : FrR (((w.setCell ⟨g, 0, none⟩ x).setCell ⟨g, 1, none⟩ y).setCell ⟨g, 2, none⟩ z) F r s c d := ⟨sl_box h.1 k x y z, sl_box h.2.1 k x y z, h.2.2⟩
theorem topAdd (W : World) (F G R : FAns) (r s r' s' : Option Addr) (c d c' d' : Nat) (hR : R = opF addA F G) (h0 : Hdl W) (h1 : FrR W F r s c d) (h2 : FrR W G r' s' c' d') :
    Calls Tryz.prog 14 #[fracV F.b r F.X.length c s F.Y.length d, fracV G.b r' G.X.length c' s' G.Y.length d'] W fun e w' => ∃ r2 s2 c2 d2, e = .returned (.tuple #[fracV R.b r2 R.X.length c2 s2 R.Y.length d2, .bool R.ok]) ∧ FrR w' R r2 s2 c2 d2 ∧ Below W.heap.size W w' := by
  subst hR
  refine (implAdd_any F.b r s c d F.X F.Y G.b r' s' c' d' G.X G.Y W h0 h1.1 h1.2.1 h2.1 h2.2.1 (by have := h1.2.2.2.2.1; omega) (by have := h1.2.2.2.2.2; omega) h1.2.2.1 h1.2.2.2.1 (by have := h2.2.2.2.2.1; omega) (by have := h2.2.2.2.2.2; omega) h2.2.2.1 h2.2.2.2.1).mono ?_
  rintro e w' ⟨r2, c2, s2, d2, rfl, o1, o2, _, b⟩
  have hl := addA_len F.b F.X F.Y G.b G.X G.Y
  exact ⟨r2, s2, c2, d2, rfl, ⟨o1.sl, o2.sl, own_cap o1, own_cap o2, Nat.le_trans hl.1 (by decide), Nat.le_trans hl.2 (by decide)⟩, b⟩
theorem topMul (W : World) (F G R : FAns) (r s r' s' : Option Addr) (c d c' d' : Nat) (hR : R = opF mulA F G) (h0 : Hdl W) (h1 : FrR W F r s c d) (h2 : FrR W G r' s' c' d') :
    Calls Tryz.prog 8 #[fracV F.b r F.X.length c s F.Y.length d, fracV G.b r' G.X.length c' s' G.Y.length d'] W fun e w' => ∃ r2 s2 c2 d2, e = .returned (.tuple #[fracV R.b r2 R.X.length c2 s2 R.Y.length d2, .bool R.ok]) ∧ FrR w' R r2 s2 c2 d2 ∧ Below W.heap.size W w' := by
  subst hR
  refine (implMul_any F.b r s c d F.X F.Y G.b r' s' c' d' G.X G.Y W h0 h1.1 h1.2.1 h2.1 h2.2.1 (by have := h1.2.2.2.2.1; omega) (by have := h1.2.2.2.2.2; omega) h1.2.2.1 h1.2.2.2.1 (by have := h2.2.2.2.2.1; omega) (by have := h2.2.2.2.2.2; omega) h2.2.2.1 h2.2.2.2.1).mono ?_
  rintro e w' ⟨r2, c2, s2, d2, rfl, o1, o2, _, b⟩
  have hl := mulA_len F.b F.X F.Y G.b G.X G.Y
  exact ⟨r2, s2, c2, d2, rfl, ⟨o1.sl, o2.sl, own_cap o1, own_cap o2, Nat.le_trans hl.1 (by decide), Nat.le_trans hl.2 (by decide)⟩, b⟩
theorem topPw (W : World) (F : FAns) (r s r' s' : Option Addr) (c d c' d' : Nat) (h1 : FrR W F r s c d) (h2 : FrR W F r' s' c' d') :
    Calls Tryz.prog 9 #[fracV F.b r F.X.length c s F.Y.length d, fracV F.b r' F.X.length c' s' F.Y.length d'] W fun e w' => e = .returned (.bool true) ∧ Below W.heap.size W w' :=
  pwFrac_any F.b r s r' s' c d c' d' F.X F.Y W h1.1 h1.2.1 h2.1 h2.2.1 (by have := h1.2.2.2.2.1; omega) (by have := h1.2.2.2.2.2; omega)
theorem topSg (W : World) (F : FAns) (r s : Option Addr) (c d : Nat) (h0 : Hdl W) (h1 : FrR W F r s c d) :
    Calls Tryz.prog 10 #[fracV F.b r F.X.length c s F.Y.length d] W fun e w' => e = .returned (.int .i64 (sgA F.b F.X F.Y)) ∧ Below W.heap.size W w' :=
  implSign_any F.b r s c d F.X F.Y W h0 h1.1 h1.2.1 (by have := h1.2.2.2.2.1; omega) (by have := h1.2.2.2.2.2; omega) h1.2.2.1 h1.2.2.2.1
theorem sg_some {F : FAns} (h : sgA F.b F.X F.Y ≠ 0) : F.X ≠ [] := by
  intro e
  apply h
  unfold sgA
  split
  · rw [e]; rfl
  · rfl
end Go.Proofs.YthokphoojmpajabGreatDoor
