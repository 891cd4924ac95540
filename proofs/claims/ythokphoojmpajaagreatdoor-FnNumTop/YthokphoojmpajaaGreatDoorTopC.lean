/- The operations on fractions, as the law of the field calls them. -/
import Derived.Test.YthokphoojmpajaaGreatDoorFrR
import Derived.Test.YthokphoojmpajaaGreatDoorGFrA
import Derived.Test.YthokphoojmpajaaGreatDoorGSpA
namespace Go.Proofs.YthokphoojmpajaaGreatDoor
open Go.RowKit Go.Proofs.Pin

theorem topSub (W : World) (F G R : FAns) (r s r' s' : Option Addr) (c d c' d' : Nat) (hR : R = opF subA F G) (h0 : Hdl W) (h1 : FrR W F r s c d) (h2 : FrR W G r' s' c' d') :
    Calls Tryz.prog 11 #[fracV F.b r F.X.length c s F.Y.length d, fracV G.b r' G.X.length c' s' G.Y.length d'] W fun e w' => ∃ r2 s2 c2 d2, e = .returned (.tuple #[fracV R.b r2 R.X.length c2 s2 R.Y.length d2, .bool R.ok]) ∧ FrR w' R r2 s2 c2 d2 ∧ Below W.heap.size W w' := by
  subst hR
  refine (implSub_any F.b r s c d F.X F.Y G.b r' s' c' d' G.X G.Y W h0 h1.1 h1.2.1 h2.1 h2.2.1 (by have := h1.2.2.2.2.1; omega) (by have := h1.2.2.2.2.2; omega) h1.2.2.1 h1.2.2.2.1 (by have := h2.2.2.2.2.1; omega) (by have := h2.2.2.2.2.2; omega) h2.2.2.1 h2.2.2.2.1).mono ?_
  rintro e w' ⟨r2, c2, s2, d2, rfl, o1, o2, _, b⟩
  have hl := subA_len F.b F.X F.Y G.b G.X G.Y
  exact ⟨r2, s2, c2, d2, rfl, ⟨o1.sl, o2.sl, own_cap o1, own_cap o2, Nat.le_trans hl.1 (by decide), Nat.le_trans hl.2 (by decide)⟩, b⟩
theorem topDiv (W : World) (F G R : FAns) (r s r' s' : Option Addr) (c d c' d' : Nat) (hR : R = opF divA F G) (h0 : Hdl W) (h1 : FrR W F r s c d) (h2 : FrR W G r' s' c' d') :
    Calls Tryz.prog 13 #[fracV F.b r F.X.length c s F.Y.length d, fracV G.b r' G.X.length c' s' G.Y.length d'] W fun e w' => ∃ r2 s2 c2 d2, e = .returned (.tuple #[fracV R.b r2 R.X.length c2 s2 R.Y.length d2, .bool R.ok]) ∧ FrR w' R r2 s2 c2 d2 ∧ Below W.heap.size W w' := by
  subst hR
  refine (implDiv_any F.b r s c d F.X F.Y G.b r' s' c' d' G.X G.Y W h0 h1.1 h1.2.1 h2.1 h2.2.1 (by have := h1.2.2.2.2.1; omega) (by have := h1.2.2.2.2.2; omega) h1.2.2.1 h1.2.2.2.1 (by have := h2.2.2.2.2.1; omega) (by have := h2.2.2.2.2.2; omega) h2.2.2.1 h2.2.2.2.1).mono ?_
  rintro e w' ⟨r2, c2, s2, d2, rfl, o1, o2, _, b⟩
  have hl := divA_len F.b F.X F.Y G.b G.X G.Y
  exact ⟨r2, s2, c2, d2, rfl, ⟨o1.sl, o2.sl, own_cap o1, own_cap o2, Nat.le_trans hl.1 (by decide), Nat.le_trans hl.2 (by decide)⟩, b⟩
theorem topsAdd (W : World) (F G R : FAns) (r s r' s' : Option Addr) (c d c' d' : Nat) (hR : R = opF addA F G) (h1 : FrR W F r s c d) (h2 : FrR W G r' s' c' d') :
    Calls Tryz.prog 7 #[fracV F.b r F.X.length c s F.Y.length d, fracV G.b r' G.X.length c' s' G.Y.length d'] W fun e w' => ∃ r2 s2 c2 d2, e = .returned (.tuple #[fracV R.b r2 R.X.length c2 s2 R.Y.length d2, .bool R.ok]) ∧ FrR w' R r2 s2 c2 d2 ∧ Below W.heap.size W w' := by
  subst hR
  refine (specAdd_any F.b r s c d F.X F.Y G.b r' s' c' d' G.X G.Y W h1.1 h1.2.1 h2.1 h2.2.1 (by have := h1.2.2.2.2.1; omega) (by have := h1.2.2.2.2.2; omega) (by have := h2.2.2.2.2.1; omega) (by have := h2.2.2.2.2.2; omega)).mono ?_
  rintro e w' ⟨r2, c2, s2, d2, rfl, o1, o2, b⟩
  have hl := addA_len F.b F.X F.Y G.b G.X G.Y
  exact ⟨r2, s2, c2, d2, rfl, ⟨o1.sl, o2.sl, own_cap o1, own_cap o2, Nat.le_trans hl.1 (by decide), Nat.le_trans hl.2 (by decide)⟩, b⟩
theorem topsMul (W : World) (F G R : FAns) (r s r' s' : Option Addr) (c d c' d' : Nat) (hR : R = opF mulA F G) (h1 : FrR W F r s c d) (h2 : FrR W G r' s' c' d') :
    Calls Tryz.prog 10 #[fracV F.b r F.X.length c s F.Y.length d, fracV G.b r' G.X.length c' s' G.Y.length d'] W fun e w' => ∃ r2 s2 c2 d2, e = .returned (.tuple #[fracV R.b r2 R.X.length c2 s2 R.Y.length d2, .bool R.ok]) ∧ FrR w' R r2 s2 c2 d2 ∧ Below W.heap.size W w' := by
  subst hR
  refine (specMul_any F.b r s c d F.X F.Y G.b r' s' c' d' G.X G.Y W h1.1 h1.2.1 h2.1 h2.2.1 (by have := h1.2.2.2.2.1; omega) (by have := h1.2.2.2.2.2; omega) (by have := h2.2.2.2.2.1; omega) (by have := h2.2.2.2.2.2; omega)).mono ?_
  rintro e w' ⟨r2, c2, s2, d2, rfl, o1, o2, b⟩
  have hl := mulA_len F.b F.X F.Y G.b G.X G.Y
  exact ⟨r2, s2, c2, d2, rfl, ⟨o1.sl, o2.sl, own_cap o1, own_cap o2, Nat.le_trans hl.1 (by decide), Nat.le_trans hl.2 (by decide)⟩, b⟩
end Go.Proofs.YthokphoojmpajaaGreatDoor
