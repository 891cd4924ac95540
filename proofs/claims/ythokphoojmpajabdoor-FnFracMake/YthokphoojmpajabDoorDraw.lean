/- The reader of a drawn code: l4Rd.pick gives a number below its bound and turns its own place alone. -/
import Derived.Test.YthokphoojmpajabDoorGEq
import Derived.RangeFuncBox
import Derived.Deep.QuietTactic
import Derived.BigQuiet
namespace Go.Proofs.YthokphoojmpajabDoor
open Go.RowKit Go.Proofs.Pin

/-- A slice of bytes that can be read. -/
def SlU (w : World) (a : Option Addr) (bs : List Int) : Prop :=
  bs = [] ∨ ∃ b off, a = some ⟨b, off, none⟩ ∧ b < w.heap.size ∧ ∀ i, i < bs.length → w.cell? ⟨b, off + i, none⟩ = some (.int .u8 (bs.getD i 0))
def ByteL (bs : List Int) : Prop := ∀ i, 0 ≤ bs.getD i 0 ∧ bs.getD i 0 < 256
/-- The reader: its code and its place. -/
structure Rd (w : World) (g : Nat) (b : Option Addr) (lb cb : Nat) (bs : List Int) (p : Nat) : Prop where
  box : w.heap[g]? = some (.cells #[.slice b lb cb, .int .i64 (p : Int)] 72 (0, 0))
  len : bs.length = lb
  le : lb ≤ 2000
  sl : SlU w b bs
  byt : ByteL bs
  ap : ∀ x, b = some x → bs ≠ [] → x.block ≠ g

theorem Rd.cells {w : World} {g : Nat} {b : Option Addr} {lb cb : Nat} {bs : List Int} {p : Nat} (h : Rd w g b lb cb bs p) : w.cell? ⟨g, 0, none⟩ = some (.slice b lb cb) ∧ w.cell? ⟨g, 1, none⟩ = some (.int .i64 (p : Int)) ∧ (∀ j, w.frozen? ⟨g, j, none⟩ = false) ∧ g < w.heap.size := by
  have e := h.box
  refine ⟨by simp [World.cell?, e], by simp [World.cell?, e], fun j => by simp [World.frozen?, e], (Array.getElem?_eq_some_iff.1 e).1⟩

theorem Rd.set {w : World} {g : Nat} {b : Option Addr} {lb cb : Nat} {bs : List Int} {p : Nat} (h : Rd w g b lb cb bs p) (q : Nat) : Rd (w.setCell ⟨g, 1, none⟩ (.int .i64 (q : Int))) g b lb cb bs q ∧ w.grownBy (w.setCell ⟨g, 1, none⟩ (.int .i64 (q : Int))) (some g) := by
  have hg : w.grownBy (w.setCell ⟨g, 1, none⟩ (.int .i64 (q : Int))) (some g) := ⟨rfl, rfl, rfl, by simp, fun k _ hk => Below.heap_setCell _ _ _ _ (fun e => hk (by simp [e]))⟩
  refine ⟨⟨?_, h.len, h.le, ?_, h.byt, h.ap⟩, hg⟩
  · obtain ⟨hlt, hk⟩ := Array.getElem?_eq_some_iff.1 h.box
    show (w.heap.modify g _)[g]? = _
    rw [Array.getElem?_modify, if_pos rfl, h.box]
    rfl
  · rcases h.sl with h0 | ⟨b0, off, he, hlt, hc⟩
    · exact .inl h0
    · refine .inr ⟨b0, off, he, Nat.lt_of_lt_of_le hlt hg.size, fun i hi => hg.cell (hc i hi) (fun e => ?_)⟩
      have hne : bs ≠ [] := by intro e0; rw [e0] at hi; simp at hi
      exact h.ap _ he hne (by simpa using e)

theorem Rd.dN {w : World} {g : Nat} {b : Option Addr} {lb cb : Nat} {bs : List Int} {p : Nat} (h : Rd w g b lb cb bs p) (q : Nat) : Rd (w.drewN q) g b lb cb bs p := ⟨h.box, h.len, h.le, h.sl, h.byt, h.ap⟩
theorem gr_dN {w wr : World} {row : Option Nat} (h : w.grownBy wr row) (q : Nat) : w.grownBy (wr.drewN q) row := ⟨h.os, h.tape, h.output, h.size, h.block⟩
/-- '^' of two numbers that are not below 0 is not. -/
theorem xor_pos {x y : Int} (hx0 : 0 ≤ x) (hx1 : x < 4611686018427387904) (hy0 : 0 ≤ y) (hy1 : y < 4611686018427387904) : 0 ≤ bits .xor .i64 x y := by
  show 0 ≤ IntKind.i64.wrap ((BitVec.ofInt 64 x ^^^ BitVec.ofInt 64 y).toNat : Int)
  have ex : (BitVec.ofInt 64 x).toNat = x.toNat := by rw [BitVec.toNat_ofInt]; omega
  have ey : (BitVec.ofInt 64 y).toNat = y.toNat := by rw [BitVec.toNat_ofInt]; omega
  rw [BitVec.toNat_xor, ex, ey]
  have h : x.toNat ^^^ y.toNat < 2 ^ 62 := Nat.xor_lt_two_pow (by omega) (by omega)
  simp [IntKind.wrap, IntKind.bits, IntKind.signed]
  omega

set_option maxRecDepth 20000 in
theorem pick_any (g : Nat) (b : Option Addr) (lb cb : Nat) (bs : List Int) (p : Nat) (n : Int) (w : World) (h : Rd w g b lb cb bs p) (hp : p ≤ 1000000) (hn1 : 1 ≤ n) (hn2 : n ≤ 65536) :
    Calls Tryd.prog 41 #[.pointer (some ⟨g, 0, none⟩), .int .i64 n] w fun e w' => ∃ v : Int, e = .returned (.int .i64 v) ∧ 0 ≤ v ∧ v < n ∧ Rd w' g b lb cb bs (p + 1) ∧ w.grownBy w' (some g) := by
  obtain ⟨c0, c1, f, hg⟩ := h.cells
  have HS : Hid (Rd (w.setCell ⟨g, 1, none⟩ (.int .i64 ((p : Int) + 1))) g b lb cb bs (p + 1) ∧ w.grownBy (w.setCell ⟨g, 1, none⟩ (.int .i64 ((p : Int) + 1))) (some g)) := h.set (p + 1)
  have hle := h.le
  have hlen := h.len
  by_cases h0 : lb = 0
  · subst h0
    clear h
    go_enter Tryd.func41, Tryd.ntmps41
    go_wp2
    go_ret
    exact ⟨0, rfl, by omega, by omega, HS.out.1, HS.out.2⟩
  · obtain ⟨b0, off, he, hlt, hc⟩ : ∃ b0 off, b = some ⟨b0, off, none⟩ ∧ b0 < w.heap.size ∧ ∀ i, i < bs.length → w.cell? ⟨b0, off + i, none⟩ = some (.int .u8 (bs.getD i 0)) := by
      rcases h.sl with h1 | h1
      · rw [h1] at hlen; simp at hlen; omega
      · exact h1
    subst he
    have hne : ¬ b0 = g := h.ap _ rfl (by intro e; rw [e] at hlen; simp at hlen; omega)
    have hne' : ¬ g = b0 := fun e => hne e.symm
    have hbI : ((lb : Int) == 0) = false := by simp; omega
    by_cases hpl : p < lb
    · have hc1 := hc p (by omega)
      obtain ⟨z, hz⟩ : ∃ z, z = bs.getD p 0 := ⟨_, rfl⟩
      have hzb := h.byt p
      rw [← hz] at hc1 hzb
      clear h hc hz
      have hpI : (p : Int) < lb := by omega
      go_enter Tryd.func41, Tryd.ntmps41
      go_wp2
      go_ret
      exact ⟨_, rfl, Int.emod_nonneg _ (by omega), Int.emod_lt_of_pos _ (by omega), HS.out.1, HS.out.2⟩
    · obtain ⟨k1, hk1⟩ : ∃ k1, k1 = p % lb := ⟨_, rfl⟩
      obtain ⟨k2, hk2⟩ : ∃ k2, k2 = (p * 7 + 3) % lb := ⟨_, rfl⟩
      have hk1l : k1 < lb := by rw [hk1]; exact Nat.mod_lt _ (by omega)
      have hk2l : k2 < lb := by rw [hk2]; exact Nat.mod_lt _ (by omega)
      have hc1 := hc k1 (by omega)
      have hc2 := hc k2 (by omega)
      have hz1b := h.byt k1
      have hz2b := h.byt k2
      obtain ⟨z1, hz1⟩ : ∃ z, z = bs.getD k1 0 := ⟨_, rfl⟩
      obtain ⟨z2, hz2⟩ : ∃ z, z = bs.getD k2 0 := ⟨_, rfl⟩
      rw [← hz1] at hc1 hz1b
      rw [← hz2] at hc2 hz2b
      have hm1 : (p : Int) % lb = (k1 : Int) := by rw [hk1]; simp
      have hm2 : ((p : Int) * 7 + 3) % lb = (k2 : Int) := by rw [hk2]; simp
      obtain ⟨d, hd⟩ : ∃ d, d = p / lb := ⟨_, rfl⟩
      have hm3 : (p : Int) / lb = (d : Int) := by rw [hd]; simp
      have hd1 : (d : Int) ≤ 1000000 := by have := Nat.div_le_self p lb; omega
      have hk1I : (k1 : Int) < lb := by omega
      have hk2I : (k2 : Int) < lb := by omega
      have hpl' : (lb : Int) ≤ p := by omega
      clear h hc hz1 hz2 hk1 hk2 hd hk1l hk2l hpl
      go_enter Tryd.func41, Tryd.ntmps41
      go_wp2_with fail
      go_quiet (fail)
      obtain ⟨X, hX⟩ : ∃ X : Int, X = z1 * 131 + z2 * 1117 + (p : Int) * 29 + (d : Int) * 53 := ⟨_, rfl⟩
      have hX0 : 0 ≤ X := by omega
      have hX1 : X < 4611686018427387904 := by omega
      have hu := xor_pos hX0 hX1 (y := X / 64) (by omega) (by omega)
      rw [← hX]
      obtain ⟨u, hu2⟩ : ∃ u, u = bits .xor .i64 X (X / 64) := ⟨_, rfl⟩
      have hu3 : bits .xor .i64 X (X / 64) = u := hu2.symm
      rw [← hu2] at hu
      clear hX hu2 hc1 hc2 hm1 hm2 hm3
      go_wp2
      go_ret
      exact ⟨_, rfl, Int.emod_nonneg _ (by omega), Int.emod_lt_of_pos _ (by omega), HS.out.1.dN _, gr_dN HS.out.2 _⟩
end Go.Proofs.YthokphoojmpajabDoor
