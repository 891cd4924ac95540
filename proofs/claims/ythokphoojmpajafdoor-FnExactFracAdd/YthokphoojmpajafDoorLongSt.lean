/- What a round of the long division finds and leaves in memory, and guessDigit's contract in one piece. -/
import Derived.Test.YthokphoojmpajafDoorCut
import Derived.Test.YthokphoojmpajafDoorGuess
import Derived.Test.YthokphoojmpajafDoorLongNum
import Derived.Test.YthokphoojmpajafDoorTakeOff
import Derived.Test.YthokphoojmpajafDoorNumCmp
import Derived.Test.YthokphoojmpajafDoorLast
namespace Go.Proofs.YthokphoojmpajafDoor
open Go.RowKit Go.Shelf Go.Proofs.Pin

/-- Two slices that share no block. -/
def Ap (r s : Option Addr) : Prop := ∀ x y, r = some x → s = some y → x.block ≠ y.block
/-- The four boxes and the two rows. -/
structure LSt (w0 g s q s2 n m : Nat) (bv : Value) (W : World) (rest out : List Int) : Prop where
  bb : Boxed W w0 43 bv
  bn : Boxed W (w0 + 1) 3 (.int .i64 (n : Int))
  br : Boxed W s 43 (.slice (some ⟨g, 0, none⟩) (n + 1) (n + 1))
  bq : Boxed W s2 43 (.slice (some ⟨q, 0, none⟩) m m)
  rr : OwnI W w0 (some ⟨g, 0, none⟩) (n + 1) rest
  rq : OwnI W w0 (some ⟨q, 0, none⟩) m out
  sz : s2 + 1 < W.heap.size
/-- The places lie in this order. -/
def LOrd (w0 g s q s2 : Nat) : Prop := w0 + 1 < g ∧ g < s ∧ s < q ∧ q < s2

theorem LSt.own {w0 g s q s2 n m : Nat} {bv : Value} {W W' : World} {rest out : List Int} {row : Option Nat} (h : LSt w0 g s q s2 n m bv W rest out) (hg : W.grownBy W' row) (hr : ∀ r, row = some r → ∃ o : Obj, W.heap[r]? = some o ∧ o.isCells = false) : LSt w0 g s q s2 n m bv W' rest out :=
  ⟨boxOwn h.bb hg hr, boxOwn h.bn hg hr, boxOwn h.br hg hr, boxOwn h.bq hg hr, rowOwn h.rr hg hr, rowOwn h.rq hg hr, Nat.lt_of_lt_of_le h.sz hg.size⟩
theorem LSt.keep0 {w0 g s q s2 n m : Nat} {bv : Value} {W W' : World} {rest out : List Int} (h : LSt w0 g s q s2 n m bv W rest out) (hg : W.grownBy W' none) : LSt w0 g s q s2 n m bv W' rest out := h.own hg (fun _ e => by cases e)
/-- The rest's row has turned. -/
theorem LSt.rest {w0 g s q s2 n m : Nat} {bv : Value} {W W' : World} {rest out rest' : List Int} (h : LSt w0 g s q s2 n m bv W rest out) (ho : LOrd w0 g s q s2) (hg : W.grownBy W' (some g)) (hr : OwnI W' w0 (some ⟨g, 0, none⟩) (n + 1) rest') : LSt w0 g s q s2 n m bv W' rest' out := by
  obtain ⟨h1, h2, h3, h4⟩ := ho
  exact ⟨h.bb.kept hg (by simp; omega), h.bn.kept hg (by simp; omega), h.br.kept hg (by simp; omega), h.bq.kept hg (by simp; omega), hr, h.rq.kept hg (fun y hy e => by cases hy; simp at e; omega), Nat.lt_of_lt_of_le h.sz hg.size⟩
/-- The quotient's row has turned. -/
theorem LSt.quot {w0 g s q s2 n m : Nat} {bv : Value} {W W' : World} {rest out out' : List Int} (h : LSt w0 g s q s2 n m bv W rest out) (ho : LOrd w0 g s q s2) (hg : W.grownBy W' (some q)) (hr : OwnI W' w0 (some ⟨q, 0, none⟩) m out') : LSt w0 g s q s2 n m bv W' rest out' := by
  obtain ⟨h1, h2, h3, h4⟩ := ho
  exact ⟨h.bb.kept hg (by simp; omega), h.bn.kept hg (by simp; omega), h.br.kept hg (by simp; omega), h.bq.kept hg (by simp; omega), h.rr.kept hg (fun y hy e => by cases hy; simp at e; omega), hr, Nat.lt_of_lt_of_le h.sz hg.size⟩

/-- What a round keeps. -/
def Kg (B n₀ Bs : Nat) (W W' : World) : Prop := KeepsFrom B W W' ∧ KpB n₀ Bs W W'
theorem Kg.t {B n₀ Bs : Nat} {X Y Z : World} (h : Kg B n₀ Bs X Y) (k : Kg B n₀ Bs Y Z) : Kg B n₀ Bs X Z := ⟨h.1.trans k.1, h.2.t k.2⟩
theorem Kg.grown {B n₀ Bs : Nat} {W W' : World} {row : Option Nat} (hg : W.grownBy W' row) (h1 : ∀ j, row = some j → n₀ ≤ j ∧ j < B ∧ j ≠ Bs) (hn : n₀ ≤ W.heap.size) (hB : Bs < W.heap.size) : Kg B n₀ Bs W W' :=
  ⟨KeepsFrom.of_grownBy hg (fun j e => (h1 j e).2.1), (Below.refl n₀ W).grown hg hn (fun k e => (h1 k e).1), hg.block Bs hB (fun e => (h1 Bs e.symm).2.2 rfl)⟩
theorem below_grown {W W' : World} (hb : Below W.heap.size W W') : W.grownBy W' none := ⟨hb.os, hb.tape, hb.output, hb.size, fun k hk _ => hb.block k hk⟩

/-- As long as the places have come from the top: the digits that came are the quotient's, and the rest. -/
def lnI (x y m : Nat) (pre : List (Pl m)) (R : Nat) (out : List Int) : Prop := pre.map (·.1) = tp m pre.length → ((x / 65536 ^ (m - pre.length) : Nat) : Int) = val (out.drop (m - pre.length)) * y + R
theorem lnI_step {x y m R xj : Nat} {out : List Int} {pre : List (Pl m)} {p : Pl m} (ho : out.length = m) (hpl : pre.length < m) (h : lnI x y m pre R out) (hx : xj = x / 65536 ^ p.1 % 65536) : lnI x y m (pre ++ [p]) ((R * 65536 + xj) % y) (out.set p.1 (((R * 65536 + xj) / y : Nat) : Int)) := by
  intro hp
  obtain ⟨h1, h2⟩ := tp_last hp
  have hx2 := p.2
  have h3 := h h1
  rw [List.length_append, List.length_singleton]
  have e : m - (pre.length + 1) = p.1 := by omega
  rw [show m - pre.length = p.1 + 1 by omega] at h3
  rw [e, hx]
  exact long_step (by omega) h3

theorem guess_any (p q z p' q' : Int) (w : World) (hp0 : 0 ≤ p) (hp1 : p < 65536) (hq0 : 0 ≤ q) (hq1 : q < 65536) (hz0 : 0 ≤ z) (hz1 : z < 65536) (hr0 : 0 < p') (hr1 : p' < 65536) (hs0 : 0 ≤ q') (hs1 : q' < 65536) :
    Calls Tryd.prog 86 #[.agg #[.int .i64 p, .int .i64 q], .int .i64 z, .agg #[.int .i64 p', .int .i64 q']] w fun e w' => e = .returned (.int .i64 (guessV p q z p' q')) ∧ Below w.heap.size w w' := by
  unfold guessV
  by_cases hc : p = p' ∧ q = q'
  · rw [if_pos hc]
    obtain ⟨rfl, rfl⟩ := hc
    exact guess_same p q z w
  · rw [if_neg hc]
    exact guess_other p q z p' q' w hp0 hp1 hq0 hq1 hz0 hz1 hr0 hr1 hs0 hs1 hc
end Go.Proofs.YthokphoojmpajafDoor
