/- What a round of the long division finds and leaves in memory, and guessDigit's contract in one piece. The contract of digits.longDividedBy: the digits of quotient and rest, both in rows of the call's own. -/
import Derived.Test.YthokphoojmpajahDoorCut
import Derived.Test.YthokphoojmpajahDoorGuess
import Derived.Test.YthokphoojmpajahDoorGNum
import Derived.Test.YthokphoojmpajahDoorTakeOff
import Derived.Test.YthokphoojmpajahDoorGCmpN
import Derived.Test.YthokphoojmpajahDoorGLast
namespace Go.Proofs.YthokphoojmpajahDoor
open Go.RowKit Go.Shelf Go.Proofs.Pin

/-- Two slices that share no block. -/
def Ap (r s : Option Addr) : Prop := ∀ x y, r = some x → s = some y → x.block ≠ y.block
/-- The four boxes and the two rows. -/
structure LSt (w0 g s q s2 n m : Nat) (bv : Value) (W : World) (rest out : List Int) : Prop where
  bb : Boxed W w0 42 bv
  bn : Boxed W (w0 + 1) 3 (.int .i64 (n : Int))
  br : Boxed W s 42 (.slice (some ⟨g, 0, none⟩) (n + 1) (n + 1))
  bq : Boxed W s2 42 (.slice (some ⟨q, 0, none⟩) m m)
  rr : OwnI W w0 (some ⟨g, 0, none⟩) (n + 1) rest
  rq : OwnI W w0 (some ⟨q, 0, none⟩) m out
  sz : s2 + 1 < W.heap.size
/-- The places lie in this order. -/
def LOrd (w0 g s q s2 : Nat) : Prop := w0 + 1 < g ∧ g < s ∧ s < q ∧ q < s2

theorem LSt.own {w0 g s q s2 n m : Nat} {bv : Value} {W W' : World} {rest out : List Int} {row : Option Nat} (h : LSt w0 g s q s2 n m bv W rest out) (hg : W.grownBy W' row) (hr : ∀ r, row = some r → ∃ o : Obj, W.heap[r]? = some o ∧ o.isCells = false) : LSt w0 g s q s2 n m bv W' rest out :=
  ⟨boxOwn h.bb hg hr, boxOwn h.bn hg hr, boxOwn h.br hg hr, boxOwn h.bq hg hr, rowOwn h.rr hg hr, rowOwn h.rq hg hr, Nat.lt_of_lt_of_le h.sz hg.size⟩
theorem LSt.keep0 {w0 g s q s2 n m : Nat} {bv : Value} {W W' : World} {rest out : List Int} (h : LSt w0 g s q s2 n m bv W rest out) (hg : W.grownBy W' none) : LSt w0 g s q s2 n m bv W' rest out := h.own hg (fun _ e => by cases e)
/-- The rest's row has turned. -/
theorem LSt.rest {w0 g s q s2 n m : Nat} {bv : Value} {W W' : World} {rest out rest' : List Int} (h : LSt w0 g s q s2 n m bv W rest out) (ho : LOrd w0 g s q s2) (hg : W.grownBy W' (some g)) (hr : OwnI W' w0 (some ⟨g, 0, none⟩) (n + 1) rest') : LSt w0 g s q s2 n m bv W' rest' out := by
  obtain ⟨h1, h2, h3, h4⟩ := ho
  exact ⟨h.bb.kept hg (by simp; omega), h.bn.kept hg (by simp; omega), h.br.kept hg (by simp; omega), h.bq.kept hg (by simp; omega), hr, h.rq.kept hg (fun y hy e => by cases hy; simp at e; omega), Nat.lt_of_lt_of_le h.sz hg.size⟩
/-- The quotient's row has turned. -/
theorem LSt.quot {w0 g s q s2 n m : Nat} {bv : Value} {W W' : World} {rest out out' : List Int} (h : LSt w0 g s q s2 n m bv W rest out) (ho : LOrd w0 g s q s2) (hg : W.grownBy W' (some q)) (hr : OwnI W' w0 (some ⟨q, 0, none⟩) m out') : LSt w0 g s q s2 n m bv W' rest out' := by
  obtain ⟨h1, h2, h3, h4⟩ := ho
  exact ⟨h.bb.kept hg (by simp; omega), h.bn.kept hg (by simp; omega), h.br.kept hg (by simp; omega), h.bq.kept hg (by simp; omega), h.rr.kept hg (fun y hy e => by cases hy; simp at e; omega), hr, Nat.lt_of_lt_of_le h.sz hg.size⟩

/-- What a round keeps. -/
def Kg (B n₀ Bs : Nat) (W W' : World) : Prop := KeepsFrom B W W' ∧ KpB n₀ Bs W W'
theorem Kg.t {B n₀ Bs : Nat} {X Y Z : World} (h : Kg B n₀ Bs X Y) (k : Kg B n₀ Bs Y Z) : Kg B n₀ Bs X Z := ⟨h.1.trans k.1, h.2.t k.2⟩
theorem Kg.grown {B n₀ Bs : Nat} {W W' : World} {row : Option Nat} (hg : W.grownBy W' row) (h1 : ∀ j, row = some j → n₀ ≤ j ∧ j < B ∧ j ≠ Bs) (hn : n₀ ≤ W.heap.size) (hB : Bs < W.heap.size) : Kg B n₀ Bs W W' :=
  ⟨KeepsFrom.of_grownBy hg (fun j e => (h1 j e).2.1), (Below.refl n₀ W).grown hg hn (fun k e => (h1 k e).1), hg.block Bs hB (fun e => (h1 Bs e.symm).2.2 rfl)⟩
theorem below_grown {W W' : World} (hb : Below W.heap.size W W') : W.grownBy W' none := ⟨hb.os, hb.tape, hb.output, hb.size, fun k hk _ => hb.block k hk⟩

/-- As long as the places have come from the top: the digits that came are the quotient's, and the rest. -/
def lnI (x y m : Nat) (pre : List (Pl m)) (R : Nat) (out : List Int) : Prop := pre.map (·.1) = tp m pre.length → ((x / 65536 ^ (m - pre.length) : Nat) : Int) = val (out.drop (m - pre.length)) * y + R
theorem lnI_step {x y m R xj : Nat} {out : List Int} {pre : List (Pl m)} {p : Pl m} (ho : out.length = m) (hpl : pre.length < m) (h : lnI x y m pre R out) (hx : xj = x / 65536 ^ p.1 % 65536) : lnI x y m (pre ++ [p]) ((R * 65536 + xj) % y) (out.set p.1 (((R * 65536 + xj) / y : Nat) : Int)) := by
  intro hp
  obtain ⟨h1, h2⟩ := tp_last hp
  have hx2 := p.2
  have h3 := h h1
  rw [List.length_append, List.length_singleton]
  have e : m - (pre.length + 1) = p.1 := by omega
  rw [show m - pre.length = p.1 + 1 by omega] at h3
  rw [e, hx]
  exact long_step (by omega) h3

theorem guess_any (p q z p' q' : Int) (w : World) (hp0 : 0 ≤ p) (hp1 : p < 65536) (hq0 : 0 ≤ q) (hq1 : q < 65536) (hz0 : 0 ≤ z) (hz1 : z < 65536) (hr0 : 0 < p') (hr1 : p' < 65536) (hs0 : 0 ≤ q') (hs1 : q' < 65536) :
    Calls Tryd.prog 86 #[.agg #[.int .i64 p, .int .i64 q], .int .i64 z, .agg #[.int .i64 p', .int .i64 q']] w fun e w' => e = .returned (.int .i64 (guessV p q z p' q')) ∧ Below w.heap.size w w' := by
  unfold guessV
  by_cases hc : p = p' ∧ q = q'
  · rw [if_pos hc]
    obtain ⟨rfl, rfl⟩ := hc
    exact guess_same p q z w
  · rw [if_neg hc]
    exact guess_other p q z p' q' w hp0 hp1 hq0 hq1 hz0 hz1 hr0 hr1 hs0 hs1 hc
end Go.Proofs.YthokphoojmpajahDoor

namespace Go.Proofs.YthokphoojmpajahDoor
open Go.RowKit Go.Shelf Go.Sort Go.Proofs.Pin

attribute [local go_sem] Oper.semAt_some

theorem cells_at {w : World} {a : Option Addr} {zs : List Int} (h : Sl w a zs) (h0 : 0 < zs.length) : ∃ b off, a = some ⟨b, off, none⟩ ∧ b < w.heap.size ∧ ∀ i, i < zs.length → w.cell? ⟨b, off + i, none⟩ = some (.int .i64 (zs.getD i 0)) := by
  rcases h with rfl | h
  · simp at h0
  · exact h

theorem splice_up {rest : List Int} {n : Nat} (h : rest.length = n + 1) : splice (rest.map (Value.int .i64)) 1 ((rest.take n).map (Value.int .i64)) = (rest.getD 0 0 :: rest.take n).map (Value.int .i64) := by
  cases rest with
  | nil => simp at h
  | cons r0 tl =>
    have hl : tl.length = n := by simpa using h
    have h1 : ((r0 :: tl).take n).length = n := by simp; omega
    unfold splice
    rw [List.length_map, h1]
    have h2 : ((r0 :: tl).map (Value.int .i64)).drop (1 + n) = [] := List.drop_of_length_le (by simp; omega)
    rw [h2]
    simp
theorem row_cell {w : World} {base g cap : Nat} {zs : List Int} (h : OwnI w base (some ⟨g, 0, none⟩) cap zs) {i : Nat} (hi : i < zs.length) : w.cell? ⟨g, i, none⟩ = some (.int .i64 (zs.getD i 0)) := by
  obtain ⟨b, off, he, _, hc⟩ := Sl.cells h.sl hi
  cases he
  simpa using hc

set_option maxRecDepth 100000 in
set_option maxHeartbeats 4000000 in
theorem longDiv_any (a b : Option Addr) (ca cb : Nat) (x y : Nat) (w : World) (ha : Sl w a (dgs x)) (hb : Sl w b (dgs y)) (hx : (dgs x).length ≤ 2000) (hy : (dgs y).length ≤ 2000) (h2 : 2 ≤ (dgs y).length) (hxy : y ≤ x) (hca : (dgs x).length ≤ ca) :
    Calls Tryd.prog 77 #[.slice a (dgs x).length ca, .slice b (dgs y).length cb] w fun e w' => ∃ r cr s cs, e = .returned (.tuple #[.slice r (dgs (x / y)).length cr, .slice s (dgs (x % y)).length cs]) ∧ OwnI w' w.heap.size r cr (dgs (x / y)) ∧ OwnI w' w.heap.size s cs (dgs (x % y)) ∧ Ap r s ∧ Below w.heap.size w w' := by
  obtain ⟨i0, hi, hz0, hz1, hz2⟩ := info_parts Tryd.info3
  have hlen := dgs_len_le hxy
  obtain ⟨A, hA⟩ : ∃ A, A = dgs x := ⟨_, rfl⟩
  obtain ⟨B, hB⟩ : ∃ B, B = dgs y := ⟨_, rfl⟩
  have HA : Hid (A = dgs x) := hA
  have HB : Hid (B = dgs y) := hB
  rw [← hA] at ha hx hlen hca
  rw [← hB] at hb hy h2 hlen
  rw [← hA, ← hB]
  obtain ⟨bx, offx, rfl, hbx, hcx⟩ := cells_at ha (by omega)
  obtain ⟨by', offy, rfl, hby, hcy⟩ := cells_at hb (by omega)
  obtain ⟨n, hn⟩ : ∃ n, n = B.length := ⟨_, rfl⟩
  obtain ⟨N, hN⟩ : ∃ N, A.length = N + n := ⟨A.length - n, by omega⟩
  have HN : Hid (B.length = n) := hn.symm
  have HLA : Hid (A.length = N + n) := hN
  rw [hN] at hx hlen hca ⊢
  rw [← hn] at hy h2 hlen ⊢
  have HSA : Hid (Sl w (some ⟨bx, offx, none⟩) A) := ha
  have HSB : Hid (Sl w (some ⟨by', offy, none⟩) B) := hb
  have HXY : Hid (y ≤ x) := hxy
  clear hn hN hA hB hlen hcx hcy hbx hby ha hb hxy
  have hmix : Tryd.prog.follows .mixedOrders = true := by kernel_rfl
  refine (callsIn_wide (n := 4)).1 ?_
  refine callsIn_of_wp_marks Tryd.func77 rfl trivial ?_ rfl
  simp only [Tryd.ntmps77, List.size_toArray, List.length_cons, List.length_nil, Nat.reduceAdd, Nat.reduceSub, Array.replicate_succ, Array.replicate_zero, List.push_toArray, List.append_toArray, List.nil_append, List.cons_append]
  gi_wp2_with (gi_at_make; refine makeFull_in _ rfl _ _ 42 rfl w.heap.size 3 i0 (.int .i64 0) 1 Tryd.underlying42 hi hz0 hz1 _ _ _ _ (n + 1) rfl rfl (by omega) (by omega) (by rw [hz2]; omega) (by unfold maxLen; omega) (by simp; omega) ?_; intro w1 hown hgrow)
  have hqa : ∀ fn : FuncId, Fence.wide.fn fn := fun _ => trivial
  have hrow0 := make_row hown
  have hg0 : (((w.alloc (Obj.cells #[.slice (some ⟨by', offy, none⟩) n cb] 42)).alloc (.cells #[.int .i64 (n : Int)] 3))).heap.size = w.heap.size + 1 + 1 := by simp
  have hb1 : Below w.heap.size w w1 := (((Below.refl _ w).alloc (Nat.le_refl _) _).alloc (by simp) _).grown hgrow (by simp; omega) (fun k hk => by cases hk)
  have bb : Boxed w1 w.heap.size 42 (.slice (some ⟨by', offy, none⟩) n cb) := ((Boxed.new w _ _).alloc _).kept hgrow (by simp)
  have bs : Boxed w1 (w.heap.size + 1) 3 (.int .i64 (n : Int)) := (by have h := Boxed.new (w.alloc (Obj.cells #[.slice (some ⟨by', offy, none⟩) n cb] 42)) 3 (.int .i64 (n : Int)); simp only [World.size_alloc] at h; exact h.kept hgrow (by simp))
  refine quiet_last_lit (by simp only [List.getLast?_cons_cons, List.getLast?_singleton]; rfl) (by simp only [List.dropLast, List.cons_append, List.nil_append, nopOf]; rfl) rfl hmix (by kernel_rfl) (by kernel_rfl) (by kernel_rfl) (by kernel_rfl) ?_
  repeat (gi_big_quiet_step (fail))
  refine wpQuietIn_nil ?_
  rintro w2 ⟨q, rfl⟩
  obtain ⟨A1, hA1⟩ : ∃ A1, A1 = A.drop (N + 1) := ⟨_, rfl⟩
  have hlA1 : A1.length = n - 1 := by rw [hA1, List.length_drop, HLA.out]; omega
  have HA1 : Hid (A1 = A.drop (N + 1)) := hA1
  have hsrc : ∀ j v, (A1.map (Value.int .i64))[j]? = some v → (w1.alloc (Obj.cells #[Value.slice (some ⟨w.heap.size + 1 + 1, 0, none⟩) (n + 1) (n + 1)] 42)).cell? (Addr.add ⟨bx, offx + (N + 1), none⟩ j) = some v := by
    obtain ⟨b', o', he, hlt, hc⟩ := cells_at HSA.out (by have := HLA.out; omega)
    cases he
    intro j v hv
    have hj : j < A1.length := by
      rcases Nat.lt_or_ge j A1.length with h | h
      · exact h
      · simp [List.getElem?_eq_none h] at hv
    have hb2 : Below w.heap.size w (w1.alloc (Obj.cells #[Value.slice (some ⟨w.heap.size + 1 + 1, 0, none⟩) (n + 1) (n + 1)] 42)) := hb1.alloc hb1.size _
    have e : (⟨bx, offx + (N + 1), none⟩ : Addr).add j = ⟨bx, offx + (N + 1 + j), none⟩ := by
      unfold Addr.add
      split
      · subst_vars; rfl
      · simp only [Addr.mk.injEq, and_true, true_and]; omega
    rw [e, hb2.cell (p := ⟨bx, offx + (N + 1 + j), none⟩) hlt, hc _ (by rw [HLA.out]; omega)]
    have e2 : A1.getD j 0 = A.getD (N + 1 + j) 0 := by rw [hA1]; simp [List.getD_eq_getElem?_getD, List.getElem?_drop]
    rw [← e2]
    simpa [List.getD_eq_getElem?_getD, List.getElem?_eq_getElem hj] using hv
  have hrowA : (w1.alloc (Obj.cells #[Value.slice (some ⟨w.heap.size + 1 + 1, 0, none⟩) (n + 1) (n + 1)] 42)).heap[w.heap.size + 1 + 1]? = some (.cells (List.replicate (n + 1) (Value.int .i64 0)).toArray 3 (0, 0)) := by
    rw [← hg0]
    have hl := (Array.getElem?_eq_some_iff.1 hrow0).1
    exact ((World.grownBy_alloc w1 _ none).block _ hl (fun e => by cases e)).trans hrow0
  refine step_copy_in (.tmp 23) (.tmp 26) 42 42 rfl 3 Tryd.underlying42 Tryd.size3 _ _ _ _ _ _ rfl rfl (w.heap.size + 1 + 1) 0 (List.replicate (n + 1) (Value.int .i64 0)) 3 hrowA (A1.map (Value.int .i64)) (by rw [List.length_map, hlA1]; show n - 1 = min (N + n - (N + 1)) (n + 1); omega) (fun _ => ⟨rfl, _, rfl, hsrc⟩) (by simp; omega) (oneCells A1) ?_
  intro w3 hr3 hgr3q hs3
  have hgr3 := grown_un hgr3q
  clear hsrc hrowA hA1
  have hl0 : (A1 ++ List.replicate (n + 1 - A1.length) 0).length = n + 1 := by simp; omega
  have hgl := (Array.getElem?_eq_some_iff.1 hrow0).1
  rw [hg0] at hgl
  have hgrA : w1.grownBy w3 (some (w.heap.size + 1 + 1)) := grown_two (World.grownBy_alloc w1 _ _) hgr3
  have k0 : Boxed w3 w.heap.size 42 (.slice (some ⟨by', offy, none⟩) n cb) := bb.kept hgrA (by simp; omega)
  have k1 : Boxed w3 (w.heap.size + 1) 3 (.int .i64 (n : Int)) := bs.kept hgrA (by simp)
  have k2 : Boxed w3 w1.heap.size 42 (.slice (some ⟨w.heap.size + 1 + 1, 0, none⟩) (n + 1) (n + 1)) := (Boxed.new w1 _ _).kept hgr3 (by simp; omega)
  have kr : OwnI w3 w.heap.size (some ⟨w.heap.size + 1 + 1, 0, none⟩) (n + 1) (A1 ++ List.replicate (n + 1 - A1.length) 0) := by
    have h := own_of_block (w := w3) (base := w.heap.size) (g := w.heap.size + 1 + 1) (zs := A1 ++ List.replicate (n + 1 - A1.length) 0) (by rw [← splice_row]; exact hr3) (by omega) (by rw [hl0]; unfold maxLen; omega)
    rw [hl0] at h
    exact h
  have kB : Below w.heap.size w w3 := hb1.grown hgrA hb1.size (fun k hk => by cases hk; omega)
  have hz3 : w3.heap.size = w1.heap.size + 1 := by rw [hs3]; simp
  obtain ⟨g, hg⟩ : ∃ g, g = w.heap.size + 1 + 1 := ⟨_, rfl⟩
  obtain ⟨s, hs⟩ : ∃ s, s = w1.heap.size := ⟨_, rfl⟩
  obtain ⟨R0, hR0⟩ : ∃ R0, R0 = A1 ++ List.replicate (n + 1 - A1.length) 0 := ⟨_, rfl⟩
  have HR0 : Hid (R0 = A.drop (N + 1) ++ List.replicate (n + 1 - (n - 1)) 0) := by rw [hlA1, HA1.out] at hR0; exact hR0
  rw [← hR0] at kr hl0
  rw [← hg] at k2 kr hgl ⊢
  rw [← hs] at k2 hgl hz3 ⊢
  have hgb : w.heap.size + 1 < g := by omega
  have HK : Hid (Boxed w3 w.heap.size 42 (.slice (some ⟨by', offy, none⟩) n cb) ∧ Boxed w3 (w.heap.size + 1) 3 (.int .i64 (n : Int)) ∧ Boxed w3 s 42 (.slice (some ⟨g, 0, none⟩) (n + 1) (n + 1)) ∧ OwnI w3 w.heap.size (some ⟨g, 0, none⟩) (n + 1) R0 ∧ Below w.heap.size w w3) := ⟨k0, k1, k2, kr, kB⟩
  rw [List.length_map, hlA1]
  clear hown hgrow hrow0 hg0 hb1 bb bs hr3 hgr3 hgr3q hs3 hgrA k0 k1 k2 kr kB hg hs hR0 HA1 hlA1
  gi_wp2_with (first | (gi_at_make; refine makeFull_in _ rfl _ _ 42 rfl w.heap.size 3 i0 (.int .i64 0) 1 Tryd.underlying42 hi hz0 hz1 _ _ _ _ (N + 1) rfl rfl (by omega) (by omega) (by rw [hz2]; omega) (by unfold maxLen; omega) (by omega) ?_; intro w4 hown4 hgrow4) | (refine ⟨trivial, ?_⟩; gi_at_call 82; refine (fromTop_in Fence.wide (4 - 1) trivial rfl _ _ _ _).mono ?_; rintro e w' ⟨rfl, rfl⟩))
  refine (fromTop_in Fence.wide 3 trivial rfl _ _ _ _).mono ?_
  rintro e w' ⟨rfl, rfl⟩
  gi_wp2
  obtain ⟨k0, k1, k2, kr, kB⟩ := HK.out
  rw [hz3] at hown4
  have hrow4 := make_row hown4
  have hq4 : OwnI w4 w.heap.size (some ⟨s + 1, 0, none⟩) (N + 1) (List.replicate (N + 1) (0 : Int)) := by
    have h := own_of_block (base := w.heap.size) (zs := List.replicate (N + 1) (0 : Int)) (g := s + 1) (w := w4) (by rw [List.map_replicate]; exact hrow4) (by omega) (by simp; unfold maxLen; omega)
    rw [List.length_replicate] at h
    exact h
  have hs2 : s + 1 < w4.heap.size := own_lt hq4
  obtain ⟨s2, hs2e⟩ : ∃ s2, s2 = w4.heap.size := ⟨_, rfl⟩
  have hs2' : s + 1 < s2 := by rw [hs2e]; exact hs2
  obtain ⟨w5, hw5⟩ : ∃ w5, w5 = w4.alloc (.cells #[.slice (some ⟨s + 1, 0, none⟩) (N + 1) (N + 1)] 42) := ⟨_, rfl⟩
  have hz5 : w5.heap.size = s2 + 1 := by rw [hw5, hs2e]; simp
  obtain ⟨w6, hw6⟩ : ∃ w6, w6 = w5.alloc (.cells #[.slice (some ⟨bx, offx, none⟩) (N + 1) ca] 42) := ⟨_, rfl⟩
  have hz6 : w6.heap.size = s2 + 2 := by rw [hw6]; simp [hz5]
  have g46 : w4.grownBy w6 none := by rw [hw6, hw5]; exact grown_two (World.grownBy_alloc _ _ _) (World.grownBy_alloc _ _ _)
  have hS6 : LSt w.heap.size g s (s + 1) s2 n (N + 1) (.slice (some ⟨by', offy, none⟩) n cb) w6 R0 (List.replicate (N + 1) 0) := by
    refine ⟨(k0.kept hgrow4 (by simp)).kept g46 (by simp), (k1.kept hgrow4 (by simp)).kept g46 (by simp), (k2.kept hgrow4 (by simp)).kept g46 (by simp), ?_, (kr.kept hgrow4 (fun _ _ e => by cases e)).kept g46 (fun _ _ e => by cases e), hq4.kept g46 (fun _ _ e => by cases e), by omega⟩
    rw [hw6, hw5, hs2e]
    exact (Boxed.new w4 _ _).alloc _
  have hbox6 : Boxed w6 (s2 + 1) 42 (.slice (some ⟨bx, offx, none⟩) (N + 1) ca) := by rw [← hz5, hw6]; exact Boxed.new _ _ _
  have hB6 : Below w.heap.size w w6 := (kB.grown hgrow4 kB.size (fun k hk => by cases hk)).grown g46 (by omega) (fun k hk => by cases hk)
  have hOrd : LOrd w.heap.size g s (s + 1) s2 := ⟨by omega, by omega, by omega, by omega⟩
  obtain ⟨D, hDe⟩ : ∃ D, D = A.take (N + 1) := ⟨_, rfl⟩
  have HD : Hid (N + 1 = D.length) := by show N + 1 = D.length; rw [hDe, List.length_take, HLA.out]; omega
  have hDat : ∀ j, j < N + 1 → D.getD j 0 = ((x / 65536 ^ j % 65536 : Nat) : Int) := by
    intro j hj
    rw [← dgs_at, ← HA.out, hDe]
    simp [List.getD_eq_getElem?_getD, hj]
  have hI0 : SlB w.heap.size w (some ⟨bx, offx, none⟩) D := by
    obtain ⟨b', o', he, hlt, hc⟩ := cells_at HSA.out (by have := HLA.out; omega)
    cases he
    refine .inr ⟨bx, offx, rfl, hlt, fun i hi => ?_⟩
    have hi' : i < N + 1 := by rw [HD.out]; exact hi
    rw [hc i (by rw [HLA.out]; omega), hDe]
    simp [List.getD_eq_getElem?_getD, hi']
  have hpw : 65536 ^ (n - 1) ≤ y := by
    rcases Nat.lt_or_ge y (65536 ^ (n - 1)) with h | h
    · have h' := (dgs_len_iff y (n - 1)).2 h
      rw [← HB.out, HN.out] at h'
      omega
    · exact h
  have hyn : y < 65536 ^ n := (dgs_len_iff y n).1 (by rw [← HB.out, HN.out]; exact Nat.le_refl _)
  have hR0v : val R0 = ((x / 65536 ^ (N + 1) : Nat) : Int) := by rw [HR0.out, val_append, val_zeros, HA.out, dgs_drop, val_dgs]; simp
  have hR0l : R0.length = n + 1 := hl0
  have hR0d : Dg R0 := by rw [HR0.out, HA.out]; exact ((Dg_dgs x).drop _).append (Dg.zeros _)
  have hR0y : x / 65536 ^ (N + 1) < y := by
    refine Nat.lt_of_lt_of_le ?_ hpw
    rw [Nat.div_lt_iff_lt_mul (Nat.pow_pos (by decide)), ← Nat.pow_add]
    refine (dgs_len_iff x _).1 ?_
    rw [← HA.out, HLA.out]
    omega
  rw [← hw5, ← hw6, ← hs2e]
  have HYN : Hid (y < 65536 ^ n) := hyn
  have HDA : Hid (∀ j, j < N + 1 → D.getD j 0 = ((x / 65536 ^ j % 65536 : Nat) : Int)) := hDat
  have hm2 : N + 1 ≤ 1048576 := by omega
  clear hown4 hgrow4 hrow4 hq4 k0 k1 k2 kr kB HK hDe hpw hyn hDat hw5 hw6 hz5 hs2e hz3 g46
  refine wpIn_rangeFunc_ownG rfl (by omega) (gf := 96) (lb := #[.pointer (some ⟨s2 + 1, 0, none⟩)]) rfl trivial (enters_of Tryd.func96 (by kernel_rfl) rfl)
    (top_stops Fence.wide (4 - 1) trivial rfl (by omega) (s2 + 1) w.heap.size (some ⟨bx, offx, none⟩) ca D (N + 1) HD hm2 _ (by omega) (by omega) hbox6.cell (hI0.below hB6)) KpB.t (KpB.b (by omega) (by omega)) (Below.refl _ _) (fun _ => rfl)
    (fun pre W => (∃ R rest out, lnI x y (N + 1) pre R out ∧ R < y ∧ rest.length = n + 1 ∧ Dg rest ∧ val rest = (R : Int) ∧ Dg out ∧ out.length = N + 1 ∧ LSt w.heap.size g s (s + 1) s2 n (N + 1) (.slice (some ⟨by', offy, none⟩) n cb) W rest out) ∧ Below w.heap.size w W)
    (fun _ _ _ => False)
    (OwnFrom.and (Own.from (fun s A B row hs hg hr => by obtain ⟨R, rest, out, h1, h2, h3, h4, h5, h6, h7, h8⟩ := hs; exact ⟨R, rest, out, h1, h2, h3, h4, h5, h6, h7, h8.own hg hr⟩) _) (ownFrom_below (Nat.le_refl _) (by omega)))
    (fun _ _ _ _ _ hs _ _ => hs)
    ⟨⟨x / 65536 ^ (N + 1), R0, List.replicate (N + 1) 0, fun _ => by simp only [List.length_nil, Nat.sub_zero]; rw [List.drop_of_length_le (by simp)]; simp [val], hR0y, hR0l, hR0d, hR0v, Dg.zeros _, by simp, hS6⟩, hB6⟩
    (fun p => { tmps := #[Value.slice (some { block := bx, off := offx }) (N + n) ca, Value.slice (some { block := by', off := offy }) n cb, undef, Value.pointer (some { block := w.heap.size, off := 0 }), Value.slice none 0 0, Value.slice none 0 0, Value.pointer (some { block := w.heap.size + 1, off := 0 }), Value.int IntKind.i64 (↑N + 1), Value.pointer (some { block := s, off := 0 }), Value.pointer (some { block := s2, off := 0 }), Value.int .i64 (p.1 : Int), Value.int .i64 (D.getD p.1 0), undef, Value.slice (some { block := by', off := offy }) n cb, Value.int IntKind.i64 ↑n, Value.slice (some { block := bx, off := offx }) (N + n) ca, Value.int IntKind.i64 (↑N + ↑n), Value.int IntKind.i64 ↑n, Value.int IntKind.i64 ↑N, Value.int IntKind.i64 (↑N + 1), Value.int IntKind.i64 ↑n, Value.int IntKind.i64 (↑n + 1), Value.slice (some { block := g, off := 0 }) (n + 1) (n + 1), Value.slice (some { block := g, off := 0 }) (n + 1) (n + 1), Value.slice (some { block := bx, off := offx }) (N + n) ca, Value.int IntKind.i64 (↑N + 1), Value.slice (some { block := bx, off := offx + (N + 1) }) (N + n - (N + 1)) (ca - (N + 1)), Value.int IntKind.i64 ↑(n - 1), Value.int IntKind.i64 (↑N + 1), Value.slice (some { block := s + 1, off := 0 }) (N + 1) (N + 1), Value.slice (some { block := bx, off := offx }) (N + n) ca, Value.int IntKind.i64 (↑N + 1), Value.slice (some { block := bx, off := offx }) (N + 1) ca, Value.func (Fn.func 96) #[] #[Value.pointer (some { block := s2 + 1, off := 0 })], Value.int .i64 (p.1 : Int), Value.int .i64 (D.getD p.1 0), undef, undef, undef, undef, undef, undef, undef, undef, undef, undef, undef, undef, undef, undef, undef, undef, undef, undef, undef, undef, undef, undef, undef, undef, undef, undef, undef, undef, undef, undef, undef, undef, undef, undef, undef, undef, undef], defers := [] }) ?assign ?body ?done ?stop
  case assign =>
    intro l p W K hK
    simp only [plEnc]
    gi_wp2
    exact hK
  case body =>
    rintro l pre p W ⟨⟨R, rest, out, hI, hRy, hrl, hrd, hrv, hod, hol, hS⟩, hB⟩ hpl
    have hxb : x / 65536 ^ p.1 % 65536 < 65536 := Nat.mod_lt _ (by decide)
    have hDp := HDA.out p.1 p.2
    obtain ⟨xj, hxj⟩ : ∃ xj : Nat, xj = x / 65536 ^ p.1 % 65536 := ⟨_, rfl⟩
    rw [← hxj] at hxb hDp
    have HST : Hid (lnI x y (N + 1) (pre ++ [p]) ((R * 65536 + xj) % y) (out.set p.1 (((R * 65536 + xj) / y : Nat) : Int))) := lnI_step hol hpl hI hxj
    have hsh := shift_row hrl hrd hrv (Nat.lt_trans hRy HYN.out) hxb
    obtain ⟨L, hL⟩ : ∃ L : List Int, L = (xj : Int) :: rest.take n := ⟨_, rfl⟩
    have hrow : W.heap[g]? = some (.cells (rest.map (Value.int .i64)).toArray 3 (0, 0)) := by
      have h := hS.rr
      unfold OwnI at h
      rw [hrl] at h
      exact own_block h
    have hc8 := hS.br.cell
    have HS : Hid (LSt w.heap.size g s (s + 1) s2 n (N + 1) (.slice (some ⟨by', offy, none⟩) n cb) W rest out) := hS
    have HLL : Hid (L.length = n + 1 ∧ Dg L ∧ val L = ((R * 65536 + xj : Nat) : Int)) := by rw [hL]; exact hsh
    have HL : Hid (L = (xj : Int) :: rest.take n) := hL
    rw [hDp]
    obtain ⟨zI, hzI⟩ : ∃ zI : Int, zI = (xj : Int) := ⟨_, rfl⟩
    rw [← hzI]
    have HZ : Hid (zI = (xj : Int)) := hzI
    have HB0 : Hid (Below w.heap.size w W) := hB
    have HOD : Hid (Dg out ∧ out.length = N + 1) := ⟨hod, hol⟩
    have HR : Hid (R < y ∧ rest.length = n + 1) := ⟨hRy, hrl⟩
    have HXB : Hid (xj < 65536) := hxb
    clear hsh hL hS hxj hDp hB hI hzI hod hol hRy hrl hrd hrv hxb hS6 hbox6 hB6 hI0 hR0v hR0l hR0d hR0y hl0
    gi_wp2
    refine quiet_last_round_lit (by simp only [List.getLast?_cons_cons, List.getLast?_singleton]; rfl) (by simp only [List.dropLast, List.cons_append, List.nil_append, nopOf]; rfl) rfl (by kernel_rfl) hmix (by kernel_rfl) (by kernel_rfl) (by kernel_rfl) (by kernel_rfl) ?_
    repeat (gi_big_quiet_step (fail))
    refine wpQuietIn_nil ?_
    rintro W' ⟨q, rfl⟩
    have hsrc : ∀ j v, ((rest.take n).map (Value.int .i64))[j]? = some v → (W.drewN q).cell? (Addr.add ⟨g, 0, none⟩ j) = some v := by
      intro j v hv
      have hl := HR.out.2
      have hj : j < n := by
        rcases Nat.lt_or_ge j n with h | h
        · exact h
        · rw [List.getElem?_eq_none (by simp; omega)] at hv
          cases hv
      have e : (⟨g, 0, none⟩ : Addr).add j = ⟨g, j, none⟩ := by
        unfold Addr.add
        split
        · subst_vars; rfl
        · simp
      have hc := row_cell HS.out.rr (i := j) (by omega)
      rw [e]
      show W.cell? ⟨g, j, none⟩ = some v
      rw [hc]
      have hj2 : j < rest.length := by omega
      simpa [List.getElem?_take, hj, List.getD_eq_getElem?_getD, List.getElem?_eq_getElem hj2] using hv
    refine step_copy_in (.tmp 37) (.tmp 38) 42 42 rfl 3 Tryd.underlying42 Tryd.size3 _ _ _ _ _ _ rfl rfl g 1 (rest.map (Value.int .i64)) 3 hrow ((rest.take n).map (Value.int .i64)) (by have := HR.out.2; rw [List.length_map, List.length_take]; show min n rest.length = min (n + 1) n; omega) (fun _ => ⟨rfl, _, rfl, hsrc⟩) (by have := HR.out.2; simp; omega) (oneCells _) ?_
    intro W1 hr1 hgr1q _
    have hgr1 : W.grownBy W1 (some g) := grown_un hgr1q
    have hl1 : (rest.getD 0 0 :: rest.take n).length = n + 1 := by have := HR.out.2; simp; omega
    have hown1 : OwnI W1 w.heap.size (some ⟨g, 0, none⟩) (n + 1) (rest.getD 0 0 :: rest.take n) := by
      have h := own_of_block (w := W1) (base := w.heap.size) (g := g) (zs := rest.getD 0 0 :: rest.take n) (by rw [← splice_up HR.out.2]; exact hr1) (by omega) (by rw [hl1]; unfold maxLen; omega)
      rw [hl1] at h
      exact h
    have hS1 := HS.out.rest hOrd hgr1 hown1
    have hrow1 : W1.ownsRow w.heap.size 3 1 (.slice (some ⟨g, 0, none⟩) (n + 1) (n + 1)) (n + 1) ((rest.getD 0 0 :: rest.take n).map (Value.int .i64)) := by
      have h := hown1
      unfold OwnI at h
      rw [hl1] at h
      exact h
    have hst1 := hrow1.stored 0 (.int .i64 zI)
    have hfz1 := hrow1.frozenAt 0
    have hcl1 := row_cell hown1 (i := 0) (by omega)
    have hown2 : OwnI (W1.setCell ⟨g, 0, none⟩ (.int .i64 zI)) w.heap.size (some ⟨g, 0, none⟩) (n + 1) L := by
      have hLl := HLL.out.1
      unfold OwnI
      rw [hLl, HL.out, ← HZ.out]
      exact hst1.1
    have hS2 := hS1.rest hOrd hst1.2 hown2
    have hzs : s2 + 1 < W.heap.size := HS.out.sz
    have hwz := HB0.out.size
    have HG2 : Hid (Kg w6.heap.size w.heap.size (s2 + 1) W (W1.setCell ⟨g, 0, none⟩ (.int .i64 zI))) := by
      have h := grown_two hgr1 hst1.2
      exact Kg.grown h (fun j e => by cases e; omega) (by omega) hzs
    have HS2 : Hid (LSt w.heap.size g s (s + 1) s2 n (N + 1) (.slice (some ⟨by', offy, none⟩) n cb) (W1.setCell ⟨g, 0, none⟩ (.int .i64 zI)) L out) := hS2
    have hc8' := hS1.br.cell
    have hlc : ((rest.take n).map (Value.int .i64)).length = n := by have := HR.out.2; simp; omega
    rw [hlc]
    obtain ⟨oldv, holdv⟩ : ∃ oldv, oldv = (rest.getD 0 0 :: rest.take n).getD 0 0 := ⟨_, rfl⟩
    rw [← holdv] at hcl1
    clear hsrc hr1 hgr1q hgr1 hl1 hown1 hS1 hrow1 hst1 hown2 hS2 hlc holdv hc8 hrow
    gi_wp2
    obtain ⟨W2, hW2⟩ : ∃ W2, W2 = W1.setCell ⟨g, 0, none⟩ (.int .i64 zI) := ⟨_, rfl⟩
    rw [← hW2] at HS2 HG2 ⊢
    have hS2 := HS2.out
    obtain ⟨m, hm⟩ : ∃ m, n = m + 2 := ⟨n - 2, by omega⟩
    have hBn := HN.out
    have hLl := HLL.out.1
    have hgu := long_guess (m := m) (L := L) (by rw [← HB.out, hBn, hm]) HR.out.1 HXB.out HLL.out.2.1 HLL.out.2.2
    rw [← HB.out] at hgu
    have d1 := HLL.out.2.1.at (m + 2)
    have d2 := HLL.out.2.1.at (m + 1)
    have d3 := HLL.out.2.1.at m
    have hBd : Dg B := by rw [HB.out]; exact Dg_dgs y
    have d4 := hBd.at (m + 1)
    have d5 := hBd.at m
    have hP1 : ∀ d os k, CallsIn Fence.wide k Tryd.prog 87 #[.slice (some ⟨g, 0, none⟩) (n + 1) (n + 1), .int .i64 ((n : Int) + 1)] (grow (redrawn W2 d) os) fun e w'' => e = .returned (.agg #[.int .i64 (L.getD (m + 2) 0), .int .i64 (L.getD (m + 1) 0)]) ∧ ∃ p : Regrown, w'' = grow (redrawn W2 p.d) p.os := by
      intro d os k
      have h := pairBelow_any (some ⟨g, 0, none⟩) (n + 1) L (n + 1) (grow (redrawn W2 d) os) (hS2.rr.sl.keep (below_regrown W2 d os)) (by omega) (by omega) (by omega)
      have e1 : n + 1 - 1 = m + 2 := by omega
      have e2 : n + 1 - 2 = m + 1 := by omega
      have e3 : ((n + 1 : Nat) : Int) = (n : Int) + 1 := by omega
      rw [hLl, e1, e2, e3] at h
      exact CallsIn.regrown_of (callsIn_wide.2 h)
    have hP2 : ∀ d os k, CallsIn Fence.wide k Tryd.prog 87 #[.slice (some ⟨by', offy, none⟩) n cb, .int .i64 (n : Int)] (grow (redrawn W2 d) os) fun e w'' => e = .returned (.agg #[.int .i64 (B.getD (m + 1) 0), .int .i64 (B.getD m 0)]) ∧ ∃ p : Regrown, w'' = grow (redrawn W2 p.d) p.os := by
      intro d os k
      have h := pairBelow_any (some ⟨by', offy, none⟩) cb B n (grow (redrawn W2 d) os) (((HSB.out.keep HB0.out).below (B := w.heap.size) (fun x hx => by obtain ⟨b', o', he, hlt, _⟩ := cells_at HSB.out (by omega); cases hx; cases he; exact hlt) HG2.out.2.1).keep (below_regrown W2 d os)) (by omega) (by omega) (by omega)
      have e1 : n - 1 = m + 1 := by omega
      have e2 : n - 2 = m := by omega
      rw [hBn, e1, e2] at h
      exact CallsIn.regrown_of (callsIn_wide.2 h)
    have hcz : ∀ d os, (grow (redrawn W2 d) os).cell? ⟨g, m, none⟩ = some (.int .i64 (L.getD m 0)) := fun d os => cell_regrown (row_cell hS2.rr (by omega)) d os
    obtain ⟨p1, hp1⟩ : ∃ p1, p1 = L.getD (m + 2) 0 := ⟨_, rfl⟩
    obtain ⟨q1, hq1⟩ : ∃ q1, q1 = L.getD (m + 1) 0 := ⟨_, rfl⟩
    obtain ⟨z1, hz1⟩ : ∃ z1, z1 = L.getD m 0 := ⟨_, rfl⟩
    obtain ⟨p2, hp2⟩ : ∃ p2, p2 = B.getD (m + 1) 0 := ⟨_, rfl⟩
    obtain ⟨q2, hq2⟩ : ∃ q2, q2 = B.getD m 0 := ⟨_, rfl⟩
    rw [← hp1, ← hq1, ← hz1, ← hp2, ← hq2] at hgu
    rw [← hp1] at d1
    rw [← hq1] at d2
    rw [← hz1] at d3 hcz
    rw [← hp2] at d4
    rw [← hq2] at d5
    rw [← hp1, ← hq1] at hP1
    rw [← hp2, ← hq2] at hP2
    have hPG : ∀ d os k, CallsIn Fence.wide k Tryd.prog 86 #[.agg #[.int .i64 p1, .int .i64 q1], .int .i64 z1, .agg #[.int .i64 p2, .int .i64 q2]] (grow (redrawn W2 d) os) fun e w'' => e = .returned (.int .i64 (guessV p1 q1 z1 p2 q2)) ∧ ∃ p : Regrown, w'' = grow (redrawn W2 p.d) p.os := fun d os k => CallsIn.regrown_of (callsIn_wide.2 (guess_any p1 q1 z1 p2 q2 _ d1.1 d1.2 d2.1 d2.2 d3.1 d3.2 hgu.2.2.2 d4.2 d5.1 d5.2))
    obtain ⟨G, hG⟩ : ∃ G, G = guessV p1 q1 z1 p2 q2 := ⟨_, rfl⟩
    rw [← hG] at hgu hPG
    have HGU : Hid (0 ≤ G ∧ G < 65536 ∧ (G = (((R * 65536 + xj) / y : Nat) : Int) ∨ G = (((R * 65536 + xj) / y : Nat) : Int) + 1)) := ⟨hgu.1, hgu.2.1, hgu.2.2.1⟩
    have HP1 : Hid _ := hP1
    have HP2 : Hid _ := hP2
    have HPG : Hid _ := hPG
    have c8 : ∀ d os, (grow (redrawn W2 d) os).cell? ⟨s, 0, none⟩ = some (.slice (some ⟨g, 0, none⟩) (n + 1) (n + 1)) := fun d os => cell_regrown hS2.br.cell d os
    have c6 : ∀ d os, (grow (redrawn W2 d) os).cell? ⟨w.heap.size + 1, 0, none⟩ = some (.int .i64 (n : Int)) := fun d os => cell_regrown hS2.bn.cell d os
    have c3 : ∀ d os, (grow (redrawn W2 d) os).cell? ⟨w.heap.size, 0, none⟩ = some (.slice (some ⟨by', offy, none⟩) n cb) := fun d os => cell_regrown hS2.bb.cell d os
    have hnm : ((n : Int) - 2).toNat = m := by omega
    have HM : Hid (n = m + 2) := hm
    clear hgu hP1 hP2 hPG d1 d2 d3 d4 d5 hp1 hq1 hz1 hp2 hq2 hG hBn hLl hBd hm hS2 hW2 hfz1 hcl1 hc8'
    refine quiet_round_below rfl (by kernel_rfl) hmix (by kernel_rfl) ?_
    repeat (gi_big_quiet_step (first | with_reducible exact HP1.out _ _ _ | with_reducible exact HP2.out _ _ _ | with_reducible exact HPG.out _ _ _))
    refine wpQuietIn_nil ?_
    rintro W3q ⟨⟨dq, osq⟩, hW3q⟩
    have hb3 : Below W2.heap.size W2 W3q := by rw [hW3q]; exact below_regrown W2 dq osq
    have hS3 := HS2.out.keep0 (below_grown hb3)
    have hK3 := HG2.out.t (Kg.grown (below_grown hb3) (fun _ e => by cases e) (Nat.le_trans hwz HG2.out.1.size) HS2.out.sz)
    have hlB : ∀ x : Addr, some (⟨by', offy, none⟩ : Addr) = some x → x.block < w.heap.size := fun x hx => by obtain ⟨b', o', he, hlt, _⟩ := cells_at HSB.out (by rw [HN.out]; omega); cases hx; cases he; exact hlt
    have hsB3 : Sl W3q (some ⟨by', offy, none⟩) B := (HSB.out.keep HB0.out).below (B := w.heap.size) hlB hK3.2.1
    have hBd : Dg B := by rw [HB.out]; exact Dg_dgs y
    have hBv : pv B (n + 1) = (y : Int) := by rw [pv_all (by rw [HN.out]; omega), HB.out, val_dgs]
    have hypos : 0 < y := Nat.lt_of_le_of_lt (Nat.zero_le _) HR.out.1
    obtain ⟨Q, hQ⟩ : ∃ Q : Int, Q = (((R * 65536 + xj) / y : Nat) : Int) := ⟨_, rfl⟩
    have hQ0 : 0 ≤ Q := by rw [hQ]; exact Int.natCast_nonneg _
    have hQ1 : Q < 65536 := by have h1 := HGU.out.2.1; have h2 := HGU.out.2.2; rw [← hQ] at h2; omega
    have CT : Hid (Calls Tryd.prog 88 #[.slice (some ⟨g, 0, none⟩) (n + 1) (n + 1), .slice (some ⟨by', offy, none⟩) n cb, .int .i64 G] W3q fun e W4 => ∃ (bb : Bool) (out1 : List Int), e = .returned (.bool bb) ∧ ((bb = false ∧ G = Q ∧ val out1 = (((R * 65536 + xj) % y : Nat) : Int)) ∨ (bb = true ∧ G - 1 = Q ∧ ∀ (out2 : List Int) (c2 : Int), Dg out2 → out2.length = n + 1 → (c2 = 0 ∨ c2 = 1) → val out2 + c2 * pw (n + 1) = val out1 + y → val out2 = (((R * 65536 + xj) % y : Nat) : Int))) ∧ out1.length = n + 1 ∧ Dg out1 ∧ OwnI W4 w.heap.size (some ⟨g, 0, none⟩) (n + 1) out1 ∧ W3q.grownBy W4 (some g)) := by
      have h := takeOff_any w.heap.size g (n + 1) (some ⟨by', offy, none⟩) cb L B G W3q hS3.rr hsB3 (.inr (fun x hx => by have := hlB x hx; omega)) HLL.out.2.1 hBd (by rw [HLL.out.1]; omega) HGU.out.1 HGU.out.2.1
      rw [HLL.out.1, HN.out, HLL.out.2.2, hBv] at h
      refine h.mono ?_
      rintro e W4 ⟨out1, c, he, hl1, hd1, hc0, hv1, ho1, hg1⟩
      have hc := off_case hypos HYN.out HGU.out.2.2 hl1 hd1 hc0 hv1
      rw [← hQ] at hc
      rcases hc with ⟨hc, h1, h2⟩ | ⟨hc, h1, h2⟩
      · exact ⟨false, out1, by rw [he, hc]; simp, .inl ⟨rfl, h1, h2⟩, hl1, hd1, ho1, hg1⟩
      · exact ⟨true, out1, by rw [he, decide_eq_true hc], .inr ⟨rfl, h1, h2⟩, hl1, hd1, ho1, hg1⟩
    have CP : Hid (∀ W4 out1, Dg out1 → out1.length = n + 1 → LSt w.heap.size g s (s + 1) s2 n (N + 1) (.slice (some ⟨by', offy, none⟩) n cb) W4 out1 out → Kg w6.heap.size w.heap.size (s2 + 1) W W4 → Calls Tryd.prog 89 #[.slice (some ⟨g, 0, none⟩) (n + 1) (n + 1), .slice (some ⟨by', offy, none⟩) n cb] W4 fun e W5 => e = .returned (.tuple #[]) ∧ ∃ (out2 : List Int) (c2 : Int), out2.length = n + 1 ∧ Dg out2 ∧ (c2 = 0 ∨ c2 = 1) ∧ val out2 + c2 * pw (n + 1) = val out1 + y ∧ OwnI W5 w.heap.size (some ⟨g, 0, none⟩) (n + 1) out2 ∧ W4.grownBy W5 (some g)) := by
      intro W4 out1 hd1 hl1 hS4 hK4
      have h := putOn_any w.heap.size g (n + 1) (some ⟨by', offy, none⟩) cb out1 B W4 hS4.rr ((HSB.out.keep HB0.out).below (B := w.heap.size) hlB hK4.2.1) (.inr (fun x hx => by have := hlB x hx; omega)) hd1 hBd (by rw [hl1]; omega)
      rw [hl1, HN.out, hBv] at h
      exact h
    have HF : Hid (∀ W5 rest5, LSt w.heap.size g s (s + 1) s2 n (N + 1) (.slice (some ⟨by', offy, none⟩) n cb) W5 rest5 out → Kg w6.heap.size w.heap.size (s2 + 1) W W5 → Dg rest5 → rest5.length = n + 1 → val rest5 = (((R * 65536 + xj) % y : Nat) : Int) → KeepsFrom w6.heap.size W (W5.setCell ⟨s + 1, p.1, none⟩ (.int .i64 Q)) ∧ KpB w.heap.size (s2 + 1) W (W5.setCell ⟨s + 1, p.1, none⟩ (.int .i64 Q)) ∧ ((∃ R rest out, lnI x y (N + 1) (pre ++ [p]) R out ∧ R < y ∧ rest.length = n + 1 ∧ Dg rest ∧ val rest = (R : Int) ∧ Dg out ∧ out.length = N + 1 ∧ LSt w.heap.size g s (s + 1) s2 n (N + 1) (.slice (some ⟨by', offy, none⟩) n cb) (W5.setCell ⟨s + 1, p.1, none⟩ (.int .i64 Q)) rest out) ∧ Below w.heap.size w (W5.setCell ⟨s + 1, p.1, none⟩ (.int .i64 Q)))) := by
      intro W5 rest5 hS5 hK5 hd5 hl5 hv5
      have hrow5 : W5.ownsRow w.heap.size 3 1 (.slice (some ⟨s + 1, 0, none⟩) (N + 1) (N + 1)) (N + 1) (out.map (Value.int .i64)) := by
        have h := hS5.rq
        unfold OwnI at h
        rw [HOD.out.2] at h
        exact h
      have hst := hrow5.stored p.1 (.int .i64 Q)
      have hown6 : OwnI (W5.setCell ⟨s + 1, p.1, none⟩ (.int .i64 Q)) w.heap.size (some ⟨s + 1, 0, none⟩) (N + 1) (out.set p.1 Q) := by
        unfold OwnI
        rw [List.length_set, HOD.out.2, List.map_set]
        exact hst.1
      have hk := hK5.t (Kg.grown (B := w6.heap.size) (n₀ := w.heap.size) (Bs := s2 + 1) hst.2 (fun j e => by cases e; omega) (Nat.le_trans hwz hK5.1.size) hS5.sz)
      have hst' := HST.out
      rw [← hQ] at hst'
      exact ⟨hk.1, hk.2, ⟨_, rest5, out.set p.1 Q, hst', Nat.mod_lt _ hypos, hl5, hd5, hv5, HOD.out.1.set hQ0 hQ1, by rw [List.length_set]; exact HOD.out.2, hS5.quot hOrd hst.2 hown6⟩, HB0.out.trans hk.2.1⟩
    have HQC : Hid (∀ W5 rest5, LSt w.heap.size g s (s + 1) s2 n (N + 1) (.slice (some ⟨by', offy, none⟩) n cb) W5 rest5 out → W5.cell? ⟨s2, 0, none⟩ = some (.slice (some ⟨s + 1, 0, none⟩) (N + 1) (N + 1)) ∧ W5.cell? ⟨s + 1, p.1, none⟩ = some (.int .i64 (out.getD p.1 0)) ∧ W5.frozen? ⟨s + 1, p.1, none⟩ = false) := by
      intro W5 rest5 hS5
      have hrow5 : W5.ownsRow w.heap.size 3 1 (.slice (some ⟨s + 1, 0, none⟩) (N + 1) (N + 1)) (N + 1) (out.map (Value.int .i64)) := by
        have h := hS5.rq
        unfold OwnI at h
        rw [HOD.out.2] at h
        exact h
      exact ⟨hS5.bq.cell, row_cell hS5.rq (by rw [HOD.out.2]; exact p.2), hrow5.frozenAt p.1⟩
    have HS3 : Hid (LSt w.heap.size g s (s + 1) s2 n (N + 1) (.slice (some ⟨by', offy, none⟩) n cb) W3q L out) := hS3
    have HK3 : Hid (Kg w6.heap.size w.heap.size (s2 + 1) W W3q) := hK3
    have hc8 := hS3.br.cell
    have hc3 := hS3.bb.cell
    have hpN : (p.1 : Int) < N + 1 := by have := p.2; omega
    obtain ⟨hg0, hg1, _⟩ := HGU.out
    clear hb3 hS3 hK3 hlB hsB3 hBd hBv hypos hQ c8 c6 c3 hcz hnm hW3q HP1 HP2 HPG hQ0 hQ1
    gi_wp2_with fail
    refine (CallsIn.inRound l (callsIn_wide.2 CT.out)).mono ?_
    rintro e W4 ⟨bb, out1, rfl, hcase, hl1, hd1, ho1, hgr4⟩
    have hS4 := HS3.out.rest hOrd hgr4 ho1
    have hK4 := HK3.out.t (Kg.grown (B := w6.heap.size) (n₀ := w.heap.size) (Bs := s2 + 1) hgr4 (fun j e => by cases e; omega) (Nat.le_trans hwz HK3.out.1.size) HS3.out.sz)
    have HS4 : Hid (LSt w.heap.size g s (s + 1) s2 n (N + 1) (.slice (some ⟨by', offy, none⟩) n cb) W4 out1 out) := hS4
    have HK4 : Hid (Kg w6.heap.size w.heap.size (s2 + 1) W W4) := hK4
    have HL1 : Hid (out1.length = n + 1 ∧ Dg out1) := ⟨hl1, hd1⟩
    rcases hcase with ⟨rfl, hGQ, hv1⟩ | ⟨rfl, hGQ, hv1⟩
    · have hF := HF.out W4 out1 hS4 hK4 hd1 hl1 hv1
      rw [← hGQ] at hF
      have HF1 : Hid _ := hF
      obtain ⟨hcq, hco, hfq⟩ := HQC.out W4 out1 hS4
      clear hF hS4 hK4 ho1 hgr4 hl1 hd1 hGQ hv1 hc8 hc3
      gi_wp2
      exact HF1.out
    · have HV1 : Hid _ := hv1
      have HGQ : Hid (G - 1 = Q) := hGQ
      have hc8' := hS4.br.cell
      have hc3' := hS4.bb.cell
      clear hS4 hK4 ho1 hgr4 hl1 hd1 hGQ hv1 hc8 hc3
      gi_wp2_with fail
      refine (CallsIn.inRound l (callsIn_wide.2 (CP.out W4 out1 HL1.out.2 HL1.out.1 HS4.out HK4.out))).mono ?_
      rintro e W5 ⟨rfl, out2, c2, hl2, hd2, hcc2, hv2, ho2, hgr5⟩
      have hS5 := HS4.out.rest hOrd hgr5 ho2
      have hK5 := HK4.out.t (Kg.grown (B := w6.heap.size) (n₀ := w.heap.size) (Bs := s2 + 1) hgr5 (fun j e => by cases e; omega) (Nat.le_trans hwz HK4.out.1.size) HS4.out.sz)
      have hF := HF.out W5 out2 hS5 hK5 hd2 hl2 (HV1.out out2 c2 hd2 hl2 hcc2 hv2)
      rw [← HGQ.out] at hF
      have HF1 : Hid _ := hF
      obtain ⟨hcq, hco, hfq⟩ := HQC.out W5 out2 hS5
      clear hF hS5 hK5 ho2 hgr5 hl2 hd2 hcc2 hv2 hc8' hc3'
      gi_wp2
      exact HF1.out
  case done =>
    rintro Dd ys W hDd hys ⟨⟨R, rest, out, hI, hRy, hrl, hrd, hrv, hod, hol, hS⟩, hB⟩ hK
    have hlen := congrArg List.length hys
    rw [List.length_map, tp_length] at hlen
    have hv := hI (by rw [hlen]; exact hys)
    rw [hlen, Nat.sub_self, List.drop_zero, Nat.pow_zero, Nat.div_one] at hv
    have he := div_end (x := x) (q := val out) (r := (R : Int)) (d := (y : Int)) (by omega) (by omega) (by omega) hv
    rw [Int.toNat_natCast] at he
    have hRm : val rest = ((x % y : Nat) : Int) := by rw [hrv]; exact he.2
    have HO1 : Hid (OwnI W w.heap.size (some ⟨s + 1, 0, none⟩) (N + 1) (dgs (x / y))) := by
      have T := trimmed_own w.heap.size (some ⟨s + 1, 0, none⟩) (N + 1) out W hS.rq
      rw [row_dgs hod he.1] at T
      exact T
    have HO2 : Hid (OwnI W w.heap.size (some ⟨g, 0, none⟩) (n + 1) (dgs (x % y))) := by
      have T := trimmed_own w.heap.size (some ⟨g, 0, none⟩) (n + 1) rest W hS.rr
      rw [row_dgs hrd hRm] at T
      exact T
    have HT1 : Hid (∀ q, Calls Tryd.prog 76 #[.slice (some ⟨s + 1, 0, none⟩) (N + 1) (N + 1)] (W.drewN q) fun e w' => e = .returned (.slice (some ⟨s + 1, 0, none⟩) (dgs (x / y)).length (N + 1)) ∧ w' = W.drewN q) := fun q => by
      have T := trimmed_any w.heap.size (some ⟨s + 1, 0, none⟩) (N + 1) out (W.drewN q) hS.rq (by omega)
      rw [row_dgs hod he.1, hol] at T
      exact T.mono fun e w' h => ⟨h.1, h.2.2.symm⟩
    have HT2 : Hid (∀ q, Calls Tryd.prog 76 #[.slice (some ⟨g, 0, none⟩) (n + 1) (n + 1)] (W.drewN q) fun e w' => e = .returned (.slice (some ⟨g, 0, none⟩) (dgs (x % y)).length (n + 1)) ∧ w' = W.drewN q) := fun q => by
      have T := trimmed_any w.heap.size (some ⟨g, 0, none⟩) (n + 1) rest (W.drewN q) hS.rr (by omega)
      rw [row_dgs hrd hRm, hrl] at T
      exact T.mono fun e w' h => ⟨h.1, h.2.2.symm⟩
    have hcq := hS.bq.cell
    have hcr := hS.br.cell
    have HBW : Hid (Below w.heap.size w W) := hB
    obtain ⟨qd, hqd⟩ : ∃ qd, qd = dgs (x / y) := ⟨_, rfl⟩
    obtain ⟨rd, hrd2⟩ : ∃ rd, rd = dgs (x % y) := ⟨_, rfl⟩
    have HQD : Hid (dgs (x / y) = qd) := hqd.symm
    have HRD : Hid (dgs (x % y) = rd) := hrd2.symm
    rw [← hqd] at HT1 HO1
    rw [← hrd2] at HT2 HO2
    clear he hv hys hI hod hol hrl hrd hrv hRm hS hB hqd hrd2 hRy hlen
    gi_wp2
    gi_quiet_th (first | (gi_at_call 76; first | with_reducible exact CallsIn.quiet_of_same (callsIn_wide.2 (HT1.out _)) | with_reducible exact CallsIn.quiet_of_same (callsIn_wide.2 (HT2.out _))) | (refine ⟨trivial, ?_⟩; gi_at_call 76; first | with_reducible exact CallsIn.quiet_of_same (callsIn_wide.2 (HT1.out _)) | with_reducible exact CallsIn.quiet_of_same (callsIn_wide.2 (HT2.out _))))
    gi_wp2
    have hoQ1 : OwnI (W.drewN nq) w.heap.size (some ⟨s + 1, 0, none⟩) (N + 1) qd := HO1.out
    have hoQ2 : OwnI (W.drewN nq) w.heap.size (some ⟨g, 0, none⟩) (n + 1) rd := HO2.out
    have hBQ : Below w.heap.size w (W.drewN nq) := below_dN HBW.out _
    have hKQ : (W.drewN nq).heap[Dd]? = _ := hK
    refine ⟨by simp, .inl ⟨_, _, rfl, run_takeDeferred hKQ, ?_⟩⟩
    refine ⟨_, results_tmp2 rfl _ _ _, some ⟨s + 1, 0, none⟩, N + 1, some ⟨g, 0, none⟩, n + 1, by rw [HQD.out, HRD.out]; rfl, ?_, ?_, fun x y hx hy => by cases hx; cases hy; show s + 1 ≠ g; omega, ?_⟩
    · rw [HQD.out]
      exact rowOwn hoQ1 (grownBy_putObj' _ Dd _) (fun r hr => by cases hr; exact ⟨_, hKQ, rfl⟩)
    · rw [HRD.out]
      exact rowOwn hoQ2 (grownBy_putObj' _ Dd _) (fun r hr => by cases hr; exact ⟨_, hKQ, rfl⟩)
    · exact hBQ.trans (belowK_b (w := w) (Nat.le_refl _) (W.drewN nq) Dd _ _ (by omega) hKQ rfl rfl)
  case stop =>
    rintro D c pre W _ _ h _
    exact h.elim
end Go.Proofs.YthokphoojmpajahDoor
