/- The iterator digits.fromTop: it hands over the digits with their places, the highest first: its contract for whatever loop body keeps what lay below. -/
import Derived.Test.YthokphoojmpajahDoorProg
import Derived.Test.YthokphoojmpajahDoorBase
import Derived.RangeFuncNested
import Derived.RangeFuncBox
import Derived.RangeFuncLeaves
import Derived.Shelf.Abstract
import Derived.WalkKit
import Derived.OwnWalkIn
import Derived.TacticsInMore
import Derived.LoopNIn
import Derived.LoopIn
import Derived.Outline
namespace Go.Proofs.YthokphoojmpajahDoor
open Go.RowKit Go.Shelf Go.Proofs.Pin

attribute [local go_sem] Oper.semAt_some

/-- The places from the top, k of them. -/
def tp (n k : Nat) : List Nat := (List.range k).map (fun i => n - 1 - i)
theorem tp_succ (n k : Nat) : tp n (k + 1) = tp n k ++ [n - 1 - k] := by simp [tp, List.range_succ]
theorem tp_length (n k : Nat) : (tp n k).length = k := by simp [tp]

/-- A place of a digit. -/
abbrev Pl (n : Nat) := { j : Nat // j < n }
/-- What a round is handed: the place and the digit there. -/
def plEnc (zs : List Int) (n : Nat) (x : Pl n) : Array Value := #[.int .i64 (x.1 : Int), .int .i64 (zs.getD x.1 0)]

/-- A slice of ints in a block below n₀. -/
def SlB (n₀ : Nat) (w : World) (a : Option Addr) (zs : List Int) : Prop :=
  zs = [] ∨ ∃ b off, a = some ⟨b, off, none⟩ ∧ b < n₀ ∧ ∀ i, i < zs.length → w.cell? ⟨b, off + i, none⟩ = some (.int .i64 (zs.getD i 0))
theorem SlB.below {n₀ : Nat} {w w' : World} {a : Option Addr} {zs : List Int} (h : SlB n₀ w a zs) (hb : Below n₀ w w') : SlB n₀ w' a zs := by
  rcases h with h | ⟨b, off, rfl, hlt, hc⟩
  · exact .inl h
  · exact .inr ⟨b, off, rfl, hlt, fun i hi => (hb.cell (p := ⟨b, off + i, none⟩) hlt).trans (hc i hi)⟩
theorem SlB.of {w : World} {a : Option Addr} {zs : List Int} (h : Sl w a zs) : SlB w.heap.size w a zs := h

/-- What a round must keep: all that lay below n₀, and the box in which the iterator holds its digits. -/
def KpB (n₀ Bs : Nat) (W W' : World) : Prop := Below n₀ W W' ∧ W'.heap[Bs]? = W.heap[Bs]?
theorem KpB.refl (n₀ Bs : Nat) (W : World) : KpB n₀ Bs W W := ⟨Below.refl _ _, rfl⟩
theorem KpB.t {n₀ Bs : Nat} {A B C : World} (h : KpB n₀ Bs A B) (k : KpB n₀ Bs B C) : KpB n₀ Bs A C := ⟨h.1.trans k.1, k.2.trans h.2⟩
theorem KpB.b {n₀ Bs : Nat} {w : World} (hn : n₀ ≤ w.heap.size) (hB : Bs < w.heap.size) (W : World) (l : Nat) (o o' : Obj) (hl : w.heap.size ≤ l) (h : W.heap[l]? = some o) (h1 : o.isCells = false) (h2 : o.isWalk = false) : KpB n₀ Bs W (W.putObj l o') :=
  ⟨belowK_b hn W l o o' hl h h1 h2, (grownBy_putObj' W l o').block Bs (by have := (Array.getElem?_eq_some_iff.1 h).1; omega) (fun e => by cases e; omega)⟩
theorem KpB.cell {n₀ Bs : Nat} {W W' : World} (h : KpB n₀ Bs W W') : W'.cell? ⟨Bs, 0, none⟩ = W.cell? ⟨Bs, 0, none⟩ := World.cell?_of_block (w := W) h.2

set_option maxRecDepth 100000 in
set_option maxHeartbeats 2000000 in
/-- The closure of fromTop, for every loop body that keeps what lay below n₀. -/
theorem top1_in (F : Fence) (n : Nat) (hF : F.fn 96) (hro : F.round = none) (hn : 1 ≤ n) (l Bs n₀ : Nat) (a : Option Addr) (cap : Nat) (zs : List Int) (len : Nat) (HN : Hid (len = zs.length)) (hn2 : len ≤ 1048576) (J Jx : List (Pl len) → World → Prop)
    (hY : ∀ pre x W, J pre W → pre.length < len → YieldAt F (n - 1) Tryd.prog l (plEnc zs len x) W fun e W' =>
      (e = .returned (.bool true) ∧ J (pre ++ [x]) W' ∧ KpB n₀ Bs W W') ∨ (e = .returned (.bool false) ∧ Jx (pre ++ [x]) W'))
    (W : World) (hBs : W.cell? ⟨Bs, 0, none⟩ = some (.slice a len cap)) (hI : SlB n₀ W a zs) (h0 : J [] W) :
    CallsIn F n Tryd.prog 96 #[.func (.yield l) #[] #[], .pointer (some ⟨Bs, 0, none⟩)] W fun e W' => (∃ v, e = .returned v) ∧
      ((∃ ys, ys.map (·.1) = tp len len ∧ J ys W') ∨ (∃ pre, (∃ k, k ≤ len ∧ pre.map (·.1) = tp len k) ∧ Jx pre W')) := by
  have hcell : ∀ j, j < len → ∃ b off, a = some ⟨b, off, none⟩ ∧ b < n₀ ∧ W.cell? ⟨b, off + j, none⟩ = some (.int .i64 (zs.getD j 0)) := by
    intro j hj
    have hlen := HN.out
    rcases hI with rfl | ⟨b, off, rfl, hb, hc⟩
    · simp at hlen; omega
    · exact ⟨b, off, rfl, hb, hc j (by omega)⟩
  have HY : Hid (∀ pre x W, J pre W → pre.length < len → YieldAt F (n - 1) Tryd.prog l (plEnc zs len x) W fun e W' =>
      (e = .returned (.bool true) ∧ J (pre ++ [x]) W' ∧ KpB n₀ Bs W W') ∨ (e = .returned (.bool false) ∧ Jx (pre ++ [x]) W')) := hY
  clear hY hI
  refine callsIn_of_wp Tryd.func96 rfl hF ?_ hro
  simp only [Tryd.ntmps96, List.size_toArray, List.length_cons, List.length_nil, Nat.reduceAdd, Nat.reduceSub, Array.replicate_succ, Array.replicate_zero, List.push_toArray, List.append_toArray, List.nil_append, List.cons_append]
  gi_wp2
  gi_loopw [3] (fun i wr => ∃ k : Nat, k ≤ len ∧ i = .int .i64 ((len : Int) - 1 - k) ∧ (∃ pre : List (Pl len), pre.map (·.1) = tp len k ∧ J pre wr) ∧ KpB n₀ Bs W wr)
    (fun i _ => (intOf i + 1).toNat)
  case atStart => exact ⟨0, Nat.zero_le _, by simp, ⟨[], rfl, h0⟩, KpB.refl _ _ _⟩
  case round =>
    obtain ⟨k, hk, hi, ⟨pre, hpre, hJs⟩, hnx⟩ := hrel
    have hbox : wr.cell? ⟨Bs, 0, none⟩ = some (.slice a len cap) := hnx.cell.trans hBs
    by_cases hlt : k < len
    · obtain ⟨j, hj⟩ : ∃ j : Nat, len = j + 1 + k := ⟨len - 1 - k, by omega⟩
      have hi' : u3 = .int .i64 (j : Int) := by rw [hi]; congr 1; omega
      subst hi'
      obtain ⟨b, off, rfl, hb, hc⟩ := hcell j (by omega)
      obtain ⟨z, hz⟩ : ∃ z, z = zs.getD j 0 := ⟨_, rfl⟩
      rw [← hz] at hc
      have hcx : wr.cell? ⟨b, off + j, none⟩ = some (.int .i64 z) := (hnx.1.cell (p := ⟨b, off + j, none⟩) hb).trans hc
      have hjz : j < len := by omega
      obtain ⟨fn, tmps, assign, body, hy, hR⟩ := HY.out pre ⟨j, hjz⟩ wr hJs (by have h := congrArg List.length hpre; rw [List.length_map, tp_length] at h; omega)
      have HP : Hid ((pre ++ [(⟨j, hjz⟩ : Pl len)]).map (·.1) = tp len (k + 1)) := by
        show (pre ++ [(⟨j, hjz⟩ : Pl len)]).map (·.1) = tp len (k + 1)
        rw [List.map_append, hpre, tp_succ]
        have e : len - 1 - k = j := by omega
        rw [e]
        rfl
      have e2 : plEnc zs len ⟨j, hjz⟩ = #[.int .i64 (j : Int), .int .i64 z] := by unfold plEnc; rw [hz]
      rw [e2] at hy
      have HJ : Hid (len = j + 1 + k) := hj
      have hjl : (j : Int) < len := by omega
      have hj2 : (j : Int) ≤ 1048576 := by omega
      clear e2 hz hc hcell hi hj hJs hpre
      gi_wp2
      refine hR.mono ?_
      rintro e W3 (⟨rfl, hJ3, hk3⟩ | ⟨rfl, hJx3⟩)
      · gi_wp2
        go_roundw
        case rel => exact ⟨k + 1, by omega, by have := HJ.out; go_num, ⟨_, HP.out, hJ3⟩, hnx.t hk3⟩
        case measure => simp [intOf]
      · gi_wp2
        refine bodyPost_ret (results_none rfl _ _ _) rfl ?_
        exact ⟨⟨_, rfl⟩, .inr ⟨_, ⟨k + 1, by omega, HP.out⟩, hJx3⟩⟩
    · have hkl : k = len := by omega
      have hi' : u3 = .int .i64 (-1) := by rw [hi]; congr 1; omega
      subst hi'
      subst hkl
      clear hcell
      gi_wp2
      go_end0
      exact ⟨⟨_, rfl⟩, .inl ⟨pre, hpre, hJs⟩⟩

set_option maxHeartbeats 1000000 in
/-- fromTop: the slice value is boxed; the function value captures the box. -/
theorem fromTop_in (F : Fence) (n : Nat) (hF : F.fn 82) (hro : F.round = none) (a : Option Addr) (len cap : Nat) (w : World) :
    CallsIn F n Tryd.prog 82 #[.slice a len cap] w fun e w' => e = .returned (.func (.func 96) #[] #[.pointer (some ⟨w.heap.size, 0, none⟩)]) ∧ w' = w.alloc (.cells #[.slice a len cap] 42) := by
  refine callsIn_of_wp Tryd.func82 rfl hF ?_ hro
  simp only [Tryd.ntmps82, List.size_toArray, List.length_cons, List.length_nil, Nat.reduceAdd, Nat.reduceSub, Array.replicate_succ, Array.replicate_zero, List.push_toArray, List.append_toArray, List.nil_append, List.cons_append]
  gi_wp2
  go_ret
  exact ⟨rfl, rfl⟩

/-- fromTop's value, as the law of a range over a function asks for it: all digits from the top; or the first k of them. -/
theorem top_stops (F : Fence) (n : Nat) (hF : F.fn 96) (hro : F.round = none) (hn : 1 ≤ n) (Bs n₀ : Nat) (a : Option Addr) (cap : Nat) (zs : List Int) (len : Nat) (HN : Hid (len = zs.length)) (hn2 : len ≤ 1048576) (w : World) (hBs : Bs < w.heap.size) (hn₀ : n₀ ≤ w.heap.size)
    (hc : w.cell? ⟨Bs, 0, none⟩ = some (.slice a len cap)) (hI : SlB n₀ w a zs) :
    SeqStopsK F n Tryd.prog 96 #[.pointer (some ⟨Bs, 0, none⟩)] (plEnc zs len) (KpB n₀ Bs) (fun ys => ys.map (·.1) = tp len len)
      (fun pre => ∃ k, k ≤ len ∧ pre.map (·.1) = tp len k) len w := fun l J Jx W hW _ _ hY h0 => by
  have hc' := (hW.cell (p := ⟨Bs, 0, none⟩) hBs).trans hc
  exact top1_in F n hF hro hn l Bs n₀ a cap zs len HN hn2 J Jx hY W hc' (hI.below (hW.mono hn₀)) h0
end Go.Proofs.YthokphoojmpajahDoor
