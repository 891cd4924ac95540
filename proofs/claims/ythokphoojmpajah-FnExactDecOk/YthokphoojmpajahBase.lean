/- What the walks of this seat lean on: a slice of ints that can be read, digits, equality; no Go text in sight. -/
import Derived.WalkKit
import Derived.Below
import Derived.OneCell
import Derived.OwnWalk
import Derived.Deep.Draws
namespace Go.Proofs.Pin
open Go.RowKit

/-- A slice of ints at address a whose elements are zs (as many as its length): empty, or its cells lie in one block. -/
def Sl (w : World) (a : Option Addr) (zs : List Int) : Prop :=
  zs = [] ∨ ∃ b off, a = some ⟨b, off, none⟩ ∧ b < w.heap.size ∧ ∀ i, i < zs.length → w.cell? ⟨b, off + i, none⟩ = some (.int .i64 (zs.getD i 0))

theorem Sl.below {B : Nat} {w w' : World} {a : Option Addr} {zs : List Int} (h : Sl w a zs) (hB : ∀ x, a = some x → x.block < B) (hb : Below B w w') : Sl w' a zs := by
  rcases h with h | ⟨b, off, rfl, hlt, hc⟩
  · exact .inl h
  · refine .inr ⟨b, off, rfl, Nat.lt_of_lt_of_le hlt hb.size, fun i hi => ?_⟩
    rw [hb.cell (p := ⟨b, off + i, none⟩) (hB ⟨b, off, none⟩ rfl)]
    exact hc i hi

/-- Nothing below the heap's end has turned: every slice that could be read still can. -/
theorem Sl.keep {w w' : World} {a : Option Addr} {zs : List Int} (h : Sl w a zs) (hb : Below w.heap.size w w') : Sl w' a zs := by
  rcases h with h | ⟨b, off, rfl, hlt, hc⟩
  · exact .inl h
  · refine .inr ⟨b, off, rfl, Nat.lt_of_lt_of_le hlt hb.size, fun i hi => ?_⟩
    rw [hb.cell (p := ⟨b, off + i, none⟩) hlt]
    exact hc i hi

/-- What the row's frame tells of a slice of integers that came in (the kit's proof-skeleton names it so). -/
def IsRow (k : IntKind) (w : World) (a : Option Addr) (len cap : Nat) (zs : List Int) : Prop :=
  (a = none ∧ len = 0 ∧ cap = 0 ∧ zs = []) ∨
  ∃ x, a = some x ∧ len ≤ cap ∧ cap ≤ maxLen ∧ zs.length = cap ∧ (∀ i, i < zs.length → w.cell? (x.add i) = some (.int k (zs.getD i 0))) ∧ ∀ n ∈ zs, (Lit.int k n).wf = true

theorem isRow_sl {w : World} {a : Option Addr} {len cap : Nat} {zs : List Int} (h : IsRow .i64 w a len cap zs) : Sl w a (zs.take len) ∧ (zs.take len).length = len := by
  rcases h with ⟨rfl, rfl, rfl, rfl⟩ | ⟨x, rfl, hl, _, hz, hc, _⟩
  · exact ⟨.inl rfl, rfl⟩
  · have hlen : (zs.take len).length = len := by simp; omega
    refine ⟨?_, hlen⟩
    by_cases h0 : len = 0
    · subst h0; exact .inl rfl
    · obtain ⟨b, off, spot⟩ := x
      have hspot : spot = none := by simpa [Addr.add] using World.cell?_spot (hc 0 (by omega))
      subst hspot
      refine .inr ⟨b, off, rfl, ?_, fun i hi => ?_⟩
      · have h1 := hc 0 (by omega)
        rcases Nat.lt_or_ge b w.heap.size with h' | h'
        · exact h'
        · simp [World.cell?, Addr.add, Array.getElem?_eq_none h'] at h1
      · have h1 := hc i (by omega)
        have e : (⟨b, off, none⟩ : Addr).add i = ⟨b, off + i, none⟩ := by
          unfold Addr.add
          split
          · subst_vars; rfl
          · rfl
        rw [e] at h1
        rw [h1]
        simp [List.getD_eq_getElem?_getD, show i < len by omega]

theorem below_dN {B : Nat} {a w : World} (h : Below B a w) (n : Nat) : Below B a (w.drewN n) := h.trans ⟨rfl, rfl, rfl, Nat.le_refl _, fun _ _ => rfl⟩

theorem below_un {w w' : World} {q : Nat} (h : Below (w.drewN q).heap.size (w.drewN q) w') : Below w.heap.size w w' := ⟨h.os, h.tape, h.output, h.size, h.block⟩
theorem grown_un {w w' : World} {q : Nat} {row : Option Nat} (h : (w.drewN q).grownBy w' row) : w.grownBy w' row := ⟨h.os, h.tape, h.output, h.size, h.block⟩
theorem dN3 (w : World) (q a b : Nat) : ∃ p, ((w.drewN q).drewN a).drewN b = w.drewN p := ⟨q + a + b, by simp⟩

def dig (x : Int) : Bool := decide (0 ≤ x) && decide (x < 65536)
def okB (zs : List Int) : Bool := decide (zs.length ≤ 256) && zs.all dig && (decide (zs.length = 0) || zs.getD (zs.length - 1) 0 != 0)

theorem okB_long {zs : List Int} (h : 256 < zs.length) : okB zs = false := by
  have : decide (zs.length ≤ 256) = false := by simp; omega
  simp [okB, this]
theorem okB_bad {zs : List Int} {k : Nat} (hk : k < zs.length) (h : dig (zs.getD k 0) = false) : okB zs = false := by
  have : zs.all dig = false := by
    rw [List.all_eq_false]
    refine ⟨zs.getD k 0, ?_, by simpa using h⟩
    simp [List.getD_eq_getElem?_getD, List.getElem?_eq_getElem hk]
  simp [okB, this]
theorem okB_nil : okB [] = true := by simp [okB]
theorem all_of_dig {zs : List Int} (h : ∀ i, i < zs.length → dig (zs.getD i 0) = true) : zs.all dig = true := by
  rw [List.all_eq_true]
  intro x hx
  obtain ⟨i, hi, rfl⟩ := List.mem_iff_getElem.mp hx
  have := h i hi
  simpa [List.getD_eq_getElem?_getD, List.getElem?_eq_getElem hi] using this
theorem okB_end {zs : List Int} (hl : zs.length ≤ 256) (h0 : 0 < zs.length) (h : ∀ i, i < zs.length → dig (zs.getD i 0) = true) : okB zs = (zs.getD (zs.length - 1) 0 != 0) := by
  have a := all_of_dig h
  have b : decide (zs.length ≤ 256) = true := by simpa using hl
  have c : decide (zs.length = 0) = false := decide_eq_false (by omega)
  simp only [okB, a, b, c, Bool.true_and, Bool.false_or]
theorem dig_step {zs : List Int} {k : Nat} (h : ∀ i, i < k → dig (zs.getD i 0) = true) (hk : dig (zs.getD k 0) = true) : ∀ i, i < k + 1 → dig (zs.getD i 0) = true := by
  intro i hi
  by_cases e : i = k
  · subst e; exact hk
  · exact h i (by omega)
theorem dig_yes {z : Int} (h0 : 0 ≤ z) (h1 : z < 65536) : dig z = true := by simp [dig, h0, h1]
theorem dig_lo {z : Int} (h0 : z < 0) : dig z = false := by simp [dig]; omega
theorem dig_hi {z : Int} (h0 : 65536 ≤ z) : dig z = false := by simp [dig]; omega

/-- A number: what NatOk has found. -/
theorem ok_len {zs : List Int} (h : okB zs = true) : zs.length ≤ 256 := by
  simp only [okB, Bool.and_eq_true, decide_eq_true_eq] at h
  exact h.1.1
theorem ok_dig {zs : List Int} (h : okB zs = true) : ∀ i, i < zs.length → dig (zs.getD i 0) = true := by
  intro i hi
  simp only [okB, Bool.and_eq_true, List.all_eq_true] at h
  refine h.1.2 _ ?_
  simp [List.getD_eq_getElem?_getD, List.getElem?_eq_getElem hi]

theorem ret_bool {a b : Bool} (h : a = b) : Ending.returned (.bool a) = .returned (.bool b) := by rw [h]
theorem ret_int {k : IntKind} {a b : Int} (h : a = b) : Ending.returned (.int k a) = .returned (.int k b) := by rw [h]

/-- An owned row of ints can be read. -/
theorem Sl.of_own {w : World} {B g n cap : Nat} {zs : List Int} (h : w.ownsRow B 3 1 (.slice (some ⟨g, 0, none⟩) n cap) n (zs.map (Value.int .i64))) : Sl w (some ⟨g, 0, none⟩) zs := by
  have hn : zs.length = n := by have := h.1; simpa using this
  refine .inr ⟨g, 0, rfl, ?_, fun i hi => ?_⟩
  · rcases h.2 with ⟨h', _⟩ | ⟨g', cap', cur, h', _, hg, _⟩
    · simp at h'
    · simp only [Value.slice.injEq, Option.some.injEq, Addr.mk.injEq, and_true, true_and] at h'
      obtain ⟨rfl, rfl⟩ := h'
      exact lt_of_block hg
  · rw [Nat.zero_add, h.cellAt i (by omega)]
    simp [List.getD_eq_getElem?_getD, List.getElem?_eq_getElem hi]

theorem ints_set {zs : List Int} {k : Nat} (hk : k < zs.length) :
    ((zs.take k ++ List.replicate (zs.length - k) 0).map (Value.int .i64)).set k (.int .i64 (zs.getD k 0)) = (zs.take (k + 1) ++ List.replicate (zs.length - (k + 1)) 0).map (Value.int .i64) := by
  apply List.ext_getElem?
  intro i
  rw [List.getElem?_set]
  simp only [List.getElem?_map, List.getElem?_append, List.length_take, List.getElem?_take, List.getElem?_replicate, List.length_map, List.length_append, List.length_replicate]
  by_cases e : k = i
  · subst e
    have h1 : min (k + 1) zs.length = k + 1 := by omega
    have h2 : min k zs.length + (zs.length - k) = zs.length := by omega
    simp [h1, h2, hk, List.getD_eq_getElem?_getD]
  · by_cases h : i < k
    · have h1 : i < min k zs.length := by omega
      have h2 : i < min (k + 1) zs.length := by omega
      simp [e, h1, h2, h, show i < k + 1 by omega]
    · have m1 : min k zs.length = k := by omega
      have m2 : min (k + 1) zs.length = k + 1 := by omega
      have h3 : ¬ i < k + 1 := by omega
      simp only [e, m1, m2, h, h3, if_false]
      by_cases hl : i < zs.length
      · simp [show i - k < zs.length - k by omega, show i - (k + 1) < zs.length - (k + 1) by omega]
      · simp [show ¬ i - k < zs.length - k by omega, show ¬ i - (k + 1) < zs.length - (k + 1) by omega]

theorem ints_full (zs : List Int) : (zs.take zs.length ++ List.replicate (zs.length - zs.length) 0).map (Value.int .i64) = zs.map (Value.int .i64) := by simp
theorem ints_none (zs : List Int) : (madeCells #[Value.int .i64 0] zs.length).toList = (zs.take 0 ++ List.replicate (zs.length - 0) 0).map (Value.int .i64) := by
  rw [toList_madeCells_one]
  simp

theorem eq_step {xs ys : List Int} {k : Nat} (h : ∀ i, i < k → xs.getD i 0 = ys.getD i 0) (hk : xs.getD k 0 = ys.getD k 0) : ∀ i, i < k + 1 → xs.getD i 0 = ys.getD i 0 := by
  intro i hi
  by_cases e : i = k
  · subst e; exact hk
  · exact h i (by omega)
theorem eq_end {xs ys : List Int} (hl : xs.length = ys.length) (h : ∀ i, i < xs.length → xs.getD i 0 = ys.getD i 0) : decide (xs = ys) = true := by
  apply decide_eq_true
  apply List.ext_getElem hl
  intro i h1 h2
  have := h i h1
  simpa [List.getD_eq_getElem?_getD, List.getElem?_eq_getElem h1, List.getElem?_eq_getElem h2] using this
theorem eq_not {xs ys : List Int} {k : Nat} (h : xs.getD k 0 ≠ ys.getD k 0) : decide (xs = ys) = false := by
  apply decide_eq_false
  intro e
  exact h (by rw [e])
theorem eq_len {xs ys : List Int} (h : xs.length ≠ ys.length) : decide (xs = ys) = false := by
  apply decide_eq_false
  intro e
  exact h (by rw [e])

/-- The call's own row of ints: a slice whose cells nobody else reaches, at block 'base' or later (nil: empty). -/
def OwnI (w : World) (base : Nat) (a : Option Addr) (cap : Nat) (zs : List Int) : Prop := w.ownsRow base 3 1 (.slice a zs.length cap) zs.length (zs.map (Value.int .i64))

theorem OwnI.parts {w : World} {base : Nat} {a : Option Addr} {cap : Nat} {zs : List Int} (h : OwnI w base a cap zs) : (a = none ∧ cap = 0 ∧ zs = []) ∨ ∃ g, a = some ⟨g, 0, none⟩ ∧ base ≤ g ∧ g < w.heap.size := by
  rcases h.2 with ⟨h', h0⟩ | ⟨g, cap', cur, h', hb, hg, _⟩
  · simp only [Value.slice.injEq] at h'
    exact .inl ⟨h'.1, h'.2.2, List.length_eq_zero_iff.mp h0⟩
  · simp only [Value.slice.injEq] at h'
    exact .inr ⟨g, h'.1, hb, lt_of_block hg⟩

theorem OwnI.sl {w : World} {base : Nat} {a : Option Addr} {cap : Nat} {zs : List Int} (h : OwnI w base a cap zs) : Sl w a zs := by
  rcases h.parts with ⟨_, _, h0⟩ | ⟨g, rfl, _, _⟩
  · exact .inl h0
  · exact Sl.of_own h

theorem OwnI.of_row {w : World} {base n : Nat} {v : Value} {zs : List Int} (h : w.ownsRow base 3 1 v n (zs.map (Value.int .i64))) : ∃ a cap, v = .slice a zs.length cap ∧ OwnI w base a cap zs := by
  have hn : zs.length = n := by have := h.1; simpa using this
  subst hn
  rcases h.2 with ⟨h', h0⟩ | ⟨g, cap, cur, h', _⟩
  · refine ⟨none, 0, by rw [h', h0], ?_⟩
    have h2 := h
    rw [h'] at h2
    show w.ownsRow base 3 1 (.slice none zs.length 0) zs.length _
    rw [h0] at h2 ⊢
    exact h2
  · subst h'
    exact ⟨_, _, rfl, h⟩

theorem OwnI.nil (w : World) (base : Nat) : OwnI w base none 0 [] := World.ownsRow_nil _ _ _ _

/-- What is owned stays owned while other blocks turn. -/
theorem OwnI.kept {w w' : World} {base : Nat} {a : Option Addr} {cap : Nat} {zs : List Int} {row : Option Nat} (h : OwnI w base a cap zs) (hg : w.grownBy w' row) (hne : ∀ g, a = some g → row ≠ some g.block) : OwnI w' base a cap zs := by
  refine World.ownsRow.kept h hg ?_
  cases a with
  | none => exact .inl rfl
  | some g => exact .inr (fun e => hne g rfl e.symm)

theorem OwnI.keep {w w' : World} {base : Nat} {a : Option Addr} {cap : Nat} {zs : List Int} (h : OwnI w base a cap zs) (hb : Below w.heap.size w w') : OwnI w' base a cap zs :=
  h.kept (row := none) ⟨hb.os, hb.tape, hb.output, hb.size, fun k hk _ => hb.block k hk⟩ (fun _ _ e => by cases e)

theorem OwnI.mono {w : World} {base base' : Nat} {a : Option Addr} {cap : Nat} {zs : List Int} (h : OwnI w base a cap zs) (hb : base' ≤ base) : OwnI w base' a cap zs := by
  obtain ⟨h1, h2⟩ := h
  refine ⟨h1, ?_⟩
  rcases h2 with h2 | ⟨g, cap', cur, hv, hg, r⟩
  · exact .inl h2
  · exact .inr ⟨g, cap', cur, hv, Nat.le_trans hb hg, r⟩

theorem Sl.kept {w w' : World} {a : Option Addr} {zs : List Int} {row : Option Nat} (h : Sl w a zs) (hg : w.grownBy w' row) (hne : ∀ g, a = some g → row ≠ some g.block) : Sl w' a zs := by
  rcases h with h | ⟨b, off, rfl, hlt, hc⟩
  · exact .inl h
  · exact .inr ⟨b, off, rfl, Nat.lt_of_lt_of_le hlt hg.size, fun i hi => hg.cell (hc i hi) (fun e => hne _ rfl e.symm)⟩

theorem grown_two {a b c : World} {row : Option Nat} (h : a.grownBy b row) (k : b.grownBy c row) : a.grownBy c row :=
  ⟨k.os.trans h.os, k.tape.trans h.tape, k.output.trans h.output, Nat.le_trans h.size k.size, fun i hi hr => (k.block i (Nat.lt_of_lt_of_le hi h.size) hr).trans (h.block i hi hr)⟩

theorem ownBlock_ge {w : World} {base : Nat} {e : TypeId} {size : Nat} {v : Value} {n : Nat} {xs : List Value} (h : w.ownsRow base e size v n xs) : ∀ k, v.ownBlock = some k → base ≤ k := by
  intro k hk
  rcases h.2 with ⟨rfl, _⟩ | ⟨g, cap, cur, rfl, hb, _⟩
  · cases hk
  · cases hk; exact hb

/-- Behind an append to a row of the call's own: what lay below still lies there. -/
theorem below_append {B : Nat} {w wr w1 : World} {e : TypeId} {size : Nat} {v : Value} {n : Nat} {xs : List Value} {o : Obj} (hb : Below B w wr) (hB : B ≤ w.heap.size) (hown : wr.ownsRow B e size v n xs) (hg : (wr.alloc o).grownBy w1 v.ownBlock) : Below B w w1 :=
  (hb.alloc (Nat.le_trans hB hb.size) o).grown hg (by have := hb.size; simp; omega) (ownBlock_ge hown)

/-- A slice that does not lie in block g (an empty one lies nowhere). -/
def Apart (b : Option Addr) (ys : List Int) (g : Nat) : Prop := ys = [] ∨ ∀ x, b = some x → x.block ≠ g
theorem Sl.apart {w w' : World} {b : Option Addr} {ys : List Int} {g : Nat} (h : Sl w b ys) (hg : w.grownBy w' (some g)) (hne : Apart b ys g) : Sl w' b ys := by
  rcases hne with h0 | hne
  · exact .inl h0
  · exact h.kept hg (fun x hx e => hne x hx (by cases e; rfl))
/-- What can be read lies apart from what is laid later. -/
theorem Sl.later {w : World} {b : Option Addr} {ys : List Int} {g : Nat} (h : Sl w b ys) (hg : w.heap.size ≤ g) : Apart b ys g := by
  rcases h with h0 | ⟨b', off, rfl, hlt, _⟩
  · exact .inl h0
  · refine .inr (fun x hx e => ?_)
    cases hx
    simp at e
    omega

theorem own_lt {w : World} {base g cap : Nat} {zs : List Int} (h : OwnI w base (some ⟨g, 0, none⟩) cap zs) : g < w.heap.size := by
  rcases h.parts with ⟨h', _⟩ | ⟨g', h', _, hl⟩
  · cases h'
  · cases h'; exact hl
theorem own_ge {w : World} {base cap : Nat} {a : Option Addr} {zs : List Int} (h : OwnI w base a cap zs) : ∀ k, a.map (·.block) = some k → base ≤ k := by
  intro k hk
  rcases h.parts with ⟨rfl, _⟩ | ⟨g', rfl, hb, _⟩
  · cases hk
  · cases hk; exact hb
theorem Sl.apartR {w w' : World} {b : Option Addr} {ys : List Int} {row : Option Nat} (h : Sl w b ys) (hg : w.grownBy w' row) (hne : ∀ g, row = some g → Apart b ys g) : Sl w' b ys := by
  cases row with
  | none => exact h.kept hg (fun _ _ e => by cases e)
  | some g => exact h.apart hg (hne g rfl)
theorem OwnI.keptR {w w' : World} {base cap : Nat} {a : Option Addr} {zs : List Int} {row : Option Nat} (h : OwnI w base a cap zs) (hg : w.grownBy w' row) (hne : ∀ k, row = some k → ∀ j, a.map (·.block) = some j → j ≠ k) : OwnI w' base a cap zs :=
  h.kept hg (fun g hga e => hne _ e g.block (by rw [hga]; rfl) rfl)

/-- The numbers from k on, n of them. -/
def marked (k : Int) (n : Nat) : List Int := (List.range n).map (fun i : Nat => k + (i : Int))
theorem marked_length (k : Int) (n : Nat) : (marked k n).length = n := by simp [marked]
theorem marked_getD (k : Int) (n i : Nat) (h : i < n) : (marked k n).getD i 0 = k + i := by simp [marked, List.getD_eq_getElem?_getD, h]
theorem marked_succ (k : Int) (n : Nat) : marked k (n + 1) = marked k n ++ [k + n] := by simp [marked, List.range_succ]
theorem marked_set {zs : List Int} {k : Int} {j : Nat} (h : j < zs.length) :
    ((marked k j ++ zs.drop j).map (Value.int .i64)).set j (.int .i64 (k + j)) = (marked k (j + 1) ++ zs.drop (j + 1)).map (Value.int .i64) := by
  have := marked_length k j
  rw [← List.map_set, marked_succ, List.set_append_right _ _ (by omega), this, Nat.sub_self, List.drop_eq_getElem_cons h, List.set_cons_zero, List.append_assoc]
  rfl
theorem marked_full {zs : List Int} {k : Int} : (marked k zs.length ++ zs.drop zs.length).map (Value.int .i64) = (marked k zs.length).map (Value.int .i64) := by simp
theorem marked_none {zs : List Int} {k : Int} : zs.map (Value.int .i64) = (marked k 0 ++ zs.drop 0).map (Value.int .i64) := by simp [marked]

/-- The digits of n, the lowest first (with fuel). -/
def dgsF : Nat → Nat → List Int
  | 0, _ => []
  | f + 1, n => if n = 0 then [] else ((n % 65536 : Nat) : Int) :: dgsF f (n / 65536)
/-- The digits of n, the lowest first. -/
def dgs (n : Nat) : List Int := dgsF n n
theorem dgsF_zero (f : Nat) : dgsF f 0 = [] := by cases f <;> simp [dgsF]
theorem dgsF_eq : ∀ (f g n : Nat), n ≤ f → n ≤ g → dgsF f n = dgsF g n
  | 0, g, n, h, _ => by
    have : n = 0 := by omega
    subst this
    rw [dgsF_zero, dgsF_zero]
  | f + 1, 0, n, _, h => by
    have : n = 0 := by omega
    subst this
    rw [dgsF_zero, dgsF_zero]
  | f + 1, g + 1, n, hf, hg => by
    unfold dgsF
    by_cases h0 : n = 0
    · simp [h0]
    · simp only [h0, if_false]
      rw [dgsF_eq f g (n / 65536) (by omega) (by omega)]
theorem dgs_zero : dgs 0 = [] := rfl
theorem dgs_pos {n : Nat} (h : n ≠ 0) : dgs n = ((n % 65536 : Nat) : Int) :: dgs (n / 65536) := by
  obtain ⟨m, rfl⟩ : ∃ m, n = m + 1 := ⟨n - 1, by omega⟩
  show dgsF (m + 1) (m + 1) = _
  rw [dgsF]
  simp only [h, if_false]
  rw [dgsF_eq m ((m + 1) / 65536) ((m + 1) / 65536) (by omega) (Nat.le_refl _)]
  rfl
theorem dgs_small {n k : Nat} (h : n < 65536 ^ k) : (dgs n).length ≤ k := by
  induction k generalizing n with
  | zero => have : n = 0 := by simp at h; exact h
            subst this; simp [dgs_zero]
  | succ k ih =>
    by_cases h0 : n = 0
    · subst h0; simp [dgs_zero]
    · rw [dgs_pos h0]
      have := ih (n := n / 65536) (by rw [Nat.pow_succ] at h; omega)
      simp; omega
theorem step_small {n k : Nat} (hn : 0 < n) (hk : k ≤ 4) (h : n < 65536 ^ (4 - k)) : k + 1 ≤ 4 ∧ n / 65536 < 65536 ^ (4 - (k + 1)) := by
  by_cases e : k = 4
  · subst e; simp at h; omega
  · refine ⟨by omega, ?_⟩
    obtain ⟨j, hj⟩ : ∃ j, 4 - k = j + 1 := ⟨3 - k, by omega⟩
    rw [hj, Nat.pow_succ] at h
    rw [show 4 - (k + 1) = j by omega]
    omega
end Go.Proofs.Pin
