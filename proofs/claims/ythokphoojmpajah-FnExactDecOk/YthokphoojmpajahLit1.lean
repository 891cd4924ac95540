/- What is known of the text's rest and of the literal while a text is scanned; the contracts of the closures that hand the runes out and take them. -/
import Derived.Test.YthokphoojmpajahProg
import Derived.Test.YthokphoojmpajahBase
import Derived.Test.YthokphoojmpajahInfo
import Derived.Test.YthokphoojmpajahLitPure
import Derived.WalkKit
import Derived.WalkSpells
import Derived.OneCell
import Derived.Outline
import Derived.Deep.Cut
import Derived.Deep.CutRange
namespace Go.Proofs.Ythokphoojmpajah
open Go.RowKit Go.Proofs.Pin

theorem Try.info5l : (Try.prog.info? 5).map (fun i => (i.zero, i.size, i.bytes)) = some (some (.int .u8 0), 1, 1) := by kernel_rfl
theorem ownBlock_under {w : World} {base : Nat} {e : TypeId} {size : Nat} {v : Value} {n : Nat} {xs : List Value} (h : w.ownsRow base e size v n xs) : ∀ k, v.ownBlock = some k → k < w.heap.size := by
  intro k hk
  rcases h.2 with ⟨rfl, _⟩ | ⟨g, cap, cur, rfl, _, hg, _⟩
  · cases hk
  · cases hk; exact lt_of_block hg
theorem row_is {w : World} {base : Nat} {e : TypeId} {size : Nat} {v : Value} {n : Nat} {xs : List Value} (h : w.ownsRow base e size v (n + 1) xs) : ∃ g cap, v = .slice (some ⟨g, 0, none⟩) (n + 1) cap := by
  rcases h.2 with ⟨_, h0⟩ | ⟨g, cap, cur, rfl, _⟩
  · omega
  · exact ⟨g, cap, rfl⟩
/-- A block of the call's own that holds just these cells. -/
def BoxL (W : World) (B : Nat) (t : TypeId) (cs : Array Value) : Prop := W.heap[B]? = some (.cells cs t (0, 0))
theorem boxl_lt {W : World} {B : Nat} {t : TypeId} {cs : Array Value} (h : BoxL W B t cs) : B < W.heap.size := (Array.getElem?_eq_some_iff.1 h).1
theorem boxl_kept {W W' : World} {B : Nat} {t : TypeId} {cs : Array Value} {row : Option Nat} (h : BoxL W B t cs) (hg : W.grownBy W' row) (hne : some B ≠ row) : BoxL W' B t cs := (hg.block B (boxl_lt h) hne).trans h
theorem boxl_new (W : World) (t : TypeId) (cs : Array Value) : BoxL (W.alloc (.cells cs t)) W.heap.size t cs := by
  show (W.heap.push _)[W.heap.size]? = some _
  simp
theorem boxl_alloc {W : World} {B : Nat} {t : TypeId} {cs : Array Value} (h : BoxL W B t cs) (o : Obj) : BoxL (W.alloc o) B t cs := boxl_kept h (World.grownBy_alloc W o none) (by simp)
theorem boxl_cell {W : World} {B : Nat} {t : TypeId} {cs : Array Value} (h : BoxL W B t cs) (i : Nat) : W.cell? ⟨B, i, none⟩ = cs[i]? := by
  have e : W.heap[B]? = _ := h
  simp [World.cell?, e]
theorem boxl_frozen {W : World} {B : Nat} {t : TypeId} {cs : Array Value} (h : BoxL W B t cs) (i : Nat) : W.frozen? ⟨B, i, none⟩ = false := by
  have e : W.heap[B]? = _ := h
  simp [World.frozen?, e]
theorem boxl_set {W : World} {B : Nat} {t : TypeId} {cs : Array Value} (h : BoxL W B t cs) (i : Nat) (v : Value) : BoxL (W.setCell ⟨B, i, none⟩ v) B t (cs.set! i v) := by
  show (W.heap.modify B _)[B]? = _
  rw [Array.getElem?_modify, if_pos rfl, show W.heap[B]? = _ from h]
  rfl
theorem boxl_other {W : World} {B : Nat} {t : TypeId} {cs : Array Value} (h : BoxL W B t cs) {a : Addr} (ha : B ≠ a.block) (v : Value) : BoxL (W.setCell a v) B t cs := (Below.heap_setCell _ _ _ _ ha).trans h
theorem cell_other {W : World} {p a : Addr} {x : Option Value} (h : W.cell? p = x) (ha : p.block ≠ a.block) (v : Value) : (W.setCell a v).cell? p = x := by
  have e : (W.setCell a v).heap[p.block]? = W.heap[p.block]? := Below.heap_setCell _ _ _ _ ha
  rw [← h]
  unfold World.cell?
  simp only [e]

/-- The runes that are left, in the block A. -/
def RnAt (W : World) (A : Nat) (a : Option Addr) (R : List Int) : Prop := R = [] ∨ ∃ off, a = some ⟨A, off, none⟩ ∧ A < W.heap.size ∧ ∀ i, i < R.length → W.cell? ⟨A, off + i, none⟩ = some (.int .i32 (R.getD i 0))
/-- While a text is scanned: what is left of it (in the box Bn), the literal (in the box Bl) with the power p, at most m digits taken. -/
def St (w0 w : World) (Bl Bn A base : Nat) (R : List Int) (p m : Nat) : Prop :=
  (∃ a c, BoxL w Bn 37 #[.slice a R.length c] ∧ R.length ≤ c ∧ RnAt w A a R) ∧
  (∃ v n bh dn, ∃ zs : List Int, BoxL w Bl 27 #[v, .int .i64 (bh : Nat), .bool dn, .int .i64 (p : Nat)] ∧ w.ownsRow base 5 1 v n (zs.map (Value.int .u8)) ∧ n ≤ m ∧ bh ≤ m) ∧
  Below Bl w0 w ∧ Bl < A ∧ Bl < Bn ∧ A ≠ Bn ∧ A < base ∧ Bn < base ∧ base ≤ w.heap.size

theorem st_rest {w0 w : World} {Bl Bn A base : Nat} {R0 : List Int} {p m : Nat} (h : St w0 w Bl Bn A base R0 p m) (a : Option Addr) (c : Nat) (R : List Int) (hc : R.length ≤ c) (hr : RnAt w A a R) : St w0 (w.setCell ⟨Bn, 0, none⟩ (.slice a R.length c)) Bl Bn A base R p m := by
  obtain ⟨⟨a0, c0, hb, _, _⟩, ⟨v, n, bh, dn, zs, hl, ho, h1, h2⟩, h3, o1, o2, o3, o4, o5, o6⟩ := h
  refine ⟨⟨a, c, boxl_set hb 0 _, hc, ?_⟩, ⟨v, n, bh, dn, zs, boxl_other hl (by simp; omega) _, ownsRow_setCell_other ho ?_ _, h1, h2⟩, h3.setCell (p := ⟨Bn, 0, none⟩) (by simp; omega) _, o1, o2, o3, o4, o5, by simpa using o6⟩
  · rcases hr with hr | ⟨off, e, hA, hcells⟩
    · exact .inl hr
    · exact .inr ⟨off, e, by simpa using hA, fun i hi => cell_other (hcells i hi) (by simpa using o3) _⟩
  · intro e
    have := ownBlock_ge ho _ e
    simp at this
    omega
theorem next_any {w0 w : World} {Bl Bn A base : Nat} {R : List Int} {p m : Nat} (h : St w0 w Bl Bn A base R p m) (hl : R.length ≤ 1048576) :
    Calls Try.prog 13 #[.pointer (some ⟨Bn, 0, none⟩)] w fun e w' => e = .returned (.int .i32 (R.headD (-1))) ∧ St w0 w' Bl Bn A base R.tail p m := by
  have H : Hid _ := h
  obtain ⟨⟨a, c, hb, hc, hr⟩, h2, h3, o1, o2, o3, o4, o5, o6⟩ := h
  have hc0 := boxl_cell hb 0
  have hf0 := boxl_frozen hb 0
  have hlt := boxl_lt hb
  simp only [List.getElem?_toArray, List.getElem?_cons_zero] at hc0
  cases R with
  | nil =>
    clear hr h2 h3 hb
    go_enter Try.func13, Try.ntmps13
    go_wp2
    go_ret
    exact ⟨rfl, H.out⟩
  | cons r R =>
    rcases hr with hr | ⟨off, rfl, hA, hcells⟩
    · cases hr
    · have hr0 := hcells 0 (by simp)
      simp only [Nat.add_zero, List.getD_cons_zero] at hr0
      have hne : (((r :: R).length : Int) == 0) = false := by rw [beq_eq_false_iff_ne]; simp only [List.length_cons]; omega
      have hpI : (0 : Int) < ((r :: R).length : Int) := by simp only [List.length_cons]; omega
      have h1I : (1 : Int) ≤ ((r :: R).length : Int) := by simp only [List.length_cons]; omega
      have hcI : ((r :: R).length : Int) ≤ (c : Int) := by omega
      have HR : Hid (∀ i, i < R.length → w.cell? ⟨A, off + 1 + i, none⟩ = some (.int .i32 (R.getD i 0))) := fun i hi => by
        have := hcells (i + 1) (by simp; omega)
        rw [show off + 1 + i = off + (i + 1) by omega, this]
        simp
      clear hcells h2 h3
      simp only [List.length_cons] at hc
      go_enter Try.func13, Try.ntmps13
      go_wp2
      · go_ret
        exact ⟨rfl, st_rest H.out _ _ R (by omega) (.inl (by have : R.length = 0 := by omega
                                                             exact List.length_eq_zero_iff.1 this))⟩
      · go_ret
        exact ⟨rfl, st_rest H.out _ _ R (by omega) (.inr ⟨off + 1, rfl, hA, HR.out⟩)⟩
theorem isDec_any (r : Int) (h1 : -1 ≤ r) (h2 : r ≤ 2147483647) (w : World) :
    Calls Try.prog 12 #[.int .i32 r] w fun e w' => e = .returned (.bool (decide (48 ≤ r) && decide (r ≤ 57))) ∧ w = w' := by
  by_cases ha : 48 ≤ r
  · by_cases hb : r ≤ 57
    · have e : (decide (48 ≤ r) && decide (r ≤ 57)) = true := by simp [ha, hb]
      rw [e]
      clear e
      go_enter Try.func12, Try.ntmps12
      go_wp2
      go_ret
      exact ⟨rfl, rfl⟩
    · have e : (decide (48 ≤ r) && decide (r ≤ 57)) = false := by simp [hb]
      rw [e]
      clear e
      have hb' : 57 < r := by omega
      go_enter Try.func12, Try.ntmps12
      go_wp2
      go_ret
      exact ⟨rfl, rfl⟩
  · have e : (decide (48 ≤ r) && decide (r ≤ 57)) = false := by simp [ha]
    rw [e]
    clear e
    have ha' : r < 48 := by omega
    go_enter Try.func12, Try.ntmps12
    go_wp2
    go_ret
    exact ⟨rfl, rfl⟩

/-- A row of bytes taken into the literal. -/
theorem st_took {w0 w w3 : World} {Bl Bn A base : Nat} {R : List Int} {p m n bh : Nat} {v v' : Value} {dn : Bool} {zs : List Int} {o : Obj} {x : Int} (h : St w0 w Bl Bn A base R p m) (hl : BoxL w Bl 27 #[v, .int .i64 (bh : Nat), .bool dn, .int .i64 (p : Nat)]) (ho : w.ownsRow base 5 1 v n (zs.map (Value.int .u8))) (hn : n ≤ m) (hbh : bh ≤ m)
    (hg : (w.alloc o).grownBy w3 v.ownBlock) (ho3 : w3.ownsRow base 5 1 v' (n + 1) (zs.map (Value.int .u8) ++ [.int .u8 x])) : St w0 (w3.setCell ⟨Bl, 0, none⟩ v') Bl Bn A base R p (m + 1) ∧ BoxL (w3.setCell ⟨Bl, 0, none⟩ v') Bl 27 #[v', .int .i64 (bh : Nat), .bool dn, .int .i64 (p : Nat)] ∧ (w3.setCell ⟨Bl, 0, none⟩ v').ownsRow base 5 1 v' (n + 1) ((zs ++ [x]).map (Value.int .u8)) := by
  obtain ⟨⟨a0, c0, hb, hc0, hr⟩, _, h3, o1, o2, o3, o4, o5, o6⟩ := h
  have hge := ownBlock_ge ho
  have hge3 := ownBlock_ge ho3
  have hne : ∀ k, k < base → some k ≠ v.ownBlock := fun k hk e => by have := hge k e.symm; omega
  have hl3 : BoxL w3 Bl 27 #[v, .int .i64 (bh : Nat), .bool dn, .int .i64 (p : Nat)] := boxl_kept (boxl_alloc hl o) hg (hne _ (by omega))
  have hn3 := boxl_kept (boxl_alloc hb o) hg (hne _ o5)
  have hset := boxl_set hl3 0 v'
  have hsz : base ≤ w3.heap.size := by
    have := hg.size
    simp at this
    omega
  have hrow : (w3.setCell ⟨Bl, 0, none⟩ v').ownsRow base 5 1 v' (n + 1) ((zs ++ [x]).map (Value.int .u8)) := by
    refine ownsRow_setCell_other (by rw [List.map_append]; exact ho3) ?_ _
    intro e
    have := hge3 _ e
    simp at this
    omega
  refine ⟨⟨⟨a0, c0, boxl_other hn3 (by simp; omega) _, hc0, ?_⟩, ⟨v', n + 1, bh, dn, zs ++ [x], hset, hrow, by omega, by omega⟩, ?_, o1, o2, o3, o4, o5, by simpa using hsz⟩, hset, hrow⟩
  · rcases hr with hr | ⟨off, e, hA, hcells⟩
    · exact .inl hr
    · refine .inr ⟨off, e, ?_, fun i hi => cell_other ?_ (by simp; omega) _⟩
      · simp
        omega
      · rw [← hcells i hi]
        have e1 : w3.heap[A]? = w.heap[A]? := by
          rw [hg.block A (by simp; omega) (hne _ o4)]
          exact (World.grownBy_alloc w o none).block A hA (by simp)
        unfold World.cell?
        simp only [e1]
  · exact ((h3.alloc (show Bl ≤ w.heap.size by omega) o).grown hg (by simp; omega) (fun k hk => by have := hge k hk; omega)).setCell (p := ⟨Bl, 0, none⟩) (Nat.le_refl _) _

/-- Another cell of the literal. -/
theorem st_put {w0 w : World} {Bl Bn A base : Nat} {R : List Int} {p m p' m' bh' n' : Nat} {v' : Value} {dn' : Bool} {zs' : List Int} (h : St w0 w Bl Bn A base R p m) (i : Nat) (u : Value) (hl : BoxL (w.setCell ⟨Bl, i, none⟩ u) Bl 27 #[v', .int .i64 (bh' : Nat), .bool dn', .int .i64 (p' : Nat)]) (ho : w.ownsRow base 5 1 v' n' (zs'.map (Value.int .u8))) (hn : n' ≤ m') (hb : bh' ≤ m') : St w0 (w.setCell ⟨Bl, i, none⟩ u) Bl Bn A base R p' m' := by
  obtain ⟨⟨a0, c0, hb0, hc0, hr⟩, _, h3, o1, o2, o3, o4, o5, o6⟩ := h
  refine ⟨⟨a0, c0, boxl_other hb0 (by simp; omega) _, hc0, ?_⟩, ⟨v', n', bh', dn', zs', hl, ownsRow_setCell_other ho ?_ _, hn, hb⟩, h3.setCell (p := ⟨Bl, i, none⟩) (Nat.le_refl _) _, o1, o2, o3, o4, o5, by simpa using o6⟩
  · rcases hr with hr | ⟨off, e, hA, hcells⟩
    · exact .inl hr
    · exact .inr ⟨off, e, by simpa using hA, fun i hi => cell_other (hcells i hi) (by simp; omega) _⟩
  · intro e
    have := ownBlock_ge ho _ e
    simp at this
    omega

theorem hand0_any {w0 w : World} {Bl Bn A base : Nat} {R : List Int} {p m : Nat} (h : St w0 w Bl Bn A base R p m) (hm : m ≤ 1000) (r : Int) (h1 : 48 ≤ r) (h2 : r ≤ 57) :
    Calls Try.prog 10 #[.int .i64 0, .int .i32 r, .pointer (some ⟨Bl, 0, none⟩)] w fun e w' => e = .returned (.tuple #[]) ∧ St w0 w' Bl Bn A base R p (m + 1) := by
  have H : Hid (St w0 w Bl Bn A base R p m) := h
  obtain ⟨_, ⟨v, n, bh, dn, zs, hl, hown, hn, hbh⟩, _, o1, o2, o3, o4, o5, o6⟩ := h
  have HL : Hid (BoxL w Bl 27 _) := hl
  obtain ⟨i0, hi, hz0, hz1, hz2⟩ := info_parts Try.info5l
  have hc0 := boxl_cell hl 0
  have hf0 := boxl_frozen hl 0
  have hlt := boxl_lt hl
  simp only [List.getElem?_toArray, List.getElem?_cons_zero] at hc0
  have hu : IntKind.u8.wrap r = r := by simp [IntKind.wrap, IntKind.bits, IntKind.signed]; omega
  clear hl
  go_enter Try.func10, Try.ntmps10
  go_wp2_with (at_builtin; refine wpList_append_own _ rfl _ _ 25 rfl base 5 i0 (.int .u8 0) 1 1 Try.underlying25 hi hz0 hz1 hz2 rfl (by decide) _ _ _ rfl (hown.alloc _) ⟨w.heap.size, 0, none⟩ 1 1 [.int .u8 r] rfl rfl (cell_one_new _ _ _) (by simp [Value.oneCell']) ?c3 ?c4 ?c5 ?_)
  case c3 => unfold maxLen; omega
  case c4 => omega
  case c5 => simp; omega
  intro v' w3 hown3 hgrow3 _
  obtain ⟨g', cap', rfl⟩ := row_is hown3
  have HS : Hid _ := st_took H.out HL.out hown hn hbh hgrow3 hown3
  have hl3 := boxl_kept (boxl_alloc HL.out _) hgrow3 (fun e => by have := ownBlock_ge hown _ e.symm; omega)
  have hc3 := boxl_cell hl3 0
  have hf3 := boxl_frozen hl3 0
  have hlt3 := boxl_lt hl3
  simp only [List.getElem?_toArray, List.getElem?_cons_zero] at hc3
  clear hl3 hgrow3 hown hown3 hc0 hf0 hlt
  go_wp2
  go_end0
  exact ⟨rfl, HS.out.1⟩

theorem hand1_any {w0 w : World} {Bl Bn A base : Nat} {R : List Int} {p m : Nat} (h : St w0 w Bl Bn A base R p m) (hm : m ≤ 1000) (r : Int) (h1 : 48 ≤ r) (h2 : r ≤ 57) :
    Calls Try.prog 10 #[.int .i64 1, .int .i32 r, .pointer (some ⟨Bl, 0, none⟩)] w fun e w' => e = .returned (.tuple #[]) ∧ St w0 w' Bl Bn A base R p (m + 1) := by
  have H : Hid (St w0 w Bl Bn A base R p m) := h
  obtain ⟨_, ⟨v, n, bh, dn, zs, hl, hown, hn, hbh⟩, _, o1, o2, o3, o4, o5, o6⟩ := h
  have HL : Hid (BoxL w Bl 27 _) := hl
  obtain ⟨i0, hi, hz0, hz1, hz2⟩ := info_parts Try.info5l
  have hc0 := boxl_cell hl 0
  have hf0 := boxl_frozen hl 0
  have hlt := boxl_lt hl
  simp only [List.getElem?_toArray, List.getElem?_cons_zero] at hc0
  have hu : IntKind.u8.wrap r = r := by simp [IntKind.wrap, IntKind.bits, IntKind.signed]; omega
  clear hl
  go_enter Try.func10, Try.ntmps10
  go_wp2_with (at_builtin; refine wpList_append_own _ rfl _ _ 25 rfl base 5 i0 (.int .u8 0) 1 1 Try.underlying25 hi hz0 hz1 hz2 rfl (by decide) _ _ _ rfl (hown.alloc _) ⟨w.heap.size, 0, none⟩ 1 1 [.int .u8 r] rfl rfl (cell_one_new _ _ _) (by simp [Value.oneCell']) ?c3 ?c4 ?c5 ?_)
  case c3 => unfold maxLen; omega
  case c4 => omega
  case c5 => simp; omega
  intro v' w3 hown3 hgrow3 _
  obtain ⟨g', cap', rfl⟩ := row_is hown3
  have HS : Hid _ := st_took H.out HL.out hown hn hbh hgrow3 hown3
  have hl3 := boxl_kept (boxl_alloc HL.out _) hgrow3 (fun e => by have := ownBlock_ge hown _ e.symm; omega)
  have hc3 := boxl_cell hl3 0
  have hf3 := boxl_frozen hl3 0
  have hlt3 := boxl_lt hl3
  simp only [List.getElem?_toArray, List.getElem?_cons_zero] at hc3
  clear hl3 hgrow3 hown hown3 hc0 hf0 hlt
  obtain ⟨w4, hw4⟩ : ∃ w4, w4 = w3.setCell ⟨Bl, 0, none⟩ (.slice (some ⟨g', 0, none⟩) (n + 1) cap') := ⟨_, rfl⟩
  have hc4 := boxl_cell HS.out.2.1 1
  have hf4 := boxl_frozen HS.out.2.1 1
  have hlt4 := boxl_lt HS.out.2.1
  simp only [List.getElem?_toArray, List.getElem?_cons_zero, List.getElem?_cons_succ] at hc4
  rw [← hw4] at hc4 hf4 hlt4 HS
  go_upto_region 5 with fail
  rw [← hw4]
  clear hw4 hc3 hf3 hlt3
  go_wp2
  go_end0
  have e : (bh : Int) + 1 = ((bh + 1 : Nat) : Int) := by omega
  rw [e]
  exact ⟨rfl, st_put (bh' := bh + 1) HS.out.1 1 _ (boxl_set HS.out.2.1 1 _) HS.out.2.2 (by omega) (by omega)⟩

theorem hand2_any {w0 w : World} {Bl Bn A base : Nat} {R : List Int} {p m : Nat} (h : St w0 w Bl Bn A base R p m) (r : Int) :
    Calls Try.prog 10 #[.int .i64 2, .int .i32 r, .pointer (some ⟨Bl, 0, none⟩)] w fun e w' => e = .returned (.tuple #[]) ∧ St w0 w' Bl Bn A base R p m := by
  have H : Hid (St w0 w Bl Bn A base R p m) := h
  obtain ⟨_, ⟨v, n, bh, dn, zs, hl, hown, hn, hbh⟩, _, o1, o2, o3, o4, o5, o6⟩ := h
  have HO : Hid (w.ownsRow _ _ _ _ _ _) := hown
  have hc2 := boxl_cell hl 2
  have hf2 := boxl_frozen hl 2
  have hlt := boxl_lt hl
  simp only [List.getElem?_toArray, List.getElem?_cons_zero, List.getElem?_cons_succ] at hc2
  have HL : Hid (BoxL (w.setCell ⟨Bl, 2, none⟩ (.bool true)) Bl 27 _) := boxl_set hl 2 (.bool true)
  clear hl hown
  go_enter Try.func10, Try.ntmps10
  go_wp2
  go_end0
  exact ⟨rfl, st_put H.out 2 _ HL.out HO.out hn hbh⟩

theorem hand3_any {w0 w : World} {Bl Bn A base : Nat} {R : List Int} {p m : Nat} (h : St w0 w Bl Bn A base R p m) (hp : p ≤ 401) (d : Nat) (hd : d ≤ 9) :
    Calls Try.prog 10 #[.int .i64 3, .int .i32 ((d : Int) + 48), .pointer (some ⟨Bl, 0, none⟩)] w fun e w' => e = .returned (.tuple #[]) ∧ St w0 w' Bl Bn A base R (min (p * 10 + d) 401) m := by
  have H : Hid (St w0 w Bl Bn A base R p m) := h
  obtain ⟨_, ⟨v, n, bh, dn, zs, hl, hown, hn, hbh⟩, _, o1, o2, o3, o4, o5, o6⟩ := h
  have HO : Hid (w.ownsRow _ _ _ _ _ _) := hown
  have hc3 := boxl_cell hl 3
  have hf3 := boxl_frozen hl 3
  have hlt := boxl_lt hl
  simp only [List.getElem?_toArray, List.getElem?_cons_zero, List.getElem?_cons_succ] at hc3
  have HL : Hid (∀ z : Nat, BoxL (w.setCell ⟨Bl, 3, none⟩ (.int .i64 (z : Int))) Bl 27 #[v, .int .i64 (bh : Nat), .bool dn, .int .i64 (z : Nat)]) := fun z => boxl_set hl 3 _
  clear hl hown
  by_cases hlt4 : p * 10 + d < 401
  · have e : min (p * 10 + d) 401 = p * 10 + d := by omega
    rw [e]
    clear e
    go_enter Try.func10, Try.ntmps10
    go_wp2
    go_end0
    have e : (p : Int) * 10 + (d : Int) = ((p * 10 + d : Nat) : Int) := by omega
    rw [e]
    exact ⟨rfl, st_put (p' := p * 10 + d) H.out 3 _ (HL.out _) HO.out hn hbh⟩
  · have e : min (p * 10 + d) 401 = 401 := by omega
    rw [e]
    clear e
    go_enter Try.func10, Try.ntmps10
    go_wp2
    · go_end0
      exact ⟨rfl, st_put (p' := 401) H.out 3 _ (HL.out 401) HO.out hn hbh⟩
    · go_end0
      have e : (p : Int) * 10 + (d : Int) = ((401 : Nat) : Int) := by omega
      rw [e]
      exact ⟨rfl, st_put (p' := 401) H.out 3 _ (HL.out 401) HO.out hn hbh⟩
end Go.Proofs.Ythokphoojmpajah
