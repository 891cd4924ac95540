/- The contract of digits.compare, which goes over its digits by the iterator from the top. -/
import Derived.Test.YthokphoojmpajahDoorCmp
namespace Go.Proofs.YthokphoojmpajahDoor
open Go.RowKit Go.Shelf Go.Proofs.Pin

attribute [local go_sem] Oper.semAt_some

/-- A box abides what the law of the loop turns (blocks that are no cells). -/
theorem boxOwn {W W' : World} {row : Option Nat} {B : Nat} {t : TypeId} {v : Value} (h : Boxed W B t v) (hg : W.grownBy W' row) (hr : ∀ r, row = some r → ∃ o : Obj, W.heap[r]? = some o ∧ o.isCells = false) : Boxed W' B t v := by
  refine h.kept hg (fun e => ?_)
  obtain ⟨o, ho, hc⟩ := hr B e.symm
  rw [show W.heap[B]? = _ from h] at ho
  cases ho
  cases hc

set_option maxRecDepth 100000 in
set_option maxHeartbeats 2000000 in
theorem cmpLen_any (a b : Option Addr) (ca cb : Nat) (xs ys : List Int) (w : World) (hl : xs.length ≠ ys.length) :
    Calls Tryd.prog 75 #[.slice a xs.length ca, .slice b ys.length cb] w fun e w' => e = .returned (.int .i64 (cmpL xs ys)) ∧ Below w.heap.size w w' := by
  rw [cmpL_ne hl]
  have hne : ((xs.length : Int) != (ys.length : Int)) = true := by simp; omega
  refine (callsIn_wide (n := 4)).1 ?_
  refine callsIn_of_wp_marks Tryd.func75 rfl trivial ?_ rfl
  simp only [Tryd.ntmps75, List.size_toArray, List.length_cons, List.length_nil, Nat.reduceAdd, Nat.reduceSub, Array.replicate_succ, Array.replicate_zero, List.push_toArray, List.append_toArray, List.nil_append, List.cons_append]
  gi_wp2_with (refine ⟨trivial, ?_⟩; gi_at_call 85; refine (callsIn_wide.2 (compare_any _ _ _)).mono ?_; rintro e w' ⟨rfl, rfl⟩)
  refine ⟨.int .i64 (sg xs.length ys.length), by simp [results, Tryd.f75, go_sem], rfl, ?_⟩
  exact ((Below.refl _ w).alloc (Nat.le_refl _) _).alloc (by simp) _

/-- What the rounds that are over have found: the digits from the top are the same. -/
theorem cmp_top {xs ys : List Int} {n k : Nat} (hk : k ≤ n) (h : ∀ p ∈ tp n k, xs.getD p 0 = ys.getD p 0) : cmpFrom xs ys n = cmpFrom xs ys (n - k) := by
  induction k with
  | zero => rfl
  | succ k ih =>
    rw [tp_succ] at h
    rw [ih (by omega) (fun p hp => h p (List.mem_append_left _ hp))]
    have e := h (n - 1 - k) (by simp)
    obtain ⟨j, hj⟩ : ∃ j, n - k = j + 1 := ⟨n - k - 1, by omega⟩
    have e1 : n - 1 - k = j := by omega
    have e2 : n - (k + 1) = j := by omega
    rw [hj, e2]
    rw [e1] at e
    exact cmpFrom_same e
theorem cmp_stop {xs ys : List Int} {n k : Nat} {ini : List (Pl n)} {last : Pl n} (hk : k ≤ n) (hp : (ini ++ [last]).map (·.1) = tp n k) (h : ∀ p ∈ ini, xs.getD p.1 0 = ys.getD p.1 0) (hl : xs.getD last.1 0 ≠ ys.getD last.1 0) : cmpFrom xs ys n = sg (xs.getD last.1 0) (ys.getD last.1 0) := by
  have hlen := congrArg List.length hp
  rw [List.length_map, tp_length] at hlen
  obtain ⟨k', rfl⟩ : ∃ k', k = k' + 1 := by simp at hlen; exact ⟨ini.length, by omega⟩
  rw [tp_succ, List.map_append] at hp
  have hp2 := List.append_inj' hp rfl
  have e : last.1 = n - 1 - k' := by simpa using hp2.2
  rw [cmp_top (k := k') (by omega) (fun p hpp => by
    rw [← hp2.1] at hpp
    obtain ⟨q, hq, rfl⟩ := List.mem_map.1 hpp
    exact h q hq)]
  obtain ⟨j, hj⟩ : ∃ j, n - k' = j + 1 := ⟨n - k' - 1, by omega⟩
  have e1 : last.1 = j := by omega
  rw [hj, ← e1]
  exact cmpFrom_other hl

set_option maxRecDepth 100000 in
set_option maxHeartbeats 2000000 in
theorem cmpSame_any (a b : Option Addr) (ca cb : Nat) (xs ys : List Int) (w : World) (ha : Sl w a xs) (hb : Sl w b ys) (hx : xs.length ≤ 1048576) (hl : xs.length = ys.length) :
    Calls Tryd.prog 75 #[.slice a xs.length ca, .slice b ys.length cb] w fun e w' => e = .returned (.int .i64 (cmpL xs ys)) ∧ Below w.heap.size w w' := by
  rw [cmpL_eq hl]
  obtain ⟨m, hm⟩ : ∃ m, m = xs.length := ⟨_, rfl⟩
  have HX : Hid (m = xs.length) := hm
  have HY : Hid (m = ys.length) := hm.trans hl
  have hne : ((m : Int) != (m : Int)) = false := by simp
  have hI0 := SlB.of ha
  have hI1 := SlB.of hb
  have hm2 : m ≤ 1048576 := by omega
  rw [← hl, ← hm]
  clear hl hm ha hb hx
  refine (callsIn_wide (n := 4)).1 ?_
  refine callsIn_of_wp_marks Tryd.func75 rfl trivial ?_ rfl
  simp only [Tryd.ntmps75, List.size_toArray, List.length_cons, List.length_nil, Nat.reduceAdd, Nat.reduceSub, Array.replicate_succ, Array.replicate_zero, List.push_toArray, List.append_toArray, List.nil_append, List.cons_append]
  gi_wp2_with (refine ⟨trivial, ?_⟩; gi_at_call 82; refine (fromTop_in Fence.wide (4 - 1) trivial rfl _ _ _ _).mono ?_; rintro e w' ⟨rfl, rfl⟩)
  have bE := Boxed.new w 42 (.slice b m cb)
  have bR := Boxed.new (w.alloc (.cells #[.slice b m cb] 42)) 3 (.int .i64 0)
  have bN := Boxed.new ((w.alloc (.cells #[.slice b m cb] 42)).alloc (.cells #[.int .i64 0] 3)) 42 (.slice a m ca)
  rw [World.size_alloc] at bR
  rw [World.size_alloc, World.size_alloc] at bN
  have hB0 : Below w.heap.size w (((w.alloc (.cells #[.slice b m cb] 42)).alloc (.cells #[.int .i64 0] 3)).alloc (.cells #[.slice a m ca] 42)) := (((Below.refl _ w).alloc (Nat.le_refl _) _).alloc (by simp) _).alloc (by simp; omega) _
  have bE' := (bE.alloc (.cells #[.int .i64 0] 3)).alloc (.cells #[.slice a m ca] 42)
  have bR' := bR.alloc (.cells #[.slice a m ca] 42)
  refine wpIn_rangeFunc_ownG rfl (by omega) (gf := 96) (lb := #[.pointer (some ⟨w.heap.size + 1 + 1, 0, none⟩)]) rfl trivial (enters_of Tryd.func96 (by kernel_rfl) rfl)
    (top_stops Fence.wide (4 - 1) trivial rfl (by omega) (w.heap.size + 1 + 1) w.heap.size a ca xs m HX hm2 _ (by simp) (by simp; omega) bN.cell (hI0.below hB0)) KpB.t (KpB.b (by simp; omega) (by simp)) (Below.refl _ _) (fun _ => rfl)
    (fun pre W => ((∀ p ∈ pre, xs.getD p.1 0 = ys.getD p.1 0) ∧ Boxed W w.heap.size 42 (.slice b m cb) ∧ Boxed W (w.heap.size + 1) 3 (.int .i64 0)) ∧ Below w.heap.size w W)
    (fun c pre W => (c = .ret ∧ ∃ ini last, pre = ini ++ [last] ∧ (∀ p ∈ ini, xs.getD p.1 0 = ys.getD p.1 0) ∧ xs.getD last.1 0 ≠ ys.getD last.1 0 ∧ Boxed W (w.heap.size + 1) 3 (.int .i64 (sg (xs.getD last.1 0) (ys.getD last.1 0)))) ∧ Below w.heap.size w W)
    (OwnFrom.and (Own.from (fun s A B row hs hg hr => ⟨hs.1, boxOwn hs.2.1 hg hr, boxOwn hs.2.2 hg hr⟩) _) (ownFrom_below (Nat.le_refl _) (by simp; omega)))
    (fun c => OwnFrom.and (Own.from (fun s A B row hs hg hr => by obtain ⟨hc, ini, last, e1, e2, e3, e4⟩ := hs; exact ⟨hc, ini, last, e1, e2, e3, boxOwn e4 hg hr⟩) _) (ownFrom_below (Nat.le_refl _) (by simp; omega)))
    ⟨⟨by simp, bE', bR'⟩, hB0⟩
    (fun x => { tmps := #[.slice a m ca, .slice b m cb, undef, .pointer (some ⟨w.heap.size, 0, none⟩), .pointer (some ⟨w.heap.size + 1, 0, none⟩), .int .i64 (x.1 : Int), .int .i64 (xs.getD x.1 0), .slice a m ca, .int .i64 (m : Int), .slice b m cb, .int .i64 (m : Int), .bool false, undef, undef, undef, undef, undef, .slice a m ca, .func (.func 96) #[] #[.pointer (some ⟨w.heap.size + 1 + 1, 0, none⟩)], .int .i64 (x.1 : Int), .int .i64 (xs.getD x.1 0), undef, undef, undef, undef, undef, undef, undef, undef, undef, undef, undef, undef], defers := [] }) ?assign ?body ?done ?stop
  case assign =>
    intro l x W K hK
    simp only [plEnc]
    gi_wp2
    exact hK
  case body =>
    rintro l pre x W ⟨⟨hp, bE1, bR1⟩, hB⟩ _
    obtain ⟨j, hj⟩ := x
    obtain ⟨by', off, rfl, hby, hc⟩ : ∃ b' off, b = some ⟨b', off, none⟩ ∧ b' < w.heap.size ∧ w.cell? ⟨b', off + j, none⟩ = some (.int .i64 (ys.getD j 0)) := by
      rcases hI1 with rfl | ⟨b', off, rfl, hb', hc⟩
      · have := HY.out; simp at this; omega
      · exact ⟨b', off, rfl, hb', hc j (by rw [← HY.out]; exact hj)⟩
    have hc1 : W.cell? ⟨by', off + j, none⟩ = some (.int .i64 (ys.getD j 0)) := (hB.cell (p := ⟨by', off + j, none⟩) hby).trans hc
    have hcE := bE1.cell
    have hcR := bR1.cell
    have hfR := bR1.frozen
    have hlt : (j : Int) < (m : Int) := by omega
    dsimp only
    obtain ⟨x, hx⟩ : ∃ x, x = xs.getD j 0 := ⟨_, rfl⟩
    obtain ⟨y, hy⟩ : ∃ y, y = ys.getD j 0 := ⟨_, rfl⟩
    rw [← hx]
    rw [← hy] at hc1
    have HX1 : Hid (x = xs.getD j 0) := hx
    have HY1 : Hid (y = ys.getD j 0) := hy
    have HI : Hid (Boxed W w.heap.size 42 (.slice (some ⟨by', off, none⟩) m cb) ∧ Boxed W (w.heap.size + 1) 3 (.int .i64 0) ∧ Below w.heap.size w W) := ⟨bE1, bR1, hB⟩
    have HP : Hid (∀ p ∈ pre, xs.getD p.1 0 = ys.getD p.1 0) := hp
    clear hx hy hc hI1 hI0 hp bE1 bR1 hB bE bR bN bE' bR' hB0
    by_cases hxy : x = y
    · have hne2 : (x != y) = false := by simp [hxy]
      have HE : Hid (x = y) := hxy
      clear hxy
      gi_wp2
      exact ⟨KeepsFrom.refl _ _, KpB.refl _ _ _, ⟨fun p hp => (List.mem_append.1 hp).elim (HP.out p) (fun e => by
        have e' : p = ⟨j, hj⟩ := by simpa using e
        subst e'
        show xs.getD j 0 = ys.getD j 0
        rw [← HX1.out, ← HY1.out]; exact HE.out), HI.out.1, HI.out.2.1⟩, HI.out.2.2⟩
    · have hne2 : (x != y) = true := by simp [hxy]
      have HE : Hid (x ≠ y) := hxy
      clear hxy
      gi_wp2_with (refine ⟨trivial, ?_⟩; gi_at_call 85; refine (CallsIn.inRound l (callsIn_wide.2 (compare_any x y _))).mono ?_; rintro e w' ⟨rfl, rfl⟩)
      exact ⟨(KeepsOthers.setCell _ _ _).from _, ⟨rfl, pre, ⟨j, hj⟩, rfl, HP.out, by show xs.getD j 0 ≠ ys.getD j 0; rw [← HX1.out, ← HY1.out]; exact HE.out, by
        show Boxed _ (w.heap.size + 1) 3 (.int .i64 (sg (xs.getD j 0) (ys.getD j 0)))
        rw [← HX1.out, ← HY1.out]
        exact HI.out.2.1.set _⟩, HI.out.2.2.setCell (p := ⟨w.heap.size + 1, 0, none⟩) (by simp) _⟩
  case done =>
    rintro D zs W hD hzs ⟨⟨hp, bE1, bR1⟩, hB⟩ hK
    have hcR := bR1.cell
    have hfR := bR1.frozen
    have hR0 : cmpFrom xs ys m = 0 := by
      rw [cmp_top (n := m) (k := m) (Nat.le_refl _) (fun p hpp => by
        rw [← hzs] at hpp
        obtain ⟨q, hq, rfl⟩ := List.mem_map.1 hpp
        exact hp q hq)]
      simp [cmpFrom]
    have HR : Hid (cmpFrom xs ys m = 0) := hR0
    clear hR0 hp hzs hI0 hI1 bE bR bN bE' bR' hB0
    gi_wp2
    have hK' := (KeepsOthers.setCell W ⟨w.heap.size + 1, 0, none⟩ (.int .i64 0)).same D _ hK rfl
    refine ⟨by simp, .inl ⟨_, _, rfl, run_takeDeferred hK', ?_⟩⟩
    have hc5 := cell_kept (bR1.set (.int .i64 0)).cell (grownBy_putObj' _ D (.deferred none)) (fun r e => by cases e; exact ⟨_, hK', rfl⟩)
    refine ⟨.int .i64 0, ?_, by rw [HR.out], (hB.setCell (p := ⟨w.heap.size + 1, 0, none⟩) (by simp) _).trans (belowK_b (w := w) (Nat.le_refl _) _ D _ _ (by simp at hD; omega) hK' rfl rfl)⟩
    simp [results, Tryd.f75, go_sem, hc5]
  case stop =>
    rintro D c pre W hD ⟨k, hk, hpre⟩ ⟨⟨rfl, ini, last, rfl, e2, e3, bR1⟩, hB⟩ hK
    have hR0 := cmp_stop hk hpre e2 e3
    gi_wp2
    refine ⟨by simp, .inl ⟨_, _, rfl, run_takeDeferred hK, ?_⟩⟩
    have hc5 := cell_kept bR1.cell (grownBy_putObj' _ D (.deferred none)) (fun r e => by cases e; exact ⟨_, hK, rfl⟩)
    refine ⟨.int .i64 (sg (xs.getD last.1 0) (ys.getD last.1 0)), ?_, by rw [hR0], hB.trans (belowK_b (w := w) (Nat.le_refl _) W D _ _ (by simp at hD; omega) hK rfl rfl)⟩
    simp [results, Tryd.f75, go_sem, hc5]

theorem cmp_any (a b : Option Addr) (ca cb : Nat) (xs ys : List Int) (w : World) (ha : Sl w a xs) (hb : Sl w b ys) (hx : xs.length ≤ 1048576) :
    Calls Tryd.prog 75 #[.slice a xs.length ca, .slice b ys.length cb] w fun e w' => e = .returned (.int .i64 (cmpL xs ys)) ∧ Below w.heap.size w w' := by
  by_cases hl : xs.length = ys.length
  · exact cmpSame_any a b ca cb xs ys w ha hb hx hl
  · exact cmpLen_any a b ca cb xs ys w hl
end Go.Proofs.YthokphoojmpajahDoor
