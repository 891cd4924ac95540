/- The contract of digits.compare, which goes over its digits by the iterator from the top. The contract of digits.cut: quotient by one digit, and the rest; it goes over its digits by the iterator from the top. The contracts of digits.pairBelow and of guessDigit. The contract of digits.takeOff: a factor times e off in place, with what was borrowed above the top. -/
import Derived.Test.YthokphoojmpajabGreatDoorCmp
import Derived.Shelf.RegionOpen
import Derived.Sort.QuietIn
import Derived.RangeFuncCalls
import Derived.Deep.QuietTactic
import Derived.BigQuiet
import Derived.BigRegion
import Derived.Test.YthokphoojmpajabGreatDoorGAr
import Derived.Test.YthokphoojmpajabGreatDoorGNum
import Derived.Laws.BitsAllLaws
namespace Go.Proofs.YthokphoojmpajabGreatDoor
open Go.RowKit Go.Shelf Go.Proofs.Pin

attribute [local go_sem] Oper.semAt_some

/-- A box abides what the law of the loop turns (blocks that are no cells). -/
theorem boxOwn {W W' : World} {row : Option Nat} {B : Nat} {t : TypeId} {v : Value} (h : Boxed W B t v) (hg : W.grownBy W' row) (hr : ∀ r, row = some r → ∃ o : Obj, W.heap[r]? = some o ∧ o.isCells = false) : Boxed W' B t v := by
  refine h.kept hg (fun e => ?_)
  obtain ⟨o, ho, hc⟩ := hr B e.symm
  rw [show W.heap[B]? = _ from h] at ho
  cases ho
  cases hc

set_option maxRecDepth 100000 in
set_option maxHeartbeats 2000000 in
theorem cmpLen_any (a b : Option Addr) (ca cb : Nat) (xs ys : List Int) (w : World) (hl : xs.length ≠ ys.length) :
    Calls Tryz.prog 85 #[.slice a xs.length ca, .slice b ys.length cb] w fun e w' => e = .returned (.int .i64 (cmpL xs ys)) ∧ Below w.heap.size w w' := by
  rw [cmpL_ne hl]
  have hne : ((xs.length : Int) != (ys.length : Int)) = true := by simp; omega
  refine (callsIn_wide (n := 4)).1 ?_
  refine callsIn_of_wp_marks Tryz.func85 rfl trivial ?_ rfl
  simp only [Tryz.ntmps85, List.size_toArray, List.length_cons, List.length_nil, Nat.reduceAdd, Nat.reduceSub, Array.replicate_succ, Array.replicate_zero, List.push_toArray, List.append_toArray, List.nil_append, List.cons_append]
  gi_wp2_with (refine ⟨trivial, ?_⟩; gi_at_call 109; refine (callsIn_wide.2 (compare_any _ _ _)).mono ?_; rintro e w' ⟨rfl, rfl⟩)
  refine ⟨.int .i64 (sg xs.length ys.length), by simp [results, Tryz.f85, go_sem], rfl, ?_⟩
  exact ((Below.refl _ w).alloc (Nat.le_refl _) _).alloc (by simp) _

/-- What the rounds that are over have found: the digits from the top are the same. -/
theorem cmp_top {xs ys : List Int} {n k : Nat} (hk : k ≤ n) (h : ∀ p ∈ tp n k, xs.getD p 0 = ys.getD p 0) : cmpFrom xs ys n = cmpFrom xs ys (n - k) := by
  induction k with
  | zero => rfl
  | succ k ih =>
    rw [tp_succ] at h
    rw [ih (by omega) (fun p hp => h p (List.mem_append_left _ hp))]
    have e := h (n - 1 - k) (by simp)
    obtain ⟨j, hj⟩ : ∃ j, n - k = j + 1 := ⟨n - k - 1, by omega⟩
    have e1 : n - 1 - k = j := by omega
    have e2 : n - (k + 1) = j := by omega
    rw [hj, e2]
    rw [e1] at e
    exact cmpFrom_same e
theorem cmp_stop {xs ys : List Int} {n k : Nat} {ini : List (Pl n)} {last : Pl n} (hk : k ≤ n) (hp : (ini ++ [last]).map (·.1) = tp n k) (h : ∀ p ∈ ini, xs.getD p.1 0 = ys.getD p.1 0) (hl : xs.getD last.1 0 ≠ ys.getD last.1 0) : cmpFrom xs ys n = sg (xs.getD last.1 0) (ys.getD last.1 0) := by
  have hlen := congrArg List.length hp
  rw [List.length_map, tp_length] at hlen
  obtain ⟨k', rfl⟩ : ∃ k', k = k' + 1 := by simp at hlen; exact ⟨ini.length, by omega⟩
  rw [tp_succ, List.map_append] at hp
  have hp2 := List.append_inj' hp rfl
  have e : last.1 = n - 1 - k' := by simpa using hp2.2
  rw [cmp_top (k := k') (by omega) (fun p hpp => by
    rw [← hp2.1] at hpp
    obtain ⟨q, hq, rfl⟩ := List.mem_map.1 hpp
    exact h q hq)]
  obtain ⟨j, hj⟩ : ∃ j, n - k' = j + 1 := ⟨n - k' - 1, by omega⟩
  have e1 : last.1 = j := by omega
  rw [hj, ← e1]
  exact cmpFrom_other hl

set_option maxRecDepth 100000 in
set_option maxHeartbeats 2000000 in
theorem cmpSame_any (a b : Option Addr) (ca cb : Nat) (xs ys : List Int) (w : World) (ha : Sl w a xs) (hb : Sl w b ys) (hx : xs.length ≤ 1048576) (hl : xs.length = ys.length) :
    Calls Tryz.prog 85 #[.slice a xs.length ca, .slice b ys.length cb] w fun e w' => e = .returned (.int .i64 (cmpL xs ys)) ∧ Below w.heap.size w w' := by
  rw [cmpL_eq hl]
  obtain ⟨m, hm⟩ : ∃ m, m = xs.length := ⟨_, rfl⟩
  have HX : Hid (m = xs.length) := hm
  have HY : Hid (m = ys.length) := hm.trans hl
  have hne : ((m : Int) != (m : Int)) = false := by simp
  have hI0 := SlB.of ha
  have hI1 := SlB.of hb
  have hm2 : m ≤ 1048576 := by omega
  rw [← hl, ← hm]
  clear hl hm ha hb hx
  refine (callsIn_wide (n := 4)).1 ?_
  refine callsIn_of_wp_marks Tryz.func85 rfl trivial ?_ rfl
  simp only [Tryz.ntmps85, List.size_toArray, List.length_cons, List.length_nil, Nat.reduceAdd, Nat.reduceSub, Array.replicate_succ, Array.replicate_zero, List.push_toArray, List.append_toArray, List.nil_append, List.cons_append]
  gi_wp2_with (refine ⟨trivial, ?_⟩; gi_at_call 110; refine (fromTop_in Fence.wide (4 - 1) trivial rfl _ _ _ _).mono ?_; rintro e w' ⟨rfl, rfl⟩)
  have bE := Boxed.new w 44 (.slice b m cb)
  have bR := Boxed.new (w.alloc (.cells #[.slice b m cb] 44)) 3 (.int .i64 0)
  have bN := Boxed.new ((w.alloc (.cells #[.slice b m cb] 44)).alloc (.cells #[.int .i64 0] 3)) 44 (.slice a m ca)
  rw [World.size_alloc] at bR
  rw [World.size_alloc, World.size_alloc] at bN
  have hB0 : Below w.heap.size w (((w.alloc (.cells #[.slice b m cb] 44)).alloc (.cells #[.int .i64 0] 3)).alloc (.cells #[.slice a m ca] 44)) := (((Below.refl _ w).alloc (Nat.le_refl _) _).alloc (by simp) _).alloc (by simp; omega) _
  have bE' := (bE.alloc (.cells #[.int .i64 0] 3)).alloc (.cells #[.slice a m ca] 44)
  have bR' := bR.alloc (.cells #[.slice a m ca] 44)
  refine wpIn_rangeFunc_ownG rfl (by omega) (gf := 120) (lb := #[.pointer (some ⟨w.heap.size + 1 + 1, 0, none⟩)]) rfl trivial (enters_of Tryz.func120 (by kernel_rfl) rfl)
    (top_stops Fence.wide (4 - 1) trivial rfl (by omega) (w.heap.size + 1 + 1) w.heap.size a ca xs m HX hm2 _ (by simp) (by simp; omega) bN.cell (hI0.below hB0)) KpB.t (KpB.b (by simp; omega) (by simp)) (Below.refl _ _) (fun _ => rfl)
    (fun pre W => ((∀ p ∈ pre, xs.getD p.1 0 = ys.getD p.1 0) ∧ Boxed W w.heap.size 44 (.slice b m cb) ∧ Boxed W (w.heap.size + 1) 3 (.int .i64 0)) ∧ Below w.heap.size w W)
    (fun c pre W => (c = .ret ∧ ∃ ini last, pre = ini ++ [last] ∧ (∀ p ∈ ini, xs.getD p.1 0 = ys.getD p.1 0) ∧ xs.getD last.1 0 ≠ ys.getD last.1 0 ∧ Boxed W (w.heap.size + 1) 3 (.int .i64 (sg (xs.getD last.1 0) (ys.getD last.1 0)))) ∧ Below w.heap.size w W)
    (OwnFrom.and (Own.from (fun s A B row hs hg hr => ⟨hs.1, boxOwn hs.2.1 hg hr, boxOwn hs.2.2 hg hr⟩) _) (ownFrom_below (Nat.le_refl _) (by simp; omega)))
    (fun c => OwnFrom.and (Own.from (fun s A B row hs hg hr => by obtain ⟨hc, ini, last, e1, e2, e3, e4⟩ := hs; exact ⟨hc, ini, last, e1, e2, e3, boxOwn e4 hg hr⟩) _) (ownFrom_below (Nat.le_refl _) (by simp; omega)))
    ⟨⟨by simp, bE', bR'⟩, hB0⟩
    (fun x => { tmps := #[.slice a m ca, .slice b m cb, undef, .pointer (some ⟨w.heap.size, 0, none⟩), .pointer (some ⟨w.heap.size + 1, 0, none⟩), .int .i64 (x.1 : Int), .int .i64 (xs.getD x.1 0), .slice a m ca, .int .i64 (m : Int), .slice b m cb, .int .i64 (m : Int), .bool false, undef, undef, undef, undef, undef, .slice a m ca, .func (.func 120) #[] #[.pointer (some ⟨w.heap.size + 1 + 1, 0, none⟩)], .int .i64 (x.1 : Int), .int .i64 (xs.getD x.1 0), undef, undef, undef, undef, undef, undef, undef, undef, undef, undef, undef, undef], defers := [] }) ?assign ?body ?done ?stop
  case assign =>
    intro l x W K hK
    simp only [plEnc]
    gi_wp2
    exact hK
  case body =>
    rintro l pre x W ⟨⟨hp, bE1, bR1⟩, hB⟩ _
    obtain ⟨j, hj⟩ := x
    obtain ⟨by', off, rfl, hby, hc⟩ : ∃ b' off, b = some ⟨b', off, none⟩ ∧ b' < w.heap.size ∧ w.cell? ⟨b', off + j, none⟩ = some (.int .i64 (ys.getD j 0)) := by
      rcases hI1 with rfl | ⟨b', off, rfl, hb', hc⟩
      · have := HY.out; simp at this; omega
      · exact ⟨b', off, rfl, hb', hc j (by rw [← HY.out]; exact hj)⟩
    have hc1 : W.cell? ⟨by', off + j, none⟩ = some (.int .i64 (ys.getD j 0)) := (hB.cell (p := ⟨by', off + j, none⟩) hby).trans hc
    have hcE := bE1.cell
    have hcR := bR1.cell
    have hfR := bR1.frozen
    have hlt : (j : Int) < (m : Int) := by omega
    dsimp only
    obtain ⟨x, hx⟩ : ∃ x, x = xs.getD j 0 := ⟨_, rfl⟩
    obtain ⟨y, hy⟩ : ∃ y, y = ys.getD j 0 := ⟨_, rfl⟩
    rw [← hx]
    rw [← hy] at hc1
    have HX1 : Hid (x = xs.getD j 0) := hx
    have HY1 : Hid (y = ys.getD j 0) := hy
    have HI : Hid (Boxed W w.heap.size 44 (.slice (some ⟨by', off, none⟩) m cb) ∧ Boxed W (w.heap.size + 1) 3 (.int .i64 0) ∧ Below w.heap.size w W) := ⟨bE1, bR1, hB⟩
    have HP : Hid (∀ p ∈ pre, xs.getD p.1 0 = ys.getD p.1 0) := hp
    clear hx hy hc hI1 hI0 hp bE1 bR1 hB bE bR bN bE' bR' hB0
    by_cases hxy : x = y
    · have hne2 : (x != y) = false := by simp [hxy]
      have HE : Hid (x = y) := hxy
      clear hxy
      gi_wp2
      exact ⟨KeepsFrom.refl _ _, KpB.refl _ _ _, ⟨fun p hp => (List.mem_append.1 hp).elim (HP.out p) (fun e => by
        have e' : p = ⟨j, hj⟩ := by simpa using e
        subst e'
        show xs.getD j 0 = ys.getD j 0
        rw [← HX1.out, ← HY1.out]; exact HE.out), HI.out.1, HI.out.2.1⟩, HI.out.2.2⟩
    · have hne2 : (x != y) = true := by simp [hxy]
      have HE : Hid (x ≠ y) := hxy
      clear hxy
      gi_wp2_with (refine ⟨trivial, ?_⟩; gi_at_call 109; refine (CallsIn.inRound l (callsIn_wide.2 (compare_any x y _))).mono ?_; rintro e w' ⟨rfl, rfl⟩)
      exact ⟨(KeepsOthers.setCell _ _ _).from _, ⟨rfl, pre, ⟨j, hj⟩, rfl, HP.out, by show xs.getD j 0 ≠ ys.getD j 0; rw [← HX1.out, ← HY1.out]; exact HE.out, by
        show Boxed _ (w.heap.size + 1) 3 (.int .i64 (sg (xs.getD j 0) (ys.getD j 0)))
        rw [← HX1.out, ← HY1.out]
        exact HI.out.2.1.set _⟩, HI.out.2.2.setCell (p := ⟨w.heap.size + 1, 0, none⟩) (by simp) _⟩
  case done =>
    rintro D zs W hD hzs ⟨⟨hp, bE1, bR1⟩, hB⟩ hK
    have hcR := bR1.cell
    have hfR := bR1.frozen
    have hR0 : cmpFrom xs ys m = 0 := by
      rw [cmp_top (n := m) (k := m) (Nat.le_refl _) (fun p hpp => by
        rw [← hzs] at hpp
        obtain ⟨q, hq, rfl⟩ := List.mem_map.1 hpp
        exact hp q hq)]
      simp [cmpFrom]
    have HR : Hid (cmpFrom xs ys m = 0) := hR0
    clear hR0 hp hzs hI0 hI1 bE bR bN bE' bR' hB0
    gi_wp2
    have hK' := (KeepsOthers.setCell W ⟨w.heap.size + 1, 0, none⟩ (.int .i64 0)).same D _ hK rfl
    refine ⟨by simp, .inl ⟨_, _, rfl, run_takeDeferred hK', ?_⟩⟩
    have hc5 := cell_kept (bR1.set (.int .i64 0)).cell (grownBy_putObj' _ D (.deferred none)) (fun r e => by cases e; exact ⟨_, hK', rfl⟩)
    refine ⟨.int .i64 0, ?_, by rw [HR.out], (hB.setCell (p := ⟨w.heap.size + 1, 0, none⟩) (by simp) _).trans (belowK_b (w := w) (Nat.le_refl _) _ D _ _ (by simp at hD; omega) hK' rfl rfl)⟩
    simp [results, Tryz.f85, go_sem, hc5]
  case stop =>
    rintro D c pre W hD ⟨k, hk, hpre⟩ ⟨⟨rfl, ini, last, rfl, e2, e3, bR1⟩, hB⟩ hK
    have hR0 := cmp_stop hk hpre e2 e3
    gi_wp2
    refine ⟨by simp, .inl ⟨_, _, rfl, run_takeDeferred hK, ?_⟩⟩
    have hc5 := cell_kept bR1.cell (grownBy_putObj' _ D (.deferred none)) (fun r e => by cases e; exact ⟨_, hK, rfl⟩)
    refine ⟨.int .i64 (sg (xs.getD last.1 0) (ys.getD last.1 0)), ?_, by rw [hR0], hB.trans (belowK_b (w := w) (Nat.le_refl _) W D _ _ (by simp at hD; omega) hK rfl rfl)⟩
    simp [results, Tryz.f85, go_sem, hc5]

theorem cmp_any (a b : Option Addr) (ca cb : Nat) (xs ys : List Int) (w : World) (ha : Sl w a xs) (hb : Sl w b ys) (hx : xs.length ≤ 1048576) :
    Calls Tryz.prog 85 #[.slice a xs.length ca, .slice b ys.length cb] w fun e w' => e = .returned (.int .i64 (cmpL xs ys)) ∧ Below w.heap.size w w' := by
  by_cases hl : xs.length = ys.length
  · exact cmpSame_any a b ca cb xs ys w ha hb hx hl
  · exact cmpLen_any a b ca cb xs ys w hl
end Go.Proofs.YthokphoojmpajabGreatDoor

namespace Go.Proofs.YthokphoojmpajabGreatDoor
open Go.RowKit Go.Shelf Go.Proofs.Pin

attribute [local go_sem] Oper.semAt_some

/-- make with a full length, behind a fence. -/
theorem makeFull_in {F : Fence} {n : Nat} {P : Program} (w : World) {ops : Array Oper} {rest : List Oper} {o : Oper} {a : Act} {Q : Exit → Act → World → Prop}
    (hg : o.guard = none) (l c : Operand) (t : TypeId) (hop : o.op = Op.makeSlice t l c)
    (base : Nat) (e : TypeId) (i : TypeInfo) (z : Value) (size : Nat) (h1 : P.underlying t = some (.slice e)) (h2 : P.info? e = some i) (h3 : i.zero = some z) (h4 : i.size = size)
    (kl kc : IntKind) (L C : Int) (m : Nat) (hl : a.eval l = .int kl L) (hc : a.eval c = .int kc C) (hL : L = (m : Int)) (hC : C = (m : Int)) (b2 : i.bytes * m ≤ 281474976710656) (b3 : m ≤ maxLen) (b4 : base ≤ w.heap.size)
    (hK : ∀ w', w'.ownsRow base e size (.slice (some ⟨w.heap.size, 0, none⟩) m m) m (madeCells z.cells (m * size)).toList → w.grownBy w' none → wpListIn F n P ops Q rest (a.put o.dst (.slice (some ⟨w.heap.size, 0, none⟩) m m)) w') :
    wpListIn F n P ops Q (o :: rest) a w := by
  refine wpListIn_plain hg fun K hK' => ?_
  obtain ⟨w', hrun, r1, r2⟩ := run_make_full (P := P) w base t e i z size h1 h2 h3 h4 kl kc m b2 b3 b4
  subst hL
  subst hC
  unfold Oper.wpIn
  refine ⟨?_, ?_⟩
  · simp [Oper.about, hop]
  · rw [Oper.semAt_plain F _ _ (by rw [hop]; intro c hc'; cases hc')]
    simp [execOp, hop, hl, hc, hrun, Result.andThen]
    exact hK' _ _ (hK w' r1 r2)

/-- A row abides what the law of the loop turns (blocks that are no cells). -/
theorem rowOwn {W W' : World} {row : Option Nat} {base cap : Nat} {a : Option Addr} {zs : List Int} (h : OwnI W base a cap zs) (hg : W.grownBy W' row) (hr : ∀ r, row = some r → ∃ o : Obj, W.heap[r]? = some o ∧ o.isCells = false) : OwnI W' base a cap zs := by
  refine h.kept hg (fun g e k => ?_)
  obtain ⟨o, ho, hc⟩ := hr g.block k
  rcases h.2 with ⟨h', _⟩ | ⟨g', cap', cur, h', hb, hg', _⟩
  · simp at h'
    rw [h'.1] at e
    cases e
  · simp at h'
    rw [h'.1] at e
    cases e
    rw [hg'] at ho
    cases ho
    cases hc

theorem tp_last {m : Nat} {pre : List (Pl m)} {x : Pl m} (h : (pre ++ [x]).map (·.1) = tp m (pre ++ [x]).length) : pre.map (·.1) = tp m pre.length ∧ x.1 = m - 1 - pre.length := by
  rw [List.length_append, List.length_singleton, tp_succ, List.map_append] at h
  have h2 := List.append_inj' h rfl
  exact ⟨h2.1, by simpa using h2.2⟩
theorem trimmed_own (base : Nat) (a : Option Addr) (cap : Nat) (zs : List Int) (w : World) (h : OwnI w base a cap zs) : OwnI w base a cap (zs.take (trimN zs zs.length)) := by
  exact own_take h (trimN_le zs zs.length)
/-- What the rounds that are over have found: as long as the places have come from the top, the digits that came are the quotient's by the divisor, and the rest. -/
def cutI (zs : List Int) (m : Nat) (d : Int) (pre : List (Pl m)) (r : Int) (out : List Int) : Prop := pre.map (·.1) = tp m pre.length → val (zs.drop (m - pre.length)) = val (out.drop (m - pre.length)) * d + r
theorem cutI_step {zs out : List Int} {m : Nat} {d r : Int} {pre : List (Pl m)} {x : Pl m} (hm : m = zs.length) (ho : out.length = m) (hpl : pre.length < m) (h : cutI zs m d pre r out) : cutI zs m d (pre ++ [x]) ((r * 65536 + zs.getD x.1 0) % d) (out.set x.1 ((r * 65536 + zs.getD x.1 0) / d)) := by
  intro hp
  obtain ⟨h1, h2⟩ := tp_last hp
  have hx := x.2
  have h3 := h h1
  rw [List.length_append, List.length_singleton]
  have e : m - (pre.length + 1) = x.1 := by omega
  rw [show m - pre.length = x.1 + 1 by omega] at h3
  rw [e]
  exact div_step (by omega) (by omega) h3

set_option maxRecDepth 100000 in
set_option maxHeartbeats 2000000 in
theorem cut_any (a : Option Addr) (ca : Nat) (x : Nat) (d : Int) (w : World) (ha : Sl w a (dgs x)) (hx : (dgs x).length ≤ 65536) (hd0 : 0 < d) (hd1 : d < 65536) :
    Calls Tryz.prog 89 #[.slice a (dgs x).length ca, .int .i64 d] w fun e w' => ∃ r cr, e = .returned (.tuple #[.slice r (dgs (x / d.toNat)).length cr, .int .i64 ((x % d.toNat : Nat) : Int)]) ∧ OwnI w' w.heap.size r cr (dgs (x / d.toNat)) ∧ Below w.heap.size w w' := by
  obtain ⟨i0, hi, hz0, hz1, hz2⟩ := info_parts Tryz.info3
  obtain ⟨zs, hA⟩ : ∃ zs, zs = dgs x := ⟨_, rfl⟩
  have HA : Hid (zs = dgs x) := hA
  have hI0 : SlB w.heap.size w a zs := by rw [hA]; exact SlB.of ha
  have HD : Hid (Dg zs) := by show Dg zs; rw [hA]; exact Dg_dgs x
  obtain ⟨m, hm⟩ : ∃ m, m = zs.length := ⟨_, rfl⟩
  have HX : Hid (m = zs.length) := hm
  rw [← hA, ← hm] at hx
  have hm2 : m ≤ 1048576 := by omega
  have e0 : (dgs x).length = m := by rw [hm, hA]
  rw [e0]
  clear hA hm e0 ha
  refine (callsIn_wide (n := 4)).1 ?_
  refine callsIn_of_wp_marks Tryz.func89 rfl trivial ?_ rfl
  simp only [Tryz.ntmps89, List.size_toArray, List.length_cons, List.length_nil, Nat.reduceAdd, Nat.reduceSub, Array.replicate_succ, Array.replicate_zero, List.push_toArray, List.append_toArray, List.nil_append, List.cons_append]
  gi_wp2_with (first | (gi_at_make; refine makeFull_in _ rfl _ _ 44 rfl w.heap.size 3 i0 (.int .i64 0) 1 Tryz.underlying44 hi hz0 hz1 _ _ _ _ m rfl rfl (by omega) (by omega) (by rw [hz2]; omega) (by unfold maxLen; omega) (by simp) ?_; intro w1 hown hgrow) | (refine ⟨trivial, ?_⟩; gi_at_call 110; refine (fromTop_in Fence.wide (4 - 1) trivial rfl _ _ _ _).mono ?_; rintro e w' ⟨rfl, rfl⟩))
  obtain ⟨g, hg⟩ : ∃ g, g = w.heap.size + 1 := ⟨_, rfl⟩
  have hgs : (w.alloc (Obj.cells #[Value.int IntKind.i64 d] 3)).heap.size = g := by simp [hg]
  rw [hgs] at hown
  rw [← hg]
  have hrow := make_row hown
  have hl0 : (List.replicate m (0 : Int)).length = m := by simp
  have hq0 : OwnI w1 w.heap.size (some ⟨g, 0, none⟩) m (List.replicate m (0 : Int)) := by
    have h := own_of_block (base := w.heap.size) (zs := List.replicate m (0 : Int)) (g := g) (w := w1) (by rw [List.map_replicate]; exact hrow) (by omega) (by rw [hl0]; unfold maxLen; omega)
    rw [hl0] at h
    exact h
  have hB1 : Below w.heap.size w w1 := ((Below.refl _ w).alloc (Nat.le_refl _) _).grown hgrow (by simp) (fun k hk => by cases hk)
  have hgs1 : g < w1.heap.size := own_lt hq0
  obtain ⟨s, hs⟩ : ∃ s, s = w1.heap.size := ⟨_, rfl⟩
  have b0 : Boxed w1 w.heap.size 3 (.int .i64 d) := (Boxed.new w 3 (.int .i64 d)).kept hgrow (by simp)
  have b1 : Boxed (w1.alloc (.cells #[.slice (some ⟨g, 0, none⟩) m m] 44)) w1.heap.size 44 (.slice (some ⟨g, 0, none⟩) m m) := Boxed.new _ _ _
  obtain ⟨w2, hw2⟩ : ∃ w2, w2 = w1.alloc (.cells #[.slice (some ⟨g, 0, none⟩) m m] 44) := ⟨_, rfl⟩
  have hz2' : w2.heap.size = s + 1 := by rw [hw2, hs]; simp
  have b2 : Boxed (w2.alloc (.cells #[.int .i64 0] 3)) (s + 1) 3 (.int .i64 0) := by rw [← hz2']; exact Boxed.new _ _ _
  rw [← hw2, ← hs] at b1
  obtain ⟨w3, hw3⟩ : ∃ w3, w3 = w2.alloc (.cells #[.int .i64 0] 3) := ⟨_, rfl⟩
  have hz3' : w3.heap.size = s + 2 := by rw [hw3]; simp [hz2']
  rw [← hw3] at b2
  have b3 : Boxed (w3.alloc (.cells #[.slice a m ca] 44)) (s + 2) 44 (.slice a m ca) := by rw [← hz3']; exact Boxed.new _ _ _
  obtain ⟨w4, hw4⟩ : ∃ w4, w4 = w3.alloc (.cells #[.slice a m ca] 44) := ⟨_, rfl⟩
  have hz4' : w4.heap.size = s + 3 := by rw [hw4]; simp [hz3']
  rw [← hw4] at b3
  have c0 : Boxed w4 w.heap.size 3 (.int .i64 d) := by rw [hw4, hw3, hw2]; exact ((b0.alloc _).alloc _).alloc _
  have c1 : Boxed w4 s 44 (.slice (some ⟨g, 0, none⟩) m m) := by rw [hw4, hw3]; exact (b1.alloc _).alloc _
  have c2 : Boxed w4 (s + 1) 3 (.int .i64 0) := by rw [hw4]; exact b2.alloc _
  have hB4 : Below w.heap.size w w4 := by rw [hw4, hw3, hw2]; exact ((hB1.alloc hB1.size _).alloc (by have := hB1.size; simp; omega) _).alloc (by have := hB1.size; simp; omega) _
  have hq4 : OwnI w4 w.heap.size (some ⟨g, 0, none⟩) m (List.replicate m (0 : Int)) := by
    rw [hw4, hw3, hw2]
    exact ((hq0.kept (World.grownBy_alloc _ _ none) (fun _ _ e => by cases e)).kept (World.grownBy_alloc _ _ none) (fun _ _ e => by cases e)).kept (World.grownBy_alloc _ _ none) (fun _ _ e => by cases e)
  have hws : w.heap.size + 1 < s := by omega
  have hgb : w.heap.size < g ∧ g < s := by omega
  rw [← hw2, ← hw3, ← hw4, ← hs]
  clear hown hgrow hgs hrow hl0 hq0 hB1 b0 b1 b2 hw2 hw3 hw4 hz2' hz3' hs hg
  refine wpIn_rangeFunc_ownG rfl (by omega) (gf := 120) (lb := #[.pointer (some ⟨s + 2, 0, none⟩)]) rfl trivial (enters_of Tryz.func120 (by kernel_rfl) rfl)
    (top_stops Fence.wide (4 - 1) trivial rfl (by omega) (s + 2) w.heap.size a ca zs m HX hm2 _ (by omega) (by omega) b3.cell (hI0.below hB4)) KpB.t (KpB.b (by omega) (by omega)) (Below.refl _ _) (fun _ => rfl)
    (fun pre W => (∃ r out, cutI zs m d pre r out ∧ 0 ≤ r ∧ r < d ∧ Dg out ∧ out.length = m ∧ Boxed W w.heap.size 3 (.int .i64 d) ∧ Boxed W s 44 (.slice (some ⟨g, 0, none⟩) m m) ∧ Boxed W (s + 1) 3 (.int .i64 r) ∧ OwnI W w.heap.size (some ⟨g, 0, none⟩) m out) ∧ Below w.heap.size w W)
    (fun _ _ _ => False)
    (OwnFrom.and (Own.from (fun s A B row hs hg hr => by obtain ⟨r, out, h1, h2, h3, h4, h5, h6, h7, h8, h9⟩ := hs; exact ⟨r, out, h1, h2, h3, h4, h5, boxOwn h6 hg hr, boxOwn h7 hg hr, boxOwn h8 hg hr, rowOwn h9 hg hr⟩) _) (ownFrom_below (Nat.le_refl _) (by omega)))
    (fun _ _ _ _ _ hs _ _ => hs)
    ⟨⟨0, List.replicate m 0, fun _ => by simp only [List.length_nil, Nat.sub_zero]; rw [List.drop_of_length_le (by rw [HX.out]; exact Nat.le_refl _), List.drop_of_length_le (by simp)]; simp [val], by omega, hd0, Dg.zeros _, by simp, c0, c1, c2, hq4⟩, hB4⟩
    (fun x => { tmps := #[.slice a m ca, .int .i64 d, undef, .pointer (some ⟨w.heap.size, 0, none⟩), .slice none 0 0, .int .i64 0, .pointer (some ⟨s, 0, none⟩), .pointer (some ⟨s + 1, 0, none⟩), .int .i64 (x.1 : Int), .int .i64 (zs.getD x.1 0), .slice a m ca, .int .i64 (m : Int), .slice (some ⟨g, 0, none⟩) m m, .slice a m ca, .func (.func 120) #[] #[.pointer (some ⟨s + 2, 0, none⟩)], .int .i64 (x.1 : Int), .int .i64 (zs.getD x.1 0), undef, undef, undef, undef, undef, undef, undef, undef, undef, undef, undef, undef, undef, undef, undef, undef], defers := [] }) ?assign ?body ?done ?stop
  case assign =>
    intro l x W K hK
    simp only [plEnc]
    gi_wp2
    exact hK
  case body =>
    rintro l pre x W ⟨⟨r, out, hI, hr0, hr1, hdo, hol, k0, k1, k2, kq⟩, hB⟩ hpl
    have hcb := k0.cell
    have hcq := k1.cell
    have hcr := k2.cell
    have hfr := k2.frozen
    have hdz := HD.out.at x.1
    have HS := cutI_step (x := x) HX.out hol hpl hI
    have hdd := div_digit hd0 (by omega) hr0 hr1 hdz.1 hdz.2
    have hmm := mod_bound (s := r * 65536 + zs.getD x.1 0) hd0
    obtain ⟨z, hz⟩ : ∃ z, z = zs.getD x.1 0 := ⟨_, rfl⟩
    rw [← hz] at hdz HS hdd hmm ⊢
    have HI : Hid (cutI zs m d (pre ++ [x]) ((r * 65536 + z) % d) (out.set x.1 ((r * 65536 + z) / d))) := HS
    have HDO : Hid (Dg out) := hdo
    have HOL : Hid (out.length = m) := hol
    have HDD : Hid (0 ≤ (r * 65536 + z) / d ∧ (r * 65536 + z) / d < 65536) := hdd
    have HMM : Hid (0 ≤ (r * 65536 + z) % d ∧ (r * 65536 + z) % d < d) := hmm
    have HK : Hid (Boxed W w.heap.size 3 (.int .i64 d) ∧ Boxed W s 44 (.slice (some ⟨g, 0, none⟩) m m) ∧ Boxed W (s + 1) 3 (.int .i64 r) ∧ OwnI W w.heap.size (some ⟨g, 0, none⟩) m out) := ⟨k0, k1, k2, kq⟩
    have HB : Hid (Below w.heap.size w W) := hB
    have hx2 : (x.1 : Int) < m := by have := x.2; omega
    clear HS hdo hol hdd hmm k0 k1 kq k2 hB hz hI hI0 hB4 c0 c1 c2 hq4 b3
    gi_wp2
    obtain ⟨k0, k1, k2, kq⟩ := HK.out
    obtain ⟨W1, hW1⟩ : ∃ W1, W1 = W.setCell ⟨s + 1, 0, none⟩ (.int .i64 (r * 65536 + z)) := ⟨_, rfl⟩
    have j0 : Boxed W1 w.heap.size 3 (.int .i64 d) := by rw [hW1]; exact k0.other (by omega) _
    have j1 : Boxed W1 s 44 (.slice (some ⟨g, 0, none⟩) m m) := by rw [hW1]; exact k1.other (by omega) _
    have j2 : Boxed W1 (s + 1) 3 (.int .i64 (r * 65536 + z)) := by rw [hW1]; exact k2.set _
    have jq : OwnI W1 w.heap.size (some ⟨g, 0, none⟩) m out := by
      rw [hW1]
      exact kq.kept (grownBy_setCell' W (s + 1) _) (fun y hy e => by cases hy; simp at e; omega)
    have HW : Hid (KeepsOthers W W1 ∧ KpB w.heap.size (s + 2) W W1) := by
      rw [hW1]
      exact ⟨KeepsOthers.setCell _ _ _, (Below.refl _ W).setCell (p := ⟨s + 1, 0, none⟩) (by show w.heap.size ≤ s + 1; omega) _, Below.heap_setCell _ _ _ _ (by simp)⟩
    rw [← hW1]
    clear hcb hcq hcr hfr k0 k1 k2 kq hW1
    have hcb := j0.cell
    have hcq := j1.cell
    have hcr := j2.cell
    have hrow : W1.ownsRow w.heap.size 3 1 (.slice (some ⟨g, 0, none⟩) m m) m (out.map (Value.int .i64)) := by
      have h := jq
      unfold OwnI at h
      rw [HOL.out] at h
      exact h
    have hfz := hrow.frozenAt x.1
    have hcell : ∃ v, W1.cell? ⟨g, x.1, none⟩ = some v := by
      rw [hrow.cellAt x.1 (by omega)]
      have hl := hrow.1
      exact ⟨_, List.getElem?_eq_getElem (by have := x.2; omega)⟩
    obtain ⟨old, hcell⟩ := hcell
    have HJ : Hid (Boxed W1 w.heap.size 3 (.int .i64 d) ∧ Boxed W1 s 44 (.slice (some ⟨g, 0, none⟩) m m) ∧ Boxed W1 (s + 1) 3 (.int .i64 (r * 65536 + z)) ∧ W1.ownsRow w.heap.size 3 1 (.slice (some ⟨g, 0, none⟩) m m) m (out.map (Value.int .i64))) := ⟨j0, j1, j2, hrow⟩
    clear j0 j1 j2 jq hrow
    have hmix : Tryz.prog.follows .mixedOrders = true := by kernel_rfl
    obtain ⟨qq, hqq⟩ : ∃ qq, qq = (r * 65536 + z) / d := ⟨_, rfl⟩
    obtain ⟨rr, hrr⟩ : ∃ rr, rr = (r * 65536 + z) % d := ⟨_, rfl⟩
    have HF : Hid (KeepsFrom w4.heap.size W ((W1.setCell ⟨g, x.1, none⟩ (.int .i64 ((r * 65536 + z) / d))).setCell ⟨s + 1, 0, none⟩ (.int .i64 ((r * 65536 + z) % d))).drew ∧ KpB w.heap.size (s + 2) W ((W1.setCell ⟨g, x.1, none⟩ (.int .i64 ((r * 65536 + z) / d))).setCell ⟨s + 1, 0, none⟩ (.int .i64 ((r * 65536 + z) % d))).drew ∧ ((∃ r' out', cutI zs m d (pre ++ [x]) r' out' ∧ 0 ≤ r' ∧ r' < d ∧ Dg out' ∧ out'.length = m ∧ Boxed ((W1.setCell ⟨g, x.1, none⟩ (.int .i64 ((r * 65536 + z) / d))).setCell ⟨s + 1, 0, none⟩ (.int .i64 ((r * 65536 + z) % d))).drew w.heap.size 3 (.int .i64 d) ∧ Boxed ((W1.setCell ⟨g, x.1, none⟩ (.int .i64 ((r * 65536 + z) / d))).setCell ⟨s + 1, 0, none⟩ (.int .i64 ((r * 65536 + z) % d))).drew s 44 (.slice (some ⟨g, 0, none⟩) m m) ∧ Boxed ((W1.setCell ⟨g, x.1, none⟩ (.int .i64 ((r * 65536 + z) / d))).setCell ⟨s + 1, 0, none⟩ (.int .i64 ((r * 65536 + z) % d))).drew (s + 1) 3 (.int .i64 r') ∧ OwnI ((W1.setCell ⟨g, x.1, none⟩ (.int .i64 ((r * 65536 + z) / d))).setCell ⟨s + 1, 0, none⟩ (.int .i64 ((r * 65536 + z) % d))).drew w.heap.size (some ⟨g, 0, none⟩) m out') ∧ Below w.heap.size w ((W1.setCell ⟨g, x.1, none⟩ (.int .i64 ((r * 65536 + z) / d))).setCell ⟨s + 1, 0, none⟩ (.int .i64 ((r * 65536 + z) % d))).drew)) := by
      obtain ⟨j0, j1, j2, hrow⟩ := HJ.out
      have hi1 := HI.out
      have hd1' := HDD.out
      have hm1 := HMM.out
      rw [← hqq, ← hrr] at hi1
      rw [← hqq] at hd1'
      rw [← hrr] at hm1
      show _ ∧ _ ∧ _
      rw [← hqq, ← hrr]
      have hst := hrow.stored x.1 (.int .i64 qq)
      obtain ⟨W2, hW2⟩ : ∃ W2, W2 = W1.setCell ⟨g, x.1, none⟩ (.int .i64 qq) := ⟨_, rfl⟩
      rw [← hW2] at hst ⊢
      have kW2 : KpB w.heap.size (s + 2) W1 W2 := by
        rw [hW2]
        exact ⟨(Below.refl _ W1).setCell (p := ⟨g, x.1, none⟩) (by show w.heap.size ≤ g; omega) _, Below.heap_setCell _ _ _ _ (by simp; omega)⟩
      have oW2 : KeepsOthers W1 W2 := by rw [hW2]; exact KeepsOthers.setCell _ _ _
      have i0' := j0.kept hst.2 (by simp; omega)
      have i1' := j1.kept hst.2 (by simp; omega)
      have i2' := j2.kept hst.2 (by simp; omega)
      have iq : OwnI W2 w.heap.size (some ⟨g, 0, none⟩) m (out.set x.1 qq) := by
        unfold OwnI
        rw [List.length_set, HOL.out, List.map_set]
        exact hst.1
      have kW3 : KpB w.heap.size (s + 2) W2 (W2.setCell ⟨s + 1, 0, none⟩ (.int .i64 rr)) := ⟨(Below.refl _ W2).setCell (p := ⟨s + 1, 0, none⟩) (by show w.heap.size ≤ s + 1; omega) _, Below.heap_setCell _ _ _ _ (by simp)⟩
      have kq3 := iq.kept (grownBy_setCell' W2 (s + 1) (.int .i64 rr)) (fun y hy e => by cases hy; simp at e; omega)
      obtain ⟨W3, hW3⟩ : ∃ W3, W3 = W2.setCell ⟨s + 1, 0, none⟩ (.int .i64 rr) := ⟨_, rfl⟩
      have l0 : Boxed W3 w.heap.size 3 (.int .i64 d) := by rw [hW3]; exact i0'.other (by omega) _
      have l1 : Boxed W3 s 44 (.slice (some ⟨g, 0, none⟩) m m) := by rw [hW3]; exact i1'.other (by omega) _
      have l2 : Boxed W3 (s + 1) 3 (.int .i64 rr) := by rw [hW3]; exact i2'.set _
      have oW3 : KeepsOthers W2 W3 := by rw [hW3]; exact KeepsOthers.setCell _ _ _
      rw [← hW3] at kW3 kq3 ⊢
      have hbr := Below.refl w.heap.size W3
      have kW4 : KpB w.heap.size (s + 2) W3 W3.drew := ⟨⟨hbr.os, hbr.tape, hbr.output, hbr.size, hbr.block⟩, rfl⟩
      have kAll := ((HW.out.2.t kW2).t kW3).t kW4
      exact ⟨(((HW.out.1.trans oW2).trans oW3).trans (KeepsOthers.drew _)).from _, kAll, ⟨rr, out.set x.1 qq, hi1, hm1.1, hm1.2, HDO.out.set hd1'.1 hd1'.2, by rw [List.length_set]; exact HOL.out, l0, l1, l2, kq3⟩, HB.out.trans kAll.1⟩
    clear hqq hrr
    have hne1 : ¬ g = s + 1 := by omega
    have hne2 : ¬ s + 1 = g := by omega
    have hcr2 : ((W1.setCell ⟨g, x.1, none⟩ (.int .i64 ((r * 65536 + z) / d))).drew).cell? ⟨s + 1, 0, none⟩ = some (.int .i64 (r * 65536 + z)) := (HJ.out.2.2.1.kept (HJ.out.2.2.2.stored x.1 (.int .i64 ((r * 65536 + z) / d))).2 (by simp; omega)).cell
    have hfr2 : ((W1.setCell ⟨g, x.1, none⟩ (.int .i64 ((r * 65536 + z) / d))).drew).frozen? ⟨s + 1, 0, none⟩ = false := (HJ.out.2.2.1.kept (HJ.out.2.2.2.stored x.1 (.int .i64 ((r * 65536 + z) / d))).2 (by simp; omega)).frozen
    gi_region_with_o fail
    all_goals
      gi_wp2
      all_goals first | exact HF.out | (exfalso; omega) | trace_state
  case done =>
    rintro D ys W hD hys ⟨⟨r, out, hI, hr0, hr1, hdo, hol, k0, k1, k2, kq⟩, hB⟩ hK
    have hlen := congrArg List.length hys
    rw [List.length_map, tp_length] at hlen
    have hv := hI (by rw [hlen]; exact hys)
    rw [hlen, Nat.sub_self, List.drop_zero, List.drop_zero, HA.out, val_dgs] at hv
    have he := div_end hd0 hr0 hr1 hv
    have HO : Hid (OwnI W w.heap.size (some ⟨g, 0, none⟩) m (dgs (x / d.toNat))) := by
      have T := trimmed_own w.heap.size (some ⟨g, 0, none⟩) m out W kq
      rw [row_dgs hdo he.1] at T
      exact T
    have HT : Hid (∀ q, Calls Tryz.prog 88 #[.slice (some ⟨g, 0, none⟩) m m] (W.drewN q) fun e w' => e = .returned (.slice (some ⟨g, 0, none⟩) (dgs (x / d.toNat)).length m) ∧ w' = W.drewN q) := fun q => by
      have T := trimmed_any w.heap.size (some ⟨g, 0, none⟩) m out (W.drewN q) kq (by omega)
      rw [row_dgs hdo he.1, hol] at T
      exact T.mono fun e w' h => ⟨h.1, h.2.2.symm⟩
    have hcq := k1.cell
    have hcr : W.cell? ⟨s + 1, 0, none⟩ = some (.int .i64 ((x % d.toNat : Nat) : Int)) := by
      rw [← he.2]
      exact k2.cell
    have HB : Hid (Below w.heap.size w W) := hB
    have hmix : Tryz.prog.follows .mixedOrders = true := by kernel_rfl
    obtain ⟨qd, hqd⟩ : ∃ qd, qd = dgs (x / d.toNat) := ⟨_, rfl⟩
    obtain ⟨rd, hrd⟩ : ∃ rd : Int, rd = ((x % d.toNat : Nat) : Int) := ⟨_, rfl⟩
    have HQD : Hid (dgs (x / d.toNat) = qd) := hqd.symm
    have HRD : Hid (((x % d.toNat : Nat) : Int) = rd) := hrd.symm
    rw [← hqd] at HT HO
    rw [← hrd] at hcr
    clear he hv hys hI hdo hol kq k0 k1 k2 hB c0 c1 c2 hq4 b3 hB4 hI0 hqd hrd
    gi_wp2
    have hqa : ∀ fn : FuncId, Fence.wide.fn fn := fun _ => trivial
    gi_quiet_th ((first | (gi_at_call 88; exact CallsIn.quiet_of_same (callsIn_wide.2 (HT.out _))) | (refine ⟨trivial, ?_⟩; gi_at_call 88; exact CallsIn.quiet_of_same (callsIn_wide.2 (HT.out _)))))
    gi_wp2
    have hoQ : OwnI (W.drewN nq) w.heap.size (some ⟨g, 0, none⟩) m qd := HO.out
    have hBQ : Below w.heap.size w (W.drewN nq) := below_dN HB.out _
    have hKQ : (W.drewN nq).heap[D]? = _ := hK
    refine ⟨by simp, .inl ⟨_, _, rfl, run_takeDeferred hKQ, ?_⟩⟩
    refine ⟨_, results_tmp2 rfl _ _ _, some ⟨g, 0, none⟩, m, by rw [HQD.out, HRD.out]; rfl, ?_, ?_⟩
    · rw [HQD.out]
      exact rowOwn hoQ (grownBy_putObj' _ D _) (fun r hr => by cases hr; exact ⟨_, hKQ, rfl⟩)
    · exact hBQ.trans (belowK_b (w := w) (Nat.le_refl _) (W.drewN nq) D _ _ (by omega) hKQ rfl rfl)
  case stop =>
    rintro D c pre W _ _ h _
    exact h.elim
end Go.Proofs.YthokphoojmpajabGreatDoor

namespace Go.Proofs.YthokphoojmpajabGreatDoor
open Go.RowKit Go.Proofs.Pin

set_option maxRecDepth 20000 in
theorem pairBelow_any (a : Option Addr) (cap : Nat) (zs : List Int) (i : Nat) (w : World) (h : Sl w a zs) (h2 : 2 ≤ i) (hi : i ≤ zs.length) (hl : zs.length ≤ 65536) :
    Calls Tryz.prog 112 #[.slice a zs.length cap, .int .i64 (i : Int)] w fun e w' => e = .returned (.agg #[.int .i64 (zs.getD (i - 1) 0), .int .i64 (zs.getD (i - 2) 0)]) ∧ Below w.heap.size w w' := by
  obtain ⟨b, off, rfl, hb, hc1⟩ := Sl.cells h (k := i - 1) (by omega)
  obtain ⟨b', off', he, hb', hc2⟩ := Sl.cells h (k := i - 2) (by omega)
  cases he
  obtain ⟨j, rfl⟩ : ∃ j, i = j + 2 := ⟨i - 2, by omega⟩
  have e1 : j + 2 - 1 = j + 1 := by omega
  have e2 : j + 2 - 2 = j := by omega
  rw [e1] at hc1
  rw [e2] at hc2
  rw [e1, e2]
  obtain ⟨p, hp⟩ : ∃ p, p = zs.getD (j + 1) 0 := ⟨_, rfl⟩
  obtain ⟨q, hq⟩ : ∃ q, q = zs.getD j 0 := ⟨_, rfl⟩
  rw [← hp] at hc1 ⊢
  rw [← hq] at hc2 ⊢
  obtain ⟨n, hn⟩ : ∃ n, n = zs.length := ⟨_, rfl⟩
  rw [← hn] at hi hl ⊢
  have hiI : (j : Int) + 2 ≤ n := by omega
  have hc1' : (w.alloc (.cells #[.int .i64 0, .int .i64 0] 146)).cell? ⟨b, off + (j + 1), none⟩ = some (.int .i64 p) := (((Below.refl _ w).alloc (Nat.le_refl _) _).cell (p := ⟨b, off + (j + 1), none⟩) hb).trans hc1
  have hc2' : (w.alloc (.cells #[.int .i64 0, .int .i64 0] 146)).cell? ⟨b, off + j, none⟩ = some (.int .i64 q) := (((Below.refl _ w).alloc (Nat.le_refl _) _).cell (p := ⟨b, off + j, none⟩) hb).trans hc2
  clear hp hq hn h e1 e2
  go_enter Tryz.func112, Tryz.ntmps112
  go_wp2
  go_big_region
  have hb0 : Below w.heap.size w (w.alloc (.cells #[.int .i64 p, .int .i64 q] 146)) := (Below.refl _ w).alloc (Nat.le_refl _) _
  have hb1 : Below w.heap.size w (w.alloc (.cells #[.int .i64 p, .int .i64 q] 146)).drew := ⟨hb0.os, hb0.tape, hb0.output, hb0.size, hb0.block⟩
  go_wp2
  refine ⟨rfl, .agg #[.int .i64 p, .int .i64 q], ?_, rfl, hb1⟩
  simp [results, Tryz.f112, go_sem]

/-- '==' of two pairs. -/
theorem eqPair (a b c d : Int) (w : World) : (Op.equalIn 10000 146 (.agg #[.int .i64 a, .int .i64 b]) (.agg #[.int .i64 c, .int .i64 d])).run Tryz.prog w = .ok (a == c && b == d) w := by
  have u3 := Tryz.underlying3
  have a3 := Tryz.isAgg3
  have z3 := Tryz.sizeOf3
  rw [show (10000 : Nat) = 9999 + 1 from rfl, Op.equalIn]
  simp only [Sem.run_bind, run_underlying Tryz.underlying146, Result.andThen_ok]
  simp only [Std.Legacy.Range.forIn_eq_forIn_range', Std.Legacy.Range.size, Nat.sub_zero, Nat.add_sub_cancel, Nat.div_one, List.range'_succ, List.range'_zero, List.forIn_cons, List.forIn_nil]
  go_simp
  by_cases h1 : a = c <;> by_cases h2 : b = d <;> simp [h1, h2]
set_option maxRecDepth 20000 in
attribute [local go_sem] eqPair

theorem guess_same (p q z : Int) (w : World) :
    Calls Tryz.prog 111 #[.agg #[.int .i64 p, .int .i64 q], .int .i64 z, .agg #[.int .i64 p, .int .i64 q]] w fun e w' => e = .returned (.int .i64 65535) ∧ Below w.heap.size w w' := by
  go_enter Tryz.func111, Tryz.ntmps111
  go_wp2
  go_ret
  exact ⟨rfl, ((Below.refl _ w).alloc (Nat.le_refl _) _).alloc (by simp) _⟩

set_option maxRecDepth 20000 in
theorem guess_other (p q z p' q' : Int) (w : World) (hp0 : 0 ≤ p) (hp1 : p < 65536) (hq0 : 0 ≤ q) (hq1 : q < 65536) (hz0 : 0 ≤ z) (hz1 : z < 65536) (hr0 : 0 < p') (hr1 : p' < 65536) (hs0 : 0 ≤ q') (hs1 : q' < 65536) (hne : ¬ (p = p' ∧ q = q')) :
    Calls Tryz.prog 111 #[.agg #[.int .i64 p, .int .i64 q], .int .i64 z, .agg #[.int .i64 p', .int .i64 q']] w fun e w' => e = .returned (.int .i64 (((p * 65536 + q) * 65536 + z) / (p' * 65536 + q'))) ∧ Below w.heap.size w w' := by
  have hb : (p == p' && q == q') = false := by
    by_cases h1 : p = p' <;> by_cases h2 : q = q' <;> simp [h1, h2] <;> exact hne ⟨h1, h2⟩
  go_enter Tryz.func111, Tryz.ntmps111
  go_wp2
  go_ret
  exact ⟨rfl, ((Below.refl _ w).alloc (Nat.le_refl _) _).alloc (by simp) _⟩
end Go.Proofs.YthokphoojmpajabGreatDoor

namespace Go.Proofs.YthokphoojmpajabGreatDoor
open Go.RowKit Go.Proofs.Pin

theorem off_step {out B : List Int} {k : Nat} {c f V : Int} (hk : k < out.length) (h : val out - c * pw k = V - f * pv B k) :
    val (out.set k ((out.getD k 0 - f * B.getD k 0 - c) % 65536)) - (-((out.getD k 0 - f * B.getD k 0 - c) / 65536)) * pw (k + 1) = V - f * pv B (k + 1) := by
  have e := carry_eq (out.getD k 0 - f * B.getD k 0 - c) (pw k)
  rw [val_set _ hk, pw_succ, pv_succ]
  rw [Int.sub_mul, Int.sub_mul] at e
  have e2 : f * (pv B k + B.getD k 0 * pw k) = f * pv B k + f * B.getD k 0 * pw k := by rw [Int.mul_add, ← Int.mul_assoc]
  rw [Int.sub_mul, e2, Int.neg_mul]
  omega

/-- The mask takes the rest by the base, below 0 too. -/
theorem and_mask (x : Int) : bits .and .i64 x 65535 = x % 65536 := by
  show IntKind.i64.wrap ((BitVec.ofInt 64 x &&& BitVec.ofInt 64 65535).toNat : Int) = _
  have e1 : (BitVec.ofInt 64 65535).toNat = 65535 := by decide
  have e2 : ∀ n : Nat, n &&& 65535 = n % 65536 := fun n => Nat.and_two_pow_sub_one_eq_mod n 16
  rw [BitVec.toNat_and, e1, BitVec.toNat_ofInt, e2]
  simp [IntKind.wrap, IntKind.bits, IntKind.signed]
  omega

set_option maxRecDepth 20000 in
set_option maxHeartbeats 800000 in
theorem takeOff_any (base g cap : Nat) (b : Option Addr) (cb : Nat) (zs ys : List Int) (f : Int) (w : World) (h : OwnI w base (some ⟨g, 0, none⟩) cap zs) (hb : Sl w b ys) (hne : Apart b ys g) (dz : Dg zs) (dy : Dg ys) (hlen : zs.length ≤ 65536) (hf0 : 0 ≤ f) (hf1 : f < 65536) :
    Calls Tryz.prog 113 #[.slice (some ⟨g, 0, none⟩) zs.length cap, .slice b ys.length cb, .int .i64 f] w fun e w' => ∃ (out : List Int) (c : Int), e = .returned (.bool (decide (0 < c))) ∧ out.length = zs.length ∧ Dg out ∧ 0 ≤ c ∧ val out - c * pw zs.length = val zs - f * pv ys zs.length ∧ OwnI w' base (some ⟨g, 0, none⟩) cap out ∧ w.grownBy w' (some g) := by
  obtain ⟨n, hn⟩ : ∃ n, n = zs.length := ⟨_, rfl⟩
  have HN : Hid (n = zs.length) := hn
  have hn2 : n ≤ 65536 := by omega
  have h0 : w.ownsRow base 3 1 (.slice (some ⟨g, 0, none⟩) n cap) n (zs.map (Value.int .i64)) := by rw [hn]; exact h
  have HY : Hid (∀ (k : Nat) (wr : World) (q : Nat), w.grownBy wr (some g) → Calls Tryz.prog 114 #[.slice b ys.length cb, .int .i64 (k : Int)] (wr.drewN q) fun e w' => e = .returned (.int .i64 (ys.getD k 0)) ∧ w' = wr.drewN q) :=
    fun k wr q hw => (at_any b cb ys k (wr.drewN q) (hb.apart (grown_dN hw q) hne)).mono fun e w' h => ⟨h.1, h.2.symm⟩
  obtain ⟨V, hV⟩ : ∃ V, V = val zs := ⟨_, rfl⟩
  have HV0 : Hid (V = val zs) := hV
  have DZ : Hid (Dg zs) := dz
  have DY : Hid (Dg ys) := dy
  rw [← hn, ← hV]
  clear hn h hb hne hV dz dy hlen
  go_enter Tryz.func113, Tryz.ntmps113
  go_wp2
  go_loopw [7, 12] (fun c i wr => ∃ (k : Nat) (out : List Int) (cc : Int), k ≤ n ∧ i = .int .i64 k ∧ c = .int .i64 cc ∧ 0 ≤ cc ∧ cc ≤ 65535 ∧ out.length = n ∧ Dg out ∧ val out - cc * pw k = V - f * pv ys k ∧ wr.ownsRow base 3 1 (.slice (some ⟨g, 0, none⟩) n cap) n (out.map (Value.int .i64)) ∧ w.grownBy wr (some g)) (fun _ i _ => n - (intOf i).toNat)
  case atStart => exact ⟨0, zs, 0, Nat.zero_le _, rfl, rfl, by omega, by omega, HN.out.symm, DZ.out, by rw [HV0.out]; simp [pv], h0, World.grownBy.refl _ _⟩
  case round =>
    obtain ⟨k, out, cc, hk, rfl, rfl, hc0, hc1, hol, hdo, hval, hown, hgr⟩ := hrel
    have HG : Hid (w.grownBy wr (some g)) := hgr
    have HV : Hid (val out - cc * pw k = V - f * pv ys k) := hval
    have HD : Hid (Dg out) := hdo
    have HL : Hid (out.length = n) := hol
    clear hgr hval hdo hol h0
    by_cases hlt : k < n
    · have hda := HD.out.at k
      have hdb := DY.out.at k
      have hstep := off_step (B := ys) (by rw [HL.out]; exact hlt) HV.out
      have hcell : wr.cell? ⟨g, k, none⟩ = some (.int .i64 (out.getD k 0)) := by
        rw [hown.cellAt k (by omega)]
        have hl : k < out.length := by rw [HL.out]; exact hlt
        simp [List.getD_eq_getElem?_getD, List.getElem?_eq_getElem hl]
      have hfz := hown.frozenAt k
      have hst := hown.stored k (.int .i64 ((out.getD k 0 - f * ys.getD k 0 - cc) % 65536))
      have hY := fun q => HY.out k wr q HG.out
      obtain ⟨p, hp⟩ : ∃ p, p = out.getD k 0 := ⟨_, rfl⟩
      obtain ⟨q, hq⟩ : ∃ q, q = ys.getD k 0 := ⟨_, rfl⟩
      rw [← hp] at hda hcell hstep hst
      rw [← hq] at hdb hstep hst hY
      obtain ⟨hpq0, hpq1⟩ := digProd ⟨hf0, hf1⟩ hdb
      have HY1 : Hid (∀ m, Calls Tryz.prog 114 #[.slice b ys.length cb, .int .i64 (k : Int)] (wr.drewN m) fun e w' => e = .returned (.int .i64 q) ∧ w' = wr.drewN m) := hY
      have HS : Hid (val (out.set k ((p - f * q - cc) % 65536)) - (-((p - f * q - cc) / 65536)) * pw (k + 1) = V - f * pv ys (k + 1)) := hstep
      have HO : Hid ((wr.setCell ⟨g, k, none⟩ (.int .i64 ((p - f * q - cc) % 65536))).ownsRow base 3 1 (.slice (some ⟨g, 0, none⟩) n cap) n ((out.set k ((p - f * q - cc) % 65536)).map (Value.int .i64))) := by
        rw [List.map_set]; exact hst.1
      have HG1 : Hid (w.grownBy (wr.setCell ⟨g, k, none⟩ (.int .i64 ((p - f * q - cc) % 65536))) (some g)) := grown_two HG.out hst.2
      have hlt' : (k : Int) < n := by omega
      have hmask := and_mask (p - f * q - cc)
      clear hY hstep hst hown hp hq
      go_wp2_with fail
      go_quiet ((go_at_call 114; exact Calls.quiet_of_same (HY1.out _)))
      go_wp2
      go_roundw
      case rel => exact ⟨k + 1, out.set k ((p - f * q - cc) % 65536), -((p - f * q - cc) / 65536), by omega, by go_num, rfl, by omega, by omega, by rw [List.length_set]; exact HL.out, HD.out.set (by omega) (by omega), HS.out, HO.out, grown_dN HG1.out _⟩
      case measure => simp [intOf]; omega
    · have hkn : k = n := by omega
      subst hkn
      have HO : Hid (OwnI wr base (some ⟨g, 0, none⟩) cap out) := by
        have h := hown
        rw [← HL.out] at h
        exact h
      clear hown
      go_wp2
      go_ret
      exact ⟨out, cc, rfl, HL.out, HD.out, hc0, HV.out, HO.out, HG.out⟩

set_option maxRecDepth 20000 in
/-- Nothing taken off nothing. -/
theorem takeOff_nil (a b : Option Addr) (ca cb m : Nat) (f : Int) (w : World) :
    Calls Tryz.prog 113 #[.slice a 0 ca, .slice b m cb, .int .i64 f] w fun e w' => e = .returned (.bool false) ∧ w = w' := by
  go_enter Tryz.func113, Tryz.ntmps113
  go_wp2
  refine wp_loop_rounds 1 ?_
  rw [rounds_succ]
  go_wp2
  go_ret
  exact ⟨rfl, rfl⟩
end Go.Proofs.YthokphoojmpajabGreatDoor
