/- The contract of digits.cut: quotient by one digit, and the rest; it goes over its digits by the iterator from the top. -/
import Derived.Test.YthokphoojmpajahDoorCompare
import Derived.Test.YthokphoojmpajahDoorGNum
import Derived.Test.YthokphoojmpajahDoorGAr
import Derived.Shelf.RegionOpen
import Derived.Sort.QuietIn
import Derived.RangeFuncCalls
namespace Go.Proofs.YthokphoojmpajahDoor
open Go.RowKit Go.Shelf Go.Proofs.Pin

attribute [local go_sem] Oper.semAt_some

/-- make with a full length, behind a fence. -/
theorem makeFull_in {F : Fence} {n : Nat} {P : Program} (w : World) {ops : Array Oper} {rest : List Oper} {o : Oper} {a : Act} {Q : Exit → Act → World → Prop}
    (hg : o.guard = none) (l c : Operand) (t : TypeId) (hop : o.op = Op.makeSlice t l c)
    (base : Nat) (e : TypeId) (i : TypeInfo) (z : Value) (size : Nat) (h1 : P.underlying t = some (.slice e)) (h2 : P.info? e = some i) (h3 : i.zero = some z) (h4 : i.size = size)
    (kl kc : IntKind) (L C : Int) (m : Nat) (hl : a.eval l = .int kl L) (hc : a.eval c = .int kc C) (hL : L = (m : Int)) (hC : C = (m : Int)) (b2 : i.bytes * m ≤ 281474976710656) (b3 : m ≤ maxLen) (b4 : base ≤ w.heap.size)
    (hK : ∀ w', w'.ownsRow base e size (.slice (some ⟨w.heap.size, 0, none⟩) m m) m (madeCells z.cells (m * size)).toList → w.grownBy w' none → wpListIn F n P ops Q rest (a.put o.dst (.slice (some ⟨w.heap.size, 0, none⟩) m m)) w') :
    wpListIn F n P ops Q (o :: rest) a w := by
  refine wpListIn_plain hg fun K hK' => ?_
  obtain ⟨w', hrun, r1, r2⟩ := run_make_full (P := P) w base t e i z size h1 h2 h3 h4 kl kc m b2 b3 b4
  subst hL
  subst hC
  unfold Oper.wpIn
  refine ⟨?_, ?_⟩
  · simp [Oper.about, hop]
  · rw [Oper.semAt_plain F _ _ (by rw [hop]; intro c hc'; cases hc')]
    simp [execOp, hop, hl, hc, hrun, Result.andThen]
    exact hK' _ _ (hK w' r1 r2)

/-- A row abides what the law of the loop turns (blocks that are no cells). -/
theorem rowOwn {W W' : World} {row : Option Nat} {base cap : Nat} {a : Option Addr} {zs : List Int} (h : OwnI W base a cap zs) (hg : W.grownBy W' row) (hr : ∀ r, row = some r → ∃ o : Obj, W.heap[r]? = some o ∧ o.isCells = false) : OwnI W' base a cap zs := by
  refine h.kept hg (fun g e k => ?_)
  obtain ⟨o, ho, hc⟩ := hr g.block k
  rcases h.2 with ⟨h', _⟩ | ⟨g', cap', cur, h', hb, hg', _⟩
  · simp at h'
    rw [h'.1] at e
    cases e
  · simp at h'
    rw [h'.1] at e
    cases e
    rw [hg'] at ho
    cases ho
    cases hc

theorem tp_last {m : Nat} {pre : List (Pl m)} {x : Pl m} (h : (pre ++ [x]).map (·.1) = tp m (pre ++ [x]).length) : pre.map (·.1) = tp m pre.length ∧ x.1 = m - 1 - pre.length := by
  rw [List.length_append, List.length_singleton, tp_succ, List.map_append] at h
  have h2 := List.append_inj' h rfl
  exact ⟨h2.1, by simpa using h2.2⟩
theorem trimmed_own (base : Nat) (a : Option Addr) (cap : Nat) (zs : List Int) (w : World) (h : OwnI w base a cap zs) : OwnI w base a cap (zs.take (trimN zs zs.length)) := by
  exact own_take h (trimN_le zs zs.length)
/-- What the rounds that are over have found: as long as the places have come from the top, the digits that came are the quotient's by the divisor, and the rest. -/
def cutI (zs : List Int) (m : Nat) (d : Int) (pre : List (Pl m)) (r : Int) (out : List Int) : Prop := pre.map (·.1) = tp m pre.length → val (zs.drop (m - pre.length)) = val (out.drop (m - pre.length)) * d + r
theorem cutI_step {zs out : List Int} {m : Nat} {d r : Int} {pre : List (Pl m)} {x : Pl m} (hm : m = zs.length) (ho : out.length = m) (hpl : pre.length < m) (h : cutI zs m d pre r out) : cutI zs m d (pre ++ [x]) ((r * 65536 + zs.getD x.1 0) % d) (out.set x.1 ((r * 65536 + zs.getD x.1 0) / d)) := by
  intro hp
  obtain ⟨h1, h2⟩ := tp_last hp
  have hx := x.2
  have h3 := h h1
  rw [List.length_append, List.length_singleton]
  have e : m - (pre.length + 1) = x.1 := by omega
  rw [show m - pre.length = x.1 + 1 by omega] at h3
  rw [e]
  exact div_step (by omega) (by omega) h3

set_option maxRecDepth 100000 in
set_option maxHeartbeats 2000000 in
theorem cut_any (a : Option Addr) (ca : Nat) (x : Nat) (d : Int) (w : World) (ha : Sl w a (dgs x)) (hx : (dgs x).length ≤ 65536) (hd0 : 0 < d) (hd1 : d < 65536) :
    Calls Tryd.prog 67 #[.slice a (dgs x).length ca, .int .i64 d] w fun e w' => ∃ r cr, e = .returned (.tuple #[.slice r (dgs (x / d.toNat)).length cr, .int .i64 ((x % d.toNat : Nat) : Int)]) ∧ OwnI w' w.heap.size r cr (dgs (x / d.toNat)) ∧ Below w.heap.size w w' := by
  obtain ⟨i0, hi, hz0, hz1, hz2⟩ := info_parts Tryd.info3
  obtain ⟨zs, hA⟩ : ∃ zs, zs = dgs x := ⟨_, rfl⟩
  have HA : Hid (zs = dgs x) := hA
  have hI0 : SlB w.heap.size w a zs := by rw [hA]; exact SlB.of ha
  have HD : Hid (Dg zs) := by show Dg zs; rw [hA]; exact Dg_dgs x
  obtain ⟨m, hm⟩ : ∃ m, m = zs.length := ⟨_, rfl⟩
  have HX : Hid (m = zs.length) := hm
  rw [← hA, ← hm] at hx
  have hm2 : m ≤ 1048576 := by omega
  have e0 : (dgs x).length = m := by rw [hm, hA]
  rw [e0]
  clear hA hm e0 ha
  refine (callsIn_wide (n := 4)).1 ?_
  refine callsIn_of_wp_marks Tryd.func67 rfl trivial ?_ rfl
  simp only [Tryd.ntmps67, List.size_toArray, List.length_cons, List.length_nil, Nat.reduceAdd, Nat.reduceSub, Array.replicate_succ, Array.replicate_zero, List.push_toArray, List.append_toArray, List.nil_append, List.cons_append]
  gi_wp2_with (first | (gi_at_make; refine makeFull_in _ rfl _ _ 42 rfl w.heap.size 3 i0 (.int .i64 0) 1 Tryd.underlying42 hi hz0 hz1 _ _ _ _ m rfl rfl (by omega) (by omega) (by rw [hz2]; omega) (by unfold maxLen; omega) (by simp) ?_; intro w1 hown hgrow) | (refine ⟨trivial, ?_⟩; gi_at_call 82; refine (fromTop_in Fence.wide (4 - 1) trivial rfl _ _ _ _).mono ?_; rintro e w' ⟨rfl, rfl⟩))
  obtain ⟨g, hg⟩ : ∃ g, g = w.heap.size + 1 := ⟨_, rfl⟩
  have hgs : (w.alloc (Obj.cells #[Value.int IntKind.i64 d] 3)).heap.size = g := by simp [hg]
  rw [hgs] at hown
  rw [← hg]
  have hrow := make_row hown
  have hl0 : (List.replicate m (0 : Int)).length = m := by simp
  have hq0 : OwnI w1 w.heap.size (some ⟨g, 0, none⟩) m (List.replicate m (0 : Int)) := by
    have h := own_of_block (base := w.heap.size) (zs := List.replicate m (0 : Int)) (g := g) (w := w1) (by rw [List.map_replicate]; exact hrow) (by omega) (by rw [hl0]; unfold maxLen; omega)
    rw [hl0] at h
    exact h
  have hB1 : Below w.heap.size w w1 := ((Below.refl _ w).alloc (Nat.le_refl _) _).grown hgrow (by simp) (fun k hk => by cases hk)
  have hgs1 : g < w1.heap.size := own_lt hq0
  obtain ⟨s, hs⟩ : ∃ s, s = w1.heap.size := ⟨_, rfl⟩
  have b0 : Boxed w1 w.heap.size 3 (.int .i64 d) := (Boxed.new w 3 (.int .i64 d)).kept hgrow (by simp)
  have b1 : Boxed (w1.alloc (.cells #[.slice (some ⟨g, 0, none⟩) m m] 42)) w1.heap.size 42 (.slice (some ⟨g, 0, none⟩) m m) := Boxed.new _ _ _
  obtain ⟨w2, hw2⟩ : ∃ w2, w2 = w1.alloc (.cells #[.slice (some ⟨g, 0, none⟩) m m] 42) := ⟨_, rfl⟩
  have hz2' : w2.heap.size = s + 1 := by rw [hw2, hs]; simp
  have b2 : Boxed (w2.alloc (.cells #[.int .i64 0] 3)) (s + 1) 3 (.int .i64 0) := by rw [← hz2']; exact Boxed.new _ _ _
  rw [← hw2, ← hs] at b1
  obtain ⟨w3, hw3⟩ : ∃ w3, w3 = w2.alloc (.cells #[.int .i64 0] 3) := ⟨_, rfl⟩
  have hz3' : w3.heap.size = s + 2 := by rw [hw3]; simp [hz2']
  rw [← hw3] at b2
  have b3 : Boxed (w3.alloc (.cells #[.slice a m ca] 42)) (s + 2) 42 (.slice a m ca) := by rw [← hz3']; exact Boxed.new _ _ _
  obtain ⟨w4, hw4⟩ : ∃ w4, w4 = w3.alloc (.cells #[.slice a m ca] 42) := ⟨_, rfl⟩
  have hz4' : w4.heap.size = s + 3 := by rw [hw4]; simp [hz3']
  rw [← hw4] at b3
  have c0 : Boxed w4 w.heap.size 3 (.int .i64 d) := by rw [hw4, hw3, hw2]; exact ((b0.alloc _).alloc _).alloc _
  have c1 : Boxed w4 s 42 (.slice (some ⟨g, 0, none⟩) m m) := by rw [hw4, hw3]; exact (b1.alloc _).alloc _
  have c2 : Boxed w4 (s + 1) 3 (.int .i64 0) := by rw [hw4]; exact b2.alloc _
  have hB4 : Below w.heap.size w w4 := by rw [hw4, hw3, hw2]; exact ((hB1.alloc hB1.size _).alloc (by have := hB1.size; simp; omega) _).alloc (by have := hB1.size; simp; omega) _
  have hq4 : OwnI w4 w.heap.size (some ⟨g, 0, none⟩) m (List.replicate m (0 : Int)) := by
    rw [hw4, hw3, hw2]
    exact ((hq0.kept (World.grownBy_alloc _ _ none) (fun _ _ e => by cases e)).kept (World.grownBy_alloc _ _ none) (fun _ _ e => by cases e)).kept (World.grownBy_alloc _ _ none) (fun _ _ e => by cases e)
  have hws : w.heap.size + 1 < s := by omega
  have hgb : w.heap.size < g ∧ g < s := by omega
  rw [← hw2, ← hw3, ← hw4, ← hs]
  clear hown hgrow hgs hrow hl0 hq0 hB1 b0 b1 b2 hw2 hw3 hw4 hz2' hz3' hs hg
  refine wpIn_rangeFunc_ownG rfl (by omega) (gf := 96) (lb := #[.pointer (some ⟨s + 2, 0, none⟩)]) rfl trivial (enters_of Tryd.func96 (by kernel_rfl) rfl)
    (top_stops Fence.wide (4 - 1) trivial rfl (by omega) (s + 2) w.heap.size a ca zs m HX hm2 _ (by omega) (by omega) b3.cell (hI0.below hB4)) KpB.t (KpB.b (by omega) (by omega)) (Below.refl _ _) (fun _ => rfl)
    (fun pre W => (∃ r out, cutI zs m d pre r out ∧ 0 ≤ r ∧ r < d ∧ Dg out ∧ out.length = m ∧ Boxed W w.heap.size 3 (.int .i64 d) ∧ Boxed W s 42 (.slice (some ⟨g, 0, none⟩) m m) ∧ Boxed W (s + 1) 3 (.int .i64 r) ∧ OwnI W w.heap.size (some ⟨g, 0, none⟩) m out) ∧ Below w.heap.size w W)
    (fun _ _ _ => False)
    (OwnFrom.and (Own.from (fun s A B row hs hg hr => by obtain ⟨r, out, h1, h2, h3, h4, h5, h6, h7, h8, h9⟩ := hs; exact ⟨r, out, h1, h2, h3, h4, h5, boxOwn h6 hg hr, boxOwn h7 hg hr, boxOwn h8 hg hr, rowOwn h9 hg hr⟩) _) (ownFrom_below (Nat.le_refl _) (by omega)))
    (fun _ _ _ _ _ hs _ _ => hs)
    ⟨⟨0, List.replicate m 0, fun _ => by simp only [List.length_nil, Nat.sub_zero]; rw [List.drop_of_length_le (by rw [HX.out]; exact Nat.le_refl _), List.drop_of_length_le (by simp)]; simp [val], by omega, hd0, Dg.zeros _, by simp, c0, c1, c2, hq4⟩, hB4⟩
    (fun x => { tmps := #[.slice a m ca, .int .i64 d, undef, .pointer (some ⟨w.heap.size, 0, none⟩), .slice none 0 0, .int .i64 0, .pointer (some ⟨s, 0, none⟩), .pointer (some ⟨s + 1, 0, none⟩), .int .i64 (x.1 : Int), .int .i64 (zs.getD x.1 0), .slice a m ca, .int .i64 (m : Int), .slice (some ⟨g, 0, none⟩) m m, .slice a m ca, .func (.func 96) #[] #[.pointer (some ⟨s + 2, 0, none⟩)], .int .i64 (x.1 : Int), .int .i64 (zs.getD x.1 0), undef, undef, undef, undef, undef, undef, undef, undef, undef, undef, undef, undef, undef, undef, undef, undef], defers := [] }) ?assign ?body ?done ?stop
  case assign =>
    intro l x W K hK
    simp only [plEnc]
    gi_wp2
    exact hK
  case body =>
    rintro l pre x W ⟨⟨r, out, hI, hr0, hr1, hdo, hol, k0, k1, k2, kq⟩, hB⟩ hpl
    have hcb := k0.cell
    have hcq := k1.cell
    have hcr := k2.cell
    have hfr := k2.frozen
    have hdz := HD.out.at x.1
    have HS := cutI_step (x := x) HX.out hol hpl hI
    have hdd := div_digit hd0 (by omega) hr0 hr1 hdz.1 hdz.2
    have hmm := mod_bound (s := r * 65536 + zs.getD x.1 0) hd0
    obtain ⟨z, hz⟩ : ∃ z, z = zs.getD x.1 0 := ⟨_, rfl⟩
    rw [← hz] at hdz HS hdd hmm ⊢
    have HI : Hid (cutI zs m d (pre ++ [x]) ((r * 65536 + z) % d) (out.set x.1 ((r * 65536 + z) / d))) := HS
    have HDO : Hid (Dg out) := hdo
    have HOL : Hid (out.length = m) := hol
    have HDD : Hid (0 ≤ (r * 65536 + z) / d ∧ (r * 65536 + z) / d < 65536) := hdd
    have HMM : Hid (0 ≤ (r * 65536 + z) % d ∧ (r * 65536 + z) % d < d) := hmm
    have HK : Hid (Boxed W w.heap.size 3 (.int .i64 d) ∧ Boxed W s 42 (.slice (some ⟨g, 0, none⟩) m m) ∧ Boxed W (s + 1) 3 (.int .i64 r) ∧ OwnI W w.heap.size (some ⟨g, 0, none⟩) m out) := ⟨k0, k1, k2, kq⟩
    have HB : Hid (Below w.heap.size w W) := hB
    have hx2 : (x.1 : Int) < m := by have := x.2; omega
    clear HS hdo hol hdd hmm k0 k1 kq k2 hB hz hI hI0 hB4 c0 c1 c2 hq4 b3
    gi_wp2
    obtain ⟨k0, k1, k2, kq⟩ := HK.out
    obtain ⟨W1, hW1⟩ : ∃ W1, W1 = W.setCell ⟨s + 1, 0, none⟩ (.int .i64 (r * 65536 + z)) := ⟨_, rfl⟩
    have j0 : Boxed W1 w.heap.size 3 (.int .i64 d) := by rw [hW1]; exact k0.other (by omega) _
    have j1 : Boxed W1 s 42 (.slice (some ⟨g, 0, none⟩) m m) := by rw [hW1]; exact k1.other (by omega) _
    have j2 : Boxed W1 (s + 1) 3 (.int .i64 (r * 65536 + z)) := by rw [hW1]; exact k2.set _
    have jq : OwnI W1 w.heap.size (some ⟨g, 0, none⟩) m out := by
      rw [hW1]
      exact kq.kept (grownBy_setCell' W (s + 1) _) (fun y hy e => by cases hy; simp at e; omega)
    have HW : Hid (KeepsOthers W W1 ∧ KpB w.heap.size (s + 2) W W1) := by
      rw [hW1]
      exact ⟨KeepsOthers.setCell _ _ _, (Below.refl _ W).setCell (p := ⟨s + 1, 0, none⟩) (by show w.heap.size ≤ s + 1; omega) _, Below.heap_setCell _ _ _ _ (by simp)⟩
    rw [← hW1]
    clear hcb hcq hcr hfr k0 k1 k2 kq hW1
    have hcb := j0.cell
    have hcq := j1.cell
    have hcr := j2.cell
    have hrow : W1.ownsRow w.heap.size 3 1 (.slice (some ⟨g, 0, none⟩) m m) m (out.map (Value.int .i64)) := by
      have h := jq
      unfold OwnI at h
      rw [HOL.out] at h
      exact h
    have hfz := hrow.frozenAt x.1
    have hcell : ∃ v, W1.cell? ⟨g, x.1, none⟩ = some v := by
      rw [hrow.cellAt x.1 (by omega)]
      have hl := hrow.1
      exact ⟨_, List.getElem?_eq_getElem (by have := x.2; omega)⟩
    obtain ⟨old, hcell⟩ := hcell
    have HJ : Hid (Boxed W1 w.heap.size 3 (.int .i64 d) ∧ Boxed W1 s 42 (.slice (some ⟨g, 0, none⟩) m m) ∧ Boxed W1 (s + 1) 3 (.int .i64 (r * 65536 + z)) ∧ W1.ownsRow w.heap.size 3 1 (.slice (some ⟨g, 0, none⟩) m m) m (out.map (Value.int .i64))) := ⟨j0, j1, j2, hrow⟩
    clear j0 j1 j2 jq hrow
    have hmix : Tryd.prog.follows .mixedOrders = true := by kernel_rfl
    obtain ⟨qq, hqq⟩ : ∃ qq, qq = (r * 65536 + z) / d := ⟨_, rfl⟩
    obtain ⟨rr, hrr⟩ : ∃ rr, rr = (r * 65536 + z) % d := ⟨_, rfl⟩
    have HF : Hid (KeepsFrom w4.heap.size W ((W1.setCell ⟨g, x.1, none⟩ (.int .i64 ((r * 65536 + z) / d))).setCell ⟨s + 1, 0, none⟩ (.int .i64 ((r * 65536 + z) % d))).drew ∧ KpB w.heap.size (s + 2) W ((W1.setCell ⟨g, x.1, none⟩ (.int .i64 ((r * 65536 + z) / d))).setCell ⟨s + 1, 0, none⟩ (.int .i64 ((r * 65536 + z) % d))).drew ∧ ((∃ r' out', cutI zs m d (pre ++ [x]) r' out' ∧ 0 ≤ r' ∧ r' < d ∧ Dg out' ∧ out'.length = m ∧ Boxed ((W1.setCell ⟨g, x.1, none⟩ (.int .i64 ((r * 65536 + z) / d))).setCell ⟨s + 1, 0, none⟩ (.int .i64 ((r * 65536 + z) % d))).drew w.heap.size 3 (.int .i64 d) ∧ Boxed ((W1.setCell ⟨g, x.1, none⟩ (.int .i64 ((r * 65536 + z) / d))).setCell ⟨s + 1, 0, none⟩ (.int .i64 ((r * 65536 + z) % d))).drew s 42 (.slice (some ⟨g, 0, none⟩) m m) ∧ Boxed ((W1.setCell ⟨g, x.1, none⟩ (.int .i64 ((r * 65536 + z) / d))).setCell ⟨s + 1, 0, none⟩ (.int .i64 ((r * 65536 + z) % d))).drew (s + 1) 3 (.int .i64 r') ∧ OwnI ((W1.setCell ⟨g, x.1, none⟩ (.int .i64 ((r * 65536 + z) / d))).setCell ⟨s + 1, 0, none⟩ (.int .i64 ((r * 65536 + z) % d))).drew w.heap.size (some ⟨g, 0, none⟩) m out') ∧ Below w.heap.size w ((W1.setCell ⟨g, x.1, none⟩ (.int .i64 ((r * 65536 + z) / d))).setCell ⟨s + 1, 0, none⟩ (.int .i64 ((r * 65536 + z) % d))).drew)) := by
      obtain ⟨j0, j1, j2, hrow⟩ := HJ.out
      have hi1 := HI.out
      have hd1' := HDD.out
      have hm1 := HMM.out
      rw [← hqq, ← hrr] at hi1
      rw [← hqq] at hd1'
      rw [← hrr] at hm1
      show _ ∧ _ ∧ _
      rw [← hqq, ← hrr]
      have hst := hrow.stored x.1 (.int .i64 qq)
      obtain ⟨W2, hW2⟩ : ∃ W2, W2 = W1.setCell ⟨g, x.1, none⟩ (.int .i64 qq) := ⟨_, rfl⟩
      rw [← hW2] at hst ⊢
      have kW2 : KpB w.heap.size (s + 2) W1 W2 := by
        rw [hW2]
        exact ⟨(Below.refl _ W1).setCell (p := ⟨g, x.1, none⟩) (by show w.heap.size ≤ g; omega) _, Below.heap_setCell _ _ _ _ (by simp; omega)⟩
      have oW2 : KeepsOthers W1 W2 := by rw [hW2]; exact KeepsOthers.setCell _ _ _
      have i0' := j0.kept hst.2 (by simp; omega)
      have i1' := j1.kept hst.2 (by simp; omega)
      have i2' := j2.kept hst.2 (by simp; omega)
      have iq : OwnI W2 w.heap.size (some ⟨g, 0, none⟩) m (out.set x.1 qq) := by
        unfold OwnI
        rw [List.length_set, HOL.out, List.map_set]
        exact hst.1
      have kW3 : KpB w.heap.size (s + 2) W2 (W2.setCell ⟨s + 1, 0, none⟩ (.int .i64 rr)) := ⟨(Below.refl _ W2).setCell (p := ⟨s + 1, 0, none⟩) (by show w.heap.size ≤ s + 1; omega) _, Below.heap_setCell _ _ _ _ (by simp)⟩
      have kq3 := iq.kept (grownBy_setCell' W2 (s + 1) (.int .i64 rr)) (fun y hy e => by cases hy; simp at e; omega)
      obtain ⟨W3, hW3⟩ : ∃ W3, W3 = W2.setCell ⟨s + 1, 0, none⟩ (.int .i64 rr) := ⟨_, rfl⟩
      have l0 : Boxed W3 w.heap.size 3 (.int .i64 d) := by rw [hW3]; exact i0'.other (by omega) _
      have l1 : Boxed W3 s 42 (.slice (some ⟨g, 0, none⟩) m m) := by rw [hW3]; exact i1'.other (by omega) _
      have l2 : Boxed W3 (s + 1) 3 (.int .i64 rr) := by rw [hW3]; exact i2'.set _
      have oW3 : KeepsOthers W2 W3 := by rw [hW3]; exact KeepsOthers.setCell _ _ _
      rw [← hW3] at kW3 kq3 ⊢
      have hbr := Below.refl w.heap.size W3
      have kW4 : KpB w.heap.size (s + 2) W3 W3.drew := ⟨⟨hbr.os, hbr.tape, hbr.output, hbr.size, hbr.block⟩, rfl⟩
      have kAll := ((HW.out.2.t kW2).t kW3).t kW4
      exact ⟨(((HW.out.1.trans oW2).trans oW3).trans (KeepsOthers.drew _)).from _, kAll, ⟨rr, out.set x.1 qq, hi1, hm1.1, hm1.2, HDO.out.set hd1'.1 hd1'.2, by rw [List.length_set]; exact HOL.out, l0, l1, l2, kq3⟩, HB.out.trans kAll.1⟩
    clear hqq hrr
    have hne1 : ¬ g = s + 1 := by omega
    have hne2 : ¬ s + 1 = g := by omega
    have hcr2 : ((W1.setCell ⟨g, x.1, none⟩ (.int .i64 ((r * 65536 + z) / d))).drew).cell? ⟨s + 1, 0, none⟩ = some (.int .i64 (r * 65536 + z)) := (HJ.out.2.2.1.kept (HJ.out.2.2.2.stored x.1 (.int .i64 ((r * 65536 + z) / d))).2 (by simp; omega)).cell
    have hfr2 : ((W1.setCell ⟨g, x.1, none⟩ (.int .i64 ((r * 65536 + z) / d))).drew).frozen? ⟨s + 1, 0, none⟩ = false := (HJ.out.2.2.1.kept (HJ.out.2.2.2.stored x.1 (.int .i64 ((r * 65536 + z) / d))).2 (by simp; omega)).frozen
    gi_region_with_o fail
    all_goals
      gi_wp2
      all_goals first | exact HF.out | (exfalso; omega) | trace_state
  case done =>
    rintro D ys W hD hys ⟨⟨r, out, hI, hr0, hr1, hdo, hol, k0, k1, k2, kq⟩, hB⟩ hK
    have hlen := congrArg List.length hys
    rw [List.length_map, tp_length] at hlen
    have hv := hI (by rw [hlen]; exact hys)
    rw [hlen, Nat.sub_self, List.drop_zero, List.drop_zero, HA.out, val_dgs] at hv
    have he := div_end hd0 hr0 hr1 hv
    have HO : Hid (OwnI W w.heap.size (some ⟨g, 0, none⟩) m (dgs (x / d.toNat))) := by
      have T := trimmed_own w.heap.size (some ⟨g, 0, none⟩) m out W kq
      rw [row_dgs hdo he.1] at T
      exact T
    have HT : Hid (∀ q, Calls Tryd.prog 76 #[.slice (some ⟨g, 0, none⟩) m m] (W.drewN q) fun e w' => e = .returned (.slice (some ⟨g, 0, none⟩) (dgs (x / d.toNat)).length m) ∧ w' = W.drewN q) := fun q => by
      have T := trimmed_any w.heap.size (some ⟨g, 0, none⟩) m out (W.drewN q) kq (by omega)
      rw [row_dgs hdo he.1, hol] at T
      exact T.mono fun e w' h => ⟨h.1, h.2.2.symm⟩
    have hcq := k1.cell
    have hcr : W.cell? ⟨s + 1, 0, none⟩ = some (.int .i64 ((x % d.toNat : Nat) : Int)) := by
      rw [← he.2]
      exact k2.cell
    have HB : Hid (Below w.heap.size w W) := hB
    have hmix : Tryd.prog.follows .mixedOrders = true := by kernel_rfl
    obtain ⟨qd, hqd⟩ : ∃ qd, qd = dgs (x / d.toNat) := ⟨_, rfl⟩
    obtain ⟨rd, hrd⟩ : ∃ rd : Int, rd = ((x % d.toNat : Nat) : Int) := ⟨_, rfl⟩
    have HQD : Hid (dgs (x / d.toNat) = qd) := hqd.symm
    have HRD : Hid (((x % d.toNat : Nat) : Int) = rd) := hrd.symm
    rw [← hqd] at HT HO
    rw [← hrd] at hcr
    clear he hv hys hI hdo hol kq k0 k1 k2 hB c0 c1 c2 hq4 b3 hB4 hI0 hqd hrd
    gi_wp2
    have hqa : ∀ fn : FuncId, Fence.wide.fn fn := fun _ => trivial
    gi_quiet_th ((first | (gi_at_call 76; exact CallsIn.quiet_of_same (callsIn_wide.2 (HT.out _))) | (refine ⟨trivial, ?_⟩; gi_at_call 76; exact CallsIn.quiet_of_same (callsIn_wide.2 (HT.out _)))))
    gi_wp2
    have hoQ : OwnI (W.drewN nq) w.heap.size (some ⟨g, 0, none⟩) m qd := HO.out
    have hBQ : Below w.heap.size w (W.drewN nq) := below_dN HB.out _
    have hKQ : (W.drewN nq).heap[D]? = _ := hK
    refine ⟨by simp, .inl ⟨_, _, rfl, run_takeDeferred hKQ, ?_⟩⟩
    refine ⟨_, results_tmp2 rfl _ _ _, some ⟨g, 0, none⟩, m, by rw [HQD.out, HRD.out]; rfl, ?_, ?_⟩
    · rw [HQD.out]
      exact rowOwn hoQ (grownBy_putObj' _ D _) (fun r hr => by cases hr; exact ⟨_, hKQ, rfl⟩)
    · exact hBQ.trans (belowK_b (w := w) (Nat.le_refl _) (W.drewN nq) D _ _ (by omega) hKQ rfl rfl)
  case stop =>
    rintro D c pre W _ _ h _
    exact h.elim
end Go.Proofs.YthokphoojmpajahDoor
