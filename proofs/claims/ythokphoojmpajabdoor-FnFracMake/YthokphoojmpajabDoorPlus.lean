/- The contract of digits.plus: the digits of the sum, in a row of the call's own. -/
import Derived.Test.YthokphoojmpajabDoorPut
namespace Go.Proofs.YthokphoojmpajabDoor
open Go.RowKit Go.Proofs.Pin

theorem own_block {w : World} {base g n : Nat} {xs : List Value} (h : w.ownsRow base 3 1 (.slice (some ⟨g, 0, none⟩) n n) n xs) : w.heap[g]? = some (.cells xs.toArray 3 (0, 0)) := by
  rcases h.2 with ⟨h', _⟩ | ⟨g', cap, cur, h', _, hg, _, _, hs, ht⟩
  · simp at h'
  · simp only [Value.slice.injEq, Option.some.injEq, Addr.mk.injEq, and_true, true_and] at h'
    obtain ⟨rfl, rfl⟩ := h'
    rw [hg, ← ht, Nat.mul_one]
    have : cur.toList.take n = cur.toList := List.take_of_length_le (by rw [Array.length_toList]; omega)
    rw [this]
theorem own_of_block {w : World} {base g : Nat} {zs : List Int} (h : w.heap[g]? = some (.cells (zs.map (Value.int .i64)).toArray 3 (0, 0))) (hb : base ≤ g) (hl : zs.length ≤ maxLen) : OwnI w base (some ⟨g, 0, none⟩) zs.length zs :=
  ⟨by simp, .inr ⟨g, zs.length, _, rfl, hb, h, Nat.le_refl _, hl, by simp, by simp [← List.map_take]⟩⟩
theorem make_row {w : World} {base g n : Nat} (h : w.ownsRow base 3 1 (.slice (some ⟨g, 0, none⟩) n n) n (madeCells (Value.int .i64 0).cells (n * 1)).toList) : w.heap[g]? = some (.cells (List.replicate n (Value.int .i64 0)).toArray 3 (0, 0)) := by
  have e : (madeCells (Value.int .i64 0).cells (n * 1)).toList = List.replicate n (Value.int .i64 0) := by
    rw [Nat.mul_one]
    exact toList_madeCells_one _ _
  rw [e] at h
  exact own_block h
theorem splice_row {A : List Int} {n : Nat} : splice (List.replicate n (Value.int .i64 0)) 0 (A.map (Value.int .i64)) = (A ++ List.replicate (n - A.length) 0).map (Value.int .i64) := by
  simp [splice]
theorem oneCells (A : List Int) : ∀ v ∈ A.map (Value.int .i64), v.oneCell' = true := ints_oneCell .i64 A
theorem sl_src {w : World} {a : Option Addr} {A : List Int} (h : Sl w a A) (h0 : 0 < A.length) : ∃ ad, a = some ad ∧ ∀ j v, (A.map (Value.int .i64))[j]? = some v → w.cell? (ad.add j) = some v := by
  rcases h with rfl | ⟨b, off, rfl, _, hc⟩
  · simp at h0
  · refine ⟨_, rfl, fun j v hv => ?_⟩
    have hj : j < A.length := by
      rcases Nat.lt_or_ge j A.length with h | h
      · exact h
      · simp [List.getElem?_eq_none h] at hv
    have e : (⟨b, off, none⟩ : Addr).add j = ⟨b, off + j, none⟩ := by
      unfold Addr.add
      split
      · subst_vars; rfl
      · rfl
    rw [e, hc j hj]
    simpa [List.getD_eq_getElem?_getD, List.getElem?_eq_getElem hj] using hv
theorem Tryd.size3 : (Tryd.prog.info? 3).map (·.size) = some 1 := by kernel_rfl

set_option maxRecDepth 20000 in
set_option maxHeartbeats 800000 in
theorem plus_any (a b : Option Addr) (ca cb : Nat) (x y : Nat) (w : World) (ha : Sl w a (dgs x)) (hb : Sl w b (dgs y)) (hx : (dgs x).length ≤ 65000) (hy : (dgs y).length ≤ 65000) :
    Calls Tryd.prog 69 #[.slice a (dgs x).length ca, .slice b (dgs y).length cb] w fun e w' => ∃ r cr, e = .returned (.slice r (dgs (x + y)).length cr) ∧ OwnI w' w.heap.size r cr (dgs (x + y)) ∧ Below w.heap.size w w' := by
  obtain ⟨i0, hi, hz0, hz1, hz2⟩ := info_parts Tryd.info3
  obtain ⟨A, hA⟩ : ∃ A, A = dgs x := ⟨_, rfl⟩
  obtain ⟨B, hB⟩ : ∃ B, B = dgs y := ⟨_, rfl⟩
  have DA : Hid (Dg A) := by rw [hA]; exact Dg_dgs x
  have DB : Hid (Dg B) := by rw [hB]; exact Dg_dgs y
  have VA : Hid (val A = x) := by rw [hA]; exact val_dgs x
  have VB : Hid (val B = y) := by rw [hB]; exact val_dgs y
  rw [← hA] at ha hx ⊢
  rw [← hB] at hb hy ⊢
  have HSA : Hid (Sl w a A) := ha
  have HSB : Hid (Sl w b B) := hb
  obtain ⟨la, hla⟩ : ∃ la, la = A.length := ⟨_, rfl⟩
  obtain ⟨lb, hlb⟩ : ∃ lb, lb = B.length := ⟨_, rfl⟩
  have HLA : Hid (la = A.length) := hla
  have HLB : Hid (lb = B.length) := hlb
  rw [← hla] at hx ⊢
  rw [← hlb] at hy ⊢
  obtain ⟨n, hn⟩ : ∃ n, n = max la lb + 1 := ⟨_, rfl⟩
  have hcase : (la < lb ∧ n = lb + 1) ∨ (¬ la < lb ∧ n = la + 1) := by omega
  obtain ⟨cs, hcs⟩ : ∃ cs, cs = A.map (Value.int .i64) := ⟨_, rfl⟩
  have HCS : Hid (cs = A.map (Value.int .i64)) := hcs
  clear hA hB hla hlb ha hb hn hcs
  have hna : la ≤ n := by omega
  have hn2 : n ≤ 65536 := by omega
  have HMX : Hid (n = max la lb + 1) := by show n = max la lb + 1; omega
  rcases hcase with ⟨hlt, hnn⟩ | ⟨hlt, hnn⟩
  all_goals
    have HNN : Hid (n = _ + 1) := hnn
    clear hnn
    go_enter Tryd.func69, Tryd.ntmps69
    go_wp2_with (first | (at_make; refine wpList_make_full _ rfl _ _ 48 rfl w.heap.size 3 i0 (.int .i64 0) 1 Tryd.underlying48 hi hz0 hz1 _ _ _ _ n rfl rfl (by have := HNN.out; omega) (by have := HNN.out; omega) (by rw [hz2]; omega) (by unfold maxLen; omega) (Nat.le_refl _) ?_; intro w1 hown hgrow; have hrow := make_row hown; have hbel : Below w.heap.size w w1 := (Below.refl _ _).grown hgrow (Nat.le_refl _) (fun k hk => by cases hk); clear hown hgrow) | (refine wpList_copy_splice rfl (.tmp 13) (.tmp 14) 48 48 rfl 3 Tryd.underlying48 Tryd.size3 _ _ _ _ _ _ rfl rfl w.heap.size 0 (List.replicate n (Value.int .i64 0)) 3 hrow cs (by rw [HCS.out, List.length_map, ← HLA.out]; exact (Nat.min_eq_left hna).symm) (fun h => ⟨rfl, by rw [HCS.out] at h ⊢; exact sl_src (HSA.out.keep hbel) (by simpa using h)⟩) (by rw [HCS.out]; have := HLA.out; simp; omega) (by rw [HCS.out]; exact oneCells A) w.heap.size w hbel (Nat.le_refl _) ?_; intro w2 HR2 hb2))
    have hl0 : (A ++ List.replicate (n - A.length) 0).length = n := by have := HLA.out; simp; omega
    have hown2 : OwnI w2 w.heap.size (some ⟨w.heap.size, 0, none⟩) (A ++ List.replicate (n - A.length) 0).length (A ++ List.replicate (n - A.length) 0) := by
      refine own_of_block ?_ (Nat.le_refl _) (by rw [hl0]; unfold maxLen; omega)
      rw [← splice_row, ← HCS.out]
      exact HR2.out
    have hv0 : val (A ++ List.replicate (n - A.length) 0) = x := by rw [val_append, val_zeros, VA.out]; simp
    have hd0 : Dg (A ++ List.replicate (n - A.length) 0) := DA.out.append (Dg.zeros _)
    have P := putOn_any w.heap.size w.heap.size _ b cb _ B w2 hown2 (HSB.out.keep hb2) (HSB.out.later (Nat.le_refl _)) hd0 DB.out (by rw [hl0]; exact hn2)
    rw [hl0, hv0, ← HLB.out] at P
    refine P.mono ?_
    rintro e w3 ⟨rfl, out, c, hol, hdo, hcc, hval, hown3, hgr3⟩
    have hb3 : Below w.heap.size w w3 := hb2.grown hgr3 hb2.size (fun k hk => by cases hk; exact Nat.le_refl _)
    have hv := sum_row DA.out DB.out VA.out VB.out (by rw [← HLA.out, ← HLB.out]; exact HMX.out) hdo hcc hval
    have T := trimmed_any w.heap.size _ n out w3 hown3 (by omega)
    rw [trim_dgs hdo, hv, hol] at T
    have HT : Hid (Calls Tryd.prog 61 #[.slice (some ⟨w.heap.size, 0, none⟩) n n] w3 fun e w' => e = .returned (.slice (some ⟨w.heap.size, 0, none⟩) (dgs (x + y)).length n) ∧ OwnI w' w.heap.size (some ⟨w.heap.size, 0, none⟩) n (dgs (x + y)) ∧ w3 = w') := T
    have HB3 : Hid (Below w.heap.size w w3) := hb3
    clear T hb3 hv hown3 hgr3 hval hcc hdo hol P hd0 hv0 hown2 hl0 hb2 HR2
    go_wp2_with fail
    refine HT.out.mono ?_
    rintro e w4 ⟨rfl, ho, rfl⟩
    go_wp2
    go_ret
    exact ⟨_, _, rfl, ho, HB3.out⟩
end Go.Proofs.YthokphoojmpajabDoor
