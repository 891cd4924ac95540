/- The contract of spec.l1Mul: the digits of the product, in a row of the call's own. -/
import Derived.Test.YthokphoojmpajahDoorGAr
import Derived.Test.YthokphoojmpajahDoorGNum
namespace Go.Proofs.YthokphoojmpajahDoor
open Go.RowKit Go.Proofs.Pin

set_option maxRecDepth 20000 in
set_option maxHeartbeats 1600000 in
theorem l1Mul_any (a b : Option Addr) (ca cb : Nat) (x y : Nat) (w : World) (ha : Sl w a (dgs x)) (hb : Sl w b (dgs y)) (hx : (dgs x).length ≤ 30000) (hy : (dgs y).length ≤ 30000) :
    Calls Tryd.prog 32 #[.slice a (dgs x).length ca, .slice b (dgs y).length cb] w fun e w' => ∃ r cr, e = .returned (.slice r (dgs (x * y)).length cr) ∧ OwnI w' w.heap.size r cr (dgs (x * y)) ∧ Below w.heap.size w w' := by
  obtain ⟨i0, hi, hz0, hz1, hz2⟩ := info_parts Tryd.info3
  obtain ⟨A, hA⟩ : ∃ A, A = dgs x := ⟨_, rfl⟩
  obtain ⟨B, hB⟩ : ∃ B, B = dgs y := ⟨_, rfl⟩
  have DA : Hid (Dg A) := by rw [hA]; exact Dg_dgs x
  have DB : Hid (Dg B) := by rw [hB]; exact Dg_dgs y
  have VA : Hid (val A = x) := by rw [hA]; exact val_dgs x
  have VB : Hid (val B = y) := by rw [hB]; exact val_dgs y
  rw [← hA] at ha hx ⊢
  rw [← hB] at hb hy ⊢
  have HSA : Hid (Sl w a A) := ha
  have HSB : Hid (Sl w b B) := hb
  obtain ⟨la, hla⟩ : ∃ la, la = A.length := ⟨_, rfl⟩
  obtain ⟨lb, hlb⟩ : ∃ lb, lb = B.length := ⟨_, rfl⟩
  have HLA : Hid (la = A.length) := hla
  have HLB : Hid (lb = B.length) := hlb
  rw [← hla] at hx ⊢
  rw [← hlb] at hy ⊢
  obtain ⟨n, hn⟩ : ∃ n, n = la + lb := ⟨_, rfl⟩
  have hn2 : n ≤ 60000 := by omega
  have HN : Hid (n = la + lb) := hn
  clear hA hB hla hlb ha hb hn
  go_enter Tryd.func32, Tryd.ntmps32
  go_wp2_with (at_make; refine wpList_make_full _ rfl _ _ 22 rfl w.heap.size 3 i0 (.int .i64 0) 1 Tryd.underlying22 hi hz0 hz1 _ _ _ _ n rfl rfl (by have := HN.out; omega) (by have := HN.out; omega) (by rw [hz2]; omega) (by unfold maxLen; omega) (Nat.le_refl _) ?_; intro w1 hown hgrow)
  have hrow := make_row hown
  have hbel : Below w.heap.size w w1 := (Below.refl _ _).grown hgrow (Nat.le_refl _) (fun k hk => by cases hk)
  have hl0 : (List.replicate n (0 : Int)).length = n := by simp
  have hown1 : w1.ownsRow w.heap.size 3 1 (.slice (some ⟨w.heap.size, 0, none⟩) n n) n ((List.replicate n (0 : Int)).map (Value.int .i64)) := by
    have h := own_of_block (base := w.heap.size) (zs := List.replicate n (0 : Int)) (g := w.heap.size) (w := w1) (by rw [List.map_replicate]; exact hrow) (Nat.le_refl _) (by rw [hl0]; unfold maxLen; omega)
    unfold OwnI at h
    rw [hl0] at h
    exact h
  clear hown hgrow hrow hl0
  go_loopw [6] (fun i wr => ∃ (k : Nat) (out : List Int), k ≤ la ∧ i = .int .i64 k ∧ out.length = n ∧ Dg out ∧ (∀ p, k + lb ≤ p → out.getD p 0 = 0) ∧ val out = pv A k * val B ∧ wr.ownsRow w.heap.size 3 1 (.slice (some ⟨w.heap.size, 0, none⟩) n n) n (out.map (Value.int .i64)) ∧ Below w.heap.size w wr) (fun i _ => la - (intOf i).toNat)
  case atStart => exact ⟨0, List.replicate n 0, Nat.zero_le _, rfl, by simp, Dg.zeros n, fun p _ => by simp [List.getD_eq_getElem?_getD, List.getElem?_replicate]; split <;> rfl, by rw [val_zeros]; simp [pv], hown1, hbel⟩
  case round =>
    obtain ⟨k, out, hk, rfl, hol, hdo, hzo, hval, hown, hb⟩ := hrel
    have HB : Hid (Below w.heap.size w wr) := hb
    have HV : Hid (val out = pv A k * val B) := hval
    have HD : Hid (Dg out) := hdo
    have HZ : Hid (∀ p, k + lb ≤ p → out.getD p 0 = 0) := hzo
    have HL : Hid (out.length = n) := hol
    have HO : Hid (wr.ownsRow w.heap.size 3 1 (.slice (some ⟨w.heap.size, 0, none⟩) n n) n (out.map (Value.int .i64))) := hown
    clear hb hval hdo hzo hol hown hown1 hbel
    by_cases hlt : k < la
    · obtain ⟨p, hp⟩ : ∃ p, p = A.getD k 0 := ⟨_, rfl⟩
      have hdp := DA.out.at k
      rw [← hp] at hdp
      have HP : Hid (p = A.getD k 0) := hp
      clear hp
      go_wp2
      go_loopw [7, 8] (fun c j wq => ∃ (t : Nat) (o2 : List Int) (cc : Int), t ≤ lb ∧ j = .int .i64 t ∧ c = .int .i64 cc ∧ 0 ≤ cc ∧ cc ≤ 65535 ∧ o2.length = n ∧ Dg o2 ∧ (∀ p, k + lb ≤ p → o2.getD p 0 = 0) ∧ val o2 + cc * pw (k + t) = pv A k * val B + p * pv B t * pw k ∧ wq.ownsRow w.heap.size 3 1 (.slice (some ⟨w.heap.size, 0, none⟩) n n) n (o2.map (Value.int .i64)) ∧ Below w.heap.size w wq) (fun _ j _ => lb - (intOf j).toNat)
      case atStart => exact ⟨0, out, 0, Nat.zero_le _, rfl, rfl, by omega, by omega, HL.out, HD.out, HZ.out, by rw [HV.out]; simp [pv], HO.out, HB.out⟩
      case round =>
        obtain ⟨t, o2, cc, ht, rfl, rfl, hc0, hc1, hol2, hdo2, hz2', hval2, hown2, hb2⟩ := hrel
        have HB2 : Hid (Below w.heap.size w wr) := hb2
        have HV2 : Hid (val o2 + cc * pw (k + t) = pv A k * val B + p * pv B t * pw k) := hval2
        have HD2 : Hid (Dg o2) := hdo2
        have HZ2 : Hid (∀ p, k + lb ≤ p → o2.getD p 0 = 0) := hz2'
        have HL2 : Hid (o2.length = n) := hol2
        clear hval2 hdo2 hz2' hol2
        by_cases hlt2 : t < lb
        · have hkt : k + t < n := by have := HN.out; omega
          have hvd := HD2.out.at (k + t)
          have hdq := DB.out.at t
          have hstep := mul_step (q := B.getD t 0) (by rw [HL2.out]; exact hkt) HV2.out
          rw [← pv_succ] at hstep
          have hst := hown2.stored (k + t) (.int .i64 ((o2.getD (k + t) 0 + p * B.getD t 0 + cc) % 65536))
          have hfz := hown2.frozenAt (k + t)
          have hcell : wr.cell? ⟨w.heap.size, k + t, none⟩ = some (.int .i64 (o2.getD (k + t) 0)) := by
            rw [hown2.cellAt (k + t) (by omega)]
            have hl : k + t < o2.length := by rw [HL2.out]; exact hkt
            simp [List.getD_eq_getElem?_getD, List.getElem?_eq_getElem hl]
          obtain ⟨ba, offa, rfl, hba, hc1⟩ := Sl.cells HSA.out (k := k) (by rw [← HLA.out]; exact hlt)
          obtain ⟨bb, offb, rfl, hbb, hc2⟩ := Sl.cells HSB.out (k := t) (by rw [← HLB.out]; exact hlt2)
          rw [← HP.out] at hc1
          have hca : wr.cell? ⟨ba, offa + k, none⟩ = some (.int .i64 p) := (hb2.cell (p := ⟨ba, offa + k, none⟩) hba).trans hc1
          have hcb : wr.cell? ⟨bb, offb + t, none⟩ = some (.int .i64 (B.getD t 0)) := (hb2.cell (p := ⟨bb, offb + t, none⟩) hbb).trans hc2
          obtain ⟨q, hq⟩ : ∃ q, q = B.getD t 0 := ⟨_, rfl⟩
          obtain ⟨v, hv⟩ : ∃ v, v = o2.getD (k + t) 0 := ⟨_, rfl⟩
          rw [← hq] at hdq hcb hstep hst
          rw [← hv] at hvd hcell hstep hst
          have hpq := digProd hdp hdq
          obtain ⟨hpq0, hpq1⟩ := hpq
          have HS : Hid (val (o2.set (k + t) ((v + p * q + cc) % 65536)) + (v + p * q + cc) / 65536 * pw (k + t + 1) = pv A k * val B + p * pv B (t + 1) * pw k) := hstep
          have HO2 : Hid ((wr.setCell ⟨w.heap.size, k + t, none⟩ (.int .i64 ((v + p * q + cc) % 65536))).ownsRow w.heap.size 3 1 (.slice (some ⟨w.heap.size, 0, none⟩) n n) n ((o2.set (k + t) ((v + p * q + cc) % 65536)).map (Value.int .i64))) := by
            rw [List.map_set]; exact hst.1
          have hktI : (k : Int) + (t : Int) < n := by omega
          clear hstep hst hown2 hq hv hc1 hc2 hb2
          go_wp2_with fail
          go_quiet (fail)
          go_wp2
          go_roundw
          case rel => exact ⟨t + 1, o2.set (k + t) ((v + p * q + cc) % 65536), (v + p * q + cc) / 65536, by omega, by go_num, rfl, by omega, by omega, by rw [List.length_set]; exact HL2.out, HD2.out.set (by omega) (by omega), fun p' hp' => by rw [getD_set (by rw [HL2.out]; exact hkt), if_neg (by omega)]; exact HZ2.out p' hp', HS.out, HO2.out, below_dN (HB2.out.setCell (Nat.le_refl _) _) _⟩
          case measure => simp [intOf]; omega
        · have htl : t = lb := by omega
          subst htl
          have hkt : k + t < n := by have := HN.out; omega
          have hz := HZ2.out (k + t) (Nat.le_refl _)
          have hst := hown2.stored (k + t) (.int .i64 cc)
          have hfz := hown2.frozenAt (k + t)
          have hcell : wr.cell? ⟨w.heap.size, k + t, none⟩ = some (.int .i64 (o2.getD (k + t) 0)) := by
            rw [hown2.cellAt (k + t) (by omega)]
            have hl : k + t < o2.length := by rw [HL2.out]; exact hkt
            simp [List.getD_eq_getElem?_getD, List.getElem?_eq_getElem hl]
          rw [hz] at hcell
          have hrow2 : val (o2.set (k + t) cc) = pv A (k + 1) * val B := by
            have h := HV2.out
            rw [HLB.out, pv_val] at h
            have h2 := mul_row (A := A) (B := B) (i := k) (c := cc) (out := o2) (by rw [← HLB.out, HL2.out]; exact hkt) (by rw [← HLB.out]; exact hz) (by rw [← HP.out]; exact h)
            rw [← HLB.out] at h2
            exact h2
          have HR : Hid (val (o2.set (k + t) cc) = pv A (k + 1) * val B) := hrow2
          have HO2 : Hid ((wr.setCell ⟨w.heap.size, k + t, none⟩ (.int .i64 cc)).ownsRow w.heap.size 3 1 (.slice (some ⟨w.heap.size, 0, none⟩) n n) n ((o2.set (k + t) cc).map (Value.int .i64))) := by
            rw [List.map_set]; exact hst.1
          have hktI : (k : Int) + (t : Int) < n := by omega
          clear hst hown2 hz hrow2 hb2
          go_wp2
          go_roundw
          case rel => exact ⟨k + 1, o2.set (k + t) cc, by omega, by go_num, by rw [List.length_set]; exact HL2.out, HD2.out.set (by omega) (by omega), fun p' hp' => by rw [getD_set (by rw [HL2.out]; exact hkt), if_neg (by omega)]; exact HZ2.out p' (by omega), HR.out, HO2.out, HB2.out.setCell (Nat.le_refl _) _⟩
          case measure => simp [intOf]; omega
    · have hkl : k = la := by omega
      subst hkl
      have hsl : Sl wr (some ⟨w.heap.size, 0, none⟩) out := Sl.of_own (n := n) (cap := n) HO.out
      have hv : val out = ((x * y : Nat) : Int) := by
        rw [HV.out, HLA.out, pv_val, VA.out, VB.out]
        simp
      have T := l1Trim_any (some ⟨w.heap.size, 0, none⟩) n out wr hsl (by rw [HL.out]; omega)
      rw [row_dgs HD.out hv, HL.out] at T
      have HT : Hid _ := T
      clear T hsl hv
      go_wp2_with fail
      refine Calls.mono HT.out ?_
      rintro e w4 ⟨r, cr, rfl, ho, hb4⟩
      have ho2 := ho.mono HB.out.size
      have hb5 := HB.out.trans (hb4.mono HB.out.size)
      clear ho hb4
      go_wp2
      go_ret
      exact ⟨r, cr, rfl, ho2, hb5⟩
end Go.Proofs.YthokphoojmpajahDoor
