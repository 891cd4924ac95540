/- The contract of impl.digits.scaled: the digits of a number times a factor of one digit, and a little more. -/
import Derived.Test.YthkdgihkkangfaaDoorPlus
import Derived.Test.YthkdgihkkangfaaDoorGNum
namespace Go.Proofs.YthkdgihkkangfaaDoor
open Go.RowKit Go.Proofs.Pin

theorem scale_step {out : List Int} {k : Nat} {f q c V : Int} (hk : k < out.length) (hz : out.getD k 0 = 0) (h : val out + c * pw k = V) :
    val (out.set k ((q * f + c) % 65536)) + (q * f + c) / 65536 * pw (k + 1) = V + q * f * pw k := by
  rw [val_set _ hk, pw_succ, hz, ← h, Int.sub_zero]
  have h1 := Int.mul_ediv_add_emod (q * f + c) 65536
  generalize (q * f + c) % 65536 = r at h1 ⊢
  generalize (q * f + c) / 65536 = s at h1 ⊢
  generalize pw k = P at h1 ⊢
  have h2 : r * P + s * (P * 65536) = (65536 * s + r) * P := by rw [Int.add_mul]; simp only [Int.mul_comm, Int.mul_left_comm]; rw [Int.add_comm]
  rw [Int.add_assoc, h2, h1, Int.add_mul]
  omega

set_option maxRecDepth 20000 in
set_option maxHeartbeats 1600000 in
theorem scaled_any (a : Option Addr) (ca : Nat) (x : Nat) (f m : Int) (w : World) (ha : Sl w a (dgs x)) (hx : (dgs x).length ≤ 30000) (hf0 : 0 ≤ f) (hf1 : f < 65536) (hm0 : 0 ≤ m) (hm1 : m < 65536) :
    Calls Tryd.prog 60 #[.slice a (dgs x).length ca, .int .i64 f, .int .i64 m] w fun e w' => ∃ r cr, e = .returned (.slice r (dgs (x * f.toNat + m.toNat)).length cr) ∧ OwnI w' w.heap.size r cr (dgs (x * f.toNat + m.toNat)) ∧ Below w.heap.size w w' := by
  obtain ⟨i0, hi, hz0, hz1, hz2⟩ := info_parts Tryd.info3
  obtain ⟨A, hA⟩ : ∃ A, A = dgs x := ⟨_, rfl⟩
  have DA : Hid (Dg A) := by rw [hA]; exact Dg_dgs x
  have VA : Hid (val A = x) := by rw [hA]; exact val_dgs x
  rw [← hA] at ha hx ⊢
  have HSA : Hid (Sl w a A) := ha
  obtain ⟨la, hla⟩ : ∃ la, la = A.length := ⟨_, rfl⟩
  have HLA : Hid (la = A.length) := hla
  rw [← hla] at hx ⊢
  obtain ⟨n, hn⟩ : ∃ n, n = la + 1 := ⟨_, rfl⟩
  have hn2 : n ≤ 60000 := by omega
  have HN : Hid (n = la + 1) := hn
  obtain ⟨D, hD⟩ : ∃ D, D = dgs (x * f.toNat + m.toNat) := ⟨_, rfl⟩
  have HD0 : Hid (D = dgs (x * f.toNat + m.toNat)) := hD
  rw [← hD]
  have hnI : (n : Int) = la + 1 := by omega
  clear hA hla ha hn hD
  go_enter Tryd.func60, Tryd.ntmps60
  go_wp2_with (at_make; refine wpList_make_full _ rfl _ _ 42 rfl w.heap.size 3 i0 (.int .i64 0) 1 Tryd.underlying42 hi hz0 hz1 _ _ _ _ n rfl rfl (by have := HN.out; omega) (by have := HN.out; omega) (by rw [hz2]; omega) (by unfold maxLen; omega) (Nat.le_refl _) ?_; intro w1 hown hgrow)
  have hrow := make_row hown
  have hbel : Below w.heap.size w w1 := (Below.refl _ _).grown hgrow (Nat.le_refl _) (fun k hk => by cases hk)
  have hl0 : (List.replicate n (0 : Int)).length = n := by simp
  have hown1 : w1.ownsRow w.heap.size 3 1 (.slice (some ⟨w.heap.size, 0, none⟩) n n) n ((List.replicate n (0 : Int)).map (Value.int .i64)) := by
    have h := own_of_block (base := w.heap.size) (zs := List.replicate n (0 : Int)) (g := w.heap.size) (w := w1) (by rw [List.map_replicate]; exact hrow) (Nat.le_refl _) (by rw [hl0]; unfold maxLen; omega)
    unfold OwnI at h
    rw [hl0] at h
    exact h
  clear hown hgrow hrow hl0
  go_loopw [8, 19] (fun c j wr => ∃ (k : Nat) (out : List Int) (cc : Int), k ≤ la ∧ j = .int .i64 k ∧ c = .int .i64 cc ∧ 0 ≤ cc ∧ cc ≤ 65535 ∧ out.length = n ∧ Dg out ∧ (∀ p, k ≤ p → out.getD p 0 = 0) ∧ val out + cc * pw k = pv A k * f + m ∧ wr.ownsRow w.heap.size 3 1 (.slice (some ⟨w.heap.size, 0, none⟩) n n) n (out.map (Value.int .i64)) ∧ Below w.heap.size w wr) (fun _ j _ => la - (intOf j).toNat)
  case atStart => exact ⟨0, List.replicate n 0, m, Nat.zero_le _, rfl, rfl, hm0, by omega, by simp, Dg.zeros n, fun p _ => by simp [List.getD_eq_getElem?_getD, List.getElem?_replicate]; split <;> rfl, by rw [val_zeros]; simp [pv, pw], hown1, hbel⟩
  case round =>
    obtain ⟨k, out, cc, hk, rfl, rfl, hc0, hc1, hol, hdo, hzo, hval, hown, hb⟩ := hrel
    have HB : Hid (Below w.heap.size w wr) := hb
    have HV : Hid (val out + cc * pw k = pv A k * f + m) := hval
    have HD : Hid (Dg out) := hdo
    have HZ : Hid (∀ p, k ≤ p → out.getD p 0 = 0) := hzo
    have HL : Hid (out.length = n) := hol
    clear hval hdo hzo hol hown1 hbel
    have hkn : k < n := by have := HN.out; omega
    by_cases hlt : k < la
    · obtain ⟨p, hp⟩ : ∃ p, p = A.getD k 0 := ⟨_, rfl⟩
      have hdp := DA.out.at k
      rw [← hp] at hdp
      have hstep := scale_step (q := p) (f := f) (by rw [HL.out]; exact hkn) (HZ.out k (Nat.le_refl _)) HV.out
      have hst := hown.stored k (.int .i64 ((p * f + cc) % 65536))
      have hfz := hown.frozenAt k
      have hcell : wr.cell? ⟨w.heap.size, k, none⟩ = some (.int .i64 (out.getD k 0)) := by
        rw [hown.cellAt k (by omega)]
        have hl : k < out.length := by rw [HL.out]; exact hkn
        simp [List.getD_eq_getElem?_getD, List.getElem?_eq_getElem hl]
      obtain ⟨ba, offa, rfl, hba, hca0⟩ := Sl.cells HSA.out (k := k) (by rw [← HLA.out]; exact hlt)
      rw [← hp] at hca0
      have hca : wr.cell? ⟨ba, offa + k, none⟩ = some (.int .i64 p) := (hb.cell (p := ⟨ba, offa + k, none⟩) hba).trans hca0
      have hpq := digProd hdp ⟨hf0, hf1⟩
      obtain ⟨hpq0, hpq1⟩ := hpq
      have HS : Hid (val (out.set k ((p * f + cc) % 65536)) + (p * f + cc) / 65536 * pw (k + 1) = pv A (k + 1) * f + m) := by
        rw [hstep, pv_succ, Int.add_mul, ← hp]
        have : p * pw k * f = p * f * pw k := by rw [Int.mul_assoc, Int.mul_comm (pw k), Int.mul_assoc]
        rw [this, Int.add_right_comm]
        exact rfl
      have HO2 : Hid ((wr.setCell ⟨w.heap.size, k, none⟩ (.int .i64 ((p * f + cc) % 65536))).ownsRow w.heap.size 3 1 (.slice (some ⟨w.heap.size, 0, none⟩) n n) n ((out.set k ((p * f + cc) % 65536)).map (Value.int .i64))) := by
        rw [List.map_set]; exact hst.1
      have hkI : (k : Int) < n := by omega
      clear hstep hst hown hp hca0 hb
      go_wp2
      go_roundw
      case rel => exact ⟨k + 1, out.set k ((p * f + cc) % 65536), (p * f + cc) / 65536, by omega, by go_num, rfl, by omega, by omega, by rw [List.length_set]; exact HL.out, HD.out.set (by omega) (by omega), fun p' hp' => by rw [getD_set (by rw [HL.out]; exact hkn), if_neg (by omega)]; exact HZ.out p' (by omega), HS.out, HO2.out, HB.out.setCell (Nat.le_refl _) _⟩
      case measure => simp [intOf]; omega
    · have hkl : k = la := by omega
      subst hkl
      have hz := HZ.out k (Nat.le_refl _)
      have hst := hown.stored k (.int .i64 cc)
      have hfz := hown.frozenAt k
      have hcell : wr.cell? ⟨w.heap.size, k, none⟩ = some (.int .i64 (out.getD k 0)) := by
        rw [hown.cellAt k (by omega)]
        have hl : k < out.length := by rw [HL.out]; exact hkn
        simp [List.getD_eq_getElem?_getD, List.getElem?_eq_getElem hl]
      have hv : val (out.set k cc) = ((x * f.toNat + m.toNat : Nat) : Int) := by
        rw [val_set _ (by rw [HL.out]; exact hkn), hz, Int.sub_zero, HV.out, HLA.out, pv_val, VA.out]
        push_cast
        rw [Int.toNat_of_nonneg hf0, Int.toNat_of_nonneg hm0]
      have ho1 : OwnI (wr.setCell ⟨w.heap.size, k, none⟩ (.int .i64 cc)) w.heap.size (some ⟨w.heap.size, 0, none⟩) n (out.set k cc) := by
        have h := hst.1
        rw [← List.map_set] at h
        unfold OwnI
        rw [List.length_set, HL.out]
        exact h
      have T := trimmed_any w.heap.size (some ⟨w.heap.size, 0, none⟩) n (out.set k cc) _ ho1 (by rw [List.length_set, HL.out]; omega)
      rw [row_dgs (HD.out.set hc0 (by omega)) hv, List.length_set, HL.out, ← HD0.out] at T
      have HT : Hid _ := T
      have hkI : (k : Int) < n := by omega
      have HB2 : Hid (Below w.heap.size w (wr.setCell ⟨w.heap.size, k, none⟩ (.int .i64 cc))) := HB.out.setCell (Nat.le_refl _) _
      clear T hv ho1 hst hown hb hz
      go_wp2_with fail
      refine Calls.mono HT.out ?_
      rintro e w4 ⟨rfl, ho, hw⟩
      subst hw
      go_wp2
      go_ret
      exact ⟨_, _, rfl, ho, HB2.out⟩
end Go.Proofs.YthkdgihkkangfaaDoor
