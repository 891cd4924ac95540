/- The answer of an operation on two numbers, as spec and impl give it: the digits of the number, if there is one and it fits. The contract of impl.isNatText: the form of a number's text; it leaves the world as it is. The contract of impl.digits.scaled: the digits of a number times a factor of one digit, and a little more. The contract of impl.digitsOfText: the digits of the number that decimals come to. The contracts of spec.NatRead and impl.NatRead: the digits of the number that a text has, if it has the form of one and it fits. -/
import Derived.Test.YthokphoojmpajahDoorProg
import Derived.Test.YthokphoojmpajahDoorGTxt
import Derived.Test.YthokphoojmpajahDoorBase
import Derived.WalkKit
import Derived.Outline
import Derived.WalkSpells
import Derived.Test.YthokphoojmpajahDoorGAr
import Derived.Test.YthokphoojmpajahDoorGNum
import Derived.Deep.LoopGhost
import Derived.Test.YthokphoojmpajahDoorDivSpec
import Derived.Deep.RegionWith
import Derived.Deep.DrawnRows
namespace Go.Proofs.YthokphoojmpajahDoor
open Go.RowKit Go.Proofs.Pin

/-- The number's digits if it has at most 256 of them; else nothing. -/
def ansL (r : Option Nat) : List Int := match r with | some n => fitL (dgs n) | none => []
def ansB (r : Option Nat) : Bool := match r with | some n => fitB (dgs n) | none => false
/-- The operation on what NatOk lets by; nothing at anything else. -/
def op2 (f : Nat → Nat → Option Nat) (xs ys : List Int) : Option Nat := if okB xs = true then (if okB ys = true then f (val xs).toNat (val ys).toNat else none) else none
theorem ansL_len (r : Option Nat) : (ansL r).length ≤ 256 := by
  unfold ansL
  cases r with
  | none => simp
  | some n =>
    show (fitL (dgs n)).length ≤ 256
    unfold fitL
    split
    · assumption
    · simp
theorem op2_no1 {f : Nat → Nat → Option Nat} {xs ys : List Int} (h : okB xs = false) : op2 f xs ys = none := by simp [op2, h]
theorem op2_no2 {f : Nat → Nat → Option Nat} {xs ys : List Int} (h : okB ys = false) : op2 f xs ys = none := by simp [op2, h]
theorem op2_yes {f : Nat → Nat → Option Nat} {x y : Nat} (hx : (dgs x).length ≤ 256) (hy : (dgs y).length ≤ 256) : op2 f (dgs x) (dgs y) = f x y := by
  simp [op2, dgs_ok hx, dgs_ok hy, val_dgs]

theorem fit_yes {zs : List Int} (h : zs.length ≤ 256) : fitL zs = zs ∧ fitB zs = true := ⟨by simp [fitL, h], by simp [fitB, h]⟩

/-- What a function of two lists of digits that answers a list and a bool is said to do. -/
def Op2 (F : Nat) (f : Nat → Nat → Option Nat) : Prop := ∀ (a b : Option Addr) (ca cb : Nat) (xs ys : List Int) (w : World), Sl w a xs → Sl w b ys → xs.length ≤ 1048576 → ys.length ≤ 1048576 →
  Calls Tryd.prog F #[.slice a xs.length ca, .slice b ys.length cb] w fun e w' => ∃ r cr, e = .returned (.tuple #[.slice r (ansL (op2 f xs ys)).length cr, .bool (ansB (op2 f xs ys))]) ∧ OwnI w' w.heap.size r cr (ansL (op2 f xs ys)) ∧ Below w.heap.size w w'
end Go.Proofs.YthokphoojmpajahDoor

namespace Go.Proofs.YthokphoojmpajahDoor
open Go.RowKit Go.Proofs.Pin

set_option maxRecDepth 20000 in
set_option maxHeartbeats 1600000 in
theorem isText_any (s : ByteArray) (w : World) (hs : s.size ≤ 1048576) :
    Calls Tryd.prog 71 #[.string s] w fun e w' => e = .returned (.bool (natText s)) ∧ w' = w := by
  by_cases h0 : s.size = 0
  · have hE := eqE s
    rw [h0] at hE
    simp only [decide_true] at hE
    rw [natText_no0 h0]
    go_enter Tryd.func71, Tryd.ntmps71
    go_wp2
    go_ret
    exact ⟨rfl, rfl⟩
  · have hE : (s.toList == []) = false := by rw [eqE]; simpa using h0
    have hpos : 0 < s.size := by omega
    have hc0 : s[0].toNat = ch s 0 := ch_eq hpos
    have h48 := eq48 s
    have hcase : (1 < s.size ∧ ch s 0 = 48) ∨ (s.size = 1 ∨ ch s 0 ≠ 48) := by omega
    rcases hcase with ⟨h1, h2⟩ | h12
    · have hn : (s.toList == [48]) = false := by rw [h48]; simp; omega
      rw [natText_no1 h1 h2]
      rw [h2] at hc0
      clear h48 h2 h0
      go_enter Tryd.func71, Tryd.ntmps71
      go_wp2
      go_ret
      exact ⟨rfl, rfl⟩
    · have H12 : Hid (s.size = 1 ∨ ch s 0 ≠ 48) := h12
      have hcase2 : ((ch s 0 : Int) == 48) = false ∨ (((ch s 0 : Int) == 48) = true ∧ (s.toList == [48]) = true) := by
        by_cases h : ch s 0 = 48
        · right
          refine ⟨by rw [h]; rfl, ?_⟩
          rw [h48]
          simp
          omega
        · left
          rw [beq_eq_false_iff_ne]
          omega
      obtain ⟨c, hc⟩ : ∃ c, c = ch s 0 := ⟨_, rfl⟩
      rw [← hc] at hc0 hcase2
      obtain ⟨n, hn⟩ : ∃ n, n = s.size := ⟨_, rfl⟩
      have HN : Hid (n = s.size) := hn
      clear h48 h0 h12 hc
      rcases hcase2 with hb | ⟨hb, hb2⟩
      all_goals
        go_enter Tryd.func71, Tryd.ntmps71
        go_wp2
        go_loop [17] (fun i => ∃ k : Nat, k ≤ s.size ∧ i = .int .i64 k ∧ DecsTo s k) (fun i => s.size - (intOf i).toNat)
        case atStart => exact ⟨0, Nat.zero_le _, rfl, DecsTo.zero s⟩
        case round =>
          obtain ⟨k, hk, rfl, hd⟩ := hrel
          have HD : Hid (DecsTo s k) := hd
          clear hd
          by_cases hlt : k < s.size
          · have hck : s[k].toNat = ch s k := ch_eq hlt
            have hb3 := ch_lt s k
            obtain ⟨d, hde⟩ : ∃ d, d = ch s k := ⟨_, rfl⟩
            have HE : Hid (d = ch s k) := hde
            rw [← hde] at hck hb3
            clear hde
            by_cases hg : (48 : Int) ≤ (d : Int) ∧ (d : Int) ≤ 57
            · obtain ⟨g1, g2⟩ := hg
              go_wp2
              go_round
              case rel => exact ⟨k + 1, by omega, by go_num, HD.out.step (by rw [← HE.out]; omega) (by rw [← HE.out]; omega)⟩
              case measure => simp [intOf]; omega
            · have hf : natText s = false := natText_no2 hlt (by rw [← HE.out]; omega)
              have hg2 : (d : Int) < 48 ∨ (48 ≤ (d : Int) ∧ 57 < (d : Int)) := by omega
              have HF : Hid (natText s = false) := hf
              clear hf hg
              rcases hg2 with g1 | ⟨g1, g2⟩
              · go_wp2
                go_ret
                exact ⟨ret_bool HF.out.symm, rfl⟩
              · go_wp2
                go_ret
                exact ⟨ret_bool HF.out.symm, rfl⟩
          · have hkn : k = s.size := by omega
            have hf : natText s = true := natText_of hpos H12.out (by rw [← hkn]; exact HD.out)
            have HF : Hid (natText s = true) := hf
            clear hf
            go_wp2
            go_ret
            exact ⟨ret_bool HF.out.symm, rfl⟩
end Go.Proofs.YthokphoojmpajahDoor

namespace Go.Proofs.YthokphoojmpajahDoor
open Go.RowKit Go.Proofs.Pin

theorem scale_step {out : List Int} {k : Nat} {f q c V : Int} (hk : k < out.length) (hz : out.getD k 0 = 0) (h : val out + c * pw k = V) :
    val (out.set k ((q * f + c) % 65536)) + (q * f + c) / 65536 * pw (k + 1) = V + q * f * pw k := by
  rw [val_set _ hk, pw_succ, hz, ← h, Int.sub_zero]
  have h1 := Int.mul_ediv_add_emod (q * f + c) 65536
  generalize (q * f + c) % 65536 = r at h1 ⊢
  generalize (q * f + c) / 65536 = s at h1 ⊢
  generalize pw k = P at h1 ⊢
  have h2 : r * P + s * (P * 65536) = (65536 * s + r) * P := by rw [Int.add_mul]; simp only [Int.mul_comm, Int.mul_left_comm]; rw [Int.add_comm]
  rw [Int.add_assoc, h2, h1, Int.add_mul]
  omega

set_option maxRecDepth 20000 in
set_option maxHeartbeats 1600000 in
theorem scaled_any (a : Option Addr) (ca : Nat) (x : Nat) (f m : Int) (w : World) (ha : Sl w a (dgs x)) (hx : (dgs x).length ≤ 30000) (hf0 : 0 ≤ f) (hf1 : f < 65536) (hm0 : 0 ≤ m) (hm1 : m < 65536) :
    Calls Tryd.prog 60 #[.slice a (dgs x).length ca, .int .i64 f, .int .i64 m] w fun e w' => ∃ r cr, e = .returned (.slice r (dgs (x * f.toNat + m.toNat)).length cr) ∧ OwnI w' w.heap.size r cr (dgs (x * f.toNat + m.toNat)) ∧ Below w.heap.size w w' := by
  obtain ⟨i0, hi, hz0, hz1, hz2⟩ := info_parts Tryd.info3
  obtain ⟨A, hA⟩ : ∃ A, A = dgs x := ⟨_, rfl⟩
  have DA : Hid (Dg A) := by rw [hA]; exact Dg_dgs x
  have VA : Hid (val A = x) := by rw [hA]; exact val_dgs x
  rw [← hA] at ha hx ⊢
  have HSA : Hid (Sl w a A) := ha
  obtain ⟨la, hla⟩ : ∃ la, la = A.length := ⟨_, rfl⟩
  have HLA : Hid (la = A.length) := hla
  rw [← hla] at hx ⊢
  obtain ⟨n, hn⟩ : ∃ n, n = la + 1 := ⟨_, rfl⟩
  have hn2 : n ≤ 60000 := by omega
  have HN : Hid (n = la + 1) := hn
  obtain ⟨D, hD⟩ : ∃ D, D = dgs (x * f.toNat + m.toNat) := ⟨_, rfl⟩
  have HD0 : Hid (D = dgs (x * f.toNat + m.toNat)) := hD
  rw [← hD]
  have hnI : (n : Int) = la + 1 := by omega
  clear hA hla ha hn hD
  go_enter Tryd.func60, Tryd.ntmps60
  go_wp2_with (at_make; refine wpList_make_full _ rfl _ _ 42 rfl w.heap.size 3 i0 (.int .i64 0) 1 Tryd.underlying42 hi hz0 hz1 _ _ _ _ n rfl rfl (by have := HN.out; omega) (by have := HN.out; omega) (by rw [hz2]; omega) (by unfold maxLen; omega) (Nat.le_refl _) ?_; intro w1 hown hgrow)
  have hrow := make_row hown
  have hbel : Below w.heap.size w w1 := (Below.refl _ _).grown hgrow (Nat.le_refl _) (fun k hk => by cases hk)
  have hl0 : (List.replicate n (0 : Int)).length = n := by simp
  have hown1 : w1.ownsRow w.heap.size 3 1 (.slice (some ⟨w.heap.size, 0, none⟩) n n) n ((List.replicate n (0 : Int)).map (Value.int .i64)) := by
    have h := own_of_block (base := w.heap.size) (zs := List.replicate n (0 : Int)) (g := w.heap.size) (w := w1) (by rw [List.map_replicate]; exact hrow) (Nat.le_refl _) (by rw [hl0]; unfold maxLen; omega)
    unfold OwnI at h
    rw [hl0] at h
    exact h
  clear hown hgrow hrow hl0
  go_loopw [8, 19] (fun c j wr => ∃ (k : Nat) (out : List Int) (cc : Int), k ≤ la ∧ j = .int .i64 k ∧ c = .int .i64 cc ∧ 0 ≤ cc ∧ cc ≤ 65535 ∧ out.length = n ∧ Dg out ∧ (∀ p, k ≤ p → out.getD p 0 = 0) ∧ val out + cc * pw k = pv A k * f + m ∧ wr.ownsRow w.heap.size 3 1 (.slice (some ⟨w.heap.size, 0, none⟩) n n) n (out.map (Value.int .i64)) ∧ Below w.heap.size w wr) (fun _ j _ => la - (intOf j).toNat)
  case atStart => exact ⟨0, List.replicate n 0, m, Nat.zero_le _, rfl, rfl, hm0, by omega, by simp, Dg.zeros n, fun p _ => by simp [List.getD_eq_getElem?_getD, List.getElem?_replicate]; split <;> rfl, by rw [val_zeros]; simp [pv, pw], hown1, hbel⟩
  case round =>
    obtain ⟨k, out, cc, hk, rfl, rfl, hc0, hc1, hol, hdo, hzo, hval, hown, hb⟩ := hrel
    have HB : Hid (Below w.heap.size w wr) := hb
    have HV : Hid (val out + cc * pw k = pv A k * f + m) := hval
    have HD : Hid (Dg out) := hdo
    have HZ : Hid (∀ p, k ≤ p → out.getD p 0 = 0) := hzo
    have HL : Hid (out.length = n) := hol
    clear hval hdo hzo hol hown1 hbel
    have hkn : k < n := by have := HN.out; omega
    by_cases hlt : k < la
    · obtain ⟨p, hp⟩ : ∃ p, p = A.getD k 0 := ⟨_, rfl⟩
      have hdp := DA.out.at k
      rw [← hp] at hdp
      have hstep := scale_step (q := p) (f := f) (by rw [HL.out]; exact hkn) (HZ.out k (Nat.le_refl _)) HV.out
      have hst := hown.stored k (.int .i64 ((p * f + cc) % 65536))
      have hfz := hown.frozenAt k
      have hcell : wr.cell? ⟨w.heap.size, k, none⟩ = some (.int .i64 (out.getD k 0)) := by
        rw [hown.cellAt k (by omega)]
        have hl : k < out.length := by rw [HL.out]; exact hkn
        simp [List.getD_eq_getElem?_getD, List.getElem?_eq_getElem hl]
      obtain ⟨ba, offa, rfl, hba, hca0⟩ := Sl.cells HSA.out (k := k) (by rw [← HLA.out]; exact hlt)
      rw [← hp] at hca0
      have hca : wr.cell? ⟨ba, offa + k, none⟩ = some (.int .i64 p) := (hb.cell (p := ⟨ba, offa + k, none⟩) hba).trans hca0
      have hpq := digProd hdp ⟨hf0, hf1⟩
      obtain ⟨hpq0, hpq1⟩ := hpq
      have HS : Hid (val (out.set k ((p * f + cc) % 65536)) + (p * f + cc) / 65536 * pw (k + 1) = pv A (k + 1) * f + m) := by
        rw [hstep, pv_succ, Int.add_mul, ← hp]
        have : p * pw k * f = p * f * pw k := by rw [Int.mul_assoc, Int.mul_comm (pw k), Int.mul_assoc]
        rw [this, Int.add_right_comm]
        exact rfl
      have HO2 : Hid ((wr.setCell ⟨w.heap.size, k, none⟩ (.int .i64 ((p * f + cc) % 65536))).ownsRow w.heap.size 3 1 (.slice (some ⟨w.heap.size, 0, none⟩) n n) n ((out.set k ((p * f + cc) % 65536)).map (Value.int .i64))) := by
        rw [List.map_set]; exact hst.1
      have hkI : (k : Int) < n := by omega
      clear hstep hst hown hp hca0 hb
      go_wp2
      go_roundw
      case rel => exact ⟨k + 1, out.set k ((p * f + cc) % 65536), (p * f + cc) / 65536, by omega, by go_num, rfl, by omega, by omega, by rw [List.length_set]; exact HL.out, HD.out.set (by omega) (by omega), fun p' hp' => by rw [getD_set (by rw [HL.out]; exact hkn), if_neg (by omega)]; exact HZ.out p' (by omega), HS.out, HO2.out, HB.out.setCell (Nat.le_refl _) _⟩
      case measure => simp [intOf]; omega
    · have hkl : k = la := by omega
      subst hkl
      have hz := HZ.out k (Nat.le_refl _)
      have hst := hown.stored k (.int .i64 cc)
      have hfz := hown.frozenAt k
      have hcell : wr.cell? ⟨w.heap.size, k, none⟩ = some (.int .i64 (out.getD k 0)) := by
        rw [hown.cellAt k (by omega)]
        have hl : k < out.length := by rw [HL.out]; exact hkn
        simp [List.getD_eq_getElem?_getD, List.getElem?_eq_getElem hl]
      have hv : val (out.set k cc) = ((x * f.toNat + m.toNat : Nat) : Int) := by
        rw [val_set _ (by rw [HL.out]; exact hkn), hz, Int.sub_zero, HV.out, HLA.out, pv_val, VA.out]
        push_cast
        rw [Int.toNat_of_nonneg hf0, Int.toNat_of_nonneg hm0]
      have ho1 : OwnI (wr.setCell ⟨w.heap.size, k, none⟩ (.int .i64 cc)) w.heap.size (some ⟨w.heap.size, 0, none⟩) n (out.set k cc) := by
        have h := hst.1
        rw [← List.map_set] at h
        unfold OwnI
        rw [List.length_set, HL.out]
        exact h
      have T := trimmed_any w.heap.size (some ⟨w.heap.size, 0, none⟩) n (out.set k cc) _ ho1 (by rw [List.length_set, HL.out]; omega)
      rw [row_dgs (HD.out.set hc0 (by omega)) hv, List.length_set, HL.out, ← HD0.out] at T
      have HT : Hid _ := T
      have hkI : (k : Int) < n := by omega
      have HB2 : Hid (Below w.heap.size w (wr.setCell ⟨w.heap.size, k, none⟩ (.int .i64 cc))) := HB.out.setCell (Nat.le_refl _) _
      clear T hv ho1 hst hown hb hz
      go_wp2_with fail
      refine Calls.mono HT.out ?_
      rintro e w4 ⟨rfl, ho, hw⟩
      subst hw
      go_wp2
      go_ret
      exact ⟨_, _, rfl, ho, HB2.out⟩
end Go.Proofs.YthokphoojmpajahDoor

namespace Go.Proofs.YthokphoojmpajahDoor
open Go.RowKit Go.Proofs.Pin

theorem num_len {s : ByteArray} {k n : Nat} (h : DecsTo s n) (hk : k ≤ n) : (dgs (num s k)).length ≤ k := by
  rw [dgs_len_iff]
  exact Nat.lt_of_lt_of_le (num_lt (fun i hi => h i (by omega))) (Nat.pow_le_pow_left (by decide) k)
theorem seg_same {s T : ByteArray} {k : Nat} : ∀ j, (∀ i, i < j → ch T i = ch s (k + i)) → seg T 0 j = seg s k j
  | 0, _ => rfl
  | j + 1, h => by
    simp only [seg]
    rw [seg_same j (fun i hi => h i (by omega)), Nat.zero_add, h j (by omega)]
theorem seg_bd {T : ByteArray} {j : Nat} (h : ∀ i, i < j → ch T i ≤ 57) : seg T 0 j < 10 ^ j := by
  induction j with
  | zero => simp [seg]
  | succ j ih =>
    have h1 := ih (fun i hi => h i (by omega))
    have h2 := h j (by omega)
    simp only [seg, Nat.zero_add]
    rw [Nat.pow_succ]
    omega
theorem size_ext (T : ByteArray) (a : Nat) : (T.extract a T.size).size = T.size - a := by simp
theorem ch_ext {T : ByteArray} {a i : Nat} (h : i < T.size - a) : ch (T.extract a T.size) i = ch T (a + i) := by
  have h1 : i < (T.extract a T.size).size := by rw [size_ext]; exact h
  rw [← ch_eq h1, ← ch_eq (show a + i < T.size by omega)]
  congr 1
  exact ByteArray.getElem_extract h1
theorem pow_bd {j : Nat} (h : j ≤ 4) : 10 ^ j ≤ 10000 := Nat.pow_le_pow_right (n := 10) (by decide) h
theorem pow_bd3 {j : Nat} (h : j < 4) : 10 ^ j ≤ 1000 := Nat.pow_le_pow_right (n := 10) (by decide) (show j ≤ 3 by omega)

set_option maxRecDepth 20000 in
set_option maxHeartbeats 3200000 in
theorem digText_any (s : ByteArray) (w : World) (hs : s.size ≤ 1300) (hd : DecsTo s s.size) :
    Calls Tryd.prog 72 #[.string s] w fun e w' => ∃ r cr, e = .returned (.slice r (dgs (num s s.size)).length cr) ∧ OwnI w' w.heap.size r cr (dgs (num s s.size)) ∧ Below w.heap.size w w' := by
  have HD : Hid (DecsTo s s.size) := hd
  obtain ⟨n, hn⟩ : ∃ n, n = s.size := ⟨_, rfl⟩
  have HN : Hid (n = s.size) := hn
  have H0 : Hid (∃ (T : ByteArray) (k : Nat) (r : Option Addr) (cr : Nat), Value.string s = .string T ∧ Value.slice none 0 0 = .slice r (dgs (num s k)).length cr ∧ T.size = n ∧ k + n = n ∧ (∀ i, i < n → ch T i = ch s (k + i)) ∧ OwnI w w.heap.size r cr (dgs (num s k)) ∧ Below w.heap.size w w) := ⟨s, 0, none, 0, rfl, rfl, hn.symm, by omega, fun i _ => by rw [Nat.zero_add], OwnI.nil _ _, Below.refl _ _⟩
  rw [← hn] at hs ⊢
  obtain ⟨R, hR⟩ : ∃ R, R = dgs (num s n) := ⟨_, rfl⟩
  have HR : Hid (R = dgs (num s n)) := hR
  rw [← hR]
  clear hd hn hR
  go_enter Tryd.func72, Tryd.ntmps72
  go_wp2
  go_loopg [0, 3] n (fun m t d wr => ∃ (T : ByteArray) (k : Nat) (r : Option Addr) (cr : Nat), t = .string T ∧ d = .slice r (dgs (num s k)).length cr ∧ T.size = m ∧ k + m = n ∧ (∀ i, i < m → ch T i = ch s (k + i)) ∧ OwnI wr w.heap.size r cr (dgs (num s k)) ∧ Below w.heap.size w wr)
  case atStart => exact H0.out
  case round =>
    obtain ⟨T, k, r, cr, rfl, rfl, rfl, hkm, hch, ho, hb⟩ := hrel
    clear H0
    have hxl := num_len (s := s) (k := k) (n := n) (by rw [HN.out]; exact HD.out) (by omega)
    by_cases h0 : T.size = 0
    · have hkn : k = n := by omega
      have HO : Hid (OwnI wr w.heap.size r cr (dgs (num s k)) ∧ Below w.heap.size w wr ∧ R = dgs (num s k)) := ⟨ho, hb, by rw [HR.out, hkn]⟩
      obtain ⟨U, hU⟩ : ∃ U, U = dgs (num s k) := ⟨_, rfl⟩
      rw [← hU] at HO ⊢
      have hT0 : ¬ (0 : Int) < (T.size : Int) := by omega
      clear hU ho hb hch hxl hkm hkn
      go_wp2
      go_ret
      rw [HO.out.2.2]
      exact ⟨r, cr, rfl, HO.out.1, HO.out.2.1⟩
    · have hT1 : (0 : Int) < (T.size : Int) := by omega
      have HC : Hid (∀ i, i < T.size → ch T i = ch s (k + i)) := hch
      have HC2 : Hid (∀ i, i < T.size → 48 ≤ ch T i ∧ ch T i ≤ 57) := fun i hi => by rw [hch i hi]; exact HD.out _ (by rw [← HN.out]; omega)
      have CS : Hid (∀ q : Nat, q ≤ 4 → q ≤ T.size → Calls Tryd.prog 60 #[.slice r (dgs (num s k)).length cr, .int .i64 ((10 ^ q : Nat) : Int), .int .i64 ((seg T 0 q : Nat) : Int)] wr fun e w' => ∃ r2 c2, e = .returned (.slice r2 (dgs (num s (k + q))).length c2) ∧ OwnI w' w.heap.size r2 c2 (dgs (num s (k + q))) ∧ Below w.heap.size w w') := fun q hq hqm => by
        have hsb := seg_bd (T := T) (j := q) (fun i hi => (HC2.out i (by omega)).2)
        have hp := pow_bd hq
        have h := scaled_any r cr (num s k) ((10 ^ q : Nat) : Int) ((seg T 0 q : Nat) : Int) wr ho.sl (by omega) (by omega) (by omega) (by omega) (by omega)
        rw [Int.toNat_natCast, Int.toNat_natCast, seg_same q (fun i hi => HC.out i (by omega)), ← num_seg] at h
        rw [seg_same q (fun i hi => HC.out i (by omega))]
        exact h.mono fun e w' ⟨r2, c2, h1, h2, h3⟩ => ⟨r2, c2, h1, h2.mono hb.size, hb.trans (h3.mono hb.size)⟩
      obtain ⟨U, hU⟩ : ∃ U, U = dgs (num s k) := ⟨_, rfl⟩
      rw [← hU] at CS hxl ⊢
      have HK : Hid (k + T.size = n) := hkm
      clear hU ho hb hch h0 hkm
      by_cases h4 : (T.size : Int) < 4
      · have hm4 : T.size ≤ 4 := by omega
        go_wp2
        go_loop [5, 6, 15] (fun c p i => ∃ j : Nat, j ≤ T.size ∧ i = .int .i64 (j : Int) ∧ c = .int .i64 ((seg T 0 j : Nat) : Int) ∧ p = .int .i64 ((10 ^ j : Nat) : Int)) (fun _ _ i => T.size - (intOf i).toNat)
        case atStart => exact ⟨0, Nat.zero_le _, rfl, rfl, rfl⟩
        case round =>
          obtain ⟨j, hj, rfl, rfl, rfl⟩ := hrel
          by_cases hlt : j < T.size
          · have hjT : j < T.size := by omega
            have hltI : (j : Int) < (T.size : Int) := by omega
            have hck : T[j].toNat = ch T j := ch_eq hjT
            obtain ⟨d0, d1⟩ := HC2.out j (by omega)
            have hsb := seg_bd (T := T) (j := j) (fun i hi => (HC2.out i (by omega)).2)
            have hpb := pow_bd3 (j := j) (by omega)
            have HS : Hid (seg T 0 (j + 1) = seg T 0 j * 10 + (ch T j - 48) ∧ 10 ^ (j + 1) = 10 ^ j * 10) := ⟨by simp [seg], Nat.pow_succ _ _⟩
            obtain ⟨c, hc⟩ : ∃ c, c = ch T j := ⟨_, rfl⟩
            obtain ⟨g, hg⟩ : ∃ g, g = seg T 0 j := ⟨_, rfl⟩
            obtain ⟨p, hp⟩ : ∃ p : Nat, p = 10 ^ j := ⟨_, rfl⟩
            rw [← hc] at HS d0 d1 hck
            rw [← hg, ← hp] at HS hsb
            rw [← hp] at hpb
            rw [← hg, ← hp]
            have d0I : (48 : Int) ≤ (c : Int) := by omega
            have d1I : (c : Int) ≤ 57 := by omega
            have gI : (g : Int) < 1000 := by omega
            have pI : (p : Int) ≤ 1000 := by omega
            clear hc hg hp
            go_wp2
            go_round
            case rel => exact ⟨j + 1, by omega, by go_num, by rw [HS.out.1]; congr 1; omega, by rw [HS.out.2]; congr 1⟩
            case measure => simp [intOf]; omega
          · have hjq : j = T.size := by omega
            subst hjq
            have C1 : Hid _ := CS.out T.size (by omega) (by omega)
            have HP : Hid (((10 ^ T.size : Nat) : Int) ≤ 10000) := by have := pow_bd (j := T.size) (by omega); show _ ≤ _; omega
            obtain ⟨p, hp⟩ : ∃ p : Nat, p = 10 ^ T.size := ⟨_, rfl⟩
            obtain ⟨g, hg⟩ : ∃ g, g = seg T 0 T.size := ⟨_, rfl⟩
            rw [← hp, ← hg] at C1 ⊢
            clear CS hp hg HP
            obtain ⟨V, hV⟩ : ∃ V, V = dgs (num s (k + T.size)) := ⟨_, rfl⟩
            rw [← hV] at C1
            have HV : Hid (V = dgs (num s (k + T.size))) := hV
            clear hV
            go_wp2_with fail
            refine Calls.mono C1.out ?_
            rintro e w2 ⟨r2, c2, rfl, o2, b2⟩
            have HO : Hid (OwnI w2 w.heap.size r2 c2 V ∧ Below w.heap.size w w2) := ⟨o2, b2⟩
            clear o2 b2 C1
            go_wp2
            go_roundg 0
            case measure => omega
            case rel =>
              refine ⟨ByteArray.empty, k + T.size, r2, c2, rfl, by rw [HV.out], rfl, by have := HK.out; omega, fun i hi => by omega, by rw [← HV.out]; exact HO.out.1, HO.out.2⟩
      · have h4' : (4 : Int) ≤ (T.size : Int) := by omega
        go_wp2
        go_loop [5, 6, 15] (fun c p i => ∃ j : Nat, j ≤ 4 ∧ i = .int .i64 (j : Int) ∧ c = .int .i64 ((seg T 0 j : Nat) : Int) ∧ p = .int .i64 ((10 ^ j : Nat) : Int)) (fun _ _ i => 4 - (intOf i).toNat)
        case atStart => exact ⟨0, Nat.zero_le _, rfl, rfl, rfl⟩
        case round =>
          obtain ⟨j, hj, rfl, rfl, rfl⟩ := hrel
          by_cases hlt : j < 4
          · have hjT : j < T.size := by omega
            have hltI : (j : Int) < 4 := by omega
            have hck : T[j].toNat = ch T j := ch_eq hjT
            obtain ⟨d0, d1⟩ := HC2.out j (by omega)
            have hsb := seg_bd (T := T) (j := j) (fun i hi => (HC2.out i (by omega)).2)
            have hpb := pow_bd3 (j := j) (by omega)
            have HS : Hid (seg T 0 (j + 1) = seg T 0 j * 10 + (ch T j - 48) ∧ 10 ^ (j + 1) = 10 ^ j * 10) := ⟨by simp [seg], Nat.pow_succ _ _⟩
            obtain ⟨c, hc⟩ : ∃ c, c = ch T j := ⟨_, rfl⟩
            obtain ⟨g, hg⟩ : ∃ g, g = seg T 0 j := ⟨_, rfl⟩
            obtain ⟨p, hp⟩ : ∃ p : Nat, p = 10 ^ j := ⟨_, rfl⟩
            rw [← hc] at HS d0 d1 hck
            rw [← hg, ← hp] at HS hsb
            rw [← hp] at hpb
            rw [← hg, ← hp]
            have d0I : (48 : Int) ≤ (c : Int) := by omega
            have d1I : (c : Int) ≤ 57 := by omega
            have gI : (g : Int) < 1000 := by omega
            have pI : (p : Int) ≤ 1000 := by omega
            clear hc hg hp
            go_wp2
            go_round
            case rel => exact ⟨j + 1, by omega, by go_num, by rw [HS.out.1]; congr 1; omega, by rw [HS.out.2]; congr 1⟩
            case measure => simp [intOf]; omega
          · have hjq : j = 4 := by omega
            subst hjq
            have C1 : Hid _ := CS.out 4 (by omega) (by omega)
            have HP : Hid (((10 ^ 4 : Nat) : Int) ≤ 10000) := by have := pow_bd (j := 4) (by omega); show _ ≤ _; omega
            obtain ⟨p, hp⟩ : ∃ p : Nat, p = 10 ^ 4 := ⟨_, rfl⟩
            obtain ⟨g, hg⟩ : ∃ g, g = seg T 0 4 := ⟨_, rfl⟩
            rw [← hp, ← hg] at C1 ⊢
            clear CS hp hg HP
            obtain ⟨V, hV⟩ : ∃ V, V = dgs (num s (k + 4)) := ⟨_, rfl⟩
            rw [← hV] at C1
            have HV : Hid (V = dgs (num s (k + 4))) := hV
            clear hV
            go_wp2_with fail
            refine Calls.mono C1.out ?_
            rintro e w2 ⟨r2, c2, rfl, o2, b2⟩
            have HO : Hid (OwnI w2 w.heap.size r2 c2 V ∧ Below w.heap.size w w2) := ⟨o2, b2⟩
            clear o2 b2 C1
            go_wp2
            go_roundg (T.size - 4)
            case measure => omega
            case rel =>
              refine ⟨T.extract 4 T.size, k + 4, r2, c2, rfl, by rw [HV.out], size_ext T 4, by have := HK.out; omega, fun i hi => by rw [ch_ext (by omega), HC.out (4 + i) (by omega), ← Nat.add_assoc], by rw [← HV.out]; exact HO.out.1, HO.out.2⟩
end Go.Proofs.YthokphoojmpajahDoor

namespace Go.Proofs.YthokphoojmpajahDoor
open Go.RowKit Go.Proofs.Pin
attribute [local go_sem ↓] Go.wp_at_zero Go.wp_at_succ

def readO (s : ByteArray) : Option Nat := if s.size ≤ 1300 then (if natText s = true then some (num s s.size) else none) else none
theorem readO_no1 {s : ByteArray} (h : ¬ s.size ≤ 1300) : readO s = none := by simp [readO, h]
theorem readO_no2 {s : ByteArray} (h : natText s = false) : readO s = none := by simp [readO, h]
theorem readO_yes {s : ByteArray} (h : s.size ≤ 1300) (h1 : natText s = true) : readO s = some (num s s.size) := by simp [readO, h, h1]

theorem wrap_dec {d : Nat} (h0 : 48 ≤ d) (h1 : d ≤ 57) : IntKind.u64.wrap (IntKind.u8.wrap ((d : Int) - 48)) = (d : Int) - 48 := by
  have e1 : IntKind.u8.wrap ((d : Int) - 48) = (d : Int) - 48 := by
    simp [IntKind.wrap, IntKind.bits, IntKind.signed]
    omega
  rw [e1]
  simp [IntKind.wrap, IntKind.bits, IntKind.signed]
  omega
theorem num10_len {s : ByteArray} {k : Nat} (hd : DecsTo s k) : (dgs (num s k * 10)).length ≤ k + 1 := by
  have h3 := num_lt hd
  rw [dgs_len_iff, Nat.pow_succ]
  have h4 : 10 ^ k ≤ 65536 ^ k := Nat.pow_le_pow_left (by decide) k
  omega
/-- What a function that reads a text is said to do. -/
def ReadOp (F : Nat) : Prop := ∀ (s : ByteArray) (w : World), s.size ≤ 1048576 →
  Calls Tryd.prog F #[.string s] w fun e w' => ∃ r cr, e = .returned (.tuple #[.slice r (ansL (readO s)).length cr, .bool (ansB (readO s))]) ∧ OwnI w' w.heap.size r cr (ansL (readO s)) ∧ Below w.heap.size w w'

set_option maxRecDepth 20000 in
set_option maxHeartbeats 800000 in
theorem implRead_op : ReadOp 51 := by
  intro s w hs
  by_cases h1 : (1300 : Int) < (s.size : Int)
  · rw [readO_no1 (by omega)]
    go_enter Tryd.func51, Tryd.ntmps51
    go_wp2
    go_ret2
    exact ⟨none, 0, rfl, OwnI.nil _ _, Below.refl _ _⟩
  · have h1' : ¬ (1300 : Int) < (s.size : Int) := h1
    have hs2 : s.size ≤ 1300 := by omega
    have c1 := (isText_any s w hs).mono (R' := fun e w' => e = .returned (.bool (natText s)) ∧ w = w') fun e w' h => ⟨h.1, h.2.symm⟩
    cases h2 : natText s with
    | false =>
      rw [readO_no2 h2]
      rw [h2] at c1
      have C1 : Hid _ := c1
      clear c1 h2
      go_enter Tryd.func51, Tryd.ntmps51
      go_wp2_with fail
      refine Calls.mono C1.out ?_
      rintro e w' ⟨rfl, rfl⟩
      go_wp2
      go_ret2
      exact ⟨none, 0, rfl, OwnI.nil _ _, Below.refl _ _⟩
    | true =>
      rw [readO_yes hs2 h2]
      rw [h2] at c1
      have C1 : Hid _ := c1
      have C2 : Hid _ := digText_any s w hs2 (natText_decs h2).1
      show Calls _ _ _ _ fun e w' => ∃ r cr, e = .returned (.tuple #[.slice r (fitL (dgs (num s s.size))).length cr, .bool (fitB (dgs (num s s.size)))]) ∧ OwnI w' w.heap.size r cr (fitL (dgs (num s s.size))) ∧ Below w.heap.size w w'
      obtain ⟨D, hD⟩ : ∃ D, D = dgs (num s s.size) := ⟨_, rfl⟩
      rw [← hD] at C2 ⊢
      have C3 : Hid (∀ (w2 : World) (r : Option Addr) (cr : Nat), OwnI w2 w.heap.size r cr D → Calls Tryd.prog 73 #[.slice r D.length cr] w2 fun e w' => ∃ r cr, e = .returned (.tuple #[.slice r (fitL D).length cr, .bool (fitB D)]) ∧ OwnI w' w.heap.size r cr (fitL D) ∧ w2 = w') := fun w2 r cr h => limited_any w.heap.size r cr D w2 h
      obtain ⟨L, hL⟩ : ∃ L, L = fitL D := ⟨_, rfl⟩
      obtain ⟨bb, hbb⟩ : ∃ bb, bb = fitB D := ⟨_, rfl⟩
      rw [← hL, ← hbb] at C3 ⊢
      clear c1 h2 hD hL hbb
      go_enter Tryd.func51, Tryd.ntmps51
      go_wp2_with fail
      refine Calls.mono C1.out ?_
      rintro e w' ⟨rfl, rfl⟩
      go_wp2_with fail
      refine Calls.mono C2.out ?_
      rintro e w2 ⟨r2, c2, rfl, o2, b2⟩
      go_wp2_with fail
      refine Calls.mono (C3.out _ _ _ o2) ?_
      rintro e w3 ⟨r3, c3, rfl, o3, rfl⟩
      go_wp2
      go_ret2
      exact ⟨r3, c3, rfl, o3, b2⟩

set_option maxRecDepth 20000 in
set_option maxHeartbeats 3200000 in
theorem specRead_op : ReadOp 26 := by
  intro s w hs
  by_cases h0 : s.size = 0
  · rw [readO_no2 (natText_no0 h0)]
    have h0b : ((s.size : Int) == 0) = true := by rw [h0]; rfl
    clear h0
    go_enter Tryd.func26, Tryd.ntmps26
    go_wp2
    go_ret2
    exact ⟨none, 0, rfl, OwnI.nil _ _, Below.refl _ _⟩
  have h0b : ((s.size : Int) == 0) = false := by rw [beq_eq_false_iff_ne]; omega
  have hpos : 0 < s.size := by omega
  by_cases h1 : (1300 : Int) < (s.size : Int)
  · rw [readO_no1 (by omega)]
    go_enter Tryd.func26, Tryd.ntmps26
    go_wp2
    go_ret2
    exact ⟨none, 0, rfl, OwnI.nil _ _, Below.refl _ _⟩
  have h1' : ¬ (1300 : Int) < (s.size : Int) := h1
  have hs2 : s.size ≤ 1300 := by omega
  have hc0 : s[0].toNat = ch s 0 := ch_eq hpos
  by_cases h2 : 1 < s.size ∧ ch s 0 = 48
  · rw [readO_no2 (natText_no1 h2.1 h2.2)]
    obtain ⟨g1, g2⟩ := h2
    have g1I : (1 : Int) < (s.size : Int) := by omega
    rw [g2] at hc0
    clear g2 h0
    go_enter Tryd.func26, Tryd.ntmps26
    go_wp2
    go_ret2
    exact ⟨none, 0, rfl, OwnI.nil _ _, Below.refl _ _⟩
  have H12 : Hid (s.size = 1 ∨ ch s 0 ≠ 48) := by show _ ∨ _; omega
  have hcase : ((1 : Int) < (s.size : Int) ∧ ((ch s 0 : Int) == 48) = false) ∨ ¬ (1 : Int) < (s.size : Int) := by
    by_cases h : 1 < s.size
    · left
      refine ⟨by omega, ?_⟩
      rw [beq_eq_false_iff_ne]
      intro e
      exact h2 ⟨h, by omega⟩
    · right; omega
  obtain ⟨c, hc⟩ : ∃ c, c = ch s 0 := ⟨_, rfl⟩
  rw [← hc] at hc0 hcase
  have HY : Hid (DecsTo s s.size → readO s = some (num s s.size)) := fun h => readO_yes hs2 (natText_of hpos H12.out h)
  have HNo : Hid (∀ k, k < s.size → (ch s k < 48 ∨ 57 < ch s k) → readO s = none) := fun k hk h => readO_no2 (natText_no2 hk h)
  obtain ⟨L, hL⟩ : ∃ L, L = ansL (readO s) := ⟨_, rfl⟩
  obtain ⟨bb, hbb⟩ : ∃ bb, bb = ansB (readO s) := ⟨_, rfl⟩
  rw [← hL, ← hbb]
  have HL : Hid (L = ansL (readO s) ∧ bb = ansB (readO s)) := ⟨hL, hbb⟩
  clear hL hbb hc h2 h0
  rcases hcase with ⟨g1, g2⟩ | g1
  all_goals
    go_enter Tryd.func26, Tryd.ntmps26
    go_wp2
    clear hc0 hpos h0b
    go_loopw [4, 5] (fun v i wr => ∃ (k : Nat) (r : Option Addr) (cr : Nat), k ≤ s.size ∧ i = .int .i64 (k : Int) ∧ v = .slice r (dgs (num s k)).length cr ∧ DecsTo s k ∧ OwnI wr w.heap.size r cr (dgs (num s k)) ∧ Below w.heap.size w wr) (fun _ i _ => s.size - (intOf i).toNat)
    case atStart => exact ⟨0, none, 0, Nat.zero_le _, rfl, rfl, DecsTo.zero s, OwnI.nil _ _, Below.refl _ _⟩
    case round =>
      obtain ⟨k, r, cr, hk, rfl, rfl, hd, ho, hb⟩ := hrel
      have hxl := num_len (s := s) (k := k) (n := k) hd (Nat.le_refl _)
      by_cases hlt : k < s.size
      · have hck : s[k].toNat = ch s k := ch_eq hlt
        have hcb := ch_lt s k
        have hltI : (k : Int) < (s.size : Int) := by omega
        by_cases hg : 48 ≤ ch s k ∧ ch s k ≤ 57
        · obtain ⟨g3, g4⟩ := hg
          have C1 : Hid (Calls Tryd.prog 45 #[.slice r (dgs (num s k)).length cr, .int .i64 10] wr.drew fun e w' => ∃ r6 c6, e = .returned (.slice r6 (dgs (num s k * 10)).length c6) ∧ OwnI w' wr.heap.size r6 c6 (dgs (num s k * 10)) ∧ Below wr.heap.size wr w') := by
            have h := l1Times_any r cr (num s k) 10 wr.drew ho.sl (by omega) (by decide)
            exact h.mono fun e w' ⟨r6, c6, q1, q2, q3⟩ => ⟨r6, c6, q1, q2, ⟨q3.os, q3.tape, q3.output, q3.size, q3.block⟩⟩
          have l2 : (dgs (num s k * 10)).length ≤ 1301 := Nat.le_trans (num10_len hd) (by omega)
          have l3 : (dgs (ch s k - 48)).length ≤ 1 := (dgs_len_iff _ 1).2 (by omega)
          have l4 : (dgs (num s (k + 1))).length ≤ 1301 := Nat.le_trans (num_len (s := s) (k := k + 1) (n := k + 1) (hd.step g3 g4) (Nat.le_refl _)) (by omega)
          have C2 : Hid (∀ W, Calls Tryd.prog 46 #[.int .u64 (IntKind.u64.wrap (IntKind.u8.wrap ((ch s k : Int) - 48)))] W fun e w' => ∃ r7 c7, e = .returned (.slice r7 (dgs (ch s k - 48)).length c7) ∧ OwnI w' W.heap.size r7 c7 (dgs (ch s k - 48)) ∧ Below W.heap.size W w') := fun W => by
            have h := specOf_any (ch s k - 48) W (by omega)
            rw [show (((ch s k - 48 : Nat)) : Int) = (ch s k : Int) - 48 by omega] at h
            rw [wrap_dec g3 g4]
            exact h
          have C3 : Hid (∀ W a b ca cb, Sl W a (dgs (num s k * 10)) → Sl W b (dgs (ch s k - 48)) → Calls Tryd.prog 44 #[.slice a (dgs (num s k * 10)).length ca, .slice b (dgs (ch s k - 48)).length cb] W fun e w' => ∃ r8 c8, e = .returned (.slice r8 (dgs (num s (k + 1))).length c8) ∧ OwnI w' W.heap.size r8 c8 (dgs (num s (k + 1))) ∧ Below W.heap.size W w') := fun W a b ca cb h3 h4 => l1Add_any a b ca cb _ _ W h3 h4 (by omega) (by omega)
          have C4 : Hid (∀ W a ca, Sl W a (dgs (num s (k + 1))) → Calls Tryd.prog 43 #[.slice a (dgs (num s (k + 1))).length ca] W fun e w' => ∃ r9 c9, e = .returned (.slice r9 (dgs (num s (k + 1))).length c9) ∧ OwnI w' W.heap.size r9 c9 (dgs (num s (k + 1))) ∧ Below W.heap.size W w') := fun W a ca h3 => trim_same a ca _ W h3 (by omega)
          have HD : Hid (DecsTo s (k + 1) ∧ Below w.heap.size w wr) := ⟨hd.step g3 g4, hb⟩
          obtain ⟨d, hde⟩ : ∃ d, d = ch s k := ⟨_, rfl⟩
          rw [← hde] at hck hcb g3 g4 C2 C3
          obtain ⟨V1, hV1⟩ : ∃ V1, V1 = dgs (num s k * 10) := ⟨_, rfl⟩
          obtain ⟨V2, hV2⟩ : ∃ V2, V2 = dgs (d - 48) := ⟨_, rfl⟩
          obtain ⟨V3, hV3⟩ : ∃ V3, V3 = dgs (num s (k + 1)) := ⟨_, rfl⟩
          obtain ⟨V0, hV0⟩ : ∃ V0, V0 = dgs (num s k) := ⟨_, rfl⟩
          rw [← hV1] at C1 C3
          rw [← hV2] at C2 C3
          rw [← hV3] at C3 C4
          rw [← hV0] at C1 ⊢
          have HV : Hid (V3 = dgs (num s (k + 1))) := hV3
          have g3I : (48 : Int) ≤ (d : Int) := by omega
          have g4I : (d : Int) ≤ 57 := by omega
          clear hde hV1 hV2 hV3 hV0 hd ho hb hxl l2 l3 l4
          go_wp2_with fail
          go_region_with (first | (go_at_call 45; refine Calls.mono C1.out ?_; rintro e w6 ⟨r6, c6, rfl, o6, b6⟩) | (go_at_call 46; refine Calls.mono (C2.out _) ?_; rintro e w7 ⟨r7, c7, rfl, o7, b7⟩; have s67 := (o6.keep b7).sl; have s77 := o7.sl; have b67 := b6.trans (b7.mono b6.size)) | (go_at_call 44; refine Calls.mono (C3.out _ _ _ _ _ s67 s77) ?_; rintro e w8 ⟨r8, c8, rfl, o8, b8⟩; have s88 := o8.sl; have b68 := b67.trans (b8.mono b67.size)) | (go_at_call 43; refine Calls.mono (C4.out _ _ _ s88) ?_; rintro e w9 ⟨r9, c9, rfl, o9, b9⟩; have b69 := b68.trans (b9.mono b68.size); have o99 := o9.mono b68.size))
          all_goals
            have HF : Hid (OwnI w9 w.heap.size r9 c9 V3 ∧ Below w.heap.size w w9) := ⟨o99.mono HD.out.2.size, HD.out.2.trans (b69.mono HD.out.2.size)⟩
            clear o99 b69 b68 b67 b6 b7 b8 b9 o6 o7 o8 o9 s67 s77 s88
            go_wp2
            go_roundw
            case rel => exact ⟨k + 1, r9, c9, by omega, by go_num, by rw [HV.out], HD.out.1, by rw [← HV.out]; exact HF.out.1, HF.out.2⟩
            case measure => simp [intOf]; omega
        · have hno := HNo.out k hlt (by omega)
          have HB : Hid (Below w.heap.size w wr ∧ L = [] ∧ bb = false) := ⟨hb, by rw [HL.out.1, hno]; rfl, by rw [HL.out.2, hno]; rfl⟩
          obtain ⟨d, hde⟩ : ∃ d, d = ch s k := ⟨_, rfl⟩
          rw [← hde] at hck hcb hg
          have hg2 : (d : Int) < 48 ∨ (48 ≤ (d : Int) ∧ 57 < (d : Int)) := by omega
          obtain ⟨V0, hV0⟩ : ∃ V0, V0 = dgs (num s k) := ⟨_, rfl⟩
          rw [← hV0]
          clear hno hb hde hg hd ho hxl hV0
          rcases hg2 with g3 | ⟨g3, g4⟩
          · go_wp2
            go_ret2
            exact ⟨none, 0, by rw [HB.out.2.1, HB.out.2.2]; rfl, by rw [HB.out.2.1]; exact OwnI.nil _ _, HB.out.1⟩
          · go_wp2
            go_ret2
            exact ⟨none, 0, by rw [HB.out.2.1, HB.out.2.2]; rfl, by rw [HB.out.2.1]; exact OwnI.nil _ _, HB.out.1⟩
      · have hkn : k = s.size := by omega
        have hyes := HY.out (by rw [← hkn]; exact hd)
        have HB : Hid (Below w.heap.size w wr ∧ L = fitL (dgs (num s k)) ∧ bb = fitB (dgs (num s k))) := ⟨hb, by rw [HL.out.1, hyes, hkn]; rfl, by rw [HL.out.2, hyes, hkn]; rfl⟩
        have C3 : Hid _ := l1Fits_any w.heap.size r cr (dgs (num s k)) wr ho
        obtain ⟨V0, hV0⟩ : ∃ V0, V0 = dgs (num s k) := ⟨_, rfl⟩
        rw [← hV0] at C3 HB ⊢
        obtain ⟨L0, hL0⟩ : ∃ L0, L0 = fitL V0 := ⟨_, rfl⟩
        obtain ⟨b0, hb0⟩ : ∃ b0, b0 = fitB V0 := ⟨_, rfl⟩
        rw [← hL0, ← hb0] at C3 HB
        have hge : ¬ (k : Int) < (s.size : Int) := by omega
        clear hyes hb hd ho hxl hV0 hL0 hb0 hlt
        go_wp2_with fail
        refine Calls.mono C3.out ?_
        rintro e w3 ⟨r3, c3, rfl, o3, rfl⟩
        go_wp2
        go_ret2
        exact ⟨r3, c3, by rw [HB.out.2.1, HB.out.2.2]; rfl, by rw [HB.out.2.1]; exact o3, HB.out.1⟩
end Go.Proofs.YthokphoojmpajahDoor
