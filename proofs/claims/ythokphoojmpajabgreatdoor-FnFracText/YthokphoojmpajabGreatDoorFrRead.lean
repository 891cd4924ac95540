/- The contracts of impl.FracRead and spec.FracRead. -/
import Derived.Test.YthokphoojmpajabGreatDoorFrText
import Derived.Test.YthokphoojmpajabGreatDoorGRd
import Derived.Test.YthokphoojmpajabGreatDoorSlash
import Derived.Test.YthokphoojmpajabGreatDoorGSp
namespace Go.Proofs.YthokphoojmpajabGreatDoor
open Go.RowKit Go.Proofs.Pin

theorem read_yes {T : ByteArray} (h : ansB (readO T) = true) : ∃ n, T = txt n ∧ ansL (readO T) = dgs n ∧ (dgs n).length ≤ 256 := by
  unfold readO at h ⊢
  split at h
  · rename_i h1
    rw [if_pos h1]
    split at h
    · rename_i h2
      rw [if_pos h2]
      have h3 : (dgs (num T T.size)).length ≤ 256 := by
        simpa [ansB, fitB] using h
      refine ⟨num T T.size, (txt_back h2).symm, ?_, h3⟩
      simp [ansL, fitL, h3]
    · cases h
  · cases h
/-- The bottom's text: 1, where there is no slash. -/
def botU (s : ByteArray) : ByteArray := if cutF s = true then cutU s else ⟨#[49]⟩
/-- The fraction of two texts. -/
def pairA (b : Bool) (T U : ByteArray) : FAns := if ansB (readO T) = true ∧ ansB (readO U) = true ∧ fokB b (ansL (readO T)) (ansL (readO U)) = true then ⟨b, ansL (readO T), ansL (readO U), true⟩ else noA
/-- What FracRead answers. -/
def frdA (s : ByteArray) : FAns := if cutF (restB s) = true ∧ cutU (restB s) = ⟨#[49]⟩ then noA else pairA (belowB s) (cutT (restB s)) (botU (restB s))
theorem pairA_len (b : Bool) (T U : ByteArray) : (pairA b T U).X.length ≤ 256 ∧ (pairA b T U).Y.length ≤ 256 := by
  unfold pairA
  split
  · exact ⟨ansL_len _, ansL_len _⟩
  · exact ⟨Nat.zero_le _, Nat.zero_le _⟩
theorem frdA_len (s : ByteArray) : (frdA s).X.length ≤ 256 ∧ (frdA s).Y.length ≤ 256 := by
  unfold frdA
  split
  · exact ⟨Nat.zero_le _, Nat.zero_le _⟩
  · exact pairA_len _ _ _

theorem ba_data {s t : ByteArray} (h : s.data.toList = t.data.toList) : s = t := by
  cases s; cases t
  simp at h
  simp [h]
theorem sign_split (s : ByteArray) : s = if belowB s = true then ⟨#[45]⟩ ++ restB s else restB s := by
  by_cases h : belowB s = true
  · rw [if_pos h]
    have e : restB s = s.extract 1 s.size := by simp [restB, h]
    obtain ⟨h0, h1⟩ := of_decide_eq_true h
    rw [e]
    refine ba_ext ?_ ?_
    · rw [ByteArray.size_append, ByteArray.size_extract]
      show s.size = 1 + _
      omega
    · intro i hi
      by_cases hz : i = 0
      · subst hz
        rw [h1]
        rw [← ch_eq (by rw [ByteArray.size_append]; show 0 < 1 + _; omega), ByteArray.getElem_append_left (by show 0 < 1; omega)]
        rfl
      · rw [← ch_eq hi, ← ch_eq (by rw [ByteArray.size_append, ByteArray.size_extract]; show i < 1 + _; omega), ByteArray.getElem_append_right (by show 1 ≤ i; omega), ByteArray.getElem_extract]
        congr 2
        show i = 1 + (i - 1)
        omega
  · rw [if_neg h]
    simp [restB, h]
theorem slash_split {s : ByteArray} (h : cutF s = true) : s = cutT s ++ (⟨#[47]⟩ ++ cutU s) := by
  rcases cut_cases s with ⟨_, _, h1, _⟩ | ⟨i, _, hi, hc, _, _, h2, h3⟩
  · rw [h] at h1; cases h1
  · rw [h2, h3]
    refine ba_ext ?_ ?_
    · rw [ByteArray.size_append, ByteArray.size_append, ByteArray.size_extract, ByteArray.size_extract]
      show s.size = _ + (1 + _)
      omega
    · intro j hj
      have hz : (s.extract 0 i ++ ((⟨#[47]⟩ : ByteArray) ++ s.extract (i + 1) s.size)).size = s.size := by
        rw [ByteArray.size_append, ByteArray.size_append, ByteArray.size_extract, ByteArray.size_extract]
        show _ + (1 + _) = s.size
        omega
      have hl : (s.extract 0 i).size = i := by rw [ByteArray.size_extract]; omega
      rw [← ch_eq hj, ← ch_eq (by omega)]
      rcases Nat.lt_trichotomy j i with h4 | h4 | h4
      · rw [ByteArray.getElem_append_left (by omega), ByteArray.getElem_extract]
        congr 2
        omega
      · subst h4
        rw [ByteArray.getElem_append_right (by omega), ByteArray.getElem_append_left (by show _ < 1; omega)]
        rw [ch_eq hj, hc]
        have e : j - (s.extract 0 j).size = 0 := by omega
        have : ∀ k (hk : k < (⟨#[47]⟩ : ByteArray).size), k = 0 → ((⟨#[47]⟩ : ByteArray)[k]'hk).toNat = 47 := by
          intro k hk e; subst e; rfl
        exact (this _ _ e).symm
      · rw [ByteArray.getElem_append_right (by omega), ByteArray.getElem_append_right (by show 1 ≤ _; omega), ByteArray.getElem_extract]
        congr 2
        show j = i + 1 + (j - (s.extract 0 i).size - 1)
        omega
theorem txt_one : txt 1 = ⟨#[49]⟩ := by
  have h1 : nd 1 = 1 := by rw [nd_pos (by decide)]; simp [nd_zero]
  rw [txt_pos (by decide), h1]
  rfl
theorem txt_inj {x y : Nat} (h : txt x = txt y) : x = y := by
  have h1 := txt_val x
  have h2 := txt_val y
  rw [h] at h1
  omega
theorem dgs_one_iff (y : Nat) : dgs y = [1] ↔ y = 1 := by
  constructor
  · intro h
    have h1 := val_dgs y
    rw [h] at h1
    have h2 : val [1] = 1 := by decide
    omega
  · rintro rfl; rfl
/-- A fraction's text is the text that its numbers were read from, but where the bottom is 1 and stands there. -/
theorem text_same {s : ByteArray} {x y : Nat} (hx : cutT (restB s) = txt x) (hy : botU (restB s) = txt y) :
    (ftxt (belowB s) (decide (dgs y = [1])) (txt x) (txt y) = s) ↔ ¬ (cutF (restB s) = true ∧ cutU (restB s) = ⟨#[49]⟩) := by
  have hs := sign_split s
  have key : ∀ (o : Bool), ftxt (belowB s) o (txt x) (txt y) = if belowB s = true then ⟨#[45]⟩ ++ (if o = true then txt x else txt x ++ (⟨#[47]⟩ ++ txt y)) else (if o = true then txt x else txt x ++ (⟨#[47]⟩ ++ txt y)) := by
    intro o
    cases belowB s <;> cases o <;> simp [ftxt, ByteArray.append_assoc]
  have cancel : ∀ (P Q : ByteArray), ((if belowB s = true then (⟨#[45]⟩ : ByteArray) ++ P else P) = (if belowB s = true then (⟨#[45]⟩ : ByteArray) ++ Q else Q)) ↔ P = Q := by
    intro P Q
    cases belowB s with
    | false => simp
    | true =>
      simp only [if_true]
      constructor
      · intro h
        have h2 := congrArg (fun z => z.data.toList) h
        simp at h2
        exact ba_data (by simpa using h2)
      · rintro rfl; rfl
  rw [key]
  conv => lhs; rhs; rw [hs]
  rw [cancel]
  cases hf : cutF (restB s) with
  | false =>
    have e1 : botU (restB s) = ⟨#[49]⟩ := by simp [botU, hf]
    rw [e1, ← txt_one] at hy
    have hy1 := txt_inj hy
    subst hy1
    have hT : cutT (restB s) = restB s := by simp [cutT, hf]
    rw [hT] at hx
    have e2 : decide (dgs 1 = [1]) = true := by decide
    rw [e2]
    simp [hx]
  | true =>
    have e1 : botU (restB s) = cutU (restB s) := by simp [botU, hf]
    rw [e1] at hy
    have hsp := slash_split hf
    rw [hx, hy] at hsp
    rw [hy, ← txt_one]
    by_cases h1 : y = 1
    · subst h1
      have e2 : decide (dgs 1 = [1]) = true := by decide
      rw [e2]
      simp only [if_true, and_self, not_true, iff_false]
      intro h
      rw [← h] at hsp
      have h2 := congrArg ByteArray.size hsp
      rw [ByteArray.size_append, ByteArray.size_append] at h2
      have h3 : (⟨#[47]⟩ : ByteArray).size = 1 := rfl
      omega
    · have e2 : decide (dgs y = [1]) = false := decide_eq_false (fun h => h1 ((dgs_one_iff y).1 h))
      rw [e2]
      simp only [Bool.false_eq_true, if_false, true_and]
      constructor
      · intro _ h
        exact h1 (txt_inj h)
      · intro _
        exact hsp.symm
theorem frdA_pair {s : ByteArray} (h : ¬ (cutF (restB s) = true ∧ cutU (restB s) = ⟨#[49]⟩)) : frdA s = pairA (belowB s) (cutT (restB s)) (botU (restB s)) := by
  unfold frdA; rw [if_neg h]
theorem restB_len (s : ByteArray) : (restB s).size ≤ s.size := by
  unfold restB
  split
  · rw [ByteArray.size_extract]; omega
  · exact Nat.le_refl _
theorem cutT_len (s : ByteArray) : (cutT s).size ≤ s.size := by
  unfold cutT
  split
  · rw [ByteArray.size_extract]; omega
  · exact Nat.le_refl _
theorem botU_len {s : ByteArray} (h : s.size ≤ 1048576) : (botU s).size ≤ 1048576 := by
  unfold botU cutU
  split
  · rw [ByteArray.size_extract]; omega
  · show 1 ≤ 1048576; decide

set_option maxRecDepth 20000 in
set_option maxHeartbeats 4000000 in
theorem ofText_go (s R T U0 U : ByteArray) (b f oT oU : Bool) (X Y : List Int) (A : FAns) (w : World) (hh : Hdl w)
    (CP : Hid (∀ W, Calls Tryz.prog 67 #[.string s, .string ⟨#[45]⟩] W fun e w' => e = .returned (.tuple #[.string R, .bool b]) ∧ W = w'))
    (CC : Hid (∀ W, Calls Tryz.prog 68 #[.string R, .string ⟨#[47]⟩] W fun e w' => e = .returned (.tuple #[.string T, .string U0, .bool f]) ∧ ∃ n, W.drewN n = w'))
    (CT : Hid (∀ W, Calls Tryz.prog 69 #[.string T] W fun e w' => ∃ r cr, e = .returned (.tuple #[.slice r X.length cr, .bool oT]) ∧ OwnI w' W.heap.size r cr X ∧ Below W.heap.size W w'))
    (CU : Hid (∀ W, Calls Tryz.prog 69 #[.string U] W fun e w' => ∃ r cr, e = .returned (.tuple #[.slice r Y.length cr, .bool oU]) ∧ OwnI w' W.heap.size r cr Y ∧ Below W.heap.size W w'))
    (lX : X.length ≤ 256) (lY : Y.length ≤ 256)
    (hU : (f = true ∧ U = U0) ∨ (f = false ∧ U = ⟨#[49]⟩))
    (hcase : (oT = false ∧ A = noA) ∨ (oT = true ∧ oU = false ∧ A = noA) ∨ (oT = true ∧ oU = true ∧ fokB b X Y = false ∧ A = noA) ∨
      (oT = true ∧ oU = true ∧ fokB b X Y = true ∧ ∃ x y Z, X = dgs x ∧ Y = dgs y ∧ Z = ftxt b (decide (dgs y = [1])) (txt x) (txt y) ∧ ((Z ≠ s ∧ A = noA) ∨ (Z = s ∧ A = ⟨b, X, Y, true⟩)))) :
    Calls Tryz.prog 44 #[.string s] w fun e w' => ∃ v ev, e = .returned (.tuple #[v, ev]) ∧ TellO w' w.heap.size v ev A ∧ Below w.heap.size w w' := by
  obtain ⟨w0, hw0⟩ : ∃ w0, w0 = w.alloc (.cells #[.slice none 0 0, .slice none 0 0, .bool false] 48) := ⟨_, rfl⟩
  have B0 : Below w.heap.size w w0 := by rw [hw0]; exact (Below.refl _ w).alloc (Nat.le_refl _) _
  have k0 : BoxC w0 w.heap.size 48 #[.slice none 0 0, .slice none 0 0, .bool false] := by rw [hw0]; exact boxc_new _ _ _
  have n0 := boxc_lt k0
  have TN : Hid (∀ W r s cr cs, Sl W r X → Sl W s Y → X.length ≤ cr → Y.length ≤ cs → fokB b X Y = false → Calls Tryz.prog 27 #[fracV b r X.length cr s Y.length cs] W fun e w' => (∃ t, e = .returned (.tuple #[fr0, flt t])) ∧ Below W.heap.size W w') := fun W r s cr cs h1 h2 h3 h4 h5 => taken_no b r s cr cs X Y W h1 h2 (by omega) (by omega) h3 h4 h5
  have TY : Hid (∀ W r s cr cs, Sl W r X → Sl W s Y → X.length ≤ cr → Y.length ≤ cs → fokB b X Y = true → Calls Tryz.prog 27 #[fracV b r X.length cr s Y.length cs] W fun e w' => e = .returned (.tuple #[frV r X.length cr s Y.length cs b, .nilIface]) ∧ Below W.heap.size W w') := fun W r s cr cs h1 h2 h3 h4 h5 => taken_yes b r s cr cs X Y W h1 h2 (by omega) (by omega) h3 h4 h5
  have FH : Hid (∀ t W, Hdl W → Calls Tryz.prog 28 #[flt t] W fun e w' => e = .returned (.bool true) ∧ Below W.heap.size W w') := fun t W h => isFault_hit t W h
  have FN : Hid (∀ W, Calls Tryz.prog 28 #[.nilIface] W fun e w' => e = .returned (.bool false) ∧ Below W.heap.size W w') := fun W => isFault_nil W
  unfold fracV fr0 flt at TN
  unfold fracV at TY
  unfold frV at TN TY
  unfold flt at FH
  rcases hcase with ⟨rfl, rfl⟩ | ⟨rfl, rfl, rfl⟩ | ⟨rfl, rfl, hk, rfl⟩ | ⟨rfl, rfl, hk, x, y, Z, hx, hy, hZ, hz⟩
  · clear TN TY FH FN hh lX lY
    rcases hU with ⟨rfl, rfl⟩ | ⟨rfl, rfl⟩
    all_goals
      go_enter Tryz.func44, Tryz.ntmps44
      go_wp2_with fail
      rw [← hw0]
      clear hw0
      refine Calls.mono (CP.out _) ?_
      rintro e w' ⟨rfl, rfl⟩
      clear CP
      go_wp2_with fail
      refine Calls.mono (CC.out _) ?_
      rintro e w' ⟨rfl, n, hn⟩
      have B1 : Below w0.heap.size w0 w' := by rw [← hn]; exact below_dN (Below.refl _ _) n
      clear CC hn
      go_wp2_with fail
      refine Calls.mono (CT.out _) ?_
      rintro e w1 ⟨r1, c1, rfl, o1, b1⟩
      have B2 : Below w0.heap.size w0 w1 := B1.trans (b1.mono B1.size)
      have z1 := B1.size
      clear CT b1
      go_wp2_with fail
      refine Calls.mono (CU.out _) ?_
      rintro e w2 ⟨r2, c2, rfl, o2, b2⟩
      have B3 : Below w0.heap.size w0 w2 := B2.trans (b2.mono B2.size)
      have z2 := B2.size
      have o1' := OwnI.mono (base' := w0.heap.size) (OwnI.keep o1 b2) z1
      have o2' := OwnI.mono (base' := w0.heap.size) o2 z2
      have k2 := boxc_keep k0 B3
      have HB : Hid (Below w.heap.size w w2) := B0.trans (B3.mono B0.size)
      clear CU b2 B1 B2 o1 o2 k0 B0
      obtain ⟨d0, d1, d2, df, dn⟩ := boxc3 k2
      clear k2 B3 z1 z2 o1' o2' n0
      go_wp2
      refine ⟨rfl, .tuple #[.agg #[.slice none 0 0, .slice none 0 0, .bool false], .iface 77 (.string ⟨#[116, 104, 101, 32, 116, 101, 120, 116, 32, 105, 115, 32, 110, 111, 32, 102, 114, 97, 99, 116, 105, 111, 110, 39, 115]⟩)], ?_, _, _, rfl, .inr ⟨_, rfl, rfl, rfl⟩, below_set3 HB.out (Nat.le_refl _) _ _ _⟩
      simp [results, Tryz.f44, go_sem, d0, d1, d2]
  · clear TN TY FH FN hh lX lY
    rcases hU with ⟨rfl, rfl⟩ | ⟨rfl, rfl⟩
    all_goals
      go_enter Tryz.func44, Tryz.ntmps44
      go_wp2_with fail
      rw [← hw0]
      clear hw0
      refine Calls.mono (CP.out _) ?_
      rintro e w' ⟨rfl, rfl⟩
      clear CP
      go_wp2_with fail
      refine Calls.mono (CC.out _) ?_
      rintro e w' ⟨rfl, n, hn⟩
      have B1 : Below w0.heap.size w0 w' := by rw [← hn]; exact below_dN (Below.refl _ _) n
      clear CC hn
      go_wp2_with fail
      refine Calls.mono (CT.out _) ?_
      rintro e w1 ⟨r1, c1, rfl, o1, b1⟩
      have B2 : Below w0.heap.size w0 w1 := B1.trans (b1.mono B1.size)
      have z1 := B1.size
      clear CT b1
      go_wp2_with fail
      refine Calls.mono (CU.out _) ?_
      rintro e w2 ⟨r2, c2, rfl, o2, b2⟩
      have B3 : Below w0.heap.size w0 w2 := B2.trans (b2.mono B2.size)
      have z2 := B2.size
      have o1' := OwnI.mono (base' := w0.heap.size) (OwnI.keep o1 b2) z1
      have o2' := OwnI.mono (base' := w0.heap.size) o2 z2
      have k2 := boxc_keep k0 B3
      have HB : Hid (Below w.heap.size w w2) := B0.trans (B3.mono B0.size)
      clear CU b2 B1 B2 o1 o2 k0 B0
      obtain ⟨d0, d1, d2, df, dn⟩ := boxc3 k2
      clear k2 B3 z1 z2 o1' o2' n0
      go_wp2
      refine ⟨rfl, .tuple #[.agg #[.slice none 0 0, .slice none 0 0, .bool false], .iface 77 (.string ⟨#[116, 104, 101, 32, 116, 101, 120, 116, 32, 105, 115, 32, 110, 111, 32, 102, 114, 97, 99, 116, 105, 111, 110, 39, 115]⟩)], ?_, _, _, rfl, .inr ⟨_, rfl, rfl, rfl⟩, below_set3 HB.out (Nat.le_refl _) _ _ _⟩
      simp [results, Tryz.f44, go_sem, d0, d1, d2]
  · clear TY FN
    rcases hU with ⟨rfl, rfl⟩ | ⟨rfl, rfl⟩
    all_goals
      go_enter Tryz.func44, Tryz.ntmps44
      go_wp2_with fail
      rw [← hw0]
      clear hw0
      refine Calls.mono (CP.out _) ?_
      rintro e w' ⟨rfl, rfl⟩
      clear CP
      go_wp2_with fail
      refine Calls.mono (CC.out _) ?_
      rintro e w' ⟨rfl, n, hn⟩
      have B1 : Below w0.heap.size w0 w' := by rw [← hn]; exact below_dN (Below.refl _ _) n
      clear CC hn
      go_wp2_with fail
      refine Calls.mono (CT.out _) ?_
      rintro e w1 ⟨r1, c1, rfl, o1, b1⟩
      have B2 : Below w0.heap.size w0 w1 := B1.trans (b1.mono B1.size)
      have z1 := B1.size
      clear CT b1
      go_wp2_with fail
      refine Calls.mono (CU.out _) ?_
      rintro e w2 ⟨r2, c2, rfl, o2, b2⟩
      have B3 : Below w0.heap.size w0 w2 := B2.trans (b2.mono B2.size)
      have z2 := B2.size
      have o1' := OwnI.mono (base' := w0.heap.size) (OwnI.keep o1 b2) z1
      have o2' := OwnI.mono (base' := w0.heap.size) o2 z2
      have k2 := boxc_keep k0 B3
      have HB : Hid (Below w.heap.size w w2) := B0.trans (B3.mono B0.size)
      clear CU b2 B1 B2 o1 o2 k0 B0
      have hd2 := hh.keep HB.out hh.pos
      clear z1 z2 n0
      go_wp2_with fail
      refine Calls.mono (TN.out _ _ _ _ _ o1'.sl o2'.sl (own_cap o1') (own_cap o2') hk) ?_
      rintro e w3 ⟨⟨t, rfl⟩, b3⟩
      obtain ⟨w4, hw4⟩ : ∃ w4, w4 = w3.alloc (.cells #[.slice none 0 0, .slice none 0 0, .bool false] 48) := ⟨_, rfl⟩
      have b4 : Below w2.heap.size w2 w4 := by rw [hw4]; exact b3.alloc b3.size _
      have HB4 : Hid (Below w.heap.size w w4) := HB.out.trans (b4.mono HB.out.size)
      have hd4 := hh.keep HB4.out hh.pos
      have k4 := boxc_keep k2 b4
      clear b3 TN hk o1' o2' B3 k2 b4 hd2
      go_wp2_with fail
      rw [← hw4]
      clear hw4
      refine Calls.mono (FH.out _ _ hd4) ?_
      rintro e w5 ⟨rfl, b5⟩
      have k5 := boxc_keep k4 b5
      have HB5 : Hid (Below w.heap.size w w5) := HB4.out.trans (b5.mono HB4.out.size)
      obtain ⟨d0, d1, d2, df, dn⟩ := boxc3 k5
      clear k5 k4 b5 FH hd4
      go_wp2
      refine ⟨rfl, .tuple #[.agg #[.slice none 0 0, .slice none 0 0, .bool false], .iface 77 (.string ⟨#[116, 104, 101, 32, 116, 101, 120, 116, 32, 105, 115, 32, 110, 111, 32, 102, 114, 97, 99, 116, 105, 111, 110, 39, 115]⟩)], ?_, _, _, rfl, .inr ⟨_, rfl, rfl, rfl⟩, below_set3 HB5.out (Nat.le_refl _) _ _ _⟩
      simp [results, Tryz.f44, go_sem, d0, d1, d2]
  · have CG : Hid (∀ W r s cr cs, Sl W r X → Sl W s Y → Calls Tryz.prog 43 #[frV r X.length cr s Y.length cs b] W fun e w' => e = .returned (.string Z) ∧ Below W.heap.size W w') := by
      subst hx
      subst hy
      intro W r s cr cs h1 h2
      rw [hZ]
      exact frText_any r s cr cs x y b W h1 h2 lX lY
    unfold frV at CG
    clear TN FH hh hx hy hZ
    have hz' : ((Z.toList == s.toList) = false ∧ A = noA) ∨ ((Z.toList == s.toList) = true ∧ A = ⟨b, X, Y, true⟩) := by
      rcases hz with ⟨h, e⟩ | ⟨h, e⟩
      · left
        refine ⟨?_, e⟩
        rw [beq_eq_false_iff_ne]
        intro h2
        apply h
        rw [ByteArray.toList_eq, ByteArray.toList_eq] at h2
        exact ba_data h2
      · right
        exact ⟨by rw [h]; simp, e⟩
    clear hz
    have lX' : X.length ≤ 1048576 := by omega
    have lY' : Y.length ≤ 1048576 := by omega
    clear lX lY
    rcases hU with ⟨rfl, rfl⟩ | ⟨rfl, rfl⟩
    all_goals
      go_enter Tryz.func44, Tryz.ntmps44
      go_wp2_with fail
      rw [← hw0]
      clear hw0
      refine Calls.mono (CP.out _) ?_
      rintro e w' ⟨rfl, rfl⟩
      clear CP
      go_wp2_with fail
      refine Calls.mono (CC.out _) ?_
      rintro e w' ⟨rfl, n, hn⟩
      have B1 : Below w0.heap.size w0 w' := by rw [← hn]; exact below_dN (Below.refl _ _) n
      clear CC hn
      go_wp2_with fail
      refine Calls.mono (CT.out _) ?_
      rintro e w1 ⟨r1, c1, rfl, o1, b1⟩
      have B2 : Below w0.heap.size w0 w1 := B1.trans (b1.mono B1.size)
      have z1 := B1.size
      clear CT b1
      go_wp2_with fail
      refine Calls.mono (CU.out _) ?_
      rintro e w2 ⟨r2, c2, rfl, o2, b2⟩
      have B3 : Below w0.heap.size w0 w2 := B2.trans (b2.mono B2.size)
      have z2 := B2.size
      have o1' := OwnI.mono (base' := w0.heap.size) (OwnI.keep o1 b2) z1
      have o2' := OwnI.mono (base' := w0.heap.size) o2 z2
      have k2 := boxc_keep k0 B3
      have HB : Hid (Below w.heap.size w w2) := B0.trans (B3.mono B0.size)
      clear CU b2 B1 B2 o1 o2 k0 B0
      clear z1 z2
      go_wp2_with fail
      refine Calls.mono (TY.out _ _ _ _ _ o1'.sl o2'.sl (own_cap o1') (own_cap o2') hk) ?_
      rintro e w3 ⟨rfl, b3⟩
      obtain ⟨w4, hw4⟩ : ∃ w4, w4 = w3.alloc (.cells #[.slice r1 X.length c1, .slice r2 Y.length c2, .bool b] 48) := ⟨_, rfl⟩
      have b4 : Below w2.heap.size w2 w4 := by rw [hw4]; exact b3.alloc b3.size _
      obtain ⟨g4, hg4⟩ : ∃ g4, g4 = w3.heap.size := ⟨_, rfl⟩
      have kf : BoxC w4 g4 48 #[.slice r1 X.length c1, .slice r2 Y.length c2, .bool b] := by rw [hw4, hg4]; exact boxc_new _ _ _
      have HB4 : Hid (Below w.heap.size w w4) := HB.out.trans (b4.mono HB.out.size)
      have k4 := boxc_keep k2 b4
      have o14 := o1'.keep b4
      have o24 := o2'.keep b4
      clear b3 TY hk o1' o2' B3 k2 b4
      go_wp2_with fail
      rw [← hw4, ← hg4]
      clear hw4 hg4
      refine Calls.mono (FN.out _) ?_
      rintro e w5 ⟨rfl, b5⟩
      have k5 := boxc_keep k4 b5
      have kf5 := boxc_keep kf b5
      have o15 := o14.keep b5
      have o25 := o24.keep b5
      have HB5 : Hid (Below w.heap.size w w5) := HB4.out.trans (b5.mono HB4.out.size)
      obtain ⟨f0, f1, f2, ff, fn⟩ := boxc3 kf5
      clear k4 kf b5 FN o14 o24 HB4
      go_wp2_with fail
      refine Calls.mono (CG.out _ _ _ _ _ o15.sl o25.sl) ?_
      rintro e w6 ⟨rfl, b6⟩
      have k6 := boxc_keep k5 b6
      have kf6 := boxc_keep kf5 b6
      have o16 := o15.keep b6
      have o26 := o25.keep b6
      have HB6 : Hid (Below w.heap.size w w6) := HB5.out.trans (b6.mono HB5.out.size)
      clear f0 f1 f2 ff fn
      obtain ⟨f0, f1, f2, ff, fn⟩ := boxc3 kf6
      obtain ⟨d0, d1, d2, df, dn⟩ := boxc3 k6
      have HT0 : TellO w6 w0.heap.size (.agg #[.slice r1 X.length c1, .slice r2 Y.length c2, .bool b]) .nilIface (⟨b, X, Y, true⟩ : FAns) := .inl ⟨r1, c1, r2, c2, rfl, rfl, o16, o26, rfl, lX', lY'⟩
      have HT : Hid (TellO (((w6.setCell ⟨w.heap.size, 0, none⟩ (.slice r1 X.length c1)).setCell ⟨w.heap.size, 1, none⟩ (.slice r2 Y.length c2)).setCell ⟨w.heap.size, 2, none⟩ (.bool b)) w.heap.size (.agg #[.slice r1 X.length c1, .slice r2 Y.length c2, .bool b]) .nilIface (⟨b, X, Y, true⟩ : FAns)) := (HT0.far (gr_set3 _ _ _ _ _) n0).mono (by omega)
      clear HT0
      clear k5 kf5 b6 CG o15 o25 HB5 k6 kf6 o16 o26 n0 lX' lY'
      rcases hz' with ⟨hz, rfl⟩ | ⟨hz, rfl⟩
      · clear HT
        go_wp2
        refine ⟨rfl, .tuple #[.agg #[.slice none 0 0, .slice none 0 0, .bool false], .iface 77 (.string ⟨#[116, 104, 101, 32, 116, 101, 120, 116, 32, 105, 115, 32, 110, 111, 32, 102, 114, 97, 99, 116, 105, 111, 110, 39, 115]⟩)], ?_, _, _, rfl, .inr ⟨_, rfl, rfl, rfl⟩, below_set3 HB6.out (Nat.le_refl _) _ _ _⟩
        simp [results, Tryz.f44, go_sem, d0, d1, d2]
      · go_wp2
        refine ⟨rfl, .tuple #[.agg #[.slice r1 X.length c1, .slice r2 Y.length c2, .bool b], .nilIface], ?_, _, _, rfl, HT.out, below_set3 HB6.out (Nat.le_refl _) _ _ _⟩
        simp [results, Tryz.f44, go_sem, d0, d1, d2]

theorem ofText_tell (s : ByteArray) (w : World) (hh : Hdl w) (hs : s.size ≤ 1048576) :
    Calls Tryz.prog 44 #[.string s] w fun e w' => ∃ v ev, e = .returned (.tuple #[v, ev]) ∧ TellO w' w.heap.size v ev (frdA s) ∧ Below w.heap.size w w' := by
  have hR := restB_len s
  have hT := cutT_len (restB s)
  have hU := botU_len (s := restB s) (by omega)
  refine ofText_go s (restB s) (cutT (restB s)) (cutU (restB s)) (botU (restB s)) (belowB s) (cutF (restB s)) (ansB (readO (cutT (restB s)))) (ansB (readO (botU (restB s)))) (ansL (readO (cutT (restB s)))) (ansL (readO (botU (restB s)))) (frdA s) w hh
    (fun W => cutP_any s W hs) (fun W => strCut_any (restB s) W (by omega)) (fun W => implRead_op _ W (by omega)) (fun W => implRead_op _ W hU) (ansL_len _) (ansL_len _) ?_ ?_
  · cases h : cutF (restB s) with
    | true => exact .inl ⟨rfl, by simp [botU, h]⟩
    | false => exact .inr ⟨rfl, by simp [botU, h]⟩
  · by_cases hc : cutF (restB s) = true ∧ cutU (restB s) = ⟨#[49]⟩
    · have eA : frdA s = noA := by unfold frdA; rw [if_pos hc]
      rw [eA]
      cases h1 : ansB (readO (cutT (restB s))) with
      | false => exact .inl ⟨rfl, rfl⟩
      | true =>
        cases h2 : ansB (readO (botU (restB s))) with
        | false => exact .inr (.inl ⟨rfl, rfl, rfl⟩)
        | true =>
          cases h3 : fokB (belowB s) (ansL (readO (cutT (restB s)))) (ansL (readO (botU (restB s)))) with
          | false => exact .inr (.inr (.inl ⟨rfl, rfl, rfl, rfl⟩))
          | true =>
            obtain ⟨x, ex, lx, _⟩ := read_yes h1
            obtain ⟨y, ey, ly, _⟩ := read_yes h2
            exact .inr (.inr (.inr ⟨rfl, rfl, rfl, x, y, _, lx, ly, rfl, .inl ⟨fun h => (text_same ex ey).1 h hc, rfl⟩⟩))
    · have eA := frdA_pair hc
      rw [eA]
      unfold pairA
      cases h1 : ansB (readO (cutT (restB s))) with
      | false => exact .inl ⟨rfl, by simp⟩
      | true =>
        cases h2 : ansB (readO (botU (restB s))) with
        | false => exact .inr (.inl ⟨rfl, rfl, by simp⟩)
        | true =>
          cases h3 : fokB (belowB s) (ansL (readO (cutT (restB s)))) (ansL (readO (botU (restB s)))) with
          | false => exact .inr (.inr (.inl ⟨rfl, rfl, rfl, by simp⟩))
          | true =>
            obtain ⟨x, ex, lx, _⟩ := read_yes h1
            obtain ⟨y, ey, ly, _⟩ := read_yes h2
            exact .inr (.inr (.inr ⟨rfl, rfl, rfl, x, y, _, lx, ly, rfl, .inr ⟨(text_same ex ey).2 hc, by simp⟩⟩))

set_option maxRecDepth 20000 in
set_option maxHeartbeats 1000000 in
theorem implFRead_any (s : ByteArray) (w : World) (hh : Hdl w) (hs : s.size ≤ 1048576) :
    Calls Tryz.prog 20 #[.string s] w fun e w' => RetF w e w' (frdA s) := by
  have CG : Hid (∀ W, Hdl W → Calls Tryz.prog 44 #[.string s] W fun e w' => ∃ v ev, e = .returned (.tuple #[v, ev]) ∧ TellO w' W.heap.size v ev (frdA s) ∧ Below W.heap.size W w') := fun W h => ofText_tell s W h hs
  have CL : Hid (∀ W v ev, Hdl W → Tell W v ev (frdA s) → Calls Tryz.prog 29 #[v, ev] W fun e w' => RetF W e w' (frdA s)) := fun W v ev h1 h2 => told_tell v ev _ W h1 h2
  obtain ⟨A, hA⟩ : ∃ A, A = frdA s := ⟨_, rfl⟩
  rw [← hA] at CG CL ⊢
  clear hA hs
  have B0 : Below w.heap.size w (w.alloc (.cells #[.bool false, .slice none 0 0, .slice none 0 0] 25)) := (Below.refl _ w).alloc (Nat.le_refl _) _
  have k0 := boxc_new w 25 #[.bool false, .slice none 0 0, .slice none 0 0]
  go_enter Tryz.func20, Tryz.ntmps20
  go_wp2_with fail
  refine Calls.mono (CG.out _ (hh.keep B0 hh.pos)) ?_
  rintro e w3 ⟨v3, e3, rfl, T3, b3⟩
  have k24 := boxc_keep k0 b3
  have B4 := B0.trans (b3.mono B0.size)
  have h4 := hh.keep B4 hh.pos
  clear b3 B0 k0 CG
  go_wp2_with fail
  refine Calls.mono (CL.out _ _ _ h4 T3.tell) ?_
  rintro e w4 ⟨r4, c4, s4, e4, rfl, o4, p4, ap4, b4⟩
  obtain ⟨d0, d1, d2, df, dn⟩ := boxc3 (boxc_keep k24 b4)
  have H : Hid (RetF w _ _ A) := retF_fin o4 p4 ap4 (B4.trans (b4.mono B4.size)) (Nat.le_refl w.heap.size) (boxc_lt k24) (.bool A.b) (.slice r4 A.X.length c4) (.slice s4 A.Y.length e4)
  clear CL b4 B4 k24 o4 p4 ap4 T3 h4 hh
  unfold fracV at H ⊢
  go_wp2
  refine ⟨rfl, .tuple #[.agg #[.bool A.b, .slice r4 A.X.length c4, .slice s4 A.Y.length e4], .bool A.ok], ?_, H.out⟩
  simp [results, Tryz.f20, go_sem, d0, d1, d2]

set_option maxRecDepth 20000 in
set_option maxHeartbeats 8000000 in
theorem specFRead_any (s : ByteArray) (w : World) (hs : s.size ≤ 1048576) :
    Calls Tryz.prog 22 #[.string s] w fun e w' => RetS w e w' (frdA s) := by
  obtain ⟨w0, hw0⟩ : ∃ w0, w0 = w.alloc (.cells #[.bool false, .slice none 0 0, .slice none 0 0] 25) := ⟨_, rfl⟩
  have B0 : Below w.heap.size w w0 := by rw [hw0]; exact (Below.refl _ w).alloc (Nat.le_refl _) _
  have k0 : BoxC w0 w.heap.size 25 #[.bool false, .slice none 0 0, .slice none 0 0] := by rw [hw0]; exact boxc_new _ _ _
  have n0 := boxc_lt k0
  have hR := restB_len s
  have hT := cutT_len (restB s)
  have hU := botU_len (s := restB s) (by omega)
  have lX := ansL_len (readO (cutT (restB s)))
  have lY := ansL_len (readO (botU (restB s)))
  have CT : Hid (∀ W, Calls Tryz.prog 47 #[.string (cutT (restB s))] W fun e w' => ∃ r cr, e = .returned (.tuple #[.slice r (ansL (readO (cutT (restB s)))).length cr, .bool (ansB (readO (cutT (restB s))))]) ∧ OwnI w' W.heap.size r cr (ansL (readO (cutT (restB s)))) ∧ Below W.heap.size W w') := fun W => specRead_op _ W (by omega)
  have CU : Hid (∀ W, Calls Tryz.prog 47 #[.string (botU (restB s))] W fun e w' => ∃ r cr, e = .returned (.tuple #[.slice r (ansL (readO (botU (restB s)))).length cr, .bool (ansB (readO (botU (restB s))))]) ∧ OwnI w' W.heap.size r cr (ansL (readO (botU (restB s)))) ∧ Below W.heap.size W w') := fun W => specRead_op _ W hU
  have FK : Hid (∀ W r s' cr cs, Sl W r (ansL (readO (cutT (restB s)))) → Sl W s' (ansL (readO (botU (restB s)))) → Calls Tryz.prog 13 #[fracV (belowB s) r (ansL (readO (cutT (restB s)))).length cr s' (ansL (readO (botU (restB s)))).length cs] W fun e w' => e = .returned (.bool (fokB (belowB s) (ansL (readO (cutT (restB s)))) (ansL (readO (botU (restB s)))))) ∧ Below W.heap.size W w') := fun W r s' cr cs h1 h2 => specFok_any _ r s' cr cs _ _ W h1 h2 (by omega) (by omega)
  have HC : (ansB (readO (cutT (restB s))) = false ∧ pairA (belowB s) (cutT (restB s)) (botU (restB s)) = noA) ∨ (ansB (readO (cutT (restB s))) = true ∧ ansB (readO (botU (restB s))) = false ∧ pairA (belowB s) (cutT (restB s)) (botU (restB s)) = noA) ∨ (ansB (readO (cutT (restB s))) = true ∧ ansB (readO (botU (restB s))) = true ∧ fokB (belowB s) (ansL (readO (cutT (restB s)))) (ansL (readO (botU (restB s)))) = false ∧ pairA (belowB s) (cutT (restB s)) (botU (restB s)) = noA) ∨ (ansB (readO (cutT (restB s))) = true ∧ ansB (readO (botU (restB s))) = true ∧ fokB (belowB s) (ansL (readO (cutT (restB s)))) (ansL (readO (botU (restB s)))) = true ∧ pairA (belowB s) (cutT (restB s)) (botU (restB s)) = ⟨belowB s, ansL (readO (cutT (restB s))), ansL (readO (botU (restB s))), true⟩) := by
    unfold pairA
    cases h1 : ansB (readO (cutT (restB s))) with
    | false => exact .inl ⟨rfl, by simp⟩
    | true =>
      cases h2 : ansB (readO (botU (restB s))) with
      | false => exact .inr (.inl ⟨rfl, rfl, by simp⟩)
      | true =>
        cases h3 : fokB (belowB s) (ansL (readO (cutT (restB s)))) (ansL (readO (botU (restB s)))) with
        | false => exact .inr (.inr (.inl ⟨rfl, rfl, rfl, by simp⟩))
        | true => exact .inr (.inr (.inr ⟨rfl, rfl, rfl, by simp⟩))
  have hsl : ((∀ j, j < (restB s).size → ch (restB s) j ≠ 47) ∧ cutT (restB s) = restB s ∧ botU (restB s) = ⟨#[49]⟩ ∧ frdA s = pairA (belowB s) (cutT (restB s)) (botU (restB s))) ∨ (∃ i : Nat, i < (restB s).size ∧ ch (restB s) i = 47 ∧ (∀ j, j < i → ch (restB s) j ≠ 47) ∧ cutT (restB s) = (restB s).extract 0 i ∧ botU (restB s) = (restB s).extract (i + 1) (restB s).size ∧ (((botU (restB s)).toList == [49]) = true ∧ frdA s = noA ∨ ((botU (restB s)).toList == [49]) = false ∧ frdA s = pairA (belowB s) (cutT (restB s)) (botU (restB s)))) := by
    rcases cut_cases (restB s) with ⟨_, hj, h1, h2, h3⟩ | ⟨i, _, hi, hc, hj, h1, h2, h3⟩
    · left
      exact ⟨hj, h2, by simp [botU, h1], frdA_pair (by simp [h1])⟩
    · right
      have hb : botU (restB s) = cutU (restB s) := by simp [botU, h1]
      refine ⟨i, hi, hc, hj, h2, by rw [hb, h3], ?_⟩
      rw [hb]
      by_cases he : cutU (restB s) = ⟨#[49]⟩
      · left
        refine ⟨by rw [he, eq_one]; rfl, ?_⟩
        unfold frdA
        rw [if_pos ⟨h1, he⟩]
      · right
        refine ⟨?_, ?_⟩
        · rw [beq_eq_false_iff_ne]
          intro h
          apply he
          apply ba_data
          rw [← ByteArray.toList_eq, h]
        · rw [frdA_pair (fun h => he h.2), hb]
  have hbc : (belowB s = true ∧ (0 : Int) < (s.size : Int) ∧ (∃ h : 0 < s.size, s[0].toNat = 45) ∧ restB s = s.extract 1 s.size) ∨ (belowB s = false ∧ ¬ (0 : Int) < (s.size : Int) ∧ s = restB s) ∨ (belowB s = false ∧ (0 : Int) < (s.size : Int) ∧ (∃ h : 0 < s.size, s[0].toNat = ch s 0) ∧ ((ch s 0 : Int) == 45) = false ∧ s = restB s) := by
    cases h : belowB s with
    | true =>
      obtain ⟨h1, h2⟩ := of_decide_eq_true h
      exact .inl ⟨rfl, by omega, ⟨h1, by rw [ch_eq h1, h2]⟩, by simp [restB, h]⟩
    | false =>
      have h2 := of_decide_eq_false h
      have e : s = restB s := by simp [restB, h]
      by_cases h0 : 0 < s.size
      · refine .inr (.inr ⟨rfl, by omega, ⟨h0, ch_eq h0⟩, ?_, e⟩)
        rw [beq_eq_false_iff_ne]
        intro h3
        exact h2 ⟨h0, by omega⟩
      · exact .inr (.inl ⟨rfl, by omega, e⟩)
  obtain ⟨A, hA⟩ : ∃ A, A = frdA s := ⟨_, rfl⟩
  obtain ⟨PA, hPA⟩ : ∃ PA, PA = pairA (belowB s) (cutT (restB s)) (botU (restB s)) := ⟨_, rfl⟩
  obtain ⟨b, hb⟩ : ∃ b, b = belowB s := ⟨_, rfl⟩
  obtain ⟨R, hRe⟩ : ∃ R, R = restB s := ⟨_, rfl⟩
  obtain ⟨T, hTe⟩ : ∃ T, T = cutT R := ⟨_, rfl⟩
  obtain ⟨U, hUe⟩ : ∃ U, U = botU R := ⟨_, rfl⟩
  rw [← hPA] at hsl HC
  rw [← hA] at hsl ⊢
  rw [← hb] at FK HC hbc
  rw [← hRe] at CT CU FK HC hsl hbc hR
  rw [← hTe] at CT FK HC hsl
  rw [← hUe] at CU FK HC hsl
  obtain ⟨X, hXe⟩ : ∃ X, X = ansL (readO T) := ⟨_, rfl⟩
  obtain ⟨Y, hYe⟩ : ∃ Y, Y = ansL (readO U) := ⟨_, rfl⟩
  obtain ⟨oT, hoT⟩ : ∃ oT, oT = ansB (readO T) := ⟨_, rfl⟩
  obtain ⟨oU, hoU⟩ : ∃ oU, oU = ansB (readO U) := ⟨_, rfl⟩
  rw [← hXe] at CT FK HC
  rw [← hYe] at CU FK HC
  rw [← hoT] at CT HC
  rw [← hoU] at CU HC
  obtain ⟨fk, hfk⟩ : ∃ fk, fk = fokB b X Y := ⟨_, rfl⟩
  rw [← hfk] at FK HC
  have HR : Hid (R.size ≤ 1048576) := by show _ ≤ _; omega
  unfold fracV at FK
  clear hfk hoT hoU hXe hYe hTe hUe hb hPA hA hT hU lX lY hs hR hRe
  have HCC : Hid _ := HC
  clear HC
  rcases hbc with ⟨rfl, g1, ⟨g2, g3⟩, g4⟩ | ⟨rfl, g1, g4⟩ | ⟨rfl, g1, ⟨g2, g3⟩, g5, g4⟩
  · rcases hsl with ⟨hj, hTR, rfl, hAP⟩ | ⟨m, hm, hmc, hj, hTR, hUR, hAP⟩
    · rw [hTR] at CT
      subst hAP
      have HJ : Hid _ := hj
      clear hj hTR
      go_enter Tryz.func22, Tryz.ntmps22
      go_wp2
      rw [← g4]
      rw [← hw0]
      clear g1 g2 g3 g4

      clear hw0
      go_loop [5, 6, 7] (fun t u i => t = .string R ∧ u = .string ⟨#[49]⟩ ∧ ∃ k : Nat, k ≤ R.size ∧ i = .int .i64 (k : Int)) (fun _ _ i => R.size - (intOf i).toNat)
      case atStart => exact ⟨rfl, rfl, 0, Nat.zero_le _, rfl⟩
      case round =>
        obtain ⟨rfl, rfl, k, hk, rfl⟩ := hrel
        by_cases hlt : k < R.size
        · have hck : R[k].toNat = ch R k := ch_eq hlt
          have h47 : ((ch R k : Int) == 47) = false := by rw [beq_eq_false_iff_ne]; have := HJ.out k hlt; omega
          have hltI : (k : Int) < (R.size : Int) := by omega
          have hRs := HR.out
          obtain ⟨d, hde⟩ : ∃ d, d = ch R k := ⟨_, rfl⟩
          rw [← hde] at hck h47
          clear hde
          go_wp2
          go_round
          case rel => exact ⟨rfl, rfl, k + 1, by omega, by go_num⟩
          case measure => simp [intOf]; omega
        · have hge : ¬ (k : Int) < (R.size : Int) := by omega
          clear hlt hk HJ HR
          go_wp2_with fail
          refine Calls.mono (CT.out _) ?_
          rintro e w1 ⟨r1, c1, rfl, o1, b1⟩
          clear CT
          go_wp2_with fail
          refine Calls.mono (CU.out _) ?_
          rintro e w2 ⟨r2, c2, rfl, o2, b2⟩
          have B2 : Below w0.heap.size w0 w2 := b1.trans (b2.mono b1.size)
          have z1 : w0.heap.size ≤ w1.heap.size := b1.size
          have o1' := o1.keep b2
          have o2' := o2.mono (base' := w0.heap.size) z1
          have k2 := boxc_keep k0 B2
          have HB : Hid (Below w.heap.size w w2) := B0.trans (B2.mono B0.size)
          clear CU b1 b2 o1 o2 B2 z1 B0 k0
          obtain ⟨w3, hw3⟩ : ∃ w3, w3 = w2.alloc (.cells #[.bool true, .slice r1 X.length c1, .slice r2 Y.length c2] 25) := ⟨_, rfl⟩
          obtain ⟨g3w, hg3⟩ : ∃ g3w, g3w = w2.heap.size := ⟨_, rfl⟩
          have B3 : Below w2.heap.size w2 w3 := by rw [hw3]; exact (Below.refl _ w2).alloc (Nat.le_refl _) _
          have kf : BoxC w3 g3w 25 #[.bool true, .slice r1 X.length c1, .slice r2 Y.length c2] := by rw [hw3, hg3]; exact boxc_new _ _ _
          have k3 := boxc_keep k2 B3
          have o13 := o1'.keep B3
          have o23 := o2'.keep B3
          have HB3 : Hid (Below w.heap.size w w3) := HB.out.trans (B3.mono HB.out.size)
          clear k2 B3 o1' o2' HB
          go_upto_region 17 with fail
          rw [← hw3, ← hg3]
          clear hw3 hg3
          obtain ⟨f0, f1, f2, ff, fn⟩ := boxc3 kf
          rcases HCC.out with ⟨rfl, rfl⟩ | ⟨rfl, rfl, rfl⟩ | ⟨rfl, rfl, rfl, rfl⟩ | ⟨rfl, rfl, rfl, rfl⟩
          · obtain ⟨d0, d1, d2, df, dn⟩ := boxc3 k3
            clear kf k3 o13 o23 FK HCC
            go_wp2
            refine ⟨rfl, .tuple #[.agg #[.bool false, .slice none 0 0, .slice none 0 0], .bool false], ?_, retS_no (below_set3 HB3.out (Nat.le_refl _) _ _ _)⟩
            simp [results, Tryz.f22, go_sem, d0, d1, d2]
          · obtain ⟨d0, d1, d2, df, dn⟩ := boxc3 k3
            clear kf k3 o13 o23 FK HCC
            go_wp2
            refine ⟨rfl, .tuple #[.agg #[.bool false, .slice none 0 0, .slice none 0 0], .bool false], ?_, retS_no (below_set3 HB3.out (Nat.le_refl _) _ _ _)⟩
            simp [results, Tryz.f22, go_sem, d0, d1, d2]
          · clear HCC
            go_wp2_with fail
            refine Calls.mono (FK.out _ _ _ _ _ o13.sl o23.sl) ?_
            rintro e w4 ⟨rfl, b4⟩
            have k4 := boxc_keep k3 b4
            have HB4 : Hid (Below w.heap.size w w4) := HB3.out.trans (b4.mono HB3.out.size)
            obtain ⟨d0, d1, d2, df, dn⟩ := boxc3 k4
            clear kf k3 o13 o23 FK b4 k4 f0 f1 f2 ff fn
            go_wp2
            refine ⟨rfl, .tuple #[.agg #[.bool false, .slice none 0 0, .slice none 0 0], .bool false], ?_, retS_no (below_set3 HB4.out (Nat.le_refl _) _ _ _)⟩
            simp [results, Tryz.f22, go_sem, d0, d1, d2]
          · clear HCC
            go_wp2_with fail
            refine Calls.mono (FK.out _ _ _ _ _ o13.sl o23.sl) ?_
            rintro e w4 ⟨rfl, b4⟩
            have k4 := boxc_keep k3 b4
            have kf4 := boxc_keep kf b4
            have HB4 : Hid (Below w.heap.size w w4) := HB3.out.trans (b4.mono HB3.out.size)
            have H : Hid (RetS w _ _ (⟨true, X, Y, true⟩ : FAns)) := retS_fin (A := ⟨true, X, Y, true⟩) (o13.keep b4) (o23.keep b4) HB4.out (Nat.le_refl w.heap.size) n0 n0 (.bool true) (.slice r1 X.length c1) (.slice r2 Y.length c2)
            clear f0 f1 f2 ff fn
            obtain ⟨f0, f1, f2, ff, fn⟩ := boxc3 kf4
            obtain ⟨d0, d1, d2, df, dn⟩ := boxc3 k4
            clear kf k3 o13 o23 FK b4 k4 kf4
            unfold fracV at H
            go_wp2
            refine ⟨rfl, .tuple #[.agg #[.bool true, .slice r1 X.length c1, .slice r2 Y.length c2], .bool true], ?_, H.out⟩
            simp [results, Tryz.f22, go_sem, d0, d1, d2]
    · rcases hAP with ⟨hone, rfl⟩ | ⟨hone, rfl⟩
      · have HJ : Hid _ := hj
        clear hj
        go_enter Tryz.func22, Tryz.ntmps22
        go_wp2
        rw [← g4]
        rw [← hw0]
        clear g1 g2 g3 g4

        clear hw0
        go_loop [5, 6, 7] (fun t u i => t = .string R ∧ u = .string ⟨#[49]⟩ ∧ ∃ k : Nat, k ≤ m ∧ i = .int .i64 (k : Int)) (fun _ _ i => m - (intOf i).toNat)
        case atStart => exact ⟨rfl, rfl, 0, Nat.zero_le _, rfl⟩
        case round =>
          obtain ⟨rfl, rfl, k, hk, rfl⟩ := hrel
          have hkR : k < R.size := by omega
          have hltI : (k : Int) < (R.size : Int) := by omega
          have hRs := HR.out
          by_cases hlt : k < m
          · have hck : R[k].toNat = ch R k := ch_eq hkR
            have h47 : ((ch R k : Int) == 47) = false := by rw [beq_eq_false_iff_ne]; have := HJ.out k hlt; omega
            obtain ⟨d, hde⟩ : ∃ d, d = ch R k := ⟨_, rfl⟩
            rw [← hde] at hck h47
            clear hde
            go_wp2
            go_round
            case rel => exact ⟨rfl, rfl, k + 1, by omega, by go_num⟩
            case measure => simp [intOf]; omega
          · obtain rfl : k = m := by omega
            have hck : R[k].toNat = 47 := by rw [ch_eq hkR, hmc]
            have c1 : (k : Int) ≤ (R.size : Int) := by omega
            have c2 : (0 : Int) ≤ (k : Int) + 1 := by omega
            have c3 : (k : Int) + 1 ≤ (R.size : Int) := by omega
            have c4 : ((k : Int) + 1).toNat = k + 1 := by omega
            rw [hUR] at hone
            obtain ⟨d0, d1, d2, df, dn⟩ := boxc3 k0
            clear k0 FK HCC HJ HR CT CU hTR hUR hmc hlt hk
            go_wp2
            refine ⟨rfl, .tuple #[.agg #[.bool false, .slice none 0 0, .slice none 0 0], .bool false], ?_, retS_no (below_set3 B0 (Nat.le_refl _) _ _ _)⟩
            simp [results, Tryz.f22, go_sem, d0, d1, d2]
      · have HJ : Hid _ := hj
        clear hj
        go_enter Tryz.func22, Tryz.ntmps22
        go_wp2
        rw [← g4]
        rw [← hw0]
        clear g1 g2 g3 g4

        clear hw0
        go_loop [5, 6, 7] (fun t u i => t = .string R ∧ u = .string ⟨#[49]⟩ ∧ ∃ k : Nat, k ≤ m ∧ i = .int .i64 (k : Int)) (fun _ _ i => m - (intOf i).toNat)
        case atStart => exact ⟨rfl, rfl, 0, Nat.zero_le _, rfl⟩
        case round =>
          obtain ⟨rfl, rfl, k, hk, rfl⟩ := hrel
          have hkR : k < R.size := by omega
          have hltI : (k : Int) < (R.size : Int) := by omega
          have hRs := HR.out
          by_cases hlt : k < m
          · have hck : R[k].toNat = ch R k := ch_eq hkR
            have h47 : ((ch R k : Int) == 47) = false := by rw [beq_eq_false_iff_ne]; have := HJ.out k hlt; omega
            obtain ⟨d, hde⟩ : ∃ d, d = ch R k := ⟨_, rfl⟩
            rw [← hde] at hck h47
            clear hde
            go_wp2
            go_round
            case rel => exact ⟨rfl, rfl, k + 1, by omega, by go_num⟩
            case measure => simp [intOf]; omega
          · obtain rfl : k = m := by omega
            have hck : R[k].toNat = 47 := by rw [ch_eq hkR, hmc]
            have c1 : (k : Int) ≤ (R.size : Int) := by omega
            have c2 : (0 : Int) ≤ (k : Int) + 1 := by omega
            have c3 : (k : Int) + 1 ≤ (R.size : Int) := by omega
            have c4 : ((k : Int) + 1).toNat = k + 1 := by omega
            rw [hUR] at hone
            clear HJ HR hmc hlt hk
            rw [hTR] at CT
            rw [hUR] at CU
            go_wp2_with fail
            refine Calls.mono (CT.out _) ?_
            rintro e w1 ⟨r1, c1, rfl, o1, b1⟩
            clear CT
            go_wp2_with fail
            refine Calls.mono (CU.out _) ?_
            rintro e w2 ⟨r2, c2, rfl, o2, b2⟩
            have B2 : Below w0.heap.size w0 w2 := b1.trans (b2.mono b1.size)
            have z1 : w0.heap.size ≤ w1.heap.size := b1.size
            have o1' := o1.keep b2
            have o2' := o2.mono (base' := w0.heap.size) z1
            have k2 := boxc_keep k0 B2
            have HB : Hid (Below w.heap.size w w2) := B0.trans (B2.mono B0.size)
            clear CU b1 b2 o1 o2 B2 z1 B0 k0
            obtain ⟨w3, hw3⟩ : ∃ w3, w3 = w2.alloc (.cells #[.bool true, .slice r1 X.length c1, .slice r2 Y.length c2] 25) := ⟨_, rfl⟩
            obtain ⟨g3w, hg3⟩ : ∃ g3w, g3w = w2.heap.size := ⟨_, rfl⟩
            have B3 : Below w2.heap.size w2 w3 := by rw [hw3]; exact (Below.refl _ w2).alloc (Nat.le_refl _) _
            have kf : BoxC w3 g3w 25 #[.bool true, .slice r1 X.length c1, .slice r2 Y.length c2] := by rw [hw3, hg3]; exact boxc_new _ _ _
            have k3 := boxc_keep k2 B3
            have o13 := o1'.keep B3
            have o23 := o2'.keep B3
            have HB3 : Hid (Below w.heap.size w w3) := HB.out.trans (B3.mono HB.out.size)
            clear k2 B3 o1' o2' HB
            go_upto_region 17 with fail
            rw [← hw3, ← hg3]
            clear hw3 hg3
            obtain ⟨f0, f1, f2, ff, fn⟩ := boxc3 kf
            rcases HCC.out with ⟨rfl, rfl⟩ | ⟨rfl, rfl, rfl⟩ | ⟨rfl, rfl, rfl, rfl⟩ | ⟨rfl, rfl, rfl, rfl⟩
            · obtain ⟨d0, d1, d2, df, dn⟩ := boxc3 k3
              clear kf k3 o13 o23 FK HCC
              go_wp2
              refine ⟨rfl, .tuple #[.agg #[.bool false, .slice none 0 0, .slice none 0 0], .bool false], ?_, retS_no (below_set3 HB3.out (Nat.le_refl _) _ _ _)⟩
              simp [results, Tryz.f22, go_sem, d0, d1, d2]
            · obtain ⟨d0, d1, d2, df, dn⟩ := boxc3 k3
              clear kf k3 o13 o23 FK HCC
              go_wp2
              refine ⟨rfl, .tuple #[.agg #[.bool false, .slice none 0 0, .slice none 0 0], .bool false], ?_, retS_no (below_set3 HB3.out (Nat.le_refl _) _ _ _)⟩
              simp [results, Tryz.f22, go_sem, d0, d1, d2]
            · clear HCC
              go_wp2_with fail
              refine Calls.mono (FK.out _ _ _ _ _ o13.sl o23.sl) ?_
              rintro e w4 ⟨rfl, b4⟩
              have k4 := boxc_keep k3 b4
              have HB4 : Hid (Below w.heap.size w w4) := HB3.out.trans (b4.mono HB3.out.size)
              obtain ⟨d0, d1, d2, df, dn⟩ := boxc3 k4
              clear kf k3 o13 o23 FK b4 k4 f0 f1 f2 ff fn
              go_wp2
              refine ⟨rfl, .tuple #[.agg #[.bool false, .slice none 0 0, .slice none 0 0], .bool false], ?_, retS_no (below_set3 HB4.out (Nat.le_refl _) _ _ _)⟩
              simp [results, Tryz.f22, go_sem, d0, d1, d2]
            · clear HCC
              go_wp2_with fail
              refine Calls.mono (FK.out _ _ _ _ _ o13.sl o23.sl) ?_
              rintro e w4 ⟨rfl, b4⟩
              have k4 := boxc_keep k3 b4
              have kf4 := boxc_keep kf b4
              have HB4 : Hid (Below w.heap.size w w4) := HB3.out.trans (b4.mono HB3.out.size)
              have H : Hid (RetS w _ _ (⟨true, X, Y, true⟩ : FAns)) := retS_fin (A := ⟨true, X, Y, true⟩) (o13.keep b4) (o23.keep b4) HB4.out (Nat.le_refl w.heap.size) n0 n0 (.bool true) (.slice r1 X.length c1) (.slice r2 Y.length c2)
              clear f0 f1 f2 ff fn
              obtain ⟨f0, f1, f2, ff, fn⟩ := boxc3 kf4
              obtain ⟨d0, d1, d2, df, dn⟩ := boxc3 k4
              clear kf k3 o13 o23 FK b4 k4 kf4
              unfold fracV at H
              go_wp2
              refine ⟨rfl, .tuple #[.agg #[.bool true, .slice r1 X.length c1, .slice r2 Y.length c2], .bool true], ?_, H.out⟩
              simp [results, Tryz.f22, go_sem, d0, d1, d2]
  · rcases hsl with ⟨hj, hTR, rfl, hAP⟩ | ⟨m, hm, hmc, hj, hTR, hUR, hAP⟩
    · obtain rfl : R = s := g4.symm
      rw [hTR] at CT
      subst hAP
      have HJ : Hid _ := hj
      clear hj hTR
      go_enter Tryz.func22, Tryz.ntmps22
      go_wp2
      skip
      rw [← hw0]
      clear g1

      clear hw0
      go_loop [5, 6, 7] (fun t u i => t = .string R ∧ u = .string ⟨#[49]⟩ ∧ ∃ k : Nat, k ≤ R.size ∧ i = .int .i64 (k : Int)) (fun _ _ i => R.size - (intOf i).toNat)
      case atStart => exact ⟨rfl, rfl, 0, Nat.zero_le _, rfl⟩
      case round =>
        obtain ⟨rfl, rfl, k, hk, rfl⟩ := hrel
        by_cases hlt : k < R.size
        · have hck : R[k].toNat = ch R k := ch_eq hlt
          have h47 : ((ch R k : Int) == 47) = false := by rw [beq_eq_false_iff_ne]; have := HJ.out k hlt; omega
          have hltI : (k : Int) < (R.size : Int) := by omega
          have hRs := HR.out
          obtain ⟨d, hde⟩ : ∃ d, d = ch R k := ⟨_, rfl⟩
          rw [← hde] at hck h47
          clear hde
          go_wp2
          go_round
          case rel => exact ⟨rfl, rfl, k + 1, by omega, by go_num⟩
          case measure => simp [intOf]; omega
        · have hge : ¬ (k : Int) < (R.size : Int) := by omega
          clear hlt hk HJ HR
          go_wp2_with fail
          refine Calls.mono (CT.out _) ?_
          rintro e w1 ⟨r1, c1, rfl, o1, b1⟩
          clear CT
          go_wp2_with fail
          refine Calls.mono (CU.out _) ?_
          rintro e w2 ⟨r2, c2, rfl, o2, b2⟩
          have B2 : Below w0.heap.size w0 w2 := b1.trans (b2.mono b1.size)
          have z1 : w0.heap.size ≤ w1.heap.size := b1.size
          have o1' := o1.keep b2
          have o2' := o2.mono (base' := w0.heap.size) z1
          have k2 := boxc_keep k0 B2
          have HB : Hid (Below w.heap.size w w2) := B0.trans (B2.mono B0.size)
          clear CU b1 b2 o1 o2 B2 z1 B0 k0
          obtain ⟨w3, hw3⟩ : ∃ w3, w3 = w2.alloc (.cells #[.bool false, .slice r1 X.length c1, .slice r2 Y.length c2] 25) := ⟨_, rfl⟩
          obtain ⟨g3w, hg3⟩ : ∃ g3w, g3w = w2.heap.size := ⟨_, rfl⟩
          have B3 : Below w2.heap.size w2 w3 := by rw [hw3]; exact (Below.refl _ w2).alloc (Nat.le_refl _) _
          have kf : BoxC w3 g3w 25 #[.bool false, .slice r1 X.length c1, .slice r2 Y.length c2] := by rw [hw3, hg3]; exact boxc_new _ _ _
          have k3 := boxc_keep k2 B3
          have o13 := o1'.keep B3
          have o23 := o2'.keep B3
          have HB3 : Hid (Below w.heap.size w w3) := HB.out.trans (B3.mono HB.out.size)
          clear k2 B3 o1' o2' HB
          go_upto_region 17 with fail
          rw [← hw3, ← hg3]
          clear hw3 hg3
          obtain ⟨f0, f1, f2, ff, fn⟩ := boxc3 kf
          rcases HCC.out with ⟨rfl, rfl⟩ | ⟨rfl, rfl, rfl⟩ | ⟨rfl, rfl, rfl, rfl⟩ | ⟨rfl, rfl, rfl, rfl⟩
          · obtain ⟨d0, d1, d2, df, dn⟩ := boxc3 k3
            clear kf k3 o13 o23 FK HCC
            go_wp2
            refine ⟨rfl, .tuple #[.agg #[.bool false, .slice none 0 0, .slice none 0 0], .bool false], ?_, retS_no (below_set3 HB3.out (Nat.le_refl _) _ _ _)⟩
            simp [results, Tryz.f22, go_sem, d0, d1, d2]
          · obtain ⟨d0, d1, d2, df, dn⟩ := boxc3 k3
            clear kf k3 o13 o23 FK HCC
            go_wp2
            refine ⟨rfl, .tuple #[.agg #[.bool false, .slice none 0 0, .slice none 0 0], .bool false], ?_, retS_no (below_set3 HB3.out (Nat.le_refl _) _ _ _)⟩
            simp [results, Tryz.f22, go_sem, d0, d1, d2]
          · clear HCC
            go_wp2_with fail
            refine Calls.mono (FK.out _ _ _ _ _ o13.sl o23.sl) ?_
            rintro e w4 ⟨rfl, b4⟩
            have k4 := boxc_keep k3 b4
            have HB4 : Hid (Below w.heap.size w w4) := HB3.out.trans (b4.mono HB3.out.size)
            obtain ⟨d0, d1, d2, df, dn⟩ := boxc3 k4
            clear kf k3 o13 o23 FK b4 k4 f0 f1 f2 ff fn
            go_wp2
            refine ⟨rfl, .tuple #[.agg #[.bool false, .slice none 0 0, .slice none 0 0], .bool false], ?_, retS_no (below_set3 HB4.out (Nat.le_refl _) _ _ _)⟩
            simp [results, Tryz.f22, go_sem, d0, d1, d2]
          · clear HCC
            go_wp2_with fail
            refine Calls.mono (FK.out _ _ _ _ _ o13.sl o23.sl) ?_
            rintro e w4 ⟨rfl, b4⟩
            have k4 := boxc_keep k3 b4
            have kf4 := boxc_keep kf b4
            have HB4 : Hid (Below w.heap.size w w4) := HB3.out.trans (b4.mono HB3.out.size)
            have H : Hid (RetS w _ _ (⟨false, X, Y, true⟩ : FAns)) := retS_fin (A := ⟨false, X, Y, true⟩) (o13.keep b4) (o23.keep b4) HB4.out (Nat.le_refl w.heap.size) n0 n0 (.bool false) (.slice r1 X.length c1) (.slice r2 Y.length c2)
            clear f0 f1 f2 ff fn
            obtain ⟨f0, f1, f2, ff, fn⟩ := boxc3 kf4
            obtain ⟨d0, d1, d2, df, dn⟩ := boxc3 k4
            clear kf k3 o13 o23 FK b4 k4 kf4
            unfold fracV at H
            go_wp2
            refine ⟨rfl, .tuple #[.agg #[.bool false, .slice r1 X.length c1, .slice r2 Y.length c2], .bool true], ?_, H.out⟩
            simp [results, Tryz.f22, go_sem, d0, d1, d2]
    · exfalso
      have e := congrArg ByteArray.size g4
      omega
  · rcases hsl with ⟨hj, hTR, rfl, hAP⟩ | ⟨m, hm, hmc, hj, hTR, hUR, hAP⟩
    · obtain rfl : R = s := g4.symm
      rw [hTR] at CT
      subst hAP
      have HJ : Hid _ := hj
      clear hj hTR
      go_enter Tryz.func22, Tryz.ntmps22
      go_wp2
      skip
      rw [← hw0]
      clear g1 g2 g3 g5

      clear hw0
      go_loop [5, 6, 7] (fun t u i => t = .string R ∧ u = .string ⟨#[49]⟩ ∧ ∃ k : Nat, k ≤ R.size ∧ i = .int .i64 (k : Int)) (fun _ _ i => R.size - (intOf i).toNat)
      case atStart => exact ⟨rfl, rfl, 0, Nat.zero_le _, rfl⟩
      case round =>
        obtain ⟨rfl, rfl, k, hk, rfl⟩ := hrel
        by_cases hlt : k < R.size
        · have hck : R[k].toNat = ch R k := ch_eq hlt
          have h47 : ((ch R k : Int) == 47) = false := by rw [beq_eq_false_iff_ne]; have := HJ.out k hlt; omega
          have hltI : (k : Int) < (R.size : Int) := by omega
          have hRs := HR.out
          obtain ⟨d, hde⟩ : ∃ d, d = ch R k := ⟨_, rfl⟩
          rw [← hde] at hck h47
          clear hde
          go_wp2
          go_round
          case rel => exact ⟨rfl, rfl, k + 1, by omega, by go_num⟩
          case measure => simp [intOf]; omega
        · have hge : ¬ (k : Int) < (R.size : Int) := by omega
          clear hlt hk HJ HR
          go_wp2_with fail
          refine Calls.mono (CT.out _) ?_
          rintro e w1 ⟨r1, c1, rfl, o1, b1⟩
          clear CT
          go_wp2_with fail
          refine Calls.mono (CU.out _) ?_
          rintro e w2 ⟨r2, c2, rfl, o2, b2⟩
          have B2 : Below w0.heap.size w0 w2 := b1.trans (b2.mono b1.size)
          have z1 : w0.heap.size ≤ w1.heap.size := b1.size
          have o1' := o1.keep b2
          have o2' := o2.mono (base' := w0.heap.size) z1
          have k2 := boxc_keep k0 B2
          have HB : Hid (Below w.heap.size w w2) := B0.trans (B2.mono B0.size)
          clear CU b1 b2 o1 o2 B2 z1 B0 k0
          obtain ⟨w3, hw3⟩ : ∃ w3, w3 = w2.alloc (.cells #[.bool false, .slice r1 X.length c1, .slice r2 Y.length c2] 25) := ⟨_, rfl⟩
          obtain ⟨g3w, hg3⟩ : ∃ g3w, g3w = w2.heap.size := ⟨_, rfl⟩
          have B3 : Below w2.heap.size w2 w3 := by rw [hw3]; exact (Below.refl _ w2).alloc (Nat.le_refl _) _
          have kf : BoxC w3 g3w 25 #[.bool false, .slice r1 X.length c1, .slice r2 Y.length c2] := by rw [hw3, hg3]; exact boxc_new _ _ _
          have k3 := boxc_keep k2 B3
          have o13 := o1'.keep B3
          have o23 := o2'.keep B3
          have HB3 : Hid (Below w.heap.size w w3) := HB.out.trans (B3.mono HB.out.size)
          clear k2 B3 o1' o2' HB
          go_upto_region 17 with fail
          rw [← hw3, ← hg3]
          clear hw3 hg3
          obtain ⟨f0, f1, f2, ff, fn⟩ := boxc3 kf
          rcases HCC.out with ⟨rfl, rfl⟩ | ⟨rfl, rfl, rfl⟩ | ⟨rfl, rfl, rfl, rfl⟩ | ⟨rfl, rfl, rfl, rfl⟩
          · obtain ⟨d0, d1, d2, df, dn⟩ := boxc3 k3
            clear kf k3 o13 o23 FK HCC
            go_wp2
            refine ⟨rfl, .tuple #[.agg #[.bool false, .slice none 0 0, .slice none 0 0], .bool false], ?_, retS_no (below_set3 HB3.out (Nat.le_refl _) _ _ _)⟩
            simp [results, Tryz.f22, go_sem, d0, d1, d2]
          · obtain ⟨d0, d1, d2, df, dn⟩ := boxc3 k3
            clear kf k3 o13 o23 FK HCC
            go_wp2
            refine ⟨rfl, .tuple #[.agg #[.bool false, .slice none 0 0, .slice none 0 0], .bool false], ?_, retS_no (below_set3 HB3.out (Nat.le_refl _) _ _ _)⟩
            simp [results, Tryz.f22, go_sem, d0, d1, d2]
          · clear HCC
            go_wp2_with fail
            refine Calls.mono (FK.out _ _ _ _ _ o13.sl o23.sl) ?_
            rintro e w4 ⟨rfl, b4⟩
            have k4 := boxc_keep k3 b4
            have HB4 : Hid (Below w.heap.size w w4) := HB3.out.trans (b4.mono HB3.out.size)
            obtain ⟨d0, d1, d2, df, dn⟩ := boxc3 k4
            clear kf k3 o13 o23 FK b4 k4 f0 f1 f2 ff fn
            go_wp2
            refine ⟨rfl, .tuple #[.agg #[.bool false, .slice none 0 0, .slice none 0 0], .bool false], ?_, retS_no (below_set3 HB4.out (Nat.le_refl _) _ _ _)⟩
            simp [results, Tryz.f22, go_sem, d0, d1, d2]
          · clear HCC
            go_wp2_with fail
            refine Calls.mono (FK.out _ _ _ _ _ o13.sl o23.sl) ?_
            rintro e w4 ⟨rfl, b4⟩
            have k4 := boxc_keep k3 b4
            have kf4 := boxc_keep kf b4
            have HB4 : Hid (Below w.heap.size w w4) := HB3.out.trans (b4.mono HB3.out.size)
            have H : Hid (RetS w _ _ (⟨false, X, Y, true⟩ : FAns)) := retS_fin (A := ⟨false, X, Y, true⟩) (o13.keep b4) (o23.keep b4) HB4.out (Nat.le_refl w.heap.size) n0 n0 (.bool false) (.slice r1 X.length c1) (.slice r2 Y.length c2)
            clear f0 f1 f2 ff fn
            obtain ⟨f0, f1, f2, ff, fn⟩ := boxc3 kf4
            obtain ⟨d0, d1, d2, df, dn⟩ := boxc3 k4
            clear kf k3 o13 o23 FK b4 k4 kf4
            unfold fracV at H
            go_wp2
            refine ⟨rfl, .tuple #[.agg #[.bool false, .slice r1 X.length c1, .slice r2 Y.length c2], .bool true], ?_, H.out⟩
            simp [results, Tryz.f22, go_sem, d0, d1, d2]
    · rcases hAP with ⟨hone, rfl⟩ | ⟨hone, rfl⟩
      · obtain rfl : R = s := g4.symm
        have HJ : Hid _ := hj
        clear hj
        go_enter Tryz.func22, Tryz.ntmps22
        go_wp2
        skip
        rw [← hw0]
        clear g1 g2 g3 g5

        clear hw0
        go_loop [5, 6, 7] (fun t u i => t = .string R ∧ u = .string ⟨#[49]⟩ ∧ ∃ k : Nat, k ≤ m ∧ i = .int .i64 (k : Int)) (fun _ _ i => m - (intOf i).toNat)
        case atStart => exact ⟨rfl, rfl, 0, Nat.zero_le _, rfl⟩
        case round =>
          obtain ⟨rfl, rfl, k, hk, rfl⟩ := hrel
          have hkR : k < R.size := by omega
          have hltI : (k : Int) < (R.size : Int) := by omega
          have hRs := HR.out
          by_cases hlt : k < m
          · have hck : R[k].toNat = ch R k := ch_eq hkR
            have h47 : ((ch R k : Int) == 47) = false := by rw [beq_eq_false_iff_ne]; have := HJ.out k hlt; omega
            obtain ⟨d, hde⟩ : ∃ d, d = ch R k := ⟨_, rfl⟩
            rw [← hde] at hck h47
            clear hde
            go_wp2
            go_round
            case rel => exact ⟨rfl, rfl, k + 1, by omega, by go_num⟩
            case measure => simp [intOf]; omega
          · obtain rfl : k = m := by omega
            have hck : R[k].toNat = 47 := by rw [ch_eq hkR, hmc]
            have c1 : (k : Int) ≤ (R.size : Int) := by omega
            have c2 : (0 : Int) ≤ (k : Int) + 1 := by omega
            have c3 : (k : Int) + 1 ≤ (R.size : Int) := by omega
            have c4 : ((k : Int) + 1).toNat = k + 1 := by omega
            rw [hUR] at hone
            obtain ⟨d0, d1, d2, df, dn⟩ := boxc3 k0
            clear k0 FK HCC HJ HR CT CU hTR hUR hmc hlt hk
            go_wp2
            refine ⟨rfl, .tuple #[.agg #[.bool false, .slice none 0 0, .slice none 0 0], .bool false], ?_, retS_no (below_set3 B0 (Nat.le_refl _) _ _ _)⟩
            simp [results, Tryz.f22, go_sem, d0, d1, d2]
      · obtain rfl : R = s := g4.symm
        have HJ : Hid _ := hj
        clear hj
        go_enter Tryz.func22, Tryz.ntmps22
        go_wp2
        skip
        rw [← hw0]
        clear g1 g2 g3 g5

        clear hw0
        go_loop [5, 6, 7] (fun t u i => t = .string R ∧ u = .string ⟨#[49]⟩ ∧ ∃ k : Nat, k ≤ m ∧ i = .int .i64 (k : Int)) (fun _ _ i => m - (intOf i).toNat)
        case atStart => exact ⟨rfl, rfl, 0, Nat.zero_le _, rfl⟩
        case round =>
          obtain ⟨rfl, rfl, k, hk, rfl⟩ := hrel
          have hkR : k < R.size := by omega
          have hltI : (k : Int) < (R.size : Int) := by omega
          have hRs := HR.out
          by_cases hlt : k < m
          · have hck : R[k].toNat = ch R k := ch_eq hkR
            have h47 : ((ch R k : Int) == 47) = false := by rw [beq_eq_false_iff_ne]; have := HJ.out k hlt; omega
            obtain ⟨d, hde⟩ : ∃ d, d = ch R k := ⟨_, rfl⟩
            rw [← hde] at hck h47
            clear hde
            go_wp2
            go_round
            case rel => exact ⟨rfl, rfl, k + 1, by omega, by go_num⟩
            case measure => simp [intOf]; omega
          · obtain rfl : k = m := by omega
            have hck : R[k].toNat = 47 := by rw [ch_eq hkR, hmc]
            have c1 : (k : Int) ≤ (R.size : Int) := by omega
            have c2 : (0 : Int) ≤ (k : Int) + 1 := by omega
            have c3 : (k : Int) + 1 ≤ (R.size : Int) := by omega
            have c4 : ((k : Int) + 1).toNat = k + 1 := by omega
            rw [hUR] at hone
            clear HJ HR hmc hlt hk
            rw [hTR] at CT
            rw [hUR] at CU
            go_wp2_with fail
            refine Calls.mono (CT.out _) ?_
            rintro e w1 ⟨r1, c1, rfl, o1, b1⟩
            clear CT
            go_wp2_with fail
            refine Calls.mono (CU.out _) ?_
            rintro e w2 ⟨r2, c2, rfl, o2, b2⟩
            have B2 : Below w0.heap.size w0 w2 := b1.trans (b2.mono b1.size)
            have z1 : w0.heap.size ≤ w1.heap.size := b1.size
            have o1' := o1.keep b2
            have o2' := o2.mono (base' := w0.heap.size) z1
            have k2 := boxc_keep k0 B2
            have HB : Hid (Below w.heap.size w w2) := B0.trans (B2.mono B0.size)
            clear CU b1 b2 o1 o2 B2 z1 B0 k0
            obtain ⟨w3, hw3⟩ : ∃ w3, w3 = w2.alloc (.cells #[.bool false, .slice r1 X.length c1, .slice r2 Y.length c2] 25) := ⟨_, rfl⟩
            obtain ⟨g3w, hg3⟩ : ∃ g3w, g3w = w2.heap.size := ⟨_, rfl⟩
            have B3 : Below w2.heap.size w2 w3 := by rw [hw3]; exact (Below.refl _ w2).alloc (Nat.le_refl _) _
            have kf : BoxC w3 g3w 25 #[.bool false, .slice r1 X.length c1, .slice r2 Y.length c2] := by rw [hw3, hg3]; exact boxc_new _ _ _
            have k3 := boxc_keep k2 B3
            have o13 := o1'.keep B3
            have o23 := o2'.keep B3
            have HB3 : Hid (Below w.heap.size w w3) := HB.out.trans (B3.mono HB.out.size)
            clear k2 B3 o1' o2' HB
            go_upto_region 17 with fail
            rw [← hw3, ← hg3]
            clear hw3 hg3
            obtain ⟨f0, f1, f2, ff, fn⟩ := boxc3 kf
            rcases HCC.out with ⟨rfl, rfl⟩ | ⟨rfl, rfl, rfl⟩ | ⟨rfl, rfl, rfl, rfl⟩ | ⟨rfl, rfl, rfl, rfl⟩
            · obtain ⟨d0, d1, d2, df, dn⟩ := boxc3 k3
              clear kf k3 o13 o23 FK HCC
              go_wp2
              refine ⟨rfl, .tuple #[.agg #[.bool false, .slice none 0 0, .slice none 0 0], .bool false], ?_, retS_no (below_set3 HB3.out (Nat.le_refl _) _ _ _)⟩
              simp [results, Tryz.f22, go_sem, d0, d1, d2]
            · obtain ⟨d0, d1, d2, df, dn⟩ := boxc3 k3
              clear kf k3 o13 o23 FK HCC
              go_wp2
              refine ⟨rfl, .tuple #[.agg #[.bool false, .slice none 0 0, .slice none 0 0], .bool false], ?_, retS_no (below_set3 HB3.out (Nat.le_refl _) _ _ _)⟩
              simp [results, Tryz.f22, go_sem, d0, d1, d2]
            · clear HCC
              go_wp2_with fail
              refine Calls.mono (FK.out _ _ _ _ _ o13.sl o23.sl) ?_
              rintro e w4 ⟨rfl, b4⟩
              have k4 := boxc_keep k3 b4
              have HB4 : Hid (Below w.heap.size w w4) := HB3.out.trans (b4.mono HB3.out.size)
              obtain ⟨d0, d1, d2, df, dn⟩ := boxc3 k4
              clear kf k3 o13 o23 FK b4 k4 f0 f1 f2 ff fn
              go_wp2
              refine ⟨rfl, .tuple #[.agg #[.bool false, .slice none 0 0, .slice none 0 0], .bool false], ?_, retS_no (below_set3 HB4.out (Nat.le_refl _) _ _ _)⟩
              simp [results, Tryz.f22, go_sem, d0, d1, d2]
            · clear HCC
              go_wp2_with fail
              refine Calls.mono (FK.out _ _ _ _ _ o13.sl o23.sl) ?_
              rintro e w4 ⟨rfl, b4⟩
              have k4 := boxc_keep k3 b4
              have kf4 := boxc_keep kf b4
              have HB4 : Hid (Below w.heap.size w w4) := HB3.out.trans (b4.mono HB3.out.size)
              have H : Hid (RetS w _ _ (⟨false, X, Y, true⟩ : FAns)) := retS_fin (A := ⟨false, X, Y, true⟩) (o13.keep b4) (o23.keep b4) HB4.out (Nat.le_refl w.heap.size) n0 n0 (.bool false) (.slice r1 X.length c1) (.slice r2 Y.length c2)
              clear f0 f1 f2 ff fn
              obtain ⟨f0, f1, f2, ff, fn⟩ := boxc3 kf4
              obtain ⟨d0, d1, d2, df, dn⟩ := boxc3 k4
              clear kf k3 o13 o23 FK b4 k4 kf4
              unfold fracV at H
              go_wp2
              refine ⟨rfl, .tuple #[.agg #[.bool false, .slice r1 X.length c1, .slice r2 Y.length c2], .bool true], ?_, H.out⟩
              simp [results, Tryz.f22, go_sem, d0, d1, d2]
end Go.Proofs.YthokphoojmpajabGreatDoor
