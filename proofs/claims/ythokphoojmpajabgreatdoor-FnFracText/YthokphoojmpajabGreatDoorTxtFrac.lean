/- A fraction's text reads as the fraction, and what is read has the text that was read. -/
import Derived.Test.YthokphoojmpajabGreatDoorFrRead
namespace Go.Proofs.YthokphoojmpajabGreatDoor
open Go.RowKit Go.Proofs.Pin

theorem ch_left {P Q : ByteArray} {j : Nat} (h : j < P.size) : ch (P ++ Q) j = ch P j := by
  rw [← ch_eq h, ← ch_eq (by rw [ByteArray.size_append]; omega), ByteArray.getElem_append_left h]
theorem ch_mid {P Q : ByteArray} {c : UInt8} : ch (P ++ (⟨#[c]⟩ ++ Q)) P.size = c.toNat := by
  have h1 : (⟨#[c]⟩ : ByteArray).size = 1 := rfl
  rw [← ch_eq (by rw [ByteArray.size_append, ByteArray.size_append, h1]; omega), ByteArray.getElem_append_right (Nat.le_refl _), ByteArray.getElem_append_left (by rw [h1]; omega)]
  have : ∀ k (hk : k < (⟨#[c]⟩ : ByteArray).size), k = 0 → ((⟨#[c]⟩ : ByteArray)[k]'hk) = c := by
    intro k hk e; subst e; rfl
  rw [this _ _ (Nat.sub_self _)]
theorem txt_dig {x j : Nat} (h : j < (txt x).size) : 48 ≤ ch (txt x) j ∧ ch (txt x) j ≤ 57 := (natText_decs (txt_natText x)).1 j h
theorem cut_none {R : ByteArray} (h : ∀ j, j < R.size → ch R j ≠ 47) : cutF R = false ∧ cutT R = R := by
  rcases cut_cases R with ⟨_, _, h1, h2, _⟩ | ⟨i, _, hi, hc, _⟩
  · exact ⟨h1, h2⟩
  · exact absurd hc (h i hi)
theorem cut_some {P Q : ByteArray} (h : ∀ j, j < P.size → ch P j ≠ 47) : cutF (P ++ (⟨#[47]⟩ ++ Q)) = true ∧ cutT (P ++ (⟨#[47]⟩ ++ Q)) = P ∧ cutU (P ++ (⟨#[47]⟩ ++ Q)) = Q := by
  have h1 : (⟨#[47]⟩ : ByteArray).size = 1 := rfl
  have hm : ch (P ++ (⟨#[47]⟩ ++ Q)) P.size = 47 := ch_mid
  have hz : (P ++ ((⟨#[47]⟩ : ByteArray) ++ Q)).size = P.size + (1 + Q.size) := by rw [ByteArray.size_append, ByteArray.size_append, h1]
  rcases cut_cases (P ++ (⟨#[47]⟩ ++ Q)) with ⟨_, hj, _⟩ | ⟨i, _, hi, hc, hj, hf, hT, _⟩
  · exact absurd hm (hj P.size (by omega))
  · have hi2 : i = P.size := by
      rcases Nat.lt_trichotomy i P.size with h2 | h2 | h2
      · rw [ch_left h2] at hc
        exact absurd hc (h i h2)
      · exact h2
      · exact absurd hm (hj P.size h2)
    have hs := slash_split hf
    have hl : (cutT (P ++ ((⟨#[47]⟩ : ByteArray) ++ Q))).size = P.size := by rw [hT, ByteArray.size_extract]; omega
    have h2 := congrArg (fun z => z.data.toList) hs
    simp only [ByteArray.data_append, Array.toList_append] at h2
    have hlen : P.data.toList.length = (cutT (P ++ ((⟨#[47]⟩ : ByteArray) ++ Q))).data.toList.length := by
      rw [Array.length_toList, Array.length_toList]
      exact hl.symm
    obtain ⟨e1, e2⟩ := List.append_inj h2 hlen
    refine ⟨hf, (ba_data e1).symm, ?_⟩
    have e3 := List.append_inj e2 rfl
    exact (ba_data e3.2).symm
theorem below_minus (R : ByteArray) : belowB (⟨#[45]⟩ ++ R) = true ∧ restB (⟨#[45]⟩ ++ R) = R := by
  have h1 : (⟨#[45]⟩ : ByteArray).size = 1 := rfl
  have hb : belowB (⟨#[45]⟩ ++ R) = true := by
    unfold belowB
    refine decide_eq_true ⟨by rw [ByteArray.size_append, h1]; omega, ?_⟩
    rw [ch_left (by rw [h1]; omega)]
    rfl
  refine ⟨hb, ?_⟩
  have hs := sign_split (⟨#[45]⟩ ++ R)
  rw [if_pos hb] at hs
  have h2 := congrArg (fun z => z.data.toList) hs
  simp only [ByteArray.data_append, Array.toList_append] at h2
  exact (ba_data (List.append_inj h2 rfl).2).symm
theorem below_not {R : ByteArray} (h : ch R 0 ≠ 45) : belowB R = false ∧ restB R = R := by
  have hb : belowB R = false := by unfold belowB; exact decide_eq_false (fun h' => h h'.2)
  exact ⟨hb, by simp [restB, hb]⟩
theorem read_txt {x : Nat} (lx : (dgs x).length ≤ 256) : ansB (readO (txt x)) = true ∧ ansL (readO (txt x)) = dgs x := by
  have h1 := txt_len lx
  rw [readO_yes (by omega) (txt_natText x), txt_val]
  exact ⟨(fit_yes lx).2, (fit_yes lx).1⟩
/-- The text of a fraction reads as the fraction. -/
theorem read_text {b : Bool} {x y : Nat} (h : fokB b (dgs x) (dgs y) = true) (lx : (dgs x).length ≤ 256) (ly : (dgs y).length ≤ 256) : frdA (ftA b (dgs x) (dgs y)) = ⟨b, dgs x, dgs y, true⟩ := by
  rw [ftA_yes h]
  have hns : ∀ j, j < (txt x).size → ch (txt x) j ≠ 47 := fun j hj => by have := txt_dig hj; omega
  have hx0 := txt_some x
  obtain ⟨R, hR⟩ : ∃ R, R = (if decide (dgs y = [1]) = true then txt x else txt x ++ (⟨#[47]⟩ ++ txt y)) := ⟨_, rfl⟩
  have key : ftxt b (decide (dgs y = [1])) (txt x) (txt y) = if b = true then ⟨#[45]⟩ ++ R else R := by
    rw [hR]
    cases b <;> cases decide (dgs y = [1]) <;> simp [ftxt, ByteArray.append_assoc]
  have hR0 : ch R 0 ≠ 45 := by
    have h1 := txt_dig hx0
    rw [hR]
    split
    · omega
    · rw [ch_left hx0]; omega
  have hbr : belowB (ftxt b (decide (dgs y = [1])) (txt x) (txt y)) = b ∧ restB (ftxt b (decide (dgs y = [1])) (txt x) (txt y)) = R := by
    rw [key]
    cases b with
    | true => simp only [if_true]; exact below_minus R
    | false => simp only [Bool.false_eq_true, if_false]; exact below_not hR0
  have hcut : cutT R = txt x ∧ botU R = txt y ∧ ¬ (cutF R = true ∧ cutU R = ⟨#[49]⟩) := by
    rw [hR]
    by_cases h1 : dgs y = [1]
    · rw [decide_eq_true h1, if_pos rfl]
      obtain ⟨e1, e2⟩ := cut_none hns
      refine ⟨e2, ?_, by rw [e1]; simp⟩
      rw [(dgs_one_iff y).1 h1, txt_one]
      simp [botU, e1]
    · rw [decide_eq_false h1]
      simp only [Bool.false_eq_true, if_false]
      obtain ⟨e1, e2, e3⟩ := cut_some (P := txt x) (Q := txt y) hns
      refine ⟨e2, by simp [botU, e1, e3], ?_⟩
      rw [e3, ← txt_one]
      exact fun h2 => h1 ((dgs_one_iff y).2 (txt_inj h2.2))
  have hp := frdA_pair (s := ftxt b (decide (dgs y = [1])) (txt x) (txt y)) (by rw [hbr.2]; exact hcut.2.2)
  rw [hp, hbr.1, hbr.2, hcut.1, hcut.2.1]
  unfold pairA
  rw [(read_txt lx).1, (read_txt lx).2, (read_txt ly).1, (read_txt ly).2, if_pos ⟨rfl, rfl, h⟩]
/-- What was read has the text that was read. -/
theorem text_read {t : ByteArray} (h : (frdA t).ok = true) : ftA (frdA t).b (frdA t).X (frdA t).Y = t := by
  by_cases hc : cutF (restB t) = true ∧ cutU (restB t) = ⟨#[49]⟩
  · unfold frdA at h
    rw [if_pos hc] at h
    cases h
  · rw [frdA_pair hc] at h ⊢
    unfold pairA at h ⊢
    split at h
    · rename_i h1
      rw [if_pos h1]
      obtain ⟨x, ex, lx, _⟩ := read_yes h1.1
      obtain ⟨y, ey, ly, _⟩ := read_yes h1.2.1
      show ftA (belowB t) (ansL (readO (cutT (restB t)))) (ansL (readO (botU (restB t)))) = t
      have h3 := h1.2.2
      rw [lx, ly] at h3 ⊢
      rw [ftA_yes h3]
      exact (text_same ex ey).2 hc
    · cases h
theorem ftxt_ge (b o : Bool) (t u : ByteArray) : t.size ≤ (ftxt b o t u).size := by
  cases b <;> cases o
  · show t.size ≤ (t ++ (⟨#[47]⟩ ++ u)).size
    rw [ByteArray.size_append]
    omega
  · exact Nat.le_refl _
  · show t.size ≤ ((⟨#[45]⟩ ++ t) ++ (⟨#[47]⟩ ++ u)).size
    rw [ByteArray.size_append, ByteArray.size_append]
    omega
  · show t.size ≤ (⟨#[45]⟩ ++ t).size
    rw [ByteArray.size_append]
    omega
theorem ftA_some {b : Bool} {X Y : List Int} (h : fokB b X Y = true) : ((ftA b X Y).toList == []) = false := by
  rw [eqE]
  obtain ⟨x, y, rfl, rfl, _⟩ := fok_parts h
  rw [ftA_yes h]
  have h0 := txt_some x
  have h1 := ftxt_ge b (decide (dgs y = [1])) (txt x) (txt y)
  exact decide_eq_false (by omega)
end Go.Proofs.YthokphoojmpajabGreatDoor
