/- The contracts of strings.CutPrefix at a minus and of strings.Cut at a slash, and what a text's parts are. -/
import Derived.Test.YthokphoojmpajabGreatDoorProg
import Derived.Test.YthokphoojmpajabGreatDoorBase
import Derived.Test.YthokphoojmpajabGreatDoorGTxt
import Derived.Laws.Externs
import Derived.Shelf.RegionOpen
import Derived.Shelf.RegionOpenPlain
import Derived.WalkKit
import Derived.Outline
import Derived.WalkSpells
namespace Go.Proofs.YthokphoojmpajabGreatDoor
open Go.RowKit Go.Shelf Go.Proofs.Pin

theorem firstIdx_cases (s : ByteArray) (c : UInt8) : (firstIdx s c = -1 ∧ ∀ i, i < s.size → ch s i ≠ c.toNat) ∨ (∃ i : Nat, firstIdx s c = (i : Int) ∧ i < s.size ∧ ch s i = c.toNat ∧ ∀ j, j < i → ch s j ≠ c.toNat) := by
  unfold firstIdx
  cases h : (List.range s.size).find? fun i => s[i]! == c with
  | none =>
    left
    refine ⟨rfl, fun i hi h2 => ?_⟩
    have h1 := List.find?_eq_none.1 h i (List.mem_range.2 hi)
    apply h1
    rw [getElem!_pos s i hi, beq_iff_eq, ← UInt8.toNat_inj, ch_eq hi, h2]
  | some i =>
    right
    have hm := List.mem_range.1 (List.mem_of_find?_eq_some h)
    have hp := List.find?_some h
    refine ⟨i, rfl, hm, ?_, fun j hj h2 => ?_⟩
    · rw [getElem!_pos s i hm, beq_iff_eq] at hp
      rw [← ch_eq hm, hp]
    · have h3 := (List.find?_range_eq_some.1 h).2.2 j hj
      have hj2 : j < s.size := by omega
      rw [getElem!_pos s j hj2] at h3
      have h4 : s[j] = c := by rw [← UInt8.toNat_inj, ch_eq hj2, h2]
      simp [h4] at h3
theorem eq_one (s : ByteArray) (c : UInt8) : (s.toList == [c]) = decide (s.size = 1 ∧ ch s 0 = c.toNat) := by
  have hl := toList_len s
  by_cases h1 : s.size = 1
  · have hc := ch_toList (s := s) (k := 0) (by omega)
    rw [h1] at hl
    obtain ⟨z, hz⟩ := List.length_eq_one_iff.1 hl
    rw [hz] at hc ⊢
    simp only [List.getD_cons_zero] at hc
    rw [← hc]
    have : (z = c) ↔ (z.toNat = c.toNat) := by rw [← UInt8.toNat_inj]
    by_cases hz : z = c
    · simp [hz, h1]
    · have hz' : z.toNat ≠ c.toNat := fun e => hz (this.2 e)
      simp [hz, hz']
  · have : s.toList ≠ [c] := by
      intro e
      rw [e] at hl
      simp at hl
      omega
    simp [this, h1]

/-- Whether a text begins with a minus, and what follows it. -/
def belowB (s : ByteArray) : Bool := decide (0 < s.size ∧ ch s 0 = 45)
def restB (s : ByteArray) : ByteArray := if belowB s = true then s.extract 1 s.size else s
/-- A text's parts ahead of its first slash and behind it, if it has one. -/
def cutF (s : ByteArray) : Bool := decide (0 ≤ firstIdx s 47)
def cutT (s : ByteArray) : ByteArray := if cutF s = true then s.extract 0 (firstIdx s 47).toNat else s
def cutU (s : ByteArray) : ByteArray := if cutF s = true then s.extract ((firstIdx s 47).toNat + 1) s.size else ⟨#[]⟩
theorem cut_cases (s : ByteArray) : (firstIdx s 47 = -1 ∧ (∀ j, j < s.size → ch s j ≠ 47) ∧ cutF s = false ∧ cutT s = s ∧ cutU s = ⟨#[]⟩) ∨ (∃ i : Nat, firstIdx s 47 = (i : Int) ∧ i < s.size ∧ ch s i = 47 ∧ (∀ j, j < i → ch s j ≠ 47) ∧ cutF s = true ∧ cutT s = s.extract 0 i ∧ cutU s = s.extract (i + 1) s.size) := by
  rcases firstIdx_cases s 47 with ⟨h, hj⟩ | ⟨i, h, hi, hc, hj⟩
  · left
    have hf : cutF s = false := by unfold cutF; rw [h]; rfl
    exact ⟨h, hj, hf, by simp [cutT, hf], by simp [cutU, hf]⟩
  · right
    have hf : cutF s = true := by unfold cutF; rw [h]; exact decide_eq_true (by omega)
    exact ⟨i, h, hi, hc, hj, hf, by simp [cutT, hf, h], by simp [cutU, hf, h]⟩

set_option maxRecDepth 20000 in
theorem indexB_any (s : ByteArray) (w : World) :
    Calls Tryz.prog 121 #[.string s, .int .u8 47] w fun e w' => e = .returned (.int .i64 (firstIdx s 47)) ∧ w = w' := by
  go_enter Tryz.func121, Tryz.ntmps121
  go_wp2
  rw [run_callFunc_extern Tryz.func127 (by kernel_rfl) (by kernel_rfl) (by kernel_rfl) (e := Extern.BytealgIndexByte.indexByte) (by kernel_rfl), run_indexByte_string]
  simp only [Result.andThen]
  rw [Oper.upon_value]
  go_wp2
  go_ret
  exact ⟨rfl, rfl⟩

set_option maxRecDepth 20000 in
set_option maxHeartbeats 2000000 in
theorem index47_any (s : ByteArray) (w : World) :
    Calls Tryz.prog 116 #[.string s, .string ⟨#[47]⟩] w fun e w' => e = .returned (.int .i64 (firstIdx s 47)) ∧ w = w' := by
  have C : Hid _ := indexB_any s w
  by_cases h : (s.toList == [47]) = true
  · have h' : ([47] == s.toList) = true := by rw [beq_iff_eq] at h ⊢; exact h.symm
    have hz : firstIdx s 47 = 0 := by
      rw [eq_one] at h
      obtain ⟨h1, h2⟩ := of_decide_eq_true h
      rcases firstIdx_cases s 47 with ⟨_, h4⟩ | ⟨i, h3, h4, _⟩
      · exact absurd h2 (h4 0 (by omega))
      · rw [h3]; omega
    rw [hz]
    go_enter Tryz.func116, Tryz.ntmps116
    go_wp2
    go_ret
    exact ⟨rfl, rfl⟩
  · have h' : ([47] == s.toList) = false := by
      rw [beq_eq_false_iff_ne]
      intro e
      apply h
      rw [beq_iff_eq]
      exact e.symm
    go_enter Tryz.func116, Tryz.ntmps116
    go_wp2_with fail
    refine Calls.mono C.out ?_
    rintro e w' ⟨rfl, rfl⟩
    go_wp2
    go_ret
    exact ⟨rfl, rfl⟩

set_option maxRecDepth 20000 in
set_option maxHeartbeats 2000000 in
theorem cutIn_any (s : ByteArray) (w : World) (hs : s.size ≤ 1048576) :
    Calls Tryz.prog 100 #[.string s, .string ⟨#[47]⟩] w fun e w' => e = .returned (.tuple #[.string (cutT s), .string (cutU s), .bool (cutF s)]) ∧ ∃ n, w.drewN n = w' := by
  have C : Hid _ := index47_any s w
  rcases cut_cases s with ⟨h, _, h1, h2, h3⟩ | ⟨i, h, hi, _, _, h1, h2, h3⟩
  · rw [h1, h2, h3]
    rw [h] at C
    clear h h1 h2 h3
    go_enter Tryz.func100, Tryz.ntmps100
    go_wp2_with fail
    refine Calls.mono C.out ?_
    rintro e w' ⟨rfl, rfl⟩
    go_wp2
    go_ret3
    exact ⟨rfl, 0, rfl⟩
  · rw [h1, h2, h3]
    rw [h] at C
    have c1 : (0 : Int) ≤ (i : Int) := by omega
    have c2 : (i : Int) ≤ (s.size : Int) := by omega
    have c3 : (0 : Int) ≤ (i : Int) + 1 := by omega
    have c4 : (i : Int) + 1 ≤ (s.size : Int) := by omega
    have c5 : ((i : Int) + 1).toNat = i + 1 := by omega
    have mixed : Tryz.prog.follows Departure.mixedOrders = true := by kernel_rfl
    have c6 : IntKind.i64.wrap ((i : Int) + 1) = (i : Int) + 1 := by simp [IntKind.wrap, IntKind.bits, IntKind.signed]; omega
    clear h h1 h2 h3
    go_enter Tryz.func100, Tryz.ntmps100
    go_wp2_with fail
    refine Calls.mono C.out ?_
    rintro e w' ⟨rfl, rfl⟩
    go_wp2
    go_region_o
    go_wp2
    go_ret3
    exact ⟨rfl, 1, rfl⟩
set_option maxRecDepth 20000 in
theorem strCut_any (s : ByteArray) (w : World) (hs : s.size ≤ 1048576) :
    Calls Tryz.prog 68 #[.string s, .string ⟨#[47]⟩] w fun e w' => e = .returned (.tuple #[.string (cutT s), .string (cutU s), .bool (cutF s)]) ∧ ∃ n, w.drewN n = w' := by
  have C : Hid _ := cutIn_any s w hs
  obtain ⟨T, hT⟩ : ∃ T, T = cutT s := ⟨_, rfl⟩
  obtain ⟨U, hU⟩ : ∃ U, U = cutU s := ⟨_, rfl⟩
  obtain ⟨f, hf⟩ : ∃ f, f = cutF s := ⟨_, rfl⟩
  rw [← hT, ← hU, ← hf] at C ⊢
  clear hT hU hf
  go_enter Tryz.func68, Tryz.ntmps68
  go_wp2_with fail
  refine Calls.mono C.out ?_
  rintro e w' ⟨rfl, n, rfl⟩
  go_wp2
  go_ret3
  exact ⟨rfl, n, rfl⟩

set_option maxRecDepth 20000 in
theorem hasP_any (s : ByteArray) (w : World) (hs : s.size ≤ 1048576) :
    Calls Tryz.prog 115 #[.string s, .string ⟨#[45]⟩] w fun e w' => e = .returned (.bool (belowB s)) ∧ w = w' := by
  by_cases h0 : s.size = 0
  · have h1 : ¬ (1 : Int) ≤ (s.size : Int) := by omega
    have e : belowB s = false := by unfold belowB; rw [h0]; rfl
    rw [e]
    clear e h0
    go_enter Tryz.func115, Tryz.ntmps115
    go_wp2
    go_ret
    exact ⟨rfl, rfl⟩
  · have h1 : (1 : Int) ≤ (s.size : Int) := by omega
    have e : belowB s = ((s.extract 0 1).toList == [45]) := by
      rw [eq_one]
      unfold belowB
      have h2 : (s.extract 0 1).size = 1 := by simp; omega
      have h3 : ch (s.extract 0 1) 0 = ch s 0 := by
        rw [← ch_eq (by omega), ← ch_eq (by omega), ByteArray.getElem_extract]
      rw [h2, h3]
      apply decide_eq_decide.2
      constructor
      · rintro ⟨_, h⟩; exact ⟨rfl, h⟩
      · rintro ⟨_, h⟩; exact ⟨by omega, h⟩
    rw [e]
    clear e h0
    go_enter Tryz.func115, Tryz.ntmps115
    go_wp2
    go_ret
    exact ⟨rfl, rfl⟩
set_option maxRecDepth 20000 in
theorem cutPIn_any (s : ByteArray) (w : World) (hs : s.size ≤ 1048576) :
    Calls Tryz.prog 99 #[.string s, .string ⟨#[45]⟩] w fun e w' => e = .returned (.tuple #[.string (restB s), .bool (belowB s)]) ∧ w = w' := by
  have C : Hid _ := hasP_any s w hs
  cases h : belowB s with
  | false =>
    have e : restB s = s := by simp [restB, h]
    rw [h] at C
    rw [e]
    clear e h
    go_enter Tryz.func99, Tryz.ntmps99
    go_wp2_with fail
    refine Calls.mono C.out ?_
    rintro e w' ⟨rfl, rfl⟩
    go_wp2
    go_ret2
    exact ⟨rfl, rfl⟩
  | true =>
    have e : restB s = s.extract 1 s.size := by simp [restB, h]
    have h1 : (1 : Int) ≤ (s.size : Int) := by have := of_decide_eq_true h; omega
    rw [h] at C
    rw [e]
    clear e h
    go_enter Tryz.func99, Tryz.ntmps99
    go_wp2_with fail
    refine Calls.mono C.out ?_
    rintro e w' ⟨rfl, rfl⟩
    go_wp2
    go_ret2
    exact ⟨rfl, rfl⟩
set_option maxRecDepth 20000 in
theorem cutP_any (s : ByteArray) (w : World) (hs : s.size ≤ 1048576) :
    Calls Tryz.prog 67 #[.string s, .string ⟨#[45]⟩] w fun e w' => e = .returned (.tuple #[.string (restB s), .bool (belowB s)]) ∧ w = w' := by
  have C : Hid _ := cutPIn_any s w hs
  obtain ⟨T, hT⟩ : ∃ T, T = restB s := ⟨_, rfl⟩
  obtain ⟨f, hf⟩ : ∃ f, f = belowB s := ⟨_, rfl⟩
  rw [← hT, ← hf] at C ⊢
  clear hT hf
  go_enter Tryz.func67, Tryz.ntmps67
  go_wp2_with fail
  refine Calls.mono C.out ?_
  rintro e w' ⟨rfl, rfl⟩
  go_wp2
  go_ret2
  exact ⟨rfl, rfl⟩
end Go.Proofs.YthokphoojmpajabGreatDoor
