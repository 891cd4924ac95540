/- The contracts of spec.l3Tens, spec.l3Digits, and of spec.DecOk at a text of decimals with a point or none. -/
import Derived.Test.YthokphoojmpajahDoorGShl
import Derived.Test.YthokphoojmpajahDoorGTxt
namespace Go.Proofs.YthokphoojmpajahDoor
open Go.RowKit Go.Proofs.Pin

theorem tens_len (j : Nat) : (dgs (10 ^ j)).length ≤ j + 1 := by
  rw [dgs_len_iff]
  have h1 : 10 ^ j ≤ 65536 ^ j := Nat.pow_le_pow_left (by decide) j
  have h2 : 0 < 65536 ^ j := Nat.pow_pos (by decide)
  rw [Nat.pow_succ]
  omega

set_option maxRecDepth 20000 in
set_option maxHeartbeats 1000000 in
theorem tens_any (k : Nat) (w : World) (hk : k ≤ 60) :
    Calls Tryd.prog 33 #[.int .i64 (k : Int)] w fun e w' => ∃ r c, e = .returned (.slice r (dgs (10 ^ k)).length c) ∧ OwnI w' w.heap.size r c (dgs (10 ^ k)) ∧ Below w.heap.size w w' := by
  have H0 : Hid (OwnI (w.alloc (.cells #[.int .i64 1] 3)) w.heap.size (some ⟨w.heap.size, 0, none⟩) 1 (dgs (10 ^ 0)) ∧ Below w.heap.size w (w.alloc (.cells #[.int .i64 1] 3)) ∧ (dgs (10 ^ 0)).length = 1) := ⟨own_lit w 1, (Below.refl _ w).alloc (Nat.le_refl _) _, rfl⟩
  have HK : Hid (∃ K, K = dgs (10 ^ k)) := ⟨_, rfl⟩
  obtain ⟨K, hK⟩ := HK.out
  rw [← hK]
  have HKK : Hid (K = dgs (10 ^ k)) := hK
  clear hK HK
  go_enter Tryd.func33, Tryd.ntmps33
  go_wp2
  go_loopw [3, 4] (fun v i wr => ∃ (j : Nat) (r : Option Addr) (c : Nat), i = .int .i64 (j : Int) ∧ j ≤ k ∧ v = .slice r (dgs (10 ^ j)).length c ∧ OwnI wr w.heap.size r c (dgs (10 ^ j)) ∧ Below w.heap.size w wr) (fun _ i _ => k - (intOf i).toNat)
  case atStart => exact ⟨0, _, 1, rfl, Nat.zero_le _, by rw [H0.out.2.2], H0.out.1, H0.out.2.1⟩
  case round =>
    obtain ⟨j, r, c, rfl, hj, rfl, ho, hb⟩ := hrel
    by_cases hlt : j < k
    · have hltI : (j : Int) < (k : Int) := by omega
      have C1 : Hid (Calls Tryd.prog 45 #[.slice r (dgs (10 ^ j)).length c, .int .i64 10] wr fun e w' => ∃ r1 c1, e = .returned (.slice r1 (dgs (10 ^ (j + 1))).length c1) ∧ OwnI w' wr.heap.size r1 c1 (dgs (10 ^ (j + 1))) ∧ Below wr.heap.size wr w') := l1Times_any r c (10 ^ j) 10 wr ho.sl (by have := tens_len j; omega) (by decide)
      obtain ⟨Z, hZ⟩ : ∃ Z, Z = dgs (10 ^ j) := ⟨_, rfl⟩
      obtain ⟨V, hV⟩ : ∃ V, V = dgs (10 ^ (j + 1)) := ⟨_, rfl⟩
      rw [← hZ, ← hV] at C1
      rw [← hZ]
      have HV : Hid (V = dgs (10 ^ (j + 1))) := hV
      clear hZ hV ho
      go_wp2_with fail
      refine Calls.mono C1.out ?_
      rintro e w1 ⟨r1, c1, rfl, o1, b1⟩
      have HF : Hid (OwnI w1 w.heap.size r1 c1 V ∧ Below w.heap.size w w1) := ⟨o1.mono hb.size, hb.trans (b1.mono hb.size)⟩
      clear C1 o1 b1 hb
      go_wp2
      go_roundw
      case rel => exact ⟨j + 1, r1, c1, by go_num, by omega, by rw [HV.out], by rw [← HV.out]; exact HF.out.1, HF.out.2⟩
      case measure => simp [intOf]; omega
    · have hge : ¬ (j : Int) < (k : Int) := by omega
      obtain rfl : j = k := by omega
      have HF : Hid (OwnI wr w.heap.size r c K ∧ Below w.heap.size w wr) := ⟨by rw [HKK.out]; exact ho, hb⟩
      rw [← HKK.out]
      clear ho hb hlt hj
      go_wp2
      go_ret
      exact ⟨r, c, rfl, HF.out.1, HF.out.2⟩

/-- So many decimals, and no more, stand in a text from a place on. -/
def DecsAt (s : ByteArray) (f c : Nat) : Prop := f + c ≤ s.size ∧ (∀ i, i < c → 48 ≤ ch s (f + i) ∧ ch s (f + i) ≤ 57) ∧ (f + c < s.size → ch s (f + c) < 48 ∨ 57 < ch s (f + c))
set_option maxRecDepth 20000 in
set_option maxHeartbeats 1000000 in
theorem digs_any (s : ByteArray) (f c : Nat) (w : World) (hs : s.size ≤ 100000) (h : DecsAt s f c) :
    Calls Tryd.prog 74 #[.string s, .int .i64 (f : Int)] w fun e w' => e = .returned (.int .i64 (c : Int)) ∧ w = w' := by
  obtain ⟨h1, h2, h3⟩ := h
  go_enter Tryd.func74, Tryd.ntmps74
  go_wp2
  go_loop [5] (fun i => ∃ j : Nat, j ≤ c ∧ i = .int .i64 (j : Int)) (fun i => c - (intOf i).toNat)
  case atStart => exact ⟨0, Nat.zero_le _, rfl⟩
  case round =>
    obtain ⟨j, hj, rfl⟩ := hrel
    by_cases hlt : j < c
    · have hin : f + j < s.size := by omega
      have hck : s[f + j].toNat = ch s (f + j) := ch_eq hin
      obtain ⟨g1, g2⟩ := h2 j hlt
      have hltI : (f : Int) + (j : Int) < (s.size : Int) := by omega
      have hnn : (0 : Int) ≤ (f : Int) + (j : Int) := by omega
      have htn : ((f : Int) + (j : Int)).toNat = f + j := by omega
      obtain ⟨d, hd⟩ : ∃ d, d = ch s (f + j) := ⟨_, rfl⟩
      rw [← hd] at hck g1 g2
      have g1I : (48 : Int) ≤ (d : Int) := by omega
      have g2I : (d : Int) ≤ 57 := by omega
      clear hd
      go_wp2
      go_round
      case rel => exact ⟨j + 1, by omega, by go_num⟩
      case measure => simp [intOf]; omega
    · obtain rfl : j = c := by omega
      by_cases hin : f + j < s.size
      · have hck : s[f + j].toNat = ch s (f + j) := ch_eq hin
        have hltI : (f : Int) + (j : Int) < (s.size : Int) := by omega
        have htn : ((f : Int) + (j : Int)).toNat = f + j := by omega
        have g := h3 hin
        obtain ⟨d, hd⟩ : ∃ d, d = ch s (f + j) := ⟨_, rfl⟩
        rw [← hd] at hck g
        have g' : (d : Int) < 48 ∨ (48 ≤ (d : Int) ∧ 57 < (d : Int)) := by omega
        clear hd g
        rcases g' with g1 | ⟨g1, g2⟩
        · go_wp2
          go_ret
          exact ⟨rfl, rfl⟩
        · go_wp2
          go_ret
          exact ⟨rfl, rfl⟩
      · have hge : ¬ (f : Int) + (j : Int) < (s.size : Int) := by omega
        go_wp2
        go_ret
        exact ⟨rfl, rfl⟩

/-- The form that DecText writes: decimals, or decimals, a point and decimals, with no nought too many. -/
def DecForm (s : ByteArray) (n : Nat) : Prop := DecsAt s 0 n ∧ 1 ≤ n ∧ (n = 1 ∨ ch s 0 ≠ 48) ∧ (n = s.size ∨ (ch s n = 46 ∧ ∃ k, 1 ≤ k ∧ n + 1 + k = s.size ∧ DecsAt s (n + 1) k))
set_option maxRecDepth 20000 in
set_option maxHeartbeats 4000000 in
theorem parts_any (s : ByteArray) (n : Nat) (w : World) (hs : s.size ≤ 100000) (h : DecForm s n) :
    Calls Tryd.prog 57 #[.string s] w fun e w' => ∃ t p q, e = .returned (.tuple #[t, p, q, .bool (decide (s.size ≤ 60))]) ∧ w = w' := by
  by_cases hb : (60 : Int) < (s.size : Int)
  · have e : decide (s.size ≤ 60) = false := decide_eq_false (by omega)
    rw [e]
    clear h e
    go_enter Tryd.func57, Tryd.ntmps57
    go_wp2
    refine ⟨rfl, .tuple #[.string ⟨#[]⟩, .int .i64 0, .int .i64 0, .bool false], ?_, ?_⟩
    · simp [results, Tryd.f57, go_sem]
    · simp
  · have e : decide (s.size ≤ 60) = true := decide_eq_true (by omega)
    rw [e]
    obtain ⟨h1, h2, h3, h4⟩ := h
    have C0 : Hid _ := digs_any s 0 n w hs h1
    have hsz : s.size ≤ 60 := by omega
    have hn0 : ((n : Int) == 0) = false := by rw [beq_eq_false_iff_ne]; omega
    have hns : n ≤ s.size := by have := h1.1; omega
    have hpos : 0 < s.size := by omega
    have hc0 : s[0].toNat = ch s 0 := ch_eq hpos
    have hcase : ¬ (1 : Int) < (n : Int) ∨ ((1 : Int) < (n : Int) ∧ ((ch s 0 : Int) == 48) = false) := by
      by_cases hn1 : n = 1
      · left; omega
      · right
        refine ⟨by omega, ?_⟩
        rw [beq_eq_false_iff_ne]
        rcases h3 with h3 | h3 <;> omega
    obtain ⟨d0, hd0⟩ : ∃ d0, d0 = ch s 0 := ⟨_, rfl⟩
    rw [← hd0] at hc0 hcase
    have H4 : Hid _ := h4
    clear e h1 h3 hd0 h4
    rcases hcase with g1 | ⟨g1, g2⟩
    all_goals
      rcases H4.out with he | ⟨hp, k, hk1, hk2, hk3⟩
      · have hge : ¬ (n : Int) < (s.size : Int) := by omega
        have heq : ((n : Int) == (s.size : Int)) = true := by rw [beq_iff_eq]; omega
        have hle : (n : Int) ≤ (s.size : Int) := by omega
        clear H4 he
        go_enter Tryd.func57, Tryd.ntmps57
        go_wp2_with fail
        refine Calls.mono C0.out ?_
        rintro e w' ⟨rfl, rfl⟩
        go_wp2
        refine ⟨rfl, .tuple #[.string (s.extract 0 n), .int .i64 0, .int .i64 0, .bool true], ?_, ?_⟩
        · simp [results, Tryd.f57, go_sem]
        · simp
      · have hlt : n < s.size := by omega
        have hltI : (n : Int) < (s.size : Int) := by omega
        have hcn : s[n].toNat = 46 := by rw [ch_eq hlt, hp]
        have C1 : Hid (Calls Tryd.prog 74 #[.string s, .int .i64 ((n : Int) + 1)] w fun e w' => e = .returned (.int .i64 (k : Int)) ∧ w = w') := digs_any s (n + 1) k w hs hk3
        have hk0 : ((k : Int) == 0) = false := by rw [beq_eq_false_iff_ne]; omega
        have hge : ¬ (n : Int) + 1 + (k : Int) < (s.size : Int) := by omega
        have heq : ((n : Int) + 1 + (k : Int) == (s.size : Int)) = true := by rw [beq_iff_eq]; omega
        have q1 : (n : Int) + 1 ≤ (n : Int) + 1 + (k : Int) := by omega
        have q2 : (n : Int) + 1 + (k : Int) ≤ (s.size : Int) := by omega
        have q3 : ((n : Int) + 1).toNat = n + 1 := by omega
        have q4 : ((n : Int) + 1 + (k : Int)).toNat = n + 1 + k := by omega
        have z1 : (s.extract 0 n).size ≤ 60 := by rw [ByteArray.size_extract]; omega
        have z2 : (s.extract (n + 1) (n + 1 + k)).size ≤ 60 := by rw [ByteArray.size_extract]; omega
        clear H4 hk1 hk2 hk3 hp
        go_enter Tryd.func57, Tryd.ntmps57
        go_wp2_with fail
        refine Calls.mono C0.out ?_
        rintro e w' ⟨rfl, rfl⟩
        clear C0
        go_wp2_with fail
        refine Calls.mono C1.out ?_
        rintro e w' ⟨rfl, rfl⟩
        clear C1
        go_wp2
        refine ⟨rfl, .tuple #[.string (s.extract 0 n ++ s.extract (n + 1) (n + 1 + k)), .int .i64 (k : Int), .int .i64 0, .bool true], ?_, ?_⟩
        · simp [results, Tryd.f57, go_sem]
        · simp
set_option maxRecDepth 20000 in
theorem decOk_any (s : ByteArray) (n : Nat) (w : World) (hs : s.size ≤ 100000) (h : DecForm s n) :
    Calls Tryd.prog 34 #[.string s] w fun e w' => e = .returned (.bool (decide (s.size ≤ 60))) ∧ w = w' := by
  have C : Hid _ := parts_any s n w hs h
  obtain ⟨d, hd⟩ : ∃ d, d = decide (s.size ≤ 60) := ⟨_, rfl⟩
  rw [← hd] at C ⊢
  clear hd h
  go_enter Tryd.func34, Tryd.ntmps34
  go_wp2_with fail
  refine Calls.mono C.out ?_
  rintro e w' ⟨t, p, q, rfl, rfl⟩
  go_wp2
  go_ret
  exact ⟨rfl, rfl⟩
end Go.Proofs.YthokphoojmpajahDoor
