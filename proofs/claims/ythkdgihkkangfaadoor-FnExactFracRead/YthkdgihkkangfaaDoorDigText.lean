/- The contract of impl.digitsOfText: the digits of the number that decimals come to. -/
import Derived.Test.YthkdgihkkangfaaDoorScaled
import Derived.Test.YthkdgihkkangfaaDoorTextNum
import Derived.Deep.LoopGhost
namespace Go.Proofs.YthkdgihkkangfaaDoor
open Go.RowKit Go.Proofs.Pin

theorem num_len {s : ByteArray} {k n : Nat} (h : DecsTo s n) (hk : k ≤ n) : (dgs (num s k)).length ≤ k := by
  rw [dgs_len_iff]
  exact Nat.lt_of_lt_of_le (num_lt (fun i hi => h i (by omega))) (Nat.pow_le_pow_left (by decide) k)
theorem seg_same {s T : ByteArray} {k : Nat} : ∀ j, (∀ i, i < j → ch T i = ch s (k + i)) → seg T 0 j = seg s k j
  | 0, _ => rfl
  | j + 1, h => by
    simp only [seg]
    rw [seg_same j (fun i hi => h i (by omega)), Nat.zero_add, h j (by omega)]
theorem seg_bd {T : ByteArray} {j : Nat} (h : ∀ i, i < j → ch T i ≤ 57) : seg T 0 j < 10 ^ j := by
  induction j with
  | zero => simp [seg]
  | succ j ih =>
    have h1 := ih (fun i hi => h i (by omega))
    have h2 := h j (by omega)
    simp only [seg, Nat.zero_add]
    rw [Nat.pow_succ]
    omega
theorem size_ext (T : ByteArray) (a : Nat) : (T.extract a T.size).size = T.size - a := by simp
theorem ch_ext {T : ByteArray} {a i : Nat} (h : i < T.size - a) : ch (T.extract a T.size) i = ch T (a + i) := by
  have h1 : i < (T.extract a T.size).size := by rw [size_ext]; exact h
  rw [← ch_eq h1, ← ch_eq (show a + i < T.size by omega)]
  congr 1
  exact ByteArray.getElem_extract h1
theorem pow_bd {j : Nat} (h : j ≤ 4) : 10 ^ j ≤ 10000 := Nat.pow_le_pow_right (n := 10) (by decide) h
theorem pow_bd3 {j : Nat} (h : j < 4) : 10 ^ j ≤ 1000 := Nat.pow_le_pow_right (n := 10) (by decide) (show j ≤ 3 by omega)

set_option maxRecDepth 20000 in
set_option maxHeartbeats 3200000 in
theorem digText_any (s : ByteArray) (w : World) (hs : s.size ≤ 1300) (hd : DecsTo s s.size) :
    Calls Tryd.prog 72 #[.string s] w fun e w' => ∃ r cr, e = .returned (.slice r (dgs (num s s.size)).length cr) ∧ OwnI w' w.heap.size r cr (dgs (num s s.size)) ∧ Below w.heap.size w w' := by
  have HD : Hid (DecsTo s s.size) := hd
  obtain ⟨n, hn⟩ : ∃ n, n = s.size := ⟨_, rfl⟩
  have HN : Hid (n = s.size) := hn
  have H0 : Hid (∃ (T : ByteArray) (k : Nat) (r : Option Addr) (cr : Nat), Value.string s = .string T ∧ Value.slice none 0 0 = .slice r (dgs (num s k)).length cr ∧ T.size = n ∧ k + n = n ∧ (∀ i, i < n → ch T i = ch s (k + i)) ∧ OwnI w w.heap.size r cr (dgs (num s k)) ∧ Below w.heap.size w w) := ⟨s, 0, none, 0, rfl, rfl, hn.symm, by omega, fun i _ => by rw [Nat.zero_add], OwnI.nil _ _, Below.refl _ _⟩
  rw [← hn] at hs ⊢
  obtain ⟨R, hR⟩ : ∃ R, R = dgs (num s n) := ⟨_, rfl⟩
  have HR : Hid (R = dgs (num s n)) := hR
  rw [← hR]
  clear hd hn hR
  go_enter Tryd.func72, Tryd.ntmps72
  go_wp2
  go_loopg [0, 3] n (fun m t d wr => ∃ (T : ByteArray) (k : Nat) (r : Option Addr) (cr : Nat), t = .string T ∧ d = .slice r (dgs (num s k)).length cr ∧ T.size = m ∧ k + m = n ∧ (∀ i, i < m → ch T i = ch s (k + i)) ∧ OwnI wr w.heap.size r cr (dgs (num s k)) ∧ Below w.heap.size w wr)
  case atStart => exact H0.out
  case round =>
    obtain ⟨T, k, r, cr, rfl, rfl, rfl, hkm, hch, ho, hb⟩ := hrel
    clear H0
    have hxl := num_len (s := s) (k := k) (n := n) (by rw [HN.out]; exact HD.out) (by omega)
    by_cases h0 : T.size = 0
    · have hkn : k = n := by omega
      have HO : Hid (OwnI wr w.heap.size r cr (dgs (num s k)) ∧ Below w.heap.size w wr ∧ R = dgs (num s k)) := ⟨ho, hb, by rw [HR.out, hkn]⟩
      obtain ⟨U, hU⟩ : ∃ U, U = dgs (num s k) := ⟨_, rfl⟩
      rw [← hU] at HO ⊢
      have hT0 : ¬ (0 : Int) < (T.size : Int) := by omega
      clear hU ho hb hch hxl hkm hkn
      go_wp2
      go_ret
      rw [HO.out.2.2]
      exact ⟨r, cr, rfl, HO.out.1, HO.out.2.1⟩
    · have hT1 : (0 : Int) < (T.size : Int) := by omega
      have HC : Hid (∀ i, i < T.size → ch T i = ch s (k + i)) := hch
      have HC2 : Hid (∀ i, i < T.size → 48 ≤ ch T i ∧ ch T i ≤ 57) := fun i hi => by rw [hch i hi]; exact HD.out _ (by rw [← HN.out]; omega)
      have CS : Hid (∀ q : Nat, q ≤ 4 → q ≤ T.size → Calls Tryd.prog 60 #[.slice r (dgs (num s k)).length cr, .int .i64 ((10 ^ q : Nat) : Int), .int .i64 ((seg T 0 q : Nat) : Int)] wr fun e w' => ∃ r2 c2, e = .returned (.slice r2 (dgs (num s (k + q))).length c2) ∧ OwnI w' w.heap.size r2 c2 (dgs (num s (k + q))) ∧ Below w.heap.size w w') := fun q hq hqm => by
        have hsb := seg_bd (T := T) (j := q) (fun i hi => (HC2.out i (by omega)).2)
        have hp := pow_bd hq
        have h := scaled_any r cr (num s k) ((10 ^ q : Nat) : Int) ((seg T 0 q : Nat) : Int) wr ho.sl (by omega) (by omega) (by omega) (by omega) (by omega)
        rw [Int.toNat_natCast, Int.toNat_natCast, seg_same q (fun i hi => HC.out i (by omega)), ← num_seg] at h
        rw [seg_same q (fun i hi => HC.out i (by omega))]
        exact h.mono fun e w' ⟨r2, c2, h1, h2, h3⟩ => ⟨r2, c2, h1, h2.mono hb.size, hb.trans (h3.mono hb.size)⟩
      obtain ⟨U, hU⟩ : ∃ U, U = dgs (num s k) := ⟨_, rfl⟩
      rw [← hU] at CS hxl ⊢
      have HK : Hid (k + T.size = n) := hkm
      clear hU ho hb hch h0 hkm
      by_cases h4 : (T.size : Int) < 4
      · have hm4 : T.size ≤ 4 := by omega
        go_wp2
        go_loop [5, 6, 15] (fun c p i => ∃ j : Nat, j ≤ T.size ∧ i = .int .i64 (j : Int) ∧ c = .int .i64 ((seg T 0 j : Nat) : Int) ∧ p = .int .i64 ((10 ^ j : Nat) : Int)) (fun _ _ i => T.size - (intOf i).toNat)
        case atStart => exact ⟨0, Nat.zero_le _, rfl, rfl, rfl⟩
        case round =>
          obtain ⟨j, hj, rfl, rfl, rfl⟩ := hrel
          by_cases hlt : j < T.size
          · have hjT : j < T.size := by omega
            have hltI : (j : Int) < (T.size : Int) := by omega
            have hck : T[j].toNat = ch T j := ch_eq hjT
            obtain ⟨d0, d1⟩ := HC2.out j (by omega)
            have hsb := seg_bd (T := T) (j := j) (fun i hi => (HC2.out i (by omega)).2)
            have hpb := pow_bd3 (j := j) (by omega)
            have HS : Hid (seg T 0 (j + 1) = seg T 0 j * 10 + (ch T j - 48) ∧ 10 ^ (j + 1) = 10 ^ j * 10) := ⟨by simp [seg], Nat.pow_succ _ _⟩
            obtain ⟨c, hc⟩ : ∃ c, c = ch T j := ⟨_, rfl⟩
            obtain ⟨g, hg⟩ : ∃ g, g = seg T 0 j := ⟨_, rfl⟩
            obtain ⟨p, hp⟩ : ∃ p : Nat, p = 10 ^ j := ⟨_, rfl⟩
            rw [← hc] at HS d0 d1 hck
            rw [← hg, ← hp] at HS hsb
            rw [← hp] at hpb
            rw [← hg, ← hp]
            have d0I : (48 : Int) ≤ (c : Int) := by omega
            have d1I : (c : Int) ≤ 57 := by omega
            have gI : (g : Int) < 1000 := by omega
            have pI : (p : Int) ≤ 1000 := by omega
            clear hc hg hp
            go_wp2
            go_round
            case rel => exact ⟨j + 1, by omega, by go_num, by rw [HS.out.1]; congr 1; omega, by rw [HS.out.2]; congr 1⟩
            case measure => simp [intOf]; omega
          · have hjq : j = T.size := by omega
            subst hjq
            have C1 : Hid _ := CS.out T.size (by omega) (by omega)
            have HP : Hid (((10 ^ T.size : Nat) : Int) ≤ 10000) := by have := pow_bd (j := T.size) (by omega); show _ ≤ _; omega
            obtain ⟨p, hp⟩ : ∃ p : Nat, p = 10 ^ T.size := ⟨_, rfl⟩
            obtain ⟨g, hg⟩ : ∃ g, g = seg T 0 T.size := ⟨_, rfl⟩
            rw [← hp, ← hg] at C1 ⊢
            clear CS hp hg HP
            obtain ⟨V, hV⟩ : ∃ V, V = dgs (num s (k + T.size)) := ⟨_, rfl⟩
            rw [← hV] at C1
            have HV : Hid (V = dgs (num s (k + T.size))) := hV
            clear hV
            go_wp2_with fail
            refine Calls.mono C1.out ?_
            rintro e w2 ⟨r2, c2, rfl, o2, b2⟩
            have HO : Hid (OwnI w2 w.heap.size r2 c2 V ∧ Below w.heap.size w w2) := ⟨o2, b2⟩
            clear o2 b2 C1
            go_wp2
            go_roundg 0
            case measure => omega
            case rel =>
              refine ⟨ByteArray.empty, k + T.size, r2, c2, rfl, by rw [HV.out], rfl, by have := HK.out; omega, fun i hi => by omega, by rw [← HV.out]; exact HO.out.1, HO.out.2⟩
      · have h4' : (4 : Int) ≤ (T.size : Int) := by omega
        go_wp2
        go_loop [5, 6, 15] (fun c p i => ∃ j : Nat, j ≤ 4 ∧ i = .int .i64 (j : Int) ∧ c = .int .i64 ((seg T 0 j : Nat) : Int) ∧ p = .int .i64 ((10 ^ j : Nat) : Int)) (fun _ _ i => 4 - (intOf i).toNat)
        case atStart => exact ⟨0, Nat.zero_le _, rfl, rfl, rfl⟩
        case round =>
          obtain ⟨j, hj, rfl, rfl, rfl⟩ := hrel
          by_cases hlt : j < 4
          · have hjT : j < T.size := by omega
            have hltI : (j : Int) < 4 := by omega
            have hck : T[j].toNat = ch T j := ch_eq hjT
            obtain ⟨d0, d1⟩ := HC2.out j (by omega)
            have hsb := seg_bd (T := T) (j := j) (fun i hi => (HC2.out i (by omega)).2)
            have hpb := pow_bd3 (j := j) (by omega)
            have HS : Hid (seg T 0 (j + 1) = seg T 0 j * 10 + (ch T j - 48) ∧ 10 ^ (j + 1) = 10 ^ j * 10) := ⟨by simp [seg], Nat.pow_succ _ _⟩
            obtain ⟨c, hc⟩ : ∃ c, c = ch T j := ⟨_, rfl⟩
            obtain ⟨g, hg⟩ : ∃ g, g = seg T 0 j := ⟨_, rfl⟩
            obtain ⟨p, hp⟩ : ∃ p : Nat, p = 10 ^ j := ⟨_, rfl⟩
            rw [← hc] at HS d0 d1 hck
            rw [← hg, ← hp] at HS hsb
            rw [← hp] at hpb
            rw [← hg, ← hp]
            have d0I : (48 : Int) ≤ (c : Int) := by omega
            have d1I : (c : Int) ≤ 57 := by omega
            have gI : (g : Int) < 1000 := by omega
            have pI : (p : Int) ≤ 1000 := by omega
            clear hc hg hp
            go_wp2
            go_round
            case rel => exact ⟨j + 1, by omega, by go_num, by rw [HS.out.1]; congr 1; omega, by rw [HS.out.2]; congr 1⟩
            case measure => simp [intOf]; omega
          · have hjq : j = 4 := by omega
            subst hjq
            have C1 : Hid _ := CS.out 4 (by omega) (by omega)
            have HP : Hid (((10 ^ 4 : Nat) : Int) ≤ 10000) := by have := pow_bd (j := 4) (by omega); show _ ≤ _; omega
            obtain ⟨p, hp⟩ : ∃ p : Nat, p = 10 ^ 4 := ⟨_, rfl⟩
            obtain ⟨g, hg⟩ : ∃ g, g = seg T 0 4 := ⟨_, rfl⟩
            rw [← hp, ← hg] at C1 ⊢
            clear CS hp hg HP
            obtain ⟨V, hV⟩ : ∃ V, V = dgs (num s (k + 4)) := ⟨_, rfl⟩
            rw [← hV] at C1
            have HV : Hid (V = dgs (num s (k + 4))) := hV
            clear hV
            go_wp2_with fail
            refine Calls.mono C1.out ?_
            rintro e w2 ⟨r2, c2, rfl, o2, b2⟩
            have HO : Hid (OwnI w2 w.heap.size r2 c2 V ∧ Below w.heap.size w w2) := ⟨o2, b2⟩
            clear o2 b2 C1
            go_wp2
            go_roundg (T.size - 4)
            case measure => omega
            case rel =>
              refine ⟨T.extract 4 T.size, k + 4, r2, c2, rfl, by rw [HV.out], size_ext T 4, by have := HK.out; omega, fun i hi => by rw [ch_ext (by omega), HC.out (4 + i) (by omega), ← Nat.add_assoc], by rw [← HV.out]; exact HO.out.1, HO.out.2⟩
end Go.Proofs.YthkdgihkkangfaaDoor
