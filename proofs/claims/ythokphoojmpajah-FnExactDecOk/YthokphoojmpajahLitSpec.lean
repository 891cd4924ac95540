/- The contracts of spec.l3Digits, l3Parts and DecOk at every text. -/
import Derived.Test.YthokphoojmpajahProg
import Derived.Test.YthokphoojmpajahBase
import Derived.Test.YthokphoojmpajahLitPure
import Derived.WalkKit
import Derived.Outline
import Derived.WalkSpells
import Derived.Deep.Cut
import Derived.Deep.CutRange
namespace Go.Proofs.Ythokphoojmpajah
open Go.RowKit Go.Proofs.Pin

set_option maxHeartbeats 1000000 in
theorem nd_any (s : ByteArray) (f : Nat) (w : World) (hs : s.size ≤ 1048576) (hf : f ≤ s.size) :
    Calls Try.prog 8 #[.string s, .int .i64 (f : Int)] w fun e w' => e = .returned (.int .i64 (nd s f : Int)) ∧ w = w' := by
  obtain ⟨c, hc⟩ : ∃ c, c = nd s f := ⟨_, rfl⟩
  have h1 : f + c ≤ s.size := by rw [hc]; exact nd_le s f hf
  have h2 : ∀ i, i < c → 48 ≤ ch s (f + i) ∧ ch s (f + i) ≤ 57 := fun i hi => dAt_iff.1 ((nd_spec s _ f rfl).1 (f + i) (by omega) (by omega))
  have h3 : ch s (f + c) < 48 ∨ 57 < ch s (f + c) := by rw [hc]; exact dAt_no.1 (nd_spec s _ f rfl).2
  rw [← hc]
  clear hc
  go_enter Try.func8, Try.ntmps8
  go_wp2
  go_loop [5] (fun i => ∃ j : Nat, j ≤ c ∧ i = .int .i64 (j : Int)) (fun i => c - (intOf i).toNat)
  case atStart => exact ⟨0, Nat.zero_le _, rfl⟩
  case round =>
    obtain ⟨j, hj, rfl⟩ := hrel
    by_cases hlt : j < c
    · have hin : f + j < s.size := by omega
      have hck : s[f + j].toNat = ch s (f + j) := ch_eq hin
      obtain ⟨g1, g2⟩ := h2 j hlt
      have hltI : (f : Int) + (j : Int) < (s.size : Int) := by omega
      have hnn : (0 : Int) ≤ (f : Int) + (j : Int) := by omega
      have htn : ((f : Int) + (j : Int)).toNat = f + j := by omega
      obtain ⟨d, hd⟩ : ∃ d, d = ch s (f + j) := ⟨_, rfl⟩
      rw [← hd] at hck g1 g2
      have g1I : (48 : Int) ≤ (d : Int) := by omega
      have g2I : (d : Int) ≤ 57 := by omega
      clear hd
      go_wp2
      go_round
      case rel => exact ⟨j + 1, by omega, by go_num⟩
      case measure => simp [intOf]; omega
    · obtain rfl : j = c := by omega
      by_cases hin : f + j < s.size
      · have hck : s[f + j].toNat = ch s (f + j) := ch_eq hin
        have hltI : (f : Int) + (j : Int) < (s.size : Int) := by omega
        have htn : ((f : Int) + (j : Int)).toNat = f + j := by omega
        obtain ⟨d, hd⟩ : ∃ d, d = ch s (f + j) := ⟨_, rfl⟩
        rw [← hd] at hck h3
        have g' : (d : Int) < 48 ∨ (48 ≤ (d : Int) ∧ 57 < (d : Int)) := by omega
        clear hd h3
        rcases g' with g1 | ⟨g1, g2⟩
        · go_wp2
          go_ret
          exact ⟨rfl, rfl⟩
        · go_wp2
          go_ret
          exact ⟨rfl, rfl⟩
      · have hge : ¬ (f : Int) + (j : Int) < (s.size : Int) := by omega
        go_wp2
        go_ret
        exact ⟨rfl, rfl⟩

set_option maxRecDepth 20000 in
set_option maxHeartbeats 8000000 in
theorem litParts_any (s : ByteArray) (w : World) (hs : s.size ≤ 1048576) :
    Calls Try.prog 6 #[.string s] w fun e w' => ∃ t p q, e = .returned (.tuple #[t, p, q, .bool (litB s)]) ∧ w = w' := by
  by_cases hb : (60 : Int) < (s.size : Int)
  · have e : litB s = false := by
      have : ¬ s.size ≤ 60 := by omega
      simp [litB, this]
    rw [e]
    clear e
    go_enter Try.func6, Try.ntmps6
    go_wp2
    refine ⟨rfl, .tuple #[.string ⟨#[]⟩, .int .i64 0, .int .i64 0, .bool false], ?_, ?_⟩
    · simp [results, Try.f6, go_sem]
    · simp
  · have hsz : s.size ≤ 60 := by omega
    have C0 : Hid (∀ (f : Nat), f ≤ s.size → Calls Try.prog 8 #[.string s, .int .i64 (f : Int)] w fun e w' => e = .returned (.int .i64 (nd s f : Int)) ∧ w = w') := fun f hf => nd_any s f w hs hf
    have HL : Hid (litB s = (decide (1 ≤ nd s 0) && (!(decide (1 < nd s 0) && decide (ch s 0 = 48)) && frB s (nd s 0)))) := by
      show litB s = _
      simp [litB, hsz]
    have hn := nd_le s 0 (Nat.zero_le _)
    obtain ⟨L, hL⟩ : ∃ L, L = litB s := ⟨_, rfl⟩
    obtain ⟨n, hN⟩ : ∃ n, n = nd s 0 := ⟨_, rfl⟩
    have C00 : Hid (Calls Try.prog 8 #[.string s, .int .i64 0] w fun e w' => e = .returned (.int .i64 (nd s 0 : Int)) ∧ w = w') := C0.out 0 (Nat.zero_le _)
    rw [← hL] at HL ⊢
    rw [← hN] at HL hn C00
    clear hL hN
    go_enter Try.func6, Try.ntmps6
    go_wp2_with fail
    refine Calls.mono C00.out ?_
    rintro e w' ⟨rfl, rfl⟩
    clear C00
    go_upto_region 4 with fail
    go_cut [29] from 19 to 29 (fun v wx => v = .bool (decide (n = 0) || (decide (1 < n) && decide (ch s 0 = 48))) ∧ w = wx)
    case first =>
      by_cases h0 : n = 0
      · have e0 : ((n : Int) == 0) = true := by rw [beq_iff_eq]; omega
        have ed : (decide (n = 0) || (decide (1 < n) && decide (ch s 0 = 48))) = true := by simp [h0]
        have HE : Hid _ := ed
        clear h0 ed HL
        go_wp2_with fail
        go_meet
        exact ⟨by rw [HE.out], rfl⟩
      · have e0 : ((n : Int) == 0) = false := by rw [beq_eq_false_iff_ne]; omega
        by_cases h1 : 1 < n
        · have e1 : (1 : Int) < (n : Int) := by omega
          have hpos : 0 < s.size := by omega
          have hc0 : s[0].toNat = ch s 0 := ch_eq hpos
          have ed : (decide (n = 0) || (decide (1 < n) && decide (ch s 0 = 48))) = ((ch s 0 : Int) == 48) := by
            rw [Bool.eq_iff_iff]
            simp [h0, h1]
            omega
          obtain ⟨d, hd⟩ : ∃ d, d = ch s 0 := ⟨_, rfl⟩
          have HE : Hid _ := ed
          rw [← hd] at hc0
          have HD : Hid _ := hd
          clear h0 h1 ed hd HL
          go_wp2_with fail
          go_meet
          exact ⟨by rw [HE.out, ← HD.out], rfl⟩
        · have e1 : ¬ (1 : Int) < (n : Int) := by omega
          have ed : (decide (n = 0) || (decide (1 < n) && decide (ch s 0 = 48))) = false := by simp [h0, h1]
          have HE : Hid _ := ed
          clear h0 h1 ed HL
          go_wp2_with fail
          go_meet
          exact ⟨by rw [HE.out], rfl⟩
    case rest =>
      obtain ⟨rfl, rfl⟩ := hcut
      have HF : Hid ((decide (n = 0) || (decide (1 < n) && decide (ch s 0 = 48))) = true → L = false) := fun h => by
        rw [HL.out]
        simp only [Bool.or_eq_true, Bool.and_eq_true, decide_eq_true_eq] at h
        rcases h with h | ⟨h1, h2⟩
        · simp [h]
        · simp [h1, h2]
      have HT : Hid ((decide (n = 0) || (decide (1 < n) && decide (ch s 0 = 48))) = false → L = frB s n ∧ 0 < n) := fun h => by
        rw [HL.out]
        simp only [Bool.or_eq_false_iff, decide_eq_false_iff_not] at h
        have h1 : 1 ≤ n := by omega
        rw [h.2]
        simp [h1]
        omega
      obtain ⟨B, hB⟩ : ∃ B, B = (decide (n = 0) || (decide (1 < n) && decide (ch s 0 = 48))) := ⟨_, rfl⟩
      rw [← hB] at HF HT ⊢
      clear hB HL
      cases B with
      | true =>
        obtain rfl := HF.out rfl
        clear HF HT C0
        go_wp2
        refine ⟨rfl, .tuple #[.string ⟨#[]⟩, .int .i64 0, .int .i64 0, .bool false], ?_, ?_⟩
        · simp [results, Try.f6, go_sem]
        · simp
      | false =>
        obtain ⟨hLf, hn0⟩ := HT.out rfl
        have HLf : Hid (L = frB s n) := hLf
        have hnI : (n : Int) ≤ (s.size : Int) := by omega
        clear HF HT hLf
        go_upto_region 9 with fail
        go_cut [43] from 34 to 43 (fun v wx => v = .bool (decide (ch s n = 46)) ∧ w = wx)
        case first =>
          by_cases hlt : n < s.size
          · have e1 : (n : Int) < (s.size : Int) := by omega
            have hcn : s[n].toNat = ch s n := ch_eq hlt
            have ed : decide (ch s n = 46) = ((ch s n : Int) == 46) := by
              rw [Bool.eq_iff_iff]
              simp
              omega
            obtain ⟨d, hd⟩ : ∃ d, d = ch s n := ⟨_, rfl⟩
            have HE : Hid _ := ed
            rw [← hd] at hcn
            have HD : Hid _ := hd
            clear ed hd
            go_wp2_with fail
            go_meet
            exact ⟨by rw [HE.out, ← HD.out], rfl⟩
          · have e1 : ¬ (n : Int) < (s.size : Int) := by omega
            have ed : decide (ch s n = 46) = false := by rw [ch_past (by omega)]; rfl
            have HE : Hid _ := ed
            clear ed
            go_wp2_with fail
            go_meet
            exact ⟨by rw [HE.out], rfl⟩
        case rest =>
          obtain ⟨rfl, rfl⟩ := hcut
          go_upto_if 43 with fail
          go_cut [7, 8, 9] from 43 to 63 (fun t p a wx => ∃ (T : ByteArray) (k A : Nat), t = .string T ∧ p = .int .i64 (k : Int) ∧ a = .int .i64 (A : Int) ∧ T.size ≤ 120 ∧ A ≤ s.size ∧ L = tlB s A ∧ w = wx)
          case first =>
            by_cases hp : ch s n = 46
            · have ed : decide (ch s n = 46) = true := by simp [hp]
              have hlt : n < s.size := lt_of_ch (by omega)
              have C1 : Hid (Calls Try.prog 8 #[.string s, .int .i64 ((n : Int) + 1)] w fun e w' => e = .returned (.int .i64 (nd s (n + 1) : Int)) ∧ w = w') := C0.out (n + 1) (by omega)
              have hk1 := nd_le s (n + 1) (by omega)
              have HFR : Hid (frB s n = if nd s (n + 1) = 0 then false else tlB s (n + 1 + nd s (n + 1))) := by
                show frB s n = _
                simp [frB, hp]
              obtain ⟨k, hk⟩ : ∃ k, k = nd s (n + 1) := ⟨_, rfl⟩
              rw [← hk] at C1 hk1 HFR
              rw [ed]
              clear hk ed hp
              go_wp2_with fail
              refine Calls.mono C1.out ?_
              rintro e w' ⟨rfl, rfl⟩
              clear C1
              by_cases hk0 : k = 0
              · have e0 : ((k : Int) == 0) = true := by rw [beq_iff_eq]; omega
                obtain rfl : L = false := by rw [HLf.out, HFR.out]; simp [hk0]
                clear hk0 HLf HFR C0
                go_wp2
                refine ⟨rfl, .tuple #[.string ⟨#[]⟩, .int .i64 0, .int .i64 0, .bool false], ?_, ?_⟩
                · simp [results, Try.f6, go_sem]
                · simp
              · have e0 : ((k : Int) == 0) = false := by rw [beq_eq_false_iff_ne]; omega
                have HE : Hid (L = tlB s (n + 1 + k)) := by
                  show L = _
                  rw [HLf.out, HFR.out]
                  simp [hk0]
                have q1 : (n : Int) + 1 ≤ (n : Int) + 1 + (k : Int) := by omega
                have q2 : (n : Int) + 1 + (k : Int) ≤ (s.size : Int) := by omega
                have q3 : ((n : Int) + 1).toNat = n + 1 := by omega
                have q4 : ((n : Int) + 1 + (k : Int)).toNat = n + 1 + k := by omega
                have z1 : (s.extract 0 n).size ≤ 60 := by rw [ByteArray.size_extract]; omega
                have z2 : (s.extract (n + 1) (n + 1 + k)).size ≤ 60 := by rw [ByteArray.size_extract]; omega
                have HZ : Hid ((s.extract 0 n ++ s.extract (n + 1) (n + 1 + k)).size ≤ 120) := by
                  show _ ≤ 120
                  rw [ByteArray.size_append]
                  omega
                clear hk0 HLf HFR C0
                go_wp2_with fail
                go_meet
                exact ⟨_, k, n + 1 + k, rfl, rfl, by push_cast; rfl, HZ.out, by omega, HE.out, rfl⟩
            · have ed : decide (ch s n = 46) = false := by simp [hp]
              have HE : Hid (L = tlB s n) := by
                show L = _
                rw [HLf.out, fr_none hp]
              have HZ : Hid ((s.extract 0 n).size ≤ 120) := by
                show _ ≤ 120
                rw [ByteArray.size_extract]
                omega
              rw [ed]
              clear ed hp HLf C0
              go_wp2_with fail
              go_meet
              exact ⟨_, 0, n, rfl, rfl, rfl, HZ.out, by omega, HE.out, rfl⟩
          case rest =>
            obtain ⟨T, k, A, rfl, rfl, rfl, hT, hA, hLt, rfl⟩ := hcut
            have HLt : Hid (L = tlB s A) := hLt
            clear hLt HLf hn0 hnI hn
            go_upto_region 16 with fail
            go_cut [73] from 64 to 73 (fun v wx => v = .bool (decide (ch s A = 101)) ∧ w = wx)
            case first =>
              by_cases hlt : A < s.size
              · have e1 : (A : Int) < (s.size : Int) := by omega
                have hcn : s[A].toNat = ch s A := ch_eq hlt
                have ed : decide (ch s A = 101) = ((ch s A : Int) == 101) := by
                  rw [Bool.eq_iff_iff]
                  simp
                  omega
                obtain ⟨d, hd⟩ : ∃ d, d = ch s A := ⟨_, rfl⟩
                have HE : Hid _ := ed
                rw [← hd] at hcn
                have HD : Hid _ := hd
                clear ed hd
                go_wp2_with fail
                go_meet
                exact ⟨by rw [HE.out, ← HD.out], rfl⟩
              · have e1 : ¬ (A : Int) < (s.size : Int) := by omega
                have ed : decide (ch s A = 101) = false := by rw [ch_past (by omega)]; rfl
                have HE : Hid _ := ed
                clear ed
                go_wp2_with fail
                go_meet
                exact ⟨by rw [HE.out], rfl⟩
            case rest =>
              obtain ⟨rfl, rfl⟩ := hcut
              by_cases hp : ch s A = 101
              · have ed : decide (ch s A = 101) = true := by simp [hp]
                have hlt : A < s.size := lt_of_ch (by omega)
                rw [ed]
                clear ed
                go_upto_region 18 with fail
                go_cut [11] from 76 to 85 (fun v wx => v = .bool (decide (ch s (A + 1) = 45)) ∧ w = wx)
                case first =>
                  by_cases hlt2 : A + 1 < s.size
                  · have e1 : (A : Int) + 1 < (s.size : Int) := by omega
                    have hcn : s[A + 1].toNat = ch s (A + 1) := ch_eq hlt2
                    have htn : ((A : Int) + 1).toNat = A + 1 := by omega
                    have ed : decide (ch s (A + 1) = 45) = ((ch s (A + 1) : Int) == 45) := by
                      rw [Bool.eq_iff_iff]
                      simp
                      omega
                    obtain ⟨d, hd⟩ : ∃ d, d = ch s (A + 1) := ⟨_, rfl⟩
                    have HE : Hid _ := ed
                    rw [← hd] at hcn
                    have HD : Hid _ := hd
                    clear ed hd
                    go_wp2_with fail
                    go_meet
                    exact ⟨by rw [HE.out, ← HD.out], rfl⟩
                  · have e1 : ¬ (A : Int) + 1 < (s.size : Int) := by omega
                    have ed : decide (ch s (A + 1) = 45) = false := by rw [ch_past (by omega)]; rfl
                    have HE : Hid _ := ed
                    clear ed
                    go_wp2_with fail
                    go_meet
                    exact ⟨by rw [HE.out], rfl⟩
                case rest =>
                  obtain ⟨rfl, rfl⟩ := hcut
                  have HX : Hid (∀ b, (decide (ch s (A + 1) = 45) = true → b = A + 2) → (decide (ch s (A + 1) = 45) = false → b = A + 1) → L = exN s (decide (ch s (A + 1) = 45)) b) := fun b h1 h2 => by
                    rw [HLt.out]
                    refine tl_ex ⟨hp, ?_⟩
                    by_cases h : ch s (A + 1) = 45
                    · exact .inl ⟨by simp [h], h, h1 (by simp [h])⟩
                    · exact .inr ⟨by simp [h], h, h2 (by simp [h])⟩
                  have HS : Hid (decide (ch s (A + 1) = 45) = true → A + 2 ≤ s.size) := fun h => by
                    have h1 : ch s (A + 1) = 45 := by simpa using h
                    have := lt_of_ch (s := s) (k := A + 1) (by omega)
                    omega
                  obtain ⟨m, hm⟩ : ∃ m, m = decide (ch s (A + 1) = 45) := ⟨_, rfl⟩
                  rw [← hm] at HX HS ⊢
                  clear hm hp HLt
                  go_upto_if 86 with fail
                  go_cut [9] from 86 to 88 (fun v wx => ∃ b : Nat, v = .int .i64 (b : Int) ∧ b ≤ s.size ∧ L = exN s m b ∧ w = wx)
                  case first =>
                    cases m with
                    | true =>
                      have h2 := HS.out rfl
                      have HE : Hid _ := HX.out (A + 2) (fun _ => rfl) (fun h => by cases h)
                      clear HX HS
                      go_wp2_with fail
                      go_meet
                      exact ⟨A + 2, by push_cast; congr 1, h2, HE.out, rfl⟩
                    | false =>
                      have HE : Hid _ := HX.out (A + 1) (fun h => by cases h) (fun _ => rfl)
                      clear HX HS
                      go_wp2_with fail
                      go_meet
                      exact ⟨A + 1, by push_cast; rfl, by omega, HE.out, rfl⟩
                  case rest =>
                    obtain ⟨b, rfl, hbs, hLx, rfl⟩ := hcut
                    have HLx : Hid (L = exN s m b) := hLx
                    have C1 : Hid _ := C0.out b hbs
                    have hk1 := nd_le s b hbs
                    have HDG : Hid (Dgs s b (b + nd s b)) := (nd_spec s _ b rfl).1
                    unfold exN at HLx
                    obtain ⟨j, hj⟩ : ∃ j, j = nd s b := ⟨_, rfl⟩
                    rw [← hj] at C1 hk1 HDG HLx
                    clear hj hLx HX HS C0 hlt
                    go_wp2_with fail
                    refine Calls.mono C1.out ?_
                    rintro e w' ⟨rfl, rfl⟩
                    clear C1
                    go_upto_region 22 with fail
                    go_cut [116] from 92 to 116 (fun v wx => v = .bool (decide (j = 0) || (decide (3 < j) || ((decide (1 < j) && decide (ch s b = 48)) || (m && decide (ch s b = 48))))) ∧ w = wx)
                    case first =>
                      by_cases h0 : j = 0
                      · have e0 : ((j : Int) == 0) = true := by rw [beq_iff_eq]; omega
                        have HE : Hid ((decide (j = 0) || (decide (3 < j) || ((decide (1 < j) && decide (ch s b = 48)) || (m && decide (ch s b = 48))))) = true) := by
                          show _ = true
                          simp [h0]
                        clear h0 HLx
                        go_wp2_with fail
                        go_meet
                        exact ⟨by rw [HE.out], rfl⟩
                      have e0 : ((j : Int) == 0) = false := by rw [beq_eq_false_iff_ne]; omega
                      by_cases h3 : 3 < j
                      · have e3 : (3 : Int) < (j : Int) := by omega
                        have HE : Hid ((decide (j = 0) || (decide (3 < j) || ((decide (1 < j) && decide (ch s b = 48)) || (m && decide (ch s b = 48))))) = true) := by
                          show _ = true
                          simp [h3]
                        clear h0 h3 HLx
                        go_wp2_with fail
                        go_meet
                        exact ⟨by rw [HE.out], rfl⟩
                      have e3 : ¬ (3 : Int) < (j : Int) := by omega
                      have hbl : b < s.size := by omega
                      have hblI : (b : Int) < (s.size : Int) := by omega
                      have hcn : s[b].toNat = ch s b := ch_eq hbl
                      by_cases h48 : ch s b = 48
                      · rw [h48] at hcn
                        by_cases h1 : 1 < j
                        · have e1 : (1 : Int) < (j : Int) := by omega
                          have HE : Hid ((decide (j = 0) || (decide (3 < j) || ((decide (1 < j) && decide (ch s b = 48)) || (m && decide (ch s b = 48))))) = true) := by
                            show _ = true
                            simp [h1, h48]
                          clear h0 h3 h1 h48 HLx
                          go_wp2_with fail
                          go_meet
                          exact ⟨by rw [HE.out], rfl⟩
                        · have e1 : ¬ (1 : Int) < (j : Int) := by omega
                          have HE : Hid ((decide (j = 0) || (decide (3 < j) || ((decide (1 < j) && decide (ch s b = 48)) || (m && decide (ch s b = 48))))) = m) := by
                            show _ = m
                            simp [h0, h3, h1, h48]
                          clear h0 h3 h1 h48 HLx
                          cases m with
                          | true =>
                            go_wp2_with fail
                            go_meet
                            exact ⟨by rw [HE.out], rfl⟩
                          | false =>
                            go_wp2_with fail
                            go_meet
                            exact ⟨by rw [HE.out], rfl⟩
                      · have HE : Hid ((decide (j = 0) || (decide (3 < j) || ((decide (1 < j) && decide (ch s b = 48)) || (m && decide (ch s b = 48))))) = false) := by
                          show _ = false
                          simp [h0, h3, h48]
                        obtain ⟨d, hd⟩ : ∃ d, d = ch s b := ⟨_, rfl⟩
                        rw [← hd] at h48 hcn
                        have e48 : ((d : Int) == 48) = false := by rw [beq_eq_false_iff_ne]; omega
                        clear hd h48 HLx
                        by_cases h1 : 1 < j
                        · have e1 : (1 : Int) < (j : Int) := by omega
                          clear h0 h3 h1
                          cases m with
                          | true =>
                            go_wp2_with fail
                            go_meet
                            exact ⟨by rw [HE.out], rfl⟩
                          | false =>
                            go_wp2_with fail
                            go_meet
                            exact ⟨by rw [HE.out], rfl⟩
                        · have e1 : ¬ (1 : Int) < (j : Int) := by omega
                          clear h0 h3 h1
                          cases m with
                          | true =>
                            go_wp2_with fail
                            go_meet
                            exact ⟨by rw [HE.out], rfl⟩
                          | false =>
                            go_wp2_with fail
                            go_meet
                            exact ⟨by rw [HE.out], rfl⟩
                    case rest =>
                      obtain ⟨rfl, rfl⟩ := hcut
                      have HF : Hid ((decide (j = 0) || (decide (3 < j) || ((decide (1 < j) && decide (ch s b = 48)) || (m && decide (ch s b = 48))))) = true → L = false) := fun h => by
                        rw [HLx.out]
                        simp only [Bool.or_eq_true, decide_eq_true_eq] at h
                        rcases h with h | h | h | h
                        · simp [h]
                        · have h' : ¬ j ≤ 3 := by omega
                          simp [h']
                        · rw [h]; simp
                        · rw [h]; simp
                      have HTT : Hid ((decide (j = 0) || (decide (3 < j) || ((decide (1 < j) && decide (ch s b = 48)) || (m && decide (ch s b = 48))))) = false → L = (decide (seg s b j ≤ 400) && decide (b + j = s.size)) ∧ j ≤ 3) := fun h => by
                        rw [HLx.out]
                        simp only [Bool.or_eq_false_iff, decide_eq_false_iff_not] at h
                        obtain ⟨h1, h2, h3, h4⟩ := h
                        have e1 : 1 ≤ j := by omega
                        have e2 : j ≤ 3 := by omega
                        rw [h3, h4]
                        simp [e1, e2]
                      obtain ⟨B, hB⟩ : ∃ B, B = (decide (j = 0) || (decide (3 < j) || ((decide (1 < j) && decide (ch s b = 48)) || (m && decide (ch s b = 48))))) := ⟨_, rfl⟩
                      rw [← hB] at HF HTT ⊢
                      clear hB HLx
                      cases B with
                      | true =>
                        obtain rfl := HF.out rfl
                        clear HF HTT HDG
                        go_wp2
                        refine ⟨rfl, .tuple #[.string ⟨#[]⟩, .int .i64 0, .int .i64 0, .bool false], ?_, ?_⟩
                        · simp [results, Try.f6, go_sem]
                        · simp
                      | false =>
                        obtain ⟨hLs, hj3⟩ := HTT.out rfl
                        have HLs : Hid (L = (decide (seg s b j ≤ 400) && decide (b + j = s.size))) := hLs
                        clear HF HTT hLs
                        have HV : Hid (∀ i, i ≤ j → seg s b i < 1000) := fun i hi => by
                          have h1 := seg_small (s := s) (a := b) i (fun x y z => HDG.out x y (by omega))
                          have h2 : 10 ^ i ≤ 10 ^ 3 := Nat.pow_le_pow_right (by decide) (by omega)
                          omega
                        go_wp2_with fail
                        go_loop [10, 13] (fun q i => ∃ x : Nat, x ≤ j ∧ i = .int .i64 ((b : Int) + (x : Int)) ∧ q = .int .i64 (seg s b x : Int)) (fun _ i => b + j - (intOf i).toNat)
                        case atStart => exact ⟨0, Nat.zero_le _, by simp, by simp [seg]⟩
                        case round =>
                          obtain ⟨x, hx, rfl, rfl⟩ := hrel
                          have hv := HV.out x hx
                          by_cases hlt : x < j
                          · have hltI : (b : Int) + (x : Int) < (b : Int) + (j : Int) := by omega
                            have hin : b + x < s.size := by omega
                            have hinI : (b : Int) + (x : Int) < (s.size : Int) := by omega
                            have hnn : (0 : Int) ≤ (b : Int) + (x : Int) := by omega
                            have htn : ((b : Int) + (x : Int)).toNat = b + x := by omega
                            have hck : s[b + x].toNat = ch s (b + x) := ch_eq hin
                            obtain ⟨g1, g2⟩ := dAt_iff.1 (HDG.out (b + x) (by omega) (by omega))
                            have HSG : Hid (seg s b (x + 1) = seg s b x * 10 + (ch s (b + x) - 48)) := rfl
                            obtain ⟨v, hvv⟩ : ∃ v, v = seg s b x := ⟨_, rfl⟩
                            obtain ⟨d, hd⟩ : ∃ d, d = ch s (b + x) := ⟨_, rfl⟩
                            rw [← hvv] at hv HSG ⊢
                            rw [← hd] at hck g1 g2 HSG
                            have g1I : (48 : Int) ≤ (d : Int) := by omega
                            have g2I : (d : Int) ≤ 57 := by omega
                            have hu : IntKind.u8.wrap ((d : Int) - 48) = (d : Int) - 48 := by
                              simp [IntKind.wrap, IntKind.bits, IntKind.signed]
                              omega
                            clear hd hvv HV HDG HLs
                            go_wp2
                            go_round
                            case rel => exact ⟨x + 1, by omega, by go_num, by have := HSG.out; go_num⟩
                            case measure => simp [intOf]; omega
                          · have hltI : ¬ (b : Int) + (x : Int) < (b : Int) + (j : Int) := by omega
                            obtain rfl : x = j := by omega
                            obtain ⟨v, hvv⟩ : ∃ v, v = seg s b x := ⟨_, rfl⟩
                            rw [← hvv] at hv HLs ⊢
                            clear hvv HV HDG
                            by_cases h4 : v ≤ 400
                            · have e4 : ¬ (400 : Int) < (v : Int) := by omega
                              have HE : Hid (L = ((b : Int) + (x : Int) == (s.size : Int))) := by
                                show L = _
                                rw [HLs.out, Bool.eq_iff_iff]
                                simp [h4]
                                omega
                              clear HLs h4
                              cases m with
                              | true =>
                                go_wp2
                                refine ⟨rfl, .tuple #[.string T, .int .i64 (k : Int), .int .i64 (-(v : Int)), .bool ((b : Int) + (x : Int) == (s.size : Int))], ?_, ?_⟩
                                · simp [results, Try.f6, go_sem]
                                · first | exact ⟨_, _, _, by rw [HE.out], rfl⟩ | exact ⟨⟨_, _, _, by rw [HE.out]⟩, rfl⟩
                              | false =>
                                go_wp2
                                refine ⟨rfl, .tuple #[.string T, .int .i64 (k : Int), .int .i64 (v : Int), .bool ((b : Int) + (x : Int) == (s.size : Int))], ?_, ?_⟩
                                · simp [results, Try.f6, go_sem]
                                · first | exact ⟨_, _, _, by rw [HE.out], rfl⟩ | exact ⟨⟨_, _, _, by rw [HE.out]⟩, rfl⟩
                            · have e4 : (400 : Int) < (v : Int) := by omega
                              obtain rfl : L = false := by rw [HLs.out]; simp [h4]
                              clear HLs h4
                              go_wp2
                              refine ⟨rfl, .tuple #[.string ⟨#[]⟩, .int .i64 0, .int .i64 0, .bool false], ?_, ?_⟩
                              · simp [results, Try.f6, go_sem]
                              · simp
              · have ed : decide (ch s A = 101) = false := by simp [hp]
                have HE : Hid (L = ((A : Int) == (s.size : Int))) := by
                  show L = _
                  rw [HLt.out, tl_none hp, Bool.eq_iff_iff]
                  simp
                  omega
                rw [ed]
                clear ed hp HLt C0
                go_wp2
                refine ⟨rfl, .tuple #[.string T, .int .i64 (k : Int), .int .i64 0, .bool ((A : Int) == (s.size : Int))], ?_, ?_⟩
                · simp [results, Try.f6, go_sem]
                · first | exact ⟨_, _, _, by rw [HE.out], rfl⟩ | exact ⟨⟨_, _, _, by rw [HE.out]⟩, rfl⟩

theorem litSpec_any (s : ByteArray) (w : World) (hs : s.size ≤ 1048576) :
    Calls Try.prog 4 #[.string s] w fun e w' => e = .returned (.bool (litB s)) ∧ w = w' := by
  have C : Hid _ := litParts_any s w hs
  obtain ⟨d, hd⟩ : ∃ d, d = litB s := ⟨_, rfl⟩
  rw [← hd] at C ⊢
  clear hd
  go_enter Try.func4, Try.ntmps4
  go_wp2_with fail
  refine Calls.mono C.out ?_
  rintro e w' ⟨t, p, q, rfl, rfl⟩
  go_wp2
  go_ret
  exact ⟨rfl, rfl⟩
end Go.Proofs.Ythokphoojmpajah
