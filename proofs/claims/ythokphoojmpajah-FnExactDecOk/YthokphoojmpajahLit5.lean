/- From the label digitsDone. -/
import Derived.Test.YthokphoojmpajahLit3
namespace Go.Proofs.Ythokphoojmpajah
open Go.RowKit Go.Proofs.Pin

set_option maxRecDepth 20000 in
set_option maxHeartbeats 4000000 in
theorem pass2 {s : ByteArray} (hs : s.size ≤ 60) {w0 : World} {Bl n : Nat} (HI : Hid (Falls s w0 Bl n 4)) {a : Act} {w : World} : Jn s w0 Bl 2 n a w → (tlIn Try.f9 2).wp Try.prog (Goes s w0 Bl n) a w := by
  rintro ⟨i, p, m, Bn, A, base, hn, hi, hm, ⟨hlit, hp⟩, hst, u7, u8, u9, u10, u11, u12, u13, u14, u15, u16, u17, u18, u19, u20, u21, u22, u23, u24, u25, u26, u27, u28, u29, u30, u31, u32, u33, u34, u35, u36, u37, u38, u39, u40, u41, u42, u43, u44, u45, u46, u47, u48, u49, u50, u51, u52, u53, u54, u55, u56, u57, u58, u59, u60, u61, u62, u63, u64, u65, u66, u67, u68, u69, u70, u71, u72, u73, u74, u75, rfl⟩
  conv => arg 2; whnf
  unfold Goes
  by_cases h101 : ch s i = 101
  · have hb := is_yes (by decide) (by decide) h101
    have hlt : i < s.size := lt_of_ch (by omega)
    have hn' : ∀ k, 1 ≤ k → i + k < s.size → (61 - (i + k)) * 2 + rk 4 < n := fun k _ _ => by rw [hn]; simp only [rk]; omega
    have C : Hid (Calls Try.prog 13 _ _ _) := next_at hs (by omega) (by omega) hst
    clear hst hn
    go_wp2_with fail
    refine Calls.mono C.out ?_
    rintro e w2 ⟨rfl, hst2⟩
    clear C hb
    by_cases h48 : ch s (i + 1) = 48
    · have hb := is_yes (by decide) (by decide) h48
      have hlt1 : i + 1 < s.size := lt_of_ch (by omega)
      go_wp2_with fail
      refine Calls.mono (next_at hs (by omega) (by omega) hst2) ?_
      rintro e w3 ⟨rfl, hst3⟩
      go_wp2_with fail
      simp only [Jumps]
      go_ret
      refine ⟨_, p, m, Bn, A, base, _, rfl, ?_, by omega, by omega, hst3⟩
      have hb2 : (rd s (i + 1 + 1) == -1) = decide (i + 2 = s.size) := end_b (by omega)
      rw [hlit, tl_nought h101 h48, hb2, hp]
      simp
    · have hb := is_no (by decide) (by decide) h48
      by_cases h45 : ch s (i + 1) = 45
      · have hb2 := is_yes (by decide) (by decide) h45
        have hex : ExAt s i true (i + 2) := ⟨h101, .inl ⟨rfl, h45, rfl⟩⟩
        have hlt1 : i + 1 < s.size := lt_of_ch (by omega)
        go_wp2_with fail
        refine Calls.mono (hand2_any hst2 _) ?_
        rintro e w3 ⟨rfl, hst3⟩
        clear hst2
        go_wp2_with fail
        refine Calls.mono (next_at hs (by omega) (by omega) hst3) ?_
        rintro e w4 ⟨rfl, hst2⟩
        clear hst3 hb hb2 h48
        go_wp2_with fail
        have hp2 : i + 1 + 1 = i + 2 := rfl
        simp only [hp2] at hst2 ⊢
        clear hp2
        cases hd2 : dAt s (i + 2) with
        | false =>
          refine Calls.mono (isDec_no hd2 _) ?_
          rintro e w3 ⟨rfl, rfl⟩
          go_wp2_with fail
          simp only [Jumps]
          go_ret
          exact ⟨_, p, m, Bn, A, base, _, rfl, by rw [hlit, tl_empty hex hd2]; simp, by omega, by omega, hst2⟩
        | true =>
          have hlt2 := dAt_lt hd2
          refine Calls.mono (isDec_yes hd2 _) ?_
          rintro e w3 ⟨rfl, rfl⟩
          by_cases h48 : ch s (i + 2) = 48
          · have hb3 := is_yes (by decide) (by decide) h48
            go_wp2_with fail
            simp only [Jumps]
            go_ret
            exact ⟨_, p, m, Bn, A, base, _, rfl, by rw [hlit, tl_zero hex h48]; simp, by omega, by omega, hst2⟩
          · have hb3 := is_no (by decide) (by decide) h48
            go_wp2_with fail
            go_step3
            simp only [Exit.then]
            rename_i hK
            refine hK _ _ ?_
            clear hK
            exact HI.out _ (hn' 2 (by omega) (by omega)) _ _ ⟨i + 2, _, m, Bn, A, base, rfl, by omega, by omega, ⟨i, true, i + 2, hex, by omega, h48, Dgs.nil _ _, hd2, hlit, hp.trans (cp_none s _)⟩, hst2, _, _, _, _, _, _, _, _, _, _, _, _, _, _, _, _, _, _, _, _, _, _, _, _, _, _, _, _, _, _, _, _, _, _, _, _, _, _, _, _, _, _, _, _, _, _, _, _, _, _, _, _, _, _, _, _, _, _, _, _, _, _, _, _, _, _, _, _, _, rfl⟩
      · have hb2 := is_no (by decide) (by decide) h45
        have hex : ExAt s i false (i + 1) := ⟨h101, .inr ⟨rfl, h45, rfl⟩⟩
        go_wp2_with fail
        cases hd2 : dAt s (i + 1) with
        | false =>
          refine Calls.mono (isDec_no hd2 _) ?_
          rintro e w3 ⟨rfl, rfl⟩
          go_wp2_with fail
          simp only [Jumps]
          go_ret
          exact ⟨_, p, m, Bn, A, base, _, rfl, by rw [hlit, tl_empty hex hd2]; simp, by omega, by omega, hst2⟩
        | true =>
          have hlt2 := dAt_lt hd2
          refine Calls.mono (isDec_yes hd2 _) ?_
          rintro e w3 ⟨rfl, rfl⟩
          go_wp2_with fail
          go_step3
          simp only [Exit.then]
          rename_i hK
          refine hK _ _ ?_
          clear hK
          exact HI.out _ (hn' 1 (by omega) (by omega)) _ _ ⟨i + 1, _, m, Bn, A, base, rfl, by omega, by omega, ⟨i, false, i + 1, hex, by omega, h48, Dgs.nil _ _, hd2, hlit, hp.trans (cp_none s _)⟩, hst2, _, _, _, _, _, _, _, _, _, _, _, _, _, _, _, _, _, _, _, _, _, _, _, _, _, _, _, _, _, _, _, _, _, _, _, _, _, _, _, _, _, _, _, _, _, _, _, _, _, _, _, _, _, _, _, _, _, _, _, _, _, _, _, _, _, _, _, _, _, rfl⟩
  · have hb := is_no (by decide) (by decide) h101
    clear hn
    go_wp2_with fail
    simp only [Jumps]
    go_ret
    refine ⟨_, p, m, Bn, A, base, _, rfl, ?_, by omega, by omega, hst⟩
    rw [hlit, tl_none h101, end_b hi, hp]
    simp
end Go.Proofs.Ythokphoojmpajah
