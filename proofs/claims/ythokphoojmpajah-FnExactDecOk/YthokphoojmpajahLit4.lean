/- From the labels brokenDigit and exponentDigit. -/
import Derived.Test.YthokphoojmpajahLit3
namespace Go.Proofs.Ythokphoojmpajah
open Go.RowKit Go.Proofs.Pin

set_option maxRecDepth 20000 in
set_option maxHeartbeats 4000000 in
theorem pass4 {s : ByteArray} (hs : s.size ≤ 60) {w0 : World} {Bl n : Nat} {a : Act} {w : World} : Jn s w0 Bl 4 n a w → (tlIn Try.f9 4).wp Try.prog (Goes s w0 Bl n) a w := by
  rintro ⟨i, p, m, Bn, A, base, hn, hi, hm, ⟨a0, mm, b, hex, hb, hb0, hd, hdi, hlit, hp⟩, hst, u7, u8, u9, u10, u11, u12, u13, u14, u15, u16, u17, u18, u19, u20, u21, u22, u23, u24, u25, u26, u27, u28, u29, u30, u31, u32, u33, u34, u35, u36, u37, u38, u39, u40, u41, u42, u43, u44, u45, u46, u47, u48, u49, u50, u51, u52, u53, u54, u55, u56, u57, u58, u59, u60, u61, u62, u63, u64, u65, u66, u67, u68, u69, u70, u71, u72, u73, u74, u75, rfl⟩
  conv => arg 2; whnf
  unfold Goes
  go_wp2_with fail
  obtain ⟨hc0, hc1, hrd, _, _, hlt⟩ := dig_at hdi
  refine Calls.mono (hand3_at hdi hst (by rw [hp]; exact cp_le _)) ?_
  rintro e w1 ⟨rfl, hst1⟩
  rw [cp_next hb hp] at hst1
  have hn' : (61 - (i + 1)) * 2 + rk 4 < n := by rw [hn]; simp only [rk]; omega
  clear hst hp hn
  go_wp2_with fail
  refine Calls.mono (next_at hs hc0 hc1 hst1) ?_
  rintro e w2 ⟨rfl, hst2⟩
  clear hst1
  go_wp2_with fail
  cases hd2 : dAt s (i + 1) with
  | true =>
    refine Calls.mono (isDec_yes hd2 _) ?_
    rintro e w3 ⟨rfl, rfl⟩
    go_wp2_with fail
    go_step3
    exact ⟨_, hn', i + 1, _, m, Bn, A, base, rfl, by omega, by omega, ⟨a0, mm, b, hex, by omega, hb0, hd.more hdi, hd2, hlit, rfl⟩, hst2, _, _, _, _, _, _, _, _, _, _, _, _, _, _, _, _, _, _, _, _, _, _, _, _, _, _, _, _, _, _, _, _, _, _, _, _, _, _, _, _, _, _, _, _, _, _, _, _, _, _, _, _, _, _, _, _, _, _, _, _, _, _, _, _, _, _, _, _, _, rfl⟩
  | false =>
    refine Calls.mono (isDec_no hd2 _) ?_
    rintro e w3 ⟨rfl, rfl⟩
    have HT : Hid (tlB s a0 = _) := tl_some hex hb0 (hd.more hdi) (by omega) hd2
    go_wp2_with fail
    simp only [Jumps]
    go_ret
    refine ⟨_, _, m, Bn, A, base, _, rfl, ?_, cp_le _, by omega, hst2⟩
    rw [hlit, HT.out, end_b (by omega), cp_ok]
    simp [and_comm]

set_option maxRecDepth 20000 in
set_option maxHeartbeats 4000000 in
theorem pass3 {s : ByteArray} (hs : s.size ≤ 60) {w0 : World} {Bl n : Nat} (HI : Hid (Falls s w0 Bl n 2)) {a : Act} {w : World} : Jn s w0 Bl 3 n a w → (tlIn Try.f9 3).wp Try.prog (Goes s w0 Bl n) a w := by
  rintro ⟨i, p, m, Bn, A, base, hn, hi, hm, ⟨k, h46, hki, hd, hdi, hlit, hp⟩, hst, u7, u8, u9, u10, u11, u12, u13, u14, u15, u16, u17, u18, u19, u20, u21, u22, u23, u24, u25, u26, u27, u28, u29, u30, u31, u32, u33, u34, u35, u36, u37, u38, u39, u40, u41, u42, u43, u44, u45, u46, u47, u48, u49, u50, u51, u52, u53, u54, u55, u56, u57, u58, u59, u60, u61, u62, u63, u64, u65, u66, u67, u68, u69, u70, u71, u72, u73, u74, u75, rfl⟩
  conv => arg 2; whnf
  unfold Goes
  go_wp2_with fail
  obtain ⟨hc0, hc1, hrd, _, _, hlt⟩ := dig_at hdi
  refine Calls.mono (hand1_at hdi hst (by omega)) ?_
  rintro e w1 ⟨rfl, hst1⟩
  have hn' : ∀ k, rk k ≤ 1 → (61 - (i + 1)) * 2 + rk k < n := fun k hk => by rw [hn, show rk 3 = 0 from rfl]; omega
  clear hst hn
  go_wp2_with fail
  refine Calls.mono (next_at hs hc0 hc1 hst1) ?_
  rintro e w2 ⟨rfl, hst2⟩
  clear hst1
  go_wp2_with fail
  cases hd2 : dAt s (i + 1) with
  | true =>
    refine Calls.mono (isDec_yes hd2 _) ?_
    rintro e w3 ⟨rfl, rfl⟩
    go_wp2_with fail
    go_step3
    exact ⟨_, hn' 3 (by decide), i + 1, _, m + 1, Bn, A, base, rfl, by omega, by omega, ⟨k, h46, by omega, hd.more hdi, hd2, hlit, hp⟩, hst2, _, _, _, _, _, _, _, _, _, _, _, _, _, _, _, _, _, _, _, _, _, _, _, _, _, _, _, _, _, _, _, _, _, _, _, _, _, _, _, _, _, _, _, _, _, _, _, _, _, _, _, _, _, _, _, _, _, _, _, _, _, _, _, _, _, _, _, _, _, rfl⟩
  | false =>
    refine Calls.mono (isDec_no hd2 _) ?_
    rintro e w3 ⟨rfl, rfl⟩
    go_wp2_with fail
    go_step3
    simp only [Exit.then]
    rename_i hK
    refine hK _ _ ?_
    clear hK
    exact HI.out _ (hn' 2 (by decide)) _ _ ⟨i + 1, _, m + 1, Bn, A, base, rfl, by omega, by omega, ⟨hlit.trans (fr_some h46 (hd.more hdi) (by omega) hd2), hp⟩, hst2, _, _, _, _, _, _, _, _, _, _, _, _, _, _, _, _, _, _, _, _, _, _, _, _, _, _, _, _, _, _, _, _, _, _, _, _, _, _, _, _, _, _, _, _, _, _, _, _, _, _, _, _, _, _, _, _, _, _, _, _, _, _, _, _, _, _, _, _, _, rfl⟩
end Go.Proofs.Ythokphoojmpajah
