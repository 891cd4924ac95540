/- The contract of impl.scanned. -/
import Derived.Test.YthokphoojmpajahLit4
import Derived.Test.YthokphoojmpajahLit5
import Derived.Test.YthokphoojmpajahLit6
namespace Go.Proofs.Ythokphoojmpajah
open Go.RowKit Go.Proofs.Pin

set_option maxRecDepth 20000 in
set_option maxHeartbeats 4000000 in
theorem scanned_any (s : ByteArray) (hs : s.size ≤ 60) (w0 w : World) (Bl : Nat) (hl : BoxL w Bl 27 #[.slice none 0 0, .int .i64 0, .bool false, .int .i64 0]) (hw : Below Bl w0 w) :
    Calls Try.prog 9 #[.string s, .func (.func 10) #[] #[.pointer (some ⟨Bl, 0, none⟩)]] w (ScanRet s w0 Bl) := by
  have HN : Hid (Calls Try.prog 11 _ _ _) := runesOf_any s hs w0 w Bl hl hw
  clear hl hw
  have all := jumps_all (P := Try.prog) (Q := bodyPost Try.prog Try.f9 (ScanRet s w0 Bl)) (J := Jn s w0 Bl) (tl := tlIn Try.f9) (fun l n ih a w hj => by
    have hl := jn_lt l n a w hj
    match l, hl with
    | 0, _ => exact pass0 hs (fun n' hn a w h => ih 3 n' hn a w h) hj
    | 1, _ => exact pass1 hs (fun n' hn a w h => ih 0 n' hn a w h) hj
    | 2, _ => exact pass2 hs (fun n' hn a w h => ih 4 n' hn a w h) hj
    | 3, _ => exact pass3 hs (fun n' hn a w h => ih 2 n' hn a w h) hj
    | 4, _ => exact pass4 hs hj)
  have HI : Hid (∀ n a w, Jn s w0 Bl 1 n a w → (tlIn Try.f9 1).wp Try.prog (Jumps (fun l a w => ∃ n, Jn s w0 Bl l n a w) (bodyPost Try.prog Try.f9 (ScanRet s w0 Bl))) a w) := fun n a w hj => wp_mono (all n 1 a w hj) (fun e a w h => by
    cases e with
    | goto l'' => obtain ⟨n'', _, h2⟩ := h; exact ⟨n'', h2⟩
    | normal => exact h
    | exit id => exact h
    | ret => exact h
    | panic ch => exact h
    | outgrown => exact h)
  have HA : Hid (∀ n l a w, Jn s w0 Bl l n a w → (tlIn Try.f9 l).wp Try.prog (Jumps (fun l' a w => ∃ n', n' < n ∧ Jn s w0 Bl l' n' a w) (bodyPost Try.prog Try.f9 (ScanRet s w0 Bl))) a w) := all
  clear all
  go_enter Try.func9, Try.ntmps9
  go_wp2_with fail
  refine wp_scope_many (J := Jn s w0 Bl) (tl := tlIn Try.f9) (c := scIn Try.f9) tl_is HA.out ?_
  clear HA
  conv => arg 2; whnf
  go_wp2_with fail
  refine Calls.mono HN.out ?_
  rintro e w1 ⟨Bn, A, base, rfl, hst⟩
  clear HN
  go_wp2_with fail
  refine Calls.mono (next_first hs hst) ?_
  rintro e w2 ⟨rfl, hst2⟩
  clear hst
  by_cases h48 : ch s 0 = 48
  · have hb := is_yes (by decide) (by decide) h48
    have hdi : dAt s 0 = true := dAt_iff.2 (by omega)
    go_wp2_with fail
    refine Calls.mono (hand0_at hdi hst2 (by omega)) ?_
    rintro e w3 ⟨rfl, hst3⟩
    clear hst2
    go_wp2_with fail
    refine Calls.mono (next_at hs (by omega) (by omega) hst3) ?_
    rintro e w4 ⟨rfl, hst4⟩
    have hlt := lt_of_ch (show ch s 0 ≠ 0 by omega)
    go_wp2_with fail
    go_step3
    exact ⟨_, 1, 0, 1, Bn, A, base, rfl, by omega, by omega, ⟨lit_nought hs h48, rfl⟩, hst4, _, _, _, _, _, _, _, _, _, _, _, _, _, _, _, _, _, _, _, _, _, _, _, _, _, _, _, _, _, _, _, _, _, _, _, _, _, _, _, _, _, _, _, _, _, _, _, _, _, _, _, _, _, _, _, _, _, _, _, _, _, _, _, _, _, _, _, _, _, rfl⟩
  · have hb := is_no (by decide) (by decide) h48
    go_wp2_with fail
    cases hd2 : dAt s 0 with
    | false =>
      refine Calls.mono (isDec_no hd2 _) ?_
      rintro e w3 ⟨rfl, rfl⟩
      go_wp2_with fail
      simp only [Jumps]
      go_ret
      exact ⟨_, 0, 0, Bn, A, base, _, rfl, by rw [lit_none hd2]; simp, by omega, by omega, hst2⟩
    | true =>
      refine Calls.mono (isDec_yes hd2 _) ?_
      rintro e w3 ⟨rfl, rfl⟩
      go_wp2_with fail
      go_step3
      simp only [Exit.then]
      rename_i hK
      refine hK _ _ ?_
      clear hK
      exact HI.out _ _ _ ⟨0, 0, 0, Bn, A, base, rfl, by omega, by omega, ⟨Dgs.nil _ _, hd2, h48, rfl⟩, hst2, _, _, _, _, _, _, _, _, _, _, _, _, _, _, _, _, _, _, _, _, _, _, _, _, _, _, _, _, _, _, _, _, _, _, _, _, _, _, _, _, _, _, _, _, _, _, _, _, _, _, _, _, _, _, _, _, _, _, _, _, _, _, _, _, _, _, _, _, _, rfl⟩
end Go.Proofs.Ythokphoojmpajah
