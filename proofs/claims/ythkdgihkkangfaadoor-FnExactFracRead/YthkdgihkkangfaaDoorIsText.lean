/- The contract of impl.isNatText: the form of a number's text; it leaves the world as it is. -/
import Derived.Test.YthkdgihkkangfaaDoorProg
import Derived.Test.YthkdgihkkangfaaDoorTextNum
import Derived.Test.YthkdgihkkangfaaDoorBase
import Derived.WalkKit
import Derived.Outline
import Derived.WalkSpells
namespace Go.Proofs.YthkdgihkkangfaaDoor
open Go.RowKit Go.Proofs.Pin

set_option maxRecDepth 20000 in
set_option maxHeartbeats 1600000 in
theorem isText_any (s : ByteArray) (w : World) (hs : s.size ≤ 1048576) :
    Calls Tryd.prog 71 #[.string s] w fun e w' => e = .returned (.bool (natText s)) ∧ w' = w := by
  by_cases h0 : s.size = 0
  · have hE := eqE s
    rw [h0] at hE
    simp only [decide_true] at hE
    rw [natText_no0 h0]
    go_enter Tryd.func71, Tryd.ntmps71
    go_wp2
    go_ret
    exact ⟨rfl, rfl⟩
  · have hE : (s.toList == []) = false := by rw [eqE]; simpa using h0
    have hpos : 0 < s.size := by omega
    have hc0 : s[0].toNat = ch s 0 := ch_eq hpos
    have h48 := eq48 s
    have hcase : (1 < s.size ∧ ch s 0 = 48) ∨ (s.size = 1 ∨ ch s 0 ≠ 48) := by omega
    rcases hcase with ⟨h1, h2⟩ | h12
    · have hn : (s.toList == [48]) = false := by rw [h48]; simp; omega
      rw [natText_no1 h1 h2]
      rw [h2] at hc0
      clear h48 h2 h0
      go_enter Tryd.func71, Tryd.ntmps71
      go_wp2
      go_ret
      exact ⟨rfl, rfl⟩
    · have H12 : Hid (s.size = 1 ∨ ch s 0 ≠ 48) := h12
      have hcase2 : ((ch s 0 : Int) == 48) = false ∨ (((ch s 0 : Int) == 48) = true ∧ (s.toList == [48]) = true) := by
        by_cases h : ch s 0 = 48
        · right
          refine ⟨by rw [h]; rfl, ?_⟩
          rw [h48]
          simp
          omega
        · left
          rw [beq_eq_false_iff_ne]
          omega
      obtain ⟨c, hc⟩ : ∃ c, c = ch s 0 := ⟨_, rfl⟩
      rw [← hc] at hc0 hcase2
      obtain ⟨n, hn⟩ : ∃ n, n = s.size := ⟨_, rfl⟩
      have HN : Hid (n = s.size) := hn
      clear h48 h0 h12 hc
      rcases hcase2 with hb | ⟨hb, hb2⟩
      all_goals
        go_enter Tryd.func71, Tryd.ntmps71
        go_wp2
        go_loop [17] (fun i => ∃ k : Nat, k ≤ s.size ∧ i = .int .i64 k ∧ DecsTo s k) (fun i => s.size - (intOf i).toNat)
        case atStart => exact ⟨0, Nat.zero_le _, rfl, DecsTo.zero s⟩
        case round =>
          obtain ⟨k, hk, rfl, hd⟩ := hrel
          have HD : Hid (DecsTo s k) := hd
          clear hd
          by_cases hlt : k < s.size
          · have hck : s[k].toNat = ch s k := ch_eq hlt
            have hb3 := ch_lt s k
            obtain ⟨d, hde⟩ : ∃ d, d = ch s k := ⟨_, rfl⟩
            have HE : Hid (d = ch s k) := hde
            rw [← hde] at hck hb3
            clear hde
            by_cases hg : (48 : Int) ≤ (d : Int) ∧ (d : Int) ≤ 57
            · obtain ⟨g1, g2⟩ := hg
              go_wp2
              go_round
              case rel => exact ⟨k + 1, by omega, by go_num, HD.out.step (by rw [← HE.out]; omega) (by rw [← HE.out]; omega)⟩
              case measure => simp [intOf]; omega
            · have hf : natText s = false := natText_no2 hlt (by rw [← HE.out]; omega)
              have hg2 : (d : Int) < 48 ∨ (48 ≤ (d : Int) ∧ 57 < (d : Int)) := by omega
              have HF : Hid (natText s = false) := hf
              clear hf hg
              rcases hg2 with g1 | ⟨g1, g2⟩
              · go_wp2
                go_ret
                exact ⟨ret_bool HF.out.symm, rfl⟩
              · go_wp2
                go_ret
                exact ⟨ret_bool HF.out.symm, rfl⟩
          · have hkn : k = s.size := by omega
            have hf : natText s = true := natText_of hpos H12.out (by rw [← hkn]; exact HD.out)
            have HF : Hid (natText s = true) := hf
            clear hf
            go_wp2
            go_ret
            exact ⟨ret_bool HF.out.symm, rfl⟩
end Go.Proofs.YthkdgihkkangfaaDoor
