/- The contracts of spec.NatRead and impl.NatRead: the digits of the number that a text has, if it has the form of one and it fits. -/
import Derived.Test.YthkdgihkkangfaaDoorOp2
import Derived.Test.YthkdgihkkangfaaDoorIsText
import Derived.Test.YthkdgihkkangfaaDoorDigText
import Derived.Test.YthkdgihkkangfaaDoorDivSpec
import Derived.Deep.RegionWith
import Derived.Deep.DrawnRows
namespace Go.Proofs.YthkdgihkkangfaaDoor
open Go.RowKit Go.Proofs.Pin
attribute [local go_sem ↓] Go.wp_at_zero Go.wp_at_succ

def readO (s : ByteArray) : Option Nat := if s.size ≤ 1300 then (if natText s = true then some (num s s.size) else none) else none
theorem readO_no1 {s : ByteArray} (h : ¬ s.size ≤ 1300) : readO s = none := by simp [readO, h]
theorem readO_no2 {s : ByteArray} (h : natText s = false) : readO s = none := by simp [readO, h]
theorem readO_yes {s : ByteArray} (h : s.size ≤ 1300) (h1 : natText s = true) : readO s = some (num s s.size) := by simp [readO, h, h1]

theorem wrap_dec {d : Nat} (h0 : 48 ≤ d) (h1 : d ≤ 57) : IntKind.u64.wrap (IntKind.u8.wrap ((d : Int) - 48)) = (d : Int) - 48 := by
  have e1 : IntKind.u8.wrap ((d : Int) - 48) = (d : Int) - 48 := by
    simp [IntKind.wrap, IntKind.bits, IntKind.signed]
    omega
  rw [e1]
  simp [IntKind.wrap, IntKind.bits, IntKind.signed]
  omega
theorem num10_len {s : ByteArray} {k : Nat} (hd : DecsTo s k) : (dgs (num s k * 10)).length ≤ k + 1 := by
  have h3 := num_lt hd
  rw [dgs_len_iff, Nat.pow_succ]
  have h4 : 10 ^ k ≤ 65536 ^ k := Nat.pow_le_pow_left (by decide) k
  omega
/-- What a function that reads a text is said to do. -/
def ReadOp (F : Nat) : Prop := ∀ (s : ByteArray) (w : World), s.size ≤ 1048576 →
  Calls Tryd.prog F #[.string s] w fun e w' => ∃ r cr, e = .returned (.tuple #[.slice r (ansL (readO s)).length cr, .bool (ansB (readO s))]) ∧ OwnI w' w.heap.size r cr (ansL (readO s)) ∧ Below w.heap.size w w'

set_option maxRecDepth 20000 in
set_option maxHeartbeats 800000 in
theorem implRead_op : ReadOp 51 := by
  intro s w hs
  by_cases h1 : (1300 : Int) < (s.size : Int)
  · rw [readO_no1 (by omega)]
    go_enter Tryd.func51, Tryd.ntmps51
    go_wp2
    go_ret2
    exact ⟨none, 0, rfl, OwnI.nil _ _, Below.refl _ _⟩
  · have h1' : ¬ (1300 : Int) < (s.size : Int) := h1
    have hs2 : s.size ≤ 1300 := by omega
    have c1 := (isText_any s w hs).mono (R' := fun e w' => e = .returned (.bool (natText s)) ∧ w = w') fun e w' h => ⟨h.1, h.2.symm⟩
    cases h2 : natText s with
    | false =>
      rw [readO_no2 h2]
      rw [h2] at c1
      have C1 : Hid _ := c1
      clear c1 h2
      go_enter Tryd.func51, Tryd.ntmps51
      go_wp2_with fail
      refine Calls.mono C1.out ?_
      rintro e w' ⟨rfl, rfl⟩
      go_wp2
      go_ret2
      exact ⟨none, 0, rfl, OwnI.nil _ _, Below.refl _ _⟩
    | true =>
      rw [readO_yes hs2 h2]
      rw [h2] at c1
      have C1 : Hid _ := c1
      have C2 : Hid _ := digText_any s w hs2 (natText_decs h2).1
      show Calls _ _ _ _ fun e w' => ∃ r cr, e = .returned (.tuple #[.slice r (fitL (dgs (num s s.size))).length cr, .bool (fitB (dgs (num s s.size)))]) ∧ OwnI w' w.heap.size r cr (fitL (dgs (num s s.size))) ∧ Below w.heap.size w w'
      obtain ⟨D, hD⟩ : ∃ D, D = dgs (num s s.size) := ⟨_, rfl⟩
      rw [← hD] at C2 ⊢
      have C3 : Hid (∀ (w2 : World) (r : Option Addr) (cr : Nat), OwnI w2 w.heap.size r cr D → Calls Tryd.prog 73 #[.slice r D.length cr] w2 fun e w' => ∃ r cr, e = .returned (.tuple #[.slice r (fitL D).length cr, .bool (fitB D)]) ∧ OwnI w' w.heap.size r cr (fitL D) ∧ w2 = w') := fun w2 r cr h => limited_any w.heap.size r cr D w2 h
      obtain ⟨L, hL⟩ : ∃ L, L = fitL D := ⟨_, rfl⟩
      obtain ⟨bb, hbb⟩ : ∃ bb, bb = fitB D := ⟨_, rfl⟩
      rw [← hL, ← hbb] at C3 ⊢
      clear c1 h2 hD hL hbb
      go_enter Tryd.func51, Tryd.ntmps51
      go_wp2_with fail
      refine Calls.mono C1.out ?_
      rintro e w' ⟨rfl, rfl⟩
      go_wp2_with fail
      refine Calls.mono C2.out ?_
      rintro e w2 ⟨r2, c2, rfl, o2, b2⟩
      go_wp2_with fail
      refine Calls.mono (C3.out _ _ _ o2) ?_
      rintro e w3 ⟨r3, c3, rfl, o3, rfl⟩
      go_wp2
      go_ret2
      exact ⟨r3, c3, rfl, o3, b2⟩

set_option maxRecDepth 20000 in
set_option maxHeartbeats 3200000 in
theorem specRead_op : ReadOp 26 := by
  intro s w hs
  by_cases h0 : s.size = 0
  · rw [readO_no2 (natText_no0 h0)]
    have h0b : ((s.size : Int) == 0) = true := by rw [h0]; rfl
    clear h0
    go_enter Tryd.func26, Tryd.ntmps26
    go_wp2
    go_ret2
    exact ⟨none, 0, rfl, OwnI.nil _ _, Below.refl _ _⟩
  have h0b : ((s.size : Int) == 0) = false := by rw [beq_eq_false_iff_ne]; omega
  have hpos : 0 < s.size := by omega
  by_cases h1 : (1300 : Int) < (s.size : Int)
  · rw [readO_no1 (by omega)]
    go_enter Tryd.func26, Tryd.ntmps26
    go_wp2
    go_ret2
    exact ⟨none, 0, rfl, OwnI.nil _ _, Below.refl _ _⟩
  have h1' : ¬ (1300 : Int) < (s.size : Int) := h1
  have hs2 : s.size ≤ 1300 := by omega
  have hc0 : s[0].toNat = ch s 0 := ch_eq hpos
  by_cases h2 : 1 < s.size ∧ ch s 0 = 48
  · rw [readO_no2 (natText_no1 h2.1 h2.2)]
    obtain ⟨g1, g2⟩ := h2
    have g1I : (1 : Int) < (s.size : Int) := by omega
    rw [g2] at hc0
    clear g2 h0
    go_enter Tryd.func26, Tryd.ntmps26
    go_wp2
    go_ret2
    exact ⟨none, 0, rfl, OwnI.nil _ _, Below.refl _ _⟩
  have H12 : Hid (s.size = 1 ∨ ch s 0 ≠ 48) := by show _ ∨ _; omega
  have hcase : ((1 : Int) < (s.size : Int) ∧ ((ch s 0 : Int) == 48) = false) ∨ ¬ (1 : Int) < (s.size : Int) := by
    by_cases h : 1 < s.size
    · left
      refine ⟨by omega, ?_⟩
      rw [beq_eq_false_iff_ne]
      intro e
      exact h2 ⟨h, by omega⟩
    · right; omega
  obtain ⟨c, hc⟩ : ∃ c, c = ch s 0 := ⟨_, rfl⟩
  rw [← hc] at hc0 hcase
  have HY : Hid (DecsTo s s.size → readO s = some (num s s.size)) := fun h => readO_yes hs2 (natText_of hpos H12.out h)
  have HNo : Hid (∀ k, k < s.size → (ch s k < 48 ∨ 57 < ch s k) → readO s = none) := fun k hk h => readO_no2 (natText_no2 hk h)
  obtain ⟨L, hL⟩ : ∃ L, L = ansL (readO s) := ⟨_, rfl⟩
  obtain ⟨bb, hbb⟩ : ∃ bb, bb = ansB (readO s) := ⟨_, rfl⟩
  rw [← hL, ← hbb]
  have HL : Hid (L = ansL (readO s) ∧ bb = ansB (readO s)) := ⟨hL, hbb⟩
  clear hL hbb hc h2 h0
  rcases hcase with ⟨g1, g2⟩ | g1
  all_goals
    go_enter Tryd.func26, Tryd.ntmps26
    go_wp2
    clear hc0 hpos h0b
    go_loopw [4, 5] (fun v i wr => ∃ (k : Nat) (r : Option Addr) (cr : Nat), k ≤ s.size ∧ i = .int .i64 (k : Int) ∧ v = .slice r (dgs (num s k)).length cr ∧ DecsTo s k ∧ OwnI wr w.heap.size r cr (dgs (num s k)) ∧ Below w.heap.size w wr) (fun _ i _ => s.size - (intOf i).toNat)
    case atStart => exact ⟨0, none, 0, Nat.zero_le _, rfl, rfl, DecsTo.zero s, OwnI.nil _ _, Below.refl _ _⟩
    case round =>
      obtain ⟨k, r, cr, hk, rfl, rfl, hd, ho, hb⟩ := hrel
      have hxl := num_len (s := s) (k := k) (n := k) hd (Nat.le_refl _)
      by_cases hlt : k < s.size
      · have hck : s[k].toNat = ch s k := ch_eq hlt
        have hcb := ch_lt s k
        have hltI : (k : Int) < (s.size : Int) := by omega
        by_cases hg : 48 ≤ ch s k ∧ ch s k ≤ 57
        · obtain ⟨g3, g4⟩ := hg
          have C1 : Hid (Calls Tryd.prog 45 #[.slice r (dgs (num s k)).length cr, .int .i64 10] wr.drew fun e w' => ∃ r6 c6, e = .returned (.slice r6 (dgs (num s k * 10)).length c6) ∧ OwnI w' wr.heap.size r6 c6 (dgs (num s k * 10)) ∧ Below wr.heap.size wr w') := by
            have h := l1Times_any r cr (num s k) 10 wr.drew ho.sl (by omega) (by decide)
            exact h.mono fun e w' ⟨r6, c6, q1, q2, q3⟩ => ⟨r6, c6, q1, q2, ⟨q3.os, q3.tape, q3.output, q3.size, q3.block⟩⟩
          have l2 : (dgs (num s k * 10)).length ≤ 1301 := Nat.le_trans (num10_len hd) (by omega)
          have l3 : (dgs (ch s k - 48)).length ≤ 1 := (dgs_len_iff _ 1).2 (by omega)
          have l4 : (dgs (num s (k + 1))).length ≤ 1301 := Nat.le_trans (num_len (s := s) (k := k + 1) (n := k + 1) (hd.step g3 g4) (Nat.le_refl _)) (by omega)
          have C2 : Hid (∀ W, Calls Tryd.prog 46 #[.int .u64 (IntKind.u64.wrap (IntKind.u8.wrap ((ch s k : Int) - 48)))] W fun e w' => ∃ r7 c7, e = .returned (.slice r7 (dgs (ch s k - 48)).length c7) ∧ OwnI w' W.heap.size r7 c7 (dgs (ch s k - 48)) ∧ Below W.heap.size W w') := fun W => by
            have h := specOf_any (ch s k - 48) W (by omega)
            rw [show (((ch s k - 48 : Nat)) : Int) = (ch s k : Int) - 48 by omega] at h
            rw [wrap_dec g3 g4]
            exact h
          have C3 : Hid (∀ W a b ca cb, Sl W a (dgs (num s k * 10)) → Sl W b (dgs (ch s k - 48)) → Calls Tryd.prog 44 #[.slice a (dgs (num s k * 10)).length ca, .slice b (dgs (ch s k - 48)).length cb] W fun e w' => ∃ r8 c8, e = .returned (.slice r8 (dgs (num s (k + 1))).length c8) ∧ OwnI w' W.heap.size r8 c8 (dgs (num s (k + 1))) ∧ Below W.heap.size W w') := fun W a b ca cb h3 h4 => l1Add_any a b ca cb _ _ W h3 h4 (by omega) (by omega)
          have C4 : Hid (∀ W a ca, Sl W a (dgs (num s (k + 1))) → Calls Tryd.prog 43 #[.slice a (dgs (num s (k + 1))).length ca] W fun e w' => ∃ r9 c9, e = .returned (.slice r9 (dgs (num s (k + 1))).length c9) ∧ OwnI w' W.heap.size r9 c9 (dgs (num s (k + 1))) ∧ Below W.heap.size W w') := fun W a ca h3 => trim_same a ca _ W h3 (by omega)
          have HD : Hid (DecsTo s (k + 1) ∧ Below w.heap.size w wr) := ⟨hd.step g3 g4, hb⟩
          obtain ⟨d, hde⟩ : ∃ d, d = ch s k := ⟨_, rfl⟩
          rw [← hde] at hck hcb g3 g4 C2 C3
          obtain ⟨V1, hV1⟩ : ∃ V1, V1 = dgs (num s k * 10) := ⟨_, rfl⟩
          obtain ⟨V2, hV2⟩ : ∃ V2, V2 = dgs (d - 48) := ⟨_, rfl⟩
          obtain ⟨V3, hV3⟩ : ∃ V3, V3 = dgs (num s (k + 1)) := ⟨_, rfl⟩
          obtain ⟨V0, hV0⟩ : ∃ V0, V0 = dgs (num s k) := ⟨_, rfl⟩
          rw [← hV1] at C1 C3
          rw [← hV2] at C2 C3
          rw [← hV3] at C3 C4
          rw [← hV0] at C1 ⊢
          have HV : Hid (V3 = dgs (num s (k + 1))) := hV3
          have g3I : (48 : Int) ≤ (d : Int) := by omega
          have g4I : (d : Int) ≤ 57 := by omega
          clear hde hV1 hV2 hV3 hV0 hd ho hb hxl l2 l3 l4
          go_wp2_with fail
          go_region_with (first | (go_at_call 45; refine Calls.mono C1.out ?_; rintro e w6 ⟨r6, c6, rfl, o6, b6⟩) | (go_at_call 46; refine Calls.mono (C2.out _) ?_; rintro e w7 ⟨r7, c7, rfl, o7, b7⟩; have s67 := (o6.keep b7).sl; have s77 := o7.sl; have b67 := b6.trans (b7.mono b6.size)) | (go_at_call 44; refine Calls.mono (C3.out _ _ _ _ _ s67 s77) ?_; rintro e w8 ⟨r8, c8, rfl, o8, b8⟩; have s88 := o8.sl; have b68 := b67.trans (b8.mono b67.size)) | (go_at_call 43; refine Calls.mono (C4.out _ _ _ s88) ?_; rintro e w9 ⟨r9, c9, rfl, o9, b9⟩; have b69 := b68.trans (b9.mono b68.size); have o99 := o9.mono b68.size))
          all_goals
            have HF : Hid (OwnI w9 w.heap.size r9 c9 V3 ∧ Below w.heap.size w w9) := ⟨o99.mono HD.out.2.size, HD.out.2.trans (b69.mono HD.out.2.size)⟩
            clear o99 b69 b68 b67 b6 b7 b8 b9 o6 o7 o8 o9 s67 s77 s88
            go_wp2
            go_roundw
            case rel => exact ⟨k + 1, r9, c9, by omega, by go_num, by rw [HV.out], HD.out.1, by rw [← HV.out]; exact HF.out.1, HF.out.2⟩
            case measure => simp [intOf]; omega
        · have hno := HNo.out k hlt (by omega)
          have HB : Hid (Below w.heap.size w wr ∧ L = [] ∧ bb = false) := ⟨hb, by rw [HL.out.1, hno]; rfl, by rw [HL.out.2, hno]; rfl⟩
          obtain ⟨d, hde⟩ : ∃ d, d = ch s k := ⟨_, rfl⟩
          rw [← hde] at hck hcb hg
          have hg2 : (d : Int) < 48 ∨ (48 ≤ (d : Int) ∧ 57 < (d : Int)) := by omega
          obtain ⟨V0, hV0⟩ : ∃ V0, V0 = dgs (num s k) := ⟨_, rfl⟩
          rw [← hV0]
          clear hno hb hde hg hd ho hxl hV0
          rcases hg2 with g3 | ⟨g3, g4⟩
          · go_wp2
            go_ret2
            exact ⟨none, 0, by rw [HB.out.2.1, HB.out.2.2]; rfl, by rw [HB.out.2.1]; exact OwnI.nil _ _, HB.out.1⟩
          · go_wp2
            go_ret2
            exact ⟨none, 0, by rw [HB.out.2.1, HB.out.2.2]; rfl, by rw [HB.out.2.1]; exact OwnI.nil _ _, HB.out.1⟩
      · have hkn : k = s.size := by omega
        have hyes := HY.out (by rw [← hkn]; exact hd)
        have HB : Hid (Below w.heap.size w wr ∧ L = fitL (dgs (num s k)) ∧ bb = fitB (dgs (num s k))) := ⟨hb, by rw [HL.out.1, hyes, hkn]; rfl, by rw [HL.out.2, hyes, hkn]; rfl⟩
        have C3 : Hid _ := l1Fits_any w.heap.size r cr (dgs (num s k)) wr ho
        obtain ⟨V0, hV0⟩ : ∃ V0, V0 = dgs (num s k) := ⟨_, rfl⟩
        rw [← hV0] at C3 HB ⊢
        obtain ⟨L0, hL0⟩ : ∃ L0, L0 = fitL V0 := ⟨_, rfl⟩
        obtain ⟨b0, hb0⟩ : ∃ b0, b0 = fitB V0 := ⟨_, rfl⟩
        rw [← hL0, ← hb0] at C3 HB
        have hge : ¬ (k : Int) < (s.size : Int) := by omega
        clear hyes hb hd ho hxl hV0 hL0 hb0 hlt
        go_wp2_with fail
        refine Calls.mono C3.out ?_
        rintro e w3 ⟨r3, c3, rfl, o3, rfl⟩
        go_wp2
        go_ret2
        exact ⟨r3, c3, by rw [HB.out.2.1, HB.out.2.2]; rfl, by rw [HB.out.2.1]; exact o3, HB.out.1⟩
end Go.Proofs.YthkdgihkkangfaaDoor
