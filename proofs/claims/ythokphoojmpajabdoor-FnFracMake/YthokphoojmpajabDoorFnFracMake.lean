/- For every two slices of bytes the law FnFracMake returns true and leaves its arguments as they were; no condition beyond the row's own (the listed variable, tied by the card). -/
import Derived.Test.YthokphoojmpajabDoorCards
import Derived.Test.YthokphoojmpajabDoorTie
import Derived.Test.YthokphoojmpajabDoorFracOpen
import Derived.Test.YthokphoojmpajabDoorLaid
import Derived.Test.YthokphoojmpajabDoorDrawFrac
import Derived.Test.YthokphoojmpajabDoorPwFrac
import Derived.Test.YthokphoojmpajabDoorNatMul
import Derived.Test.YthokphoojmpajabDoorOpMore
import Derived.ChangeVars
import Derived.ChangeSame
import Derived.LaidHandle
import Derived.SevenTiedAt
import Derived.OpenShut
import Derived.Deep.Cut
namespace Go.Proofs.YthokphoojmpajabDoor
namespace fnFracMake
open Go.ChangeShapes Go.WideShapes Go.ChangeAt Go.RowKit Go.Proofs.Pin

theorem make_same {b : Bool} {x y k : Nat} (hk : k ≠ 0) (h : fokB b (dgs x) (dgs y) = true) : ofA b (dgs (x * k)) (dgs (y * k)) = ⟨b, dgs x, dgs y, true⟩ ∨ ¬ ((dgs (x * k)).length ≤ 256 ∧ (dgs (y * k)).length ≤ 256) := by
  by_cases hl : (dgs (x * k)).length ≤ 256 ∧ (dgs (y * k)).length ≤ 256
  · left
    obtain ⟨x', y', e1, e2, lx, ly, hy, hb, hg⟩ := fok_parts h
    have ex : x' = x := by have := val_dgs x; rw [e1, val_dgs] at this; omega
    have ey : y' = y := by have := val_dgs y; rw [e2, val_dgs] at this; omega
    subst ex
    subst ey
    have hyk : y' * k ≠ 0 := Nat.mul_ne_zero hy hk
    unfold ofA
    rw [if_pos ⟨dgs_ok hl.1, dgs_ok hl.2, fun e => hyk ((dgs_nil_iff _).1 e)⟩, val_dgs, val_dgs, Int.toNat_natCast, Int.toNat_natCast]
    have hG : Nat.gcd (x' * k) (y' * k) = k := by rw [Nat.gcd_mul_right, hg, Nat.one_mul]
    have h1 : loX (x' * k) (y' * k) = dgs x' := by unfold loX; rw [hG, Nat.mul_div_cancel _ (by omega)]
    have h2 : loY (x' * k) (y' * k) = dgs y' := by unfold loY; rw [hG, Nat.mul_div_cancel _ (by omega)]
    unfold makeA
    rw [h1, h2, if_pos ⟨lx, ly⟩]
    cases b with
    | false => simp
    | true => have := (dgs_pos_len x').2 (hb rfl); simp [this]
  · exact .inr hl
theorem make_zero {b : Bool} {X Y : List Int} (h : Y = []) : (ofA b X Y).ok = false := by
  unfold ofA
  rw [if_neg (fun h' => h'.2.2 h)]
  rfl

set_option maxRecDepth 100000 in
set_option maxHeartbeats 8000000 in
theorem walk (a0 : Option Addr) (len0 cap0 : Nat) (z0 : List Int) (a1 : Option Addr) (len1 cap1 : Nat) (z1 : List Int) (w : World) (hh : Hdl w) (w0 : IsRow .u8 w a0 len0 cap0 z0) (w1 : IsRow .u8 w a1 len1 cap1 z1) :
    Calls Tryd.prog 3 #[.slice a0 len0 cap0, .slice a1 len1 cap1] w fun e w' => e = .returned (.bool true) ∧ Below w.heap.size w w' := by
  obtain ⟨h1, h2, h3, h4⟩ := isRow_u8b w0
  obtain ⟨k1, k2, k3, k4⟩ := isRow_u8b w1
  clear w0 w1
  by_cases hb0 : (1048576 : Int) < (len0 : Int)
  · go_enter Tryd.func3, Tryd.ntmps3
    go_wp2
    go_ret
    exact ⟨rfl, Below.refl _ _⟩
  by_cases hb1 : (1048576 : Int) < (len1 : Int)
  · go_enter Tryd.func3, Tryd.ntmps3
    go_wp2
    go_ret
    exact ⟨rfl, Below.refl _ _⟩
  have C0 : Hid _ := goodFrac_any a0 len0 cap0 _ w h1 h2 h3 (by omega) h4
  have C1 : Hid (∀ w1, Below w.heap.size w w1 → Calls Tryd.prog 6 #[.slice a1 len1 cap1] w1 fun e w' => ∃ r cr x, e = .returned (.slice r (dgs x).length cr) ∧ OwnI w' w1.heap.size r cr (dgs x) ∧ (dgs x).length ≤ 256 ∧ Below w1.heap.size w1 w') := fun w1 hB => goodNat_any a1 len1 cap1 _ w1 (by
      rcases k1 with h0 | ⟨b, off, he, hlt, hc⟩
      · exact .inl h0
      · exact .inr ⟨b, off, he, Nat.lt_of_lt_of_le hlt hB.size, fun i hi => (hB.cell (p := ⟨b, off + i, none⟩) hlt).trans (hc i hi)⟩) k2 k3 (by omega) k4
  have hl0 : (len0 : Int) ≤ 1048576 := by omega
  have hl1 : (len1 : Int) ≤ 1048576 := by omega
  have HH : Hid (Hdl w) := hh
  unfold fracV at C0
  clear h1 h2 h3 h4 k1 k2 k3 k4 hh
  go_enter Tryd.func3, Tryd.ntmps3
  go_wp2_with fail
  refine Calls.mono C0.out ?_
  rintro e w1 ⟨f, r, cr, X, s, cs, Y, rfl, oX, oY, hk, lX, lY, B1⟩
  clear C0
  obtain ⟨w2, hw2⟩ : ∃ w2, w2 = w1.alloc (.cells #[.bool f, .slice r X.length cr, .slice s Y.length cs] 25) := ⟨_, rfl⟩
  obtain ⟨gf, hgf⟩ : ∃ gf, gf = w1.heap.size := ⟨_, rfl⟩
  have b2 : Below w1.heap.size w1 w2 := by rw [hw2]; exact (Below.refl _ w1).alloc (Nat.le_refl _) _
  have kf : BoxC w2 gf 25 #[.bool f, .slice r X.length cr, .slice s Y.length cs] := by rw [hw2, hgf]; exact boxc_new _ _ _
  have B2 := B1.trans (b2.mono B1.size)
  have oX2 := oX.keep b2
  have oY2 := oY.keep b2
  clear B1 b2 oX oY
  go_wp2_with fail
  rw [← hw2, ← hgf]
  clear hw2 hgf
  refine Calls.mono (C1.out _ B2) ?_
  rintro e w3 ⟨rk, ck, k, rfl, oK, lK, b3⟩
  have kf3 := boxc_keep kf b3
  have B3 := B2.trans (b3.mono B2.size)
  have oX3 := oX2.keep b3
  have oY3 := oY2.keep b3
  clear C1 b3 B2 oX2 oY2 kf
  obtain ⟨x, y, hX, hY, lx, ly, hy0, _, _⟩ := fok_parts hk
  have CX : Hid (∀ W, Sl W r X → Sl W rk (dgs k) → Calls Tryd.prog 7 #[.slice r X.length cr, .slice rk (dgs k).length ck] W fun e w' => ∃ r' c', e = .returned (.tuple #[.slice r' (ansL (some (x * k))).length c', .bool (ansB (some (x * k)))]) ∧ OwnI w' W.heap.size r' c' (ansL (some (x * k))) ∧ Below W.heap.size W w') := fun W h1 h2 => by
    have h := specMul_op r rk cr ck X (dgs k) W h1 h2 (by omega) (by omega)
    rw [hX, op2_yes lx lK] at h
    rw [hX]
    exact h
  have CY : Hid (∀ W, Sl W s Y → Sl W rk (dgs k) → Calls Tryd.prog 7 #[.slice s Y.length cs, .slice rk (dgs k).length ck] W fun e w' => ∃ r' c', e = .returned (.tuple #[.slice r' (ansL (some (y * k))).length c', .bool (ansB (some (y * k)))]) ∧ OwnI w' W.heap.size r' c' (ansL (some (y * k))) ∧ Below W.heap.size W w') := fun W h1 h2 => by
    have h := specMul_op s rk cs ck Y (dgs k) W h1 h2 (by omega) (by omega)
    rw [hY, op2_yes ly lK] at h
    rw [hY]
    exact h
  have hlen1 := ansL_len (some (x * k))
  have hlen2 := ansL_len (some (y * k))
  have CO : Hid (∀ W a c a' c', Hdl W → Sl W a (ansL (some (x * k))) → Sl W a' (ansL (some (y * k))) → (ansL (some (x * k))).length ≤ c → (ansL (some (y * k))).length ≤ c' → Calls Tryd.prog 8 #[.bool f, .slice a (ansL (some (x * k))).length c, .slice a' (ansL (some (y * k))).length c'] W fun e w' => RetF W e w' (ofA f (ansL (some (x * k))) (ansL (some (y * k))))) := fun W a c a' c' h0 h1 h2 h3 h4 => implFOf_any f a a' c c' _ _ W h0 h1 h2 (by omega) (by omega) h3 h4
  have CK : Hid (∀ W, Sl W r X → Sl W s Y → X.length ≤ cr → Y.length ≤ cs → Calls Tryd.prog 9 #[fracV f r X.length cr s Y.length cs] W fun e w' => e = .returned (.bool true) ∧ Below W.heap.size W w') := fun W h1 h2 h3 h4 => by
    have h := implFok_any f r s cr cs X Y W h1 h2 (by omega) (by omega) h3 h4
    rw [hk] at h
    exact h
  have CW : Hid (∀ W a c a' c', Sl W r X → Sl W s Y → Sl W a X → Sl W a' Y → Calls Tryd.prog 10 #[fracV f r X.length cr s Y.length cs, fracV f a X.length c a' Y.length c'] W fun e w' => e = .returned (.bool true) ∧ Below W.heap.size W w') := fun W a c a' c' h1 h2 h3 h4 => pwFrac_any f r s a a' cr cs c c' X Y W h1 h2 h3 h4 (by omega) (by omega)
  have hcase : (ansB (some (x * k)) = false) ∨ (ansB (some (x * k)) = true ∧ ansB (some (y * k)) = false) ∨ (ansB (some (x * k)) = true ∧ ansB (some (y * k)) = true ∧ (((dgs k).length : Int) == 0) = true ∧ (ofA f (ansL (some (x * k))) (ansL (some (y * k)))).ok = false) ∨ (ansB (some (x * k)) = true ∧ ansB (some (y * k)) = true ∧ (((dgs k).length : Int) == 0) = false ∧ ofA f (ansL (some (x * k))) (ansL (some (y * k))) = ⟨f, X, Y, true⟩) := by
    cases e1 : ansB (some (x * k)) with
    | false => exact .inl rfl
    | true =>
      cases e2 : ansB (some (y * k)) with
      | false => exact .inr (.inl ⟨rfl, rfl⟩)
      | true =>
        have f1 : (dgs (x * k)).length ≤ 256 := by simpa [ansB, fitB] using e1
        have f2 : (dgs (y * k)).length ≤ 256 := by simpa [ansB, fitB] using e2
        rw [(ans_fit f1).1, (ans_fit f2).1]
        by_cases hk0 : k = 0
        · refine .inr (.inr (.inl ⟨rfl, rfl, by rw [hk0]; rfl, make_zero ?_⟩))
          rw [hk0, Nat.mul_zero]
          rfl
        · refine .inr (.inr (.inr ⟨rfl, rfl, ?_, ?_⟩))
          · have := (dgs_pos_len k).2 hk0
            rw [beq_eq_false_iff_ne]
            omega
          · rw [hX, hY] at hk
            rcases make_same hk0 hk with h | h
            · rw [h, hX, hY]
            · exact absurd ⟨f1, f2⟩ h
  obtain ⟨K, hK⟩ : ∃ K, K = dgs k := ⟨_, rfl⟩
  obtain ⟨P, hP⟩ : ∃ P, P = ansL (some (x * k)) := ⟨_, rfl⟩
  obtain ⟨Q, hQ⟩ : ∃ Q, Q = ansL (some (y * k)) := ⟨_, rfl⟩
  obtain ⟨oP, hoP⟩ : ∃ oP, oP = ansB (some (x * k)) := ⟨_, rfl⟩
  obtain ⟨oQ, hoQ⟩ : ∃ oQ, oQ = ansB (some (y * k)) := ⟨_, rfl⟩
  rw [← hP] at CX CO hcase
  rw [← hQ] at CY CO hcase
  rw [← hoP] at CX hcase
  rw [← hoQ] at CY hcase
  rw [← hK] at CX CY hcase oK ⊢
  obtain ⟨A, hA⟩ : ∃ A, A = ofA f P Q := ⟨_, rfl⟩
  rw [← hA] at CO hcase
  unfold RetF at CO
  unfold fracV at CO CK CW
  have HC : Hid _ := hcase
  clear hcase hA hoP hoQ hP hQ hK hX hY lx ly hy0 hlen1 hlen2 hk lK
  obtain ⟨f0, f1, f2, ff, fn⟩ := boxc3 kf3
  go_wp2_with fail
  refine Calls.mono (CX.out _ oX3.sl oK.sl) ?_
  rintro e w4 ⟨rp, cp, rfl, oP4, b4⟩
  have kf4 := boxc_keep kf3 b4
  have B4 := B3.trans (b4.mono B3.size)
  have oX4 := oX3.keep b4
  have oY4 := oY3.keep b4
  have oK4 := oK.keep b4
  clear CX b4 B3 oX3 oY3 oK kf3 f0 f1 f2 ff fn
  obtain ⟨f0, f1, f2, ff, fn⟩ := boxc3 kf4
  go_wp2_with fail
  refine Calls.mono (CY.out _ oY4.sl oK4.sl) ?_
  rintro e w5 ⟨rq, cq, rfl, oQ5, b5⟩
  have kf5 := boxc_keep kf4 b5
  have B5 := B4.trans (b5.mono B4.size)
  have oX5 := oX4.keep b5
  have oY5 := oY4.keep b5
  have oP5 := oP4.keep b5
  clear CY b5 B4 oX4 oY4 oK4 oP4 kf4 f0 f1 f2 ff fn
  obtain ⟨f0, f1, f2, ff, fn⟩ := boxc3 kf5
  rcases HC.out with rfl | ⟨rfl, rfl⟩ | ⟨rfl, rfl, hK0, hA0⟩ | ⟨rfl, rfl, hK0, hA0⟩
  · clear HC CO CK CW oX5 oY5 oP5 oQ5 kf5 HH
    go_wp2
    go_ret
    exact ⟨rfl, B5⟩
  · clear HC CO CK CW oX5 oY5 oP5 oQ5 kf5 HH
    go_wp2
    go_ret
    exact ⟨rfl, B5⟩
  · rw [hA0] at CO
    have h5 := Hdl.keep HH.out B5 (Hdl.pos HH.out)
    clear HC CK CW
    go_wp2_with fail
    refine Calls.mono (CO.out _ _ _ _ _ h5 oP5.sl oQ5.sl (own_cap oP5) (own_cap oQ5)) ?_
    rintro e w6 ⟨r6, c6, s6, d6, rfl, _, _, _, b6⟩
    have HB : Hid (Below w.heap.size w w6) := B5.trans (b6.mono B5.size)
    clear h5 HH CO B5 b6 oX5 oY5 oP5 oQ5 kf5 f0 f1 f2 ff fn
    go_wp2
    go_ret
    exact ⟨rfl, HB.out.alloc HB.out.size _⟩
  · subst hA0
    have h5 := Hdl.keep HH.out B5 (Hdl.pos HH.out)
    clear HC
    go_wp2_with fail
    refine Calls.mono (CO.out _ _ _ _ _ h5 oP5.sl oQ5.sl (own_cap oP5) (own_cap oQ5)) ?_
    rintro e w6 ⟨r6, c6, s6, d6, rfl, o6, o6', _, b6⟩
    have B6 := B5.trans (b6.mono B5.size)
    have kf6 := boxc_keep kf5 b6
    have oX6 := oX5.keep b6
    have oY6 := oY5.keep b6
    clear h5 HH CO B5 b6 oX5 oY5 oP5 oQ5 kf5 f0 f1 f2 ff fn
    obtain ⟨w7, hw7⟩ : ∃ w7, w7 = w6.alloc (.cells #[.bool f, .slice r6 X.length c6, .slice s6 Y.length d6] 25) := ⟨_, rfl⟩
    obtain ⟨gg, hgg⟩ : ∃ gg, gg = w6.heap.size := ⟨_, rfl⟩
    have b7 : Below w6.heap.size w6 w7 := by rw [hw7]; exact (Below.refl _ w6).alloc (Nat.le_refl _) _
    have kg : BoxC w7 gg 25 #[.bool f, .slice r6 X.length c6, .slice s6 Y.length d6] := by rw [hw7, hgg]; exact boxc_new _ _ _
    have kf7 := boxc_keep kf6 b7
    have B7 := B6.trans (b7.mono B6.size)
    have oX7 := oX6.keep b7
    have oY7 := oY6.keep b7
    have p7 := o6.keep b7
    have q7 := o6'.keep b7
    clear b7 B6 oX6 oY6 kf6 o6 o6'
    go_upto_region 10 with fail
    rw [← hw7, ← hgg]
    clear hw7 hgg
    obtain ⟨f0, f1, f2, ff, fn⟩ := boxc3 kf7
    obtain ⟨e0, e1, e2, ef, en⟩ := boxc3 kg
    go_wp2_with fail
    refine Calls.mono (CK.out _ oX7.sl oY7.sl (own_cap oX7) (own_cap oY7)) ?_
    rintro e w8 ⟨rfl, b8⟩
    have kf8 := boxc_keep kf7 b8
    have kg8 := boxc_keep kg b8
    have B8 := B7.trans (b8.mono B7.size)
    have oX8 := oX7.keep b8
    have oY8 := oY7.keep b8
    have p8 := p7.keep b8
    have q8 := q7.keep b8
    clear CK b8 B7 oX7 oY7 p7 q7 kf7 kg f0 f1 f2 ff fn e0 e1 e2 ef en
    obtain ⟨f0, f1, f2, ff, fn⟩ := boxc3 kf8
    obtain ⟨e0, e1, e2, ef, en⟩ := boxc3 kg8
    go_wp2_with fail
    refine Calls.mono (CW.out _ _ _ _ _ oX8.sl oY8.sl p8.sl q8.sl) ?_
    rintro e w9 ⟨rfl, b9⟩
    have HB : Hid (Below w.heap.size w w9) := B8.trans (b9.mono B8.size)
    clear CW b9 B8 oX8 oY8 p8 q8 kf8 kg8 f0 f1 f2 ff fn e0 e1 e2 ef en
    go_wp2
    go_ret
    exact ⟨rfl, HB.out⟩

set_option maxRecDepth 100000 in
theorem lifted (os : Os) (started : os.Started) (H : Type) (enc : TypeId × Value → H) :
    ReturnsInHanded {} Tryd.checked os 3 .any (fun w args => (Rows.fnFracMakeSpec.pre enc Tryd.prog Tryd.f3 [] false w args ∧ laidMetH Tryd.prog laidL w) ∧ sizedMet enc Tryd.prog Tryd.f3 (OpenSpec.ofChange Rows.fnFracMakeSpec) false w args)
      (Rows.fnFracMakeSpec.post enc Tryd.prog Tryd.f3 false true false false) := by
  refine returnsInHanded_of_change_and (C := Tryd.checked) (X := fun w _ => laidMetH Tryd.prog laidL w) (fun _ _ _ hh h => h.of_heap hh) ownK started (by kernel_rfl) Tryd.func3
    (ChangeSpec.witness_at (enc := enc) (C := Tryd.checked) (os := os) (X := fun w _ => laidMetH Tryd.prog laidL w) false { World.holding Tryd.prog os ⟨#[], #[], []⟩ with heap := (World.holding Tryd.prog os ⟨#[], #[], []⟩).heap.modify 0 fun | .cells _ t frozen => .cells #[.iface 123 (.agg #[.pointer (some ⟨1, 54, none⟩)])] t frozen | o => o } #[.slice none 0 0, .slice none 0 0] 8 rfl (by kernel_rfl) (by kernel_rfl) (by kernel_rfl) (by kernel_rfl) (by kernel_rfl) (laidMetH_of_parts (laidMet_nil _ _) (by kernel_rfl))) ?_
  intro W base args ds gs before hval0 hW _ _ hL _
  have hval : ∀ (j : Nat) t v, Tryd.f3.params[j]? = some t → args[j]? = some v → Value.okWide Tryd.prog W .any base t v := hval0
  have hW' := hW
  obtain ⟨p, q, hA0, hV0, rfl, hfz, hnd⟩ := hW
  have hA : DataW.TrodAll enc Tryd.prog W 0 (fun _ => true) true Tryd.f3.params.toList args.toList ds p := hA0
  have hV : DataW.TrodVars enc Tryd.prog W (fun _ => true) [] gs q := hV0
  rw [Tryd.params3] at hA hval
  obtain ⟨v0, vs0, d0, ds0, p0, q0, hargs, rfl, rfl, h0, r0⟩ := trodAll_cons hA
  obtain ⟨v1, vs1, d1, ds1, p1, q1, rfl, rfl, rfl, h1, r1⟩ := trodAll_cons r0
  obtain ⟨rfl, rfl, rfl⟩ := trodAll_nil r1
  obtain rfl : args = #[v0, v1] := by cases args; simp_all
  obtain ⟨rfl, rfl⟩ := trodVars_none hV
  obtain ⟨aa0, la0, ca0, rfl⟩ := okWide_slice Tryd.underlying22 (hval 0 22 v0 rfl rfl)
  have k0 := h0
  have lt0 : ∀ x ∈ p0, x.block < W.heap.size := by obtain ⟨m, hm⟩ := k0; exact DataW.trod_lt m _ _ _ hm
  obtain ⟨za0, wa0⟩ : ∃ zs, IsRow .u8 W aa0 la0 ca0 zs := by
    obtain ⟨fuel, hf⟩ := h0
    rcases open_ints Tryd.underlying22 Tryd.underlying5 (by kernel_rfl) hf with ⟨hcs, _⟩ | ⟨x, l, c, zs, hcs, _, hl, hm, hz, _, hcell, hwz⟩
    · simp [Value.cells] at hcs
      obtain ⟨rfl, rfl, rfl⟩ := hcs
      exact ⟨[], .inl ⟨rfl, rfl, rfl, rfl⟩⟩
    · simp [Value.cells] at hcs
      obtain ⟨rfl, rfl, rfl⟩ := hcs
      exact ⟨zs, .inr ⟨_, rfl, hl, hm, by simpa using hz, hcell, hwz⟩⟩
  obtain ⟨aa1, la1, ca1, rfl⟩ := okWide_slice Tryd.underlying22 (hval 1 22 v1 rfl rfl)
  have k1 := h1
  have lt1 : ∀ x ∈ p1, x.block < W.heap.size := by obtain ⟨m, hm⟩ := k1; exact DataW.trod_lt m _ _ _ hm
  obtain ⟨za1, wa1⟩ : ∃ zs, IsRow .u8 W aa1 la1 ca1 zs := by
    obtain ⟨fuel, hf⟩ := h1
    rcases open_ints Tryd.underlying22 Tryd.underlying5 (by kernel_rfl) hf with ⟨hcs, _⟩ | ⟨x, l, c, zs, hcs, _, hl, hm, hz, _, hcell, hwz⟩
    · simp [Value.cells] at hcs
      obtain ⟨rfl, rfl, rfl⟩ := hcs
      exact ⟨[], .inl ⟨rfl, rfl, rfl, rfl⟩⟩
    · simp [Value.cells] at hcs
      obtain ⟨rfl, rfl, rfl⟩ := hcs
      exact ⟨zs, .inr ⟨_, rfl, hl, hm, by simpa using hz, hcell, hwz⟩⟩
  clear hA0 hval0 hval hA hV hV0
  have hh := hdl_of_laid hL
  have hw := walk aa0 la0 ca0 za0 aa1 la1 ca1 za1 W hh wa0 wa1  
  refine hw.mono fun e W' ⟨he, bel⟩ => ?_
  subst he
  exact ⟨_, rfl, _, _, _, [], _, [], hW', trodAll_mk1 (shut_bool Tryd.underlying4 _), (trodAll_cons_mk (Below.trod laidOutK (by kernel_rfl) (of_decide_eq_true (by kernel_rfl)) k0 bel lt0) (trodAll_cons_mk (Below.trod laidOutK (by kernel_rfl) (of_decide_eq_true (by kernel_rfl)) k1 bel lt1) trodAll_mk0)), rfl, bel.frame _, fun h => by cases h⟩

theorem over : Rows.fnFracMakeRow.holds Tryd.pinned (OpenSpec.ofChange Rows.fnFracMakeSpec) :=
  OpenClaim.holds_of_wide 3 Tryd.f3 rfl rfl rfl rfl rfl rfl rfl ⟨rfl, rfl, rfl, rfl, rfl⟩ rfl rfl rfl rfl rfl (by kernel_rfl) Tryd.func3 (by kernel_rfl)
    (of_decide_eq_true (by kernel_rfl)) (by unfold Func.isWrapper; first | (rw [if_pos (by decide +kernel)]; kernel_rfl) | (rw [if_neg (by decide +kernel)]; exact ⟨rfl, rfl⟩))
    (fun os started H enc _ => lifted os started H enc)

theorem card : Rows.FnFracMakeCardSaid :=
  Claim7.holds_tied_plain_at .later [] [.handle] true Rows.fnFracMakeCard.stood.harness true
    over (fun _ h => by cases h) (by kernel_rfl) (fun _ h => by cases h) fnFracMake_row_tie rfl ⟨rfl, rfl⟩ (by kernel_rfl) rfl
    (fun f fn hf hfn => by
      obtain rfl : f = 3 := Option.some.inj ((show Tryd.prog.funcNamed Rows.fnFracMakeRow.func = some 3 by kernel_rfl).symm.trans hf) |>.symm
      obtain rfl : fn = Tryd.f3 := (Option.some.inj (Tryd.func3.symm.trans hfn)).symm
      exact ⟨by kernel_rfl, fun j t ht => by
        rw [Tryd.params3] at ht
        have h3 : t = 22 := by
          rcases j with _ | j
          · simp at ht; subst ht; simp
          rcases j with _ | j
          · simp at ht; subst ht; simp
          simp at ht
        rcases h3 with rfl
        · exact (show Tryd.prog.wantsStandIn 22 = false by kernel_rfl)
      ⟩)
    (by kernel_rfl)
end fnFracMake
theorem fnFracMake_holds : Rows.FnFracMakeCardSaid := fnFracMake.card
#print axioms fnFracMake_holds
end Go.Proofs.YthokphoojmpajabDoor
