/- For every fraction the law FnExactDecText returns true and its arguments read as before; no condition beyond the row's own (the listed variable, tied by the card). -/
import Derived.Test.YthokphoojmpajahDoorCards
import Derived.Test.YthokphoojmpajahDoorTie
import Derived.Test.YthokphoojmpajahDoorFracOpen
import Derived.Test.YthokphoojmpajahDoorFracBy
import Derived.Test.YthokphoojmpajahDoorLaid
import Derived.Test.YthokphoojmpajahDoorSpecDec
import Derived.Test.YthokphoojmpajahDoorDecImp2
import Derived.ChangeVars
import Derived.ChangeSame
import Derived.LaidHandle
import Derived.SevenTiedAt
namespace Go.Proofs.YthokphoojmpajahDoor
namespace fnExactDecText
open Go.ChangeShapes Go.WideShapes Go.ChangeAt Go.RowKit Go.Proofs.Pin

set_option maxRecDepth 100000 in
set_option maxHeartbeats 8000000 in
theorem walk (b : Bool) (a0 : Option Addr) (c0 : Nat) (X : List Int) (a1 : Option Addr) (c1 : Nat) (Y : List Int) (w : World) (hh : Hdl w) (sX : Sl w a0 X) (sY : Sl w a1 Y) (mX : X.length ≤ 9223372036854775807) (mY : Y.length ≤ 9223372036854775807) :
    Calls Tryd.prog 5 #[fracV b a0 X.length c0 a1 Y.length c1] w fun e w' => e = .returned (.bool true) ∧ Below w.heap.size w w' := by
  obtain ⟨w0, hw0⟩ : ∃ w0, w0 = w.alloc (.cells #[.bool b, .slice a0 X.length c0, .slice a1 Y.length c1] 24) := ⟨_, rfl⟩
  have B0 : Below w.heap.size w w0 := by rw [hw0]; exact (Below.refl _ w).alloc (Nat.le_refl _) _
  have kA0 : BoxC w0 w.heap.size 24 #[.bool b, .slice a0 X.length c0, .slice a1 Y.length c1] := by rw [hw0]; exact boxc_new _ _ _
  have Z1 : Hid (Calls Tryd.prog 6 #[fracV b a0 X.length c0 a1 Y.length c1, .int .i64 1048576] w0 fun e w' => ∃ l' : Int, e = .returned (.int .i64 l') ∧ (l' < 0 ∨ (0 ≤ l' ∧ l' ≤ 1048576 ∧ X.length ≤ 1048576 ∧ Y.length ≤ 1048576)) ∧ Below w0.heap.size w0 w') := szFrac_at b a0 a1 _ _ c0 c1 1048576 w0 mX mY (by omega) (by omega)
  unfold fracV at Z1 ⊢
  clear mX mY
  go_enter Tryd.func5, Tryd.ntmps5
  go_wp2_with fail
  rw [← hw0]
  refine Calls.mono Z1.out ?_
  rintro e w1 ⟨l, rfl, hl, b1⟩
  have B1 : Below w.heap.size w w1 := B0.trans (b1.mono B0.size)
  rcases hl with hneg | ⟨hl0, hl1, lX, lY⟩
  · clear Z1 b1 kA0 hw0
    go_wp2
    go_ret
    exact ⟨rfl, B1⟩
  have hl' : ¬ l < 0 := by omega
  have kA1 := boxc_keep kA0 b1
  have p1 := sX.keep B1
  have q1 := sY.keep B1
  clear Z1 b1 kA0 hw0 B0 hl0 hl1
  have TA : Hid (∀ W, Sl W a0 X → Sl W a1 Y → Calls Tryd.prog 8 #[fracV b a0 X.length c0 a1 Y.length c1] W fun e w' => ∃ g1 g2, e = .returned (fracV b (some ⟨g1, 0, none⟩) X.length X.length (some ⟨g2, 0, none⟩) Y.length Y.length) ∧ OwnI w' W.heap.size (some ⟨g1, 0, none⟩) X.length X ∧ OwnI w' W.heap.size (some ⟨g2, 0, none⟩) Y.length Y ∧ g1 ≠ g2 ∧ Below W.heap.size W w') := fun W h1 h2 => toFrac_any b a0 a1 c0 c1 X Y W h1 h2 lX lY
  have CS : Hid (∀ W u1 u2, Sl W u1 X → Sl W u2 Y → Calls Tryd.prog 15 #[fracV b u1 X.length X.length u2 Y.length Y.length] W fun e w' => e = .returned (.tuple #[.string (dcT b X Y), .bool (dcB b X Y)]) ∧ Below W.heap.size W w') := fun W u1 u2 h1 h2 => specDec_any b u1 u2 _ _ X Y W h1 h2 lX lY
  have CI : Hid (∀ W u1 u2, Hdl W → Sl W u1 X → Sl W u2 Y → Calls Tryd.prog 16 #[fracV b u1 X.length X.length u2 Y.length Y.length] W fun e w' => e = .returned (.tuple #[.string (dcT b X Y), .bool (dcB b X Y)]) ∧ Below W.heap.size W w') := fun W u1 u2 h0 h1 h2 => implDec_any b u1 u2 _ _ X Y W h0 h1 h2 lX lY (Nat.le_refl _) (Nat.le_refl _)
  obtain ⟨z, hz⟩ : ∃ z : ByteArray, z = dcT b X Y := ⟨_, rfl⟩
  obtain ⟨zb, hzb⟩ : ∃ zb : Bool, zb = dcB b X Y := ⟨_, rfl⟩
  rw [← hz, ← hzb] at CS CI
  clear hz hzb
  have hnb : (zb != zb) = false := by simp
  have hnb2 : (zb == zb) = true := by simp
  have hne : (z.toList == z.toList) = true := by simp
  have EQ : Hid (∀ (W : World) (bb : Bool) (r1 s1 r2 s2 : Option Addr) (k1 d1 k2 d2 : Nat) (P Q : List Int), P.length ≤ 1048576 → Q.length ≤ 1048576 → Sl W r1 P → Sl W s1 Q → Sl W r2 P → Sl W s2 Q → Calls Tryd.prog 10 #[fracV bb r1 P.length k1 s1 Q.length d1, fracV bb r2 P.length k2 s2 Q.length d2] W fun e w' => e = .returned (.bool true) ∧ Below W.heap.size W w') := fun W bb r1 s1 r2 s2 k1 d1 k2 d2 P Q lP lQ h1 h2 h3 h4 => eqFrac_any bb r1 s1 r2 s2 k1 d1 k2 d2 P Q W h1 h2 h3 h4 lP lQ
  unfold fracV at TA CS CI EQ
  have HH : Hid (Hdl w) := hh
  clear sX sY hh
  obtain ⟨kAc0, kAc1, kAc2, _, kAcn⟩ := boxc3 kA1
  go_wp2_with fail
  refine Calls.mono (TA.out _ p1 q1) ?_
  rintro e w2 ⟨t1, t2, rfl, oT, oS, _, b2⟩
  clear kAc0 kAc1 kAc2
  have kA2 := boxc_keep kA1 b2
  have p2 := p1.keep b2
  have q2 := q1.keep b2
  have B2 := B1.trans (b2.mono B1.size)
  clear kA1 p1 q1 B1 b2
  go_wp2_with fail
  refine Calls.mono (CS.out _ _ _ oT.sl oS.sl) ?_
  rintro e w3 ⟨rfl, b3⟩
  clear oT oS
  have kA3 := boxc_keep kA2 b3
  have p3 := p2.keep b3
  have q3 := q2.keep b3
  have B3 := B2.trans (b3.mono B2.size)
  clear kA2 p2 q2 B2 b3
  obtain ⟨kAc0, kAc1, kAc2, _, kAcn⟩ := boxc3 kA3
  go_wp2_with fail
  refine Calls.mono (TA.out _ p3 q3) ?_
  rintro e w4 ⟨x1, x2, rfl, oX4, oZ4, hx12, b4⟩
  clear kAc0 kAc1 kAc2
  have kA4 := boxc_keep kA3 b4
  have p4 := p3.keep b4
  have q4 := q3.keep b4
  have B4 := B3.trans (b4.mono B3.size)
  clear kA3 p3 q3 B3 b4
  obtain ⟨w5, hw5⟩ : ∃ w5, w5 = w4.alloc (.cells #[.bool b, .slice (some ⟨x1, 0, none⟩) X.length X.length, .slice (some ⟨x2, 0, none⟩) Y.length Y.length] 27) := ⟨_, rfl⟩
  obtain ⟨bx, hbx⟩ : ∃ bx, bx = w4.heap.size := ⟨_, rfl⟩
  have b5 : Below w4.heap.size w4 w5 := by rw [hw5]; exact (Below.refl _ w4).alloc (Nat.le_refl _) _
  have kX5 : BoxC w5 bx 27 #[.bool b, .slice (some ⟨x1, 0, none⟩) X.length X.length, .slice (some ⟨x2, 0, none⟩) Y.length Y.length] := by rw [hw5, hbx]; exact boxc_new _ _ _
  have kA5 := boxc_keep kA4 b5
  have p5 := p4.keep b5
  have q5 := q4.keep b5
  have oX5 := oX4.keep b5
  have oZ5 := oZ4.keep b5
  have B5 := B4.trans (b5.mono B4.size)
  clear kA4 p4 q4 oX4 oZ4 B4 b5
  have h5 := Hdl.keep HH.out B5 (Hdl.pos HH.out)
  go_wp2_with fail
  rw [← hw5, ← hbx]
  clear hw5 hbx
  refine Calls.mono (CI.out _ _ _ h5 oX5.sl oZ5.sl) ?_
  rintro e w6 ⟨rfl, b6⟩
  clear h5
  have kA6 := boxc_keep kA5 b6
  have p6 := p5.keep b6
  have q6 := q5.keep b6
  have oX6 := oX5.keep b6
  have oZ6 := oZ5.keep b6
  have kX6 := boxc_keep kX5 b6
  have B6 := B5.trans (b6.mono B5.size)
  clear kA5 p5 q5 oX5 oZ5 kX5 B5 b6
  have zA := boxc_lt kA6
  have zX := boxc_lt kX6
  obtain ⟨kXc0, kXc1, kXc2, _, kXcn⟩ := boxc3 kX6
  obtain ⟨kAc0, kAc1, kAc2, _, kAcn⟩ := boxc3 kA6
  have y0d : w6.drew.cell? ⟨bx, 0, none⟩ = some (.bool b) := kXc0
  have y1d : w6.drew.cell? ⟨bx, 1, none⟩ = some (.slice (some ⟨x1, 0, none⟩) X.length X.length) := kXc1
  have y2d : w6.drew.cell? ⟨bx, 2, none⟩ = some (.slice (some ⟨x2, 0, none⟩) Y.length Y.length) := kXc2
  have y3d : w6.drew.cell? ⟨w.heap.size, 0, none⟩ = some (.bool b) := kAc0
  have y4d : w6.drew.cell? ⟨w.heap.size, 1, none⟩ = some (.slice a0 X.length c0) := kAc1
  have y5d : w6.drew.cell? ⟨w.heap.size, 2, none⟩ = some (.slice a1 Y.length c1) := kAc2
  have bO6 : Below w6.heap.size w6 w6.drew := (Below.refl _ w6).drew
  clear kXc0 kXc1 kXc2 kAc0 kAc1 kAc2
  go_wp2_with fail
  go_region_held3 (fun w' => w'.cell? ⟨bx, 0, none⟩ = some (.bool b) ∧ w'.cell? ⟨bx, 1, none⟩ = some (.slice (some ⟨x1, 0, none⟩) X.length X.length) ∧ w'.cell? ⟨bx, 2, none⟩ = some (.slice (some ⟨x2, 0, none⟩) Y.length Y.length) ∧ w'.cell? ⟨w.heap.size, 0, none⟩ = some (.bool b) ∧ w'.cell? ⟨w.heap.size, 1, none⟩ = some (.slice a0 X.length c0) ∧ w'.cell? ⟨w.heap.size, 2, none⟩ = some (.slice a1 Y.length c1))
    (first
      | (with_reducible exact ⟨y0d, y1d, y2d, y3d, y4d, y5d⟩)
      | (go_split_ands; refine ⟨?_, ?_, ?_, ?_, ?_, ?_⟩ <;> first | (with_reducible exact cell_big bW (by omega) (by assumption)) | (with_reducible exact cell_big bV (by omega) (by assumption))))
    (first
      | (go_at_call 8; (refine Calls.mono (TA.out w6.drew ?_ ?_) ?_); (exact p6); (exact q6); rintro e wv ⟨ga, gb, rfl, oa, ob, _, bv⟩; have bV : Below w6.heap.size w6 wv := below_un2 bv)
      | (go_at_call 10; (refine Calls.mono (EQ.out _ _ _ _ _ _ _ _ _ _ _ _ ?_ ?_ ?_ ?_ ?_ ?_) ?_); (exact lX); (exact lY); (exact Sl.keep oX6.sl bV); (exact Sl.keep oZ6.sl bV); (exact oa.sl); (exact ob.sl); rintro e wu ⟨rfl, bu⟩; have bW : Below w6.heap.size w6 wu := bV.trans (bu.mono bV.size)))
  obtain ⟨w7, hw7⟩ : ∃ w7, w7 = wu := ⟨_, rfl⟩
  rw [← hw7] at bW ⊢
  clear y0d y1d y2d y3d y4d y5d bu bv bV oa ob bO6 hw7
  have kA7 := boxc_keep kA6 bW
  have p7 := p6.keep bW
  have q7 := q6.keep bW
  have oX7 := oX6.keep bW
  have oZ7 := oZ6.keep bW
  have kX7 := boxc_keep kX6 bW
  have B7 := B6.trans (bW.mono B6.size)
  clear kA6 p6 q6 oX6 oZ6 kX6 B6 bW
  go_wp2
  go_ret
  exact ⟨rfl, B7⟩

set_option maxRecDepth 100000 in
theorem lifted (os : Os) (started : os.Started) (H : Type) (enc : TypeId × Value → H) :
    ReturnsInHanded {} Tryd.checked os 5 .any (fun w args => (Rows.fnExactDecTextSpec.pre enc Tryd.prog Tryd.f5 [] false w args ∧ laidMetH Tryd.prog laidL w) ∧ sizedMet enc Tryd.prog Tryd.f5 (OpenSpec.ofChange Rows.fnExactDecTextSpec) false w args)
      (Rows.fnExactDecTextSpec.post enc Tryd.prog Tryd.f5 false true false false) := by
  refine returnsInHanded_of_change_and (C := Tryd.checked) (X := fun w _ => laidMetH Tryd.prog laidL w) (fun _ _ _ hh h => h.of_heap hh) ownK started (by kernel_rfl) Tryd.func5
    (ChangeSpec.witness_at (enc := enc) (C := Tryd.checked) (os := os) (X := fun w _ => laidMetH Tryd.prog laidL w) false { World.holding Tryd.prog os ⟨#[], #[], []⟩ with heap := (World.holding Tryd.prog os ⟨#[], #[], []⟩).heap.modify 0 fun | .cells _ t frozen => .cells #[.iface 106 (.agg #[.pointer (some ⟨2, 48, none⟩)])] t frozen | o => o } #[.agg #[.bool false, .slice none 0 0, .slice none 0 0]] 8 rfl (by kernel_rfl) (by kernel_rfl) (by kernel_rfl) (by kernel_rfl) (by kernel_rfl) (laidMetH_of_parts (laidMet_nil _ _) (by kernel_rfl))) ?_
  intro W base args ds gs before hval0 hW _ _ hL _
  have hval : ∀ (j : Nat) t v, Tryd.f5.params[j]? = some t → args[j]? = some v → Value.okWide Tryd.prog W .any base t v := hval0
  have hW' := hW
  obtain ⟨p, q, hA0, hV0, rfl, hfz, hnd⟩ := hW
  have hA : DataW.TrodAll enc Tryd.prog W 0 (fun _ => true) true Tryd.f5.params.toList args.toList ds p := hA0
  have hV : DataW.TrodVars enc Tryd.prog W (fun _ => true) [] gs q := hV0
  rw [Tryd.params5] at hA hval
  obtain ⟨v0, vs0, d0, ds0, p0, q0, hargs, rfl, rfl, h0, r0⟩ := trodAll_cons hA
  obtain ⟨rfl, rfl, rfl⟩ := trodAll_nil r0
  obtain rfl : args = #[v0] := by cases args; simp_all
  obtain ⟨rfl, rfl⟩ := trodVars_none hV
  obtain ⟨cs0, rfl, hcs0⟩ := okWide_struct Tryd.underlying24 (hval 0 24 v0 rfl rfl)
  have k0 := h0
  have lt0 : ∀ x ∈ p0, x.block < W.heap.size := by obtain ⟨m, hm⟩ := k0; exact DataW.trod_lt m _ _ _ hm
  obtain ⟨b0, aa0, la0, ca0, za0, ab0, lb0, cb0, zb0, rfl, wa0, wb0, ha0, hb0⟩ := frac_open hcs0 h0
  obtain ⟨sa0, ea0⟩ := isRow_sl wa0
  obtain ⟨sb0, eb0⟩ := isRow_sl wb0
  clear hA0 hval0 hval hA hV hV0
  have hh := hdl_of_laid hL
  have hw := walk b0 aa0 ca0 (za0.take la0) ab0 cb0 (zb0.take lb0) W hh sa0 sb0 (by rw [ea0]; exact Nat.le_trans ha0 (by simp [maxLen])) (by rw [eb0]; exact Nat.le_trans hb0 (by simp [maxLen]))
  rw [ea0, eb0] at hw
  refine hw.mono fun e W' ⟨he, bel⟩ => ?_
  subst he
  exact ⟨_, rfl, _, _, _, [], _, [], hW', trodAll_mk1 (shut_bool Tryd.underlying4 _), (trodAll_cons_mk (Below.trod laidOutK (by kernel_rfl) (of_decide_eq_true (by kernel_rfl)) k0 bel lt0) trodAll_mk0), rfl, bel.frame _, fun h => by cases h⟩

theorem over : Rows.fnExactDecTextRow.holds Tryd.pinned (OpenSpec.ofChange Rows.fnExactDecTextSpec) :=
  OpenClaim.holds_of_wide 5 Tryd.f5 rfl rfl rfl rfl rfl rfl rfl ⟨rfl, rfl, rfl, rfl, rfl⟩ rfl rfl rfl rfl rfl (by kernel_rfl) Tryd.func5 (by kernel_rfl)
    (of_decide_eq_true (by kernel_rfl)) (by unfold Func.isWrapper; first | (rw [if_pos (by decide +kernel)]; kernel_rfl) | (rw [if_neg (by decide +kernel)]; exact ⟨rfl, rfl⟩))
    (fun os started H enc _ => lifted os started H enc)

theorem card : Rows.FnExactDecTextCardSaid :=
  Claim7.holds_tied_plain_at .later [] [.handle] true Rows.fnExactDecTextCard.stood.harness true
    over (fun _ h => by cases h) (by kernel_rfl) (fun _ h => by cases h) fnExactDecText_row_tie rfl ⟨rfl, rfl⟩ (by kernel_rfl) rfl
    (fun f fn hf hfn => by
      obtain rfl : f = 5 := Option.some.inj ((show Tryd.prog.funcNamed Rows.fnExactDecTextRow.func = some 5 by kernel_rfl).symm.trans hf) |>.symm
      obtain rfl : fn = Tryd.f5 := (Option.some.inj (Tryd.func5.symm.trans hfn)).symm
      exact ⟨by kernel_rfl, fun j t ht => by
        rw [Tryd.params5] at ht
        have h3 : t = 24 := by
          rcases j with _ | j
          · simp at ht; subst ht; simp
          simp at ht
        rcases h3 with rfl
        · exact (show Tryd.prog.wantsStandIn 24 = false by kernel_rfl)
      ⟩)
    (by kernel_rfl)
end fnExactDecText
theorem fnExactDecText_holds : Rows.FnExactDecTextCardSaid := fnExactDecText.card
#print axioms fnExactDecText_holds
end Go.Proofs.YthokphoojmpajahDoor
