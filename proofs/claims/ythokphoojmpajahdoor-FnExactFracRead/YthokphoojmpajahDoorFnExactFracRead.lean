/- For every string the law FnExactFracRead returns true and leaves what was there as it was; no condition beyond the row's own (the listed variable, tied by the card). -/
import Derived.Test.YthokphoojmpajahDoorCards
import Derived.Test.YthokphoojmpajahDoorTie
import Derived.Test.YthokphoojmpajahDoorFracOpen
import Derived.Test.YthokphoojmpajahDoorFracBy
import Derived.Test.YthokphoojmpajahDoorLaid
import Derived.Test.YthokphoojmpajahDoorFrRead
import Derived.ChangeVars
import Derived.ChangeSame
import Derived.LaidHandle
import Derived.SevenTiedAt
import Derived.OpenShut
import Derived.Deep.Cut
namespace Go.Proofs.YthokphoojmpajahDoor
namespace fnExactFracRead
open Go.ChangeShapes Go.WideShapes Go.ChangeAt Go.RowKit Go.Proofs.Pin
open Go.ChangeMaps (open_string shut_string)

set_option maxRecDepth 100000 in
set_option maxHeartbeats 8000000 in
theorem walk (s : ByteArray) (w : World) (hh : Hdl w) (_ws : s.size ≤ maxLen) :
    Calls Tryd.prog 4 #[.string s] w fun e w' => e = .returned (.bool true) ∧ Below w.heap.size w w' := by
  clear _ws
  by_cases lS : (1048576 : Int) < (s.size : Int)
  · go_enter Tryd.func4, Tryd.ntmps4
    go_wp2
    go_ret
    exact ⟨rfl, Below.refl _ _⟩
  have lS2 : s.size ≤ 1048576 := by omega
  have CS : Hid (∀ W, Calls Tryd.prog 11 #[.string s] W fun e w' => RetS W e w' (frdA s)) := fun W => specFRead_any s W lS2
  have CI : Hid (∀ W, Hdl W → Calls Tryd.prog 12 #[.string s] W fun e w' => RetF W e w' (frdA s)) := fun W h0 => implFRead_any s W h0 lS2
  have hlen := frdA_len s
  obtain ⟨A, hA⟩ : ∃ A, A = frdA s := ⟨_, rfl⟩
  rw [← hA] at CS CI hlen
  have lA : A.X.length ≤ 1048576 := by omega
  have lA' : A.Y.length ≤ 1048576 := by omega
  clear hA hlen
  have EQ : Hid (∀ (W : World) (bb : Bool) (r1 s1 r2 s2 : Option Addr) (k1 d1 k2 d2 : Nat) (P Q : List Int), P.length ≤ 1048576 → Q.length ≤ 1048576 → Sl W r1 P → Sl W s1 Q → Sl W r2 P → Sl W s2 Q → Calls Tryd.prog 10 #[fracV bb r1 P.length k1 s1 Q.length d1, fracV bb r2 P.length k2 s2 Q.length d2] W fun e w' => e = .returned (.bool true) ∧ Below W.heap.size W w') := fun W bb r1 s1 r2 s2 k1 d1 k2 d2 P Q lP lQ h1 h2 h3 h4 => eqFrac_any bb r1 s1 r2 s2 k1 d1 k2 d2 P Q W h1 h2 h3 h4 lP lQ
  have MK : Hid (∀ (W : World) (bb : Bool) (base base2 : Nat) (r s : Option Addr) (c d : Nat) (P Q : List Int) (k : Int), OwnI W base r c P → OwnI W base2 s d Q → (∀ i j, r.map (·.block) = some i → s.map (·.block) = some j → i ≠ j) → P.length ≤ 1048576 → Q.length ≤ 1048576 → 0 ≤ k → k ≤ 10000000 → Calls Tryd.prog 13 #[fracV bb r P.length c s Q.length d, .int .i64 k] W fun e w' => e = .returned (.int .i64 (k + P.length + Q.length)) ∧ OwnI w' base r c (marked k P.length) ∧ OwnI w' base2 s d (marked (k + P.length) Q.length) ∧ grown2 W w' (r.map (·.block)) (s.map (·.block))) := fun W bb base base2 r s c d P Q k h1 h2 h3 h4 h5 h6 h7 => markFrac_any bb base base2 r s c d P Q k W h1 h2 h3 h4 h5 h6 h7
  have HD : Hid (∀ (W : World) (bb : Bool) (r s : Option Addr) (c d n m : Nat), Sl W r (marked 1 n) → Sl W s (marked (1 + (n : Int)) m) → n ≤ 1048576 → m ≤ 1048576 → Calls Tryd.prog 14 #[fracV bb r n c s m d, .int .i64 1] W fun e w' => e = .returned (.int .i64 (1 + n + m)) ∧ Below W.heap.size W w') := fun W bb r s c d n m h1 h2 h3 h4 => heldFrac_any bb r s c d n m 1 W h1 h2 h3 h4 (by omega) (by omega)
  unfold RetS at CS
  unfold RetF at CI
  unfold fracV at CS CI EQ MK HD
  have HH : Hid (Hdl w) := hh
  clear hh
  have hne : (A.ok != A.ok) = false := by simp
  go_enter Tryd.func4, Tryd.ntmps4
  go_wp2_with fail
  refine Calls.mono (CS.out _) ?_
  rintro e w3 ⟨rw0, cw, sw, dw, rfl, oU, oW, b3⟩
  have sU3 := oU.sl
  have sV3 := oW.sl
  have B3 : Below w.heap.size w w3 := b3
  clear oU oW b3
  have bsz3 := B3.size
  obtain ⟨w4, hw4⟩ : ∃ w4, w4 = w3.alloc (.cells #[.bool A.b, .slice rw0 A.X.length cw, .slice sw A.Y.length dw] 27) := ⟨_, rfl⟩
  obtain ⟨gw, hgw⟩ : ∃ gw, gw = w3.heap.size := ⟨_, rfl⟩
  have b4 : Below w3.heap.size w3 w4 := by rw [hw4]; exact (Below.refl _ w3).alloc (Nat.le_refl _) _
  have kW4 : BoxC w4 gw 27 #[.bool A.b, .slice rw0 A.X.length cw, .slice sw A.Y.length dw] := by rw [hw4, hgw]; exact boxc_new _ _ _
  have sU4 := sU3.keep b4
  have sV4 := sV3.keep b4
  have B4 := B3.trans (b4.mono B3.size)
  clear sU3 sV3 B3 b4
  have SU : Hid (Sl w4 rw0 A.X ∧ Sl w4 sw A.Y) := ⟨sU4, sV4⟩
  obtain ⟨L7, hL7⟩ : ∃ L7, L7 = w4.heap.size := ⟨_, rfl⟩
  have n3 : gw < L7 := by rw [hL7]; exact boxc_lt kW4
  have n2 : w.heap.size ≤ gw := by rw [hgw]; exact bsz3
  have hL7' : w4.heap.size ≤ L7 := by omega
  have h7 := Hdl.keep HH.out B4 (Hdl.pos HH.out)
  go_wp2_with fail
  rw [← hw4, ← hgw]
  clear hw4 hgw
  refine Calls.mono (CI.out _ h7) ?_
  rintro e w7 ⟨rg, cg, sg', dg, rfl, oG7, oH7, apG, b7⟩
  rw [← hL7] at oG7 oH7
  have ig1 := own_block_lt oG7
  have ig2 := own_block_lt oH7
  have jg1 := own_ge oG7
  have jg2 := own_ge oH7
  have APG : Hid (∀ i j, rg.map (·.block) = some i → sg'.map (·.block) = some j → i ≠ j) := ap_blocks apG
  have z8 := b7.size
  clear h7 apG
  have sU7 := sU4.keep b7
  have sV7 := sV4.keep b7
  have kW7 := boxc_keep kW4 b7
  have B7 := B4.trans (b7.mono B4.size)
  clear sU4 sV4 kW4 B4 b7
  obtain ⟨kWc0, kWc1, kWc2, _, kWcn⟩ := boxc3 kW7
  have kWne : ¬ gw = w7.heap.size := by omega
  obtain ⟨w8, hw8⟩ : ∃ w8, w8 = w7.alloc (.cells #[.bool A.b, .slice rg A.X.length cg, .slice sg' A.Y.length dg] 27) := ⟨_, rfl⟩
  obtain ⟨bg, hbg⟩ : ∃ bg, bg = w7.heap.size := ⟨_, rfl⟩
  have b8 : Below w7.heap.size w7 w8 := by rw [hw8]; exact (Below.refl _ w7).alloc (Nat.le_refl _) _
  have kG8 : BoxC w8 bg 27 #[.bool A.b, .slice rg A.X.length cg, .slice sg' A.Y.length dg] := by rw [hw8, hbg]; exact boxc_new _ _ _
  have sU8 := sU7.keep b8
  have sV8 := sV7.keep b8
  have kW8 := boxc_keep kW7 b8
  have oG8 := oG7.keep b8
  have oH8 := oH7.keep b8
  have B8 := B7.trans (b8.mono B7.size)
  clear sU7 sV7 kW7 oG7 oH7 B7 b8
  rw [← hbg] at ig1 ig2
  have n9 : L7 ≤ bg := by omega
  go_wp2_with fail
  rw [← hw8, ← hbg]
  clear hw8 hbg
  refine Calls.mono (EQ.out _ _ _ _ _ _ _ _ _ _ _ _ lA lA' oG8.sl oH8.sl sU8 sV8) ?_
  rintro e w9 ⟨rfl, b9⟩
  clear kWc0 kWc1 kWc2
  have sU9 := sU8.keep b9
  have sV9 := sV8.keep b9
  have kW9 := boxc_keep kW8 b9
  have oG9 := oG8.keep b9
  have oH9 := oH8.keep b9
  have kG9 := boxc_keep kG8 b9
  have B9 := B8.trans (b9.mono B8.size)
  clear sU8 sV8 kW8 oG8 oH8 kG8 B8 b9
  obtain ⟨kGc0, kGc1, kGc2, _, kGcn⟩ := boxc3 kG9
  have loA : ∀ k, (rg : Option Addr).map (·.block) = some k → L7 ≤ k := jg1
  have loB : ∀ k, (sg' : Option Addr).map (·.block) = some k → L7 ≤ k := jg2
  have hiA : ∀ k, (rg : Option Addr).map (·.block) = some k → k < bg := ig1
  have hiB : ∀ k, (sg' : Option Addr).map (·.block) = some k → k < bg := ig2
  go_wp2_with fail
  refine Calls.mono (MK.out _ _ _ _ _ _ _ _ _ _ 1 oG9 oH9 APG.out lA lA' (by omega) (by omega)) ?_
  rintro e w10 ⟨rfl, mk1, mk2, gm⟩
  clear kGc0 kGc1 kGc2
  clear oG9
  clear oH9
  have sU10 : Sl w10 _ _ := sl_old SU.out.1 sU9 (by omega : w4.heap.size ≤ L7) gm loA loB
  have sV10 : Sl w10 _ _ := sl_old SU.out.2 sV9 (by omega : w4.heap.size ≤ L7) gm loA loB
  have kW10 := boxc_two kW9 gm (fun k hk => by have := loA k hk; have := hiA k hk; omega) (fun k hk => by have := loB k hk; have := hiB k hk; omega)
  have kG10 := boxc_two kG9 gm (fun k hk => by have := loA k hk; have := hiA k hk; omega) (fun k hk => by have := loB k hk; have := hiB k hk; omega)
  have B10 := below_two B9 gm (Nat.le_refl _) (fun k hk => by have := loA k hk; omega) (fun k hk => by have := loB k hk; omega)
  clear sU9 sV9 kW9 kG9 B9 gm
  clear loA loB hiA hiB
  have mP10 := mk1.sl
  have mQ10 := mk2.sl
  clear mk1 mk2
  obtain ⟨kGc0, kGc1, kGc2, _, kGcn⟩ := boxc3 kG10
  have hkA : ¬ (1 : Int) + A.X.length + A.Y.length < 0 := by omega
  have hneI : ((1 : Int) + A.X.length + A.Y.length != 1 + A.X.length + A.Y.length) = false := by simp
  go_wp2_with fail
  refine Calls.mono (HD.out _ _ _ _ _ _ _ _ mP10 mQ10 lA lA') ?_
  rintro e w11 ⟨rfl, bq⟩
  clear kGc0 kGc1 kGc2
  have sU11 := sU10.keep bq
  have sV11 := sV10.keep bq
  have kW11 := boxc_keep kW10 bq
  have kG11 := boxc_keep kG10 bq
  have mP11 := mP10.keep bq
  have mQ11 := mQ10.keep bq
  have B11 := B10.trans (bq.mono B10.size)
  clear sU10 sV10 kW10 kG10 mP10 mQ10 B10 bq
  have h9 := Hdl.keep HH.out B11 (Hdl.pos HH.out)
  go_wp2_with fail
  refine Calls.mono (CI.out _ h9) ?_
  rintro e w12 ⟨rh, ch, sh, dh, rfl, oI, oJ, _, bq⟩
  have sH12 := oI.sl
  have sI12 := oJ.sl
  clear h9 oI oJ
  have sU12 := sU11.keep bq
  have sV12 := sV11.keep bq
  have kW12 := boxc_keep kW11 bq
  have kG12 := boxc_keep kG11 bq
  have mP12 := mP11.keep bq
  have mQ12 := mQ11.keep bq
  have B12 := B11.trans (bq.mono B11.size)
  clear sU11 sV11 kW11 kG11 mP11 mQ11 B11 bq
  obtain ⟨kWc0, kWc1, kWc2, _, kWcn⟩ := boxc3 kW12
  have kWne : ¬ gw = w12.heap.size := by omega
  obtain ⟨w13, hw13⟩ : ∃ w13, w13 = w12.alloc (.cells #[.bool A.b, .slice rh A.X.length ch, .slice sh A.Y.length dh] 27) := ⟨_, rfl⟩
  obtain ⟨gh, hgh⟩ : ∃ gh, gh = w12.heap.size := ⟨_, rfl⟩
  have b13 : Below w12.heap.size w12 w13 := by rw [hw13]; exact (Below.refl _ w12).alloc (Nat.le_refl _) _
  have kH13 : BoxC w13 gh 27 #[.bool A.b, .slice rh A.X.length ch, .slice sh A.Y.length dh] := by rw [hw13, hgh]; exact boxc_new _ _ _
  have sU13 := sU12.keep b13
  have sV13 := sV12.keep b13
  have kW13 := boxc_keep kW12 b13
  have kG13 := boxc_keep kG12 b13
  have mP13 := mP12.keep b13
  have mQ13 := mQ12.keep b13
  have sH13 := sH12.keep b13
  have sI13 := sI12.keep b13
  have B13 := B12.trans (b13.mono B12.size)
  clear sU12 sV12 kW12 kG12 mP12 mQ12 sH12 sI12 B12 b13
  go_wp2_with fail
  rw [← hw13, ← hgh]
  clear hw13 hgh
  refine Calls.mono (EQ.out _ _ _ _ _ _ _ _ _ _ _ _ lA lA' sH13 sI13 sU13 sV13) ?_
  rintro e w14 ⟨rfl, bq⟩
  clear kWc0 kWc1 kWc2
  have sU14 := sU13.keep bq
  have sV14 := sV13.keep bq
  have kW14 := boxc_keep kW13 bq
  have kG14 := boxc_keep kG13 bq
  have mP14 := mP13.keep bq
  have mQ14 := mQ13.keep bq
  have sH14 := sH13.keep bq
  have sI14 := sI13.keep bq
  have kH14 := boxc_keep kH13 bq
  have B14 := B13.trans (bq.mono B13.size)
  clear sU13 sV13 kW13 kG13 mP13 mQ13 sH13 sI13 kH13 B13 bq
  obtain ⟨kGc0, kGc1, kGc2, _, kGcn⟩ := boxc3 kG14
  go_wp2_with fail
  refine Calls.mono (HD.out _ _ _ _ _ _ _ _ mP14 mQ14 lA lA') ?_
  rintro e w15 ⟨rfl, bq⟩
  have BB := B14.trans (bq.mono B14.size)
  go_wp2
  go_ret
  exact ⟨rfl, BB⟩

set_option maxRecDepth 100000 in
theorem lifted (os : Os) (started : os.Started) (H : Type) (enc : TypeId × Value → H) :
    ReturnsInHanded {} Tryd.checked os 4 .any (fun w args => (Rows.fnExactFracReadSpec.pre enc Tryd.prog Tryd.f4 [] false w args ∧ laidMetH Tryd.prog laidL w) ∧ sizedMet enc Tryd.prog Tryd.f4 (OpenSpec.ofChange Rows.fnExactFracReadSpec) false w args)
      (Rows.fnExactFracReadSpec.post enc Tryd.prog Tryd.f4 false true false false) := by
  refine returnsInHanded_of_change_and (C := Tryd.checked) (X := fun w _ => laidMetH Tryd.prog laidL w) (fun _ _ _ hh h => h.of_heap hh) ownK started (by kernel_rfl) Tryd.func4
    (ChangeSpec.witness_at (enc := enc) (C := Tryd.checked) (os := os) (X := fun w _ => laidMetH Tryd.prog laidL w) false { World.holding Tryd.prog os ⟨#[], #[], []⟩ with heap := (World.holding Tryd.prog os ⟨#[], #[], []⟩).heap.modify 0 fun | .cells _ t frozen => .cells #[.iface 106 (.agg #[.pointer (some ⟨2, 48, none⟩)])] t frozen | o => o } #[.string ⟨#[]⟩] 8 rfl (by kernel_rfl) (by kernel_rfl) (by kernel_rfl) (by kernel_rfl) (by kernel_rfl) (laidMetH_of_parts (laidMet_nil _ _) (by kernel_rfl))) ?_
  intro W base args ds gs before hval0 hW _ _ hL _
  have hval : ∀ (j : Nat) t v, Tryd.f4.params[j]? = some t → args[j]? = some v → Value.okWide Tryd.prog W .any base t v := hval0
  have hW' := hW
  obtain ⟨p, q, hA0, hV0, rfl, hfz, hnd⟩ := hW
  have hA : DataW.TrodAll enc Tryd.prog W 0 (fun _ => true) true Tryd.f4.params.toList args.toList ds p := hA0
  have hV : DataW.TrodVars enc Tryd.prog W (fun _ => true) [] gs q := hV0
  rw [Tryd.params4] at hA hval
  obtain ⟨v0, vs0, d0, ds0, p0, q0, hargs, rfl, rfl, h0, r0⟩ := trodAll_cons hA
  obtain ⟨rfl, rfl, rfl⟩ := trodAll_nil r0
  obtain rfl : args = #[v0] := by cases args; simp_all
  obtain ⟨rfl, rfl⟩ := trodVars_none hV
  obtain ⟨s0, rfl, rfl, rfl, hws0⟩ := open_string Tryd.underlying9 (hval 0 9 v0 rfl rfl) h0
  clear hA0 hval0 hval hA hV hV0
  have hh := hdl_of_laid hL
  have hw := walk s0 W hh  hws0
  refine hw.mono fun e W' ⟨he, bel⟩ => ?_
  subst he
  exact ⟨_, rfl, _, _, _, [], _, [], hW', trodAll_mk1 (shut_bool Tryd.underlying4 _), (trodAll_cons_mk (shut_string Tryd.underlying9 hws0) trodAll_mk0), rfl, bel.frame _, fun h => by cases h⟩

theorem over : Rows.fnExactFracReadRow.holds Tryd.pinned (OpenSpec.ofChange Rows.fnExactFracReadSpec) :=
  OpenClaim.holds_of_wide 4 Tryd.f4 rfl rfl rfl rfl rfl rfl rfl ⟨rfl, rfl, rfl, rfl, rfl⟩ rfl rfl rfl rfl rfl (by kernel_rfl) Tryd.func4 (by kernel_rfl)
    (of_decide_eq_true (by kernel_rfl)) (by unfold Func.isWrapper; first | (rw [if_pos (by decide +kernel)]; kernel_rfl) | (rw [if_neg (by decide +kernel)]; exact ⟨rfl, rfl⟩))
    (fun os started H enc _ => lifted os started H enc)

theorem card : Rows.FnExactFracReadCardSaid :=
  Claim7.holds_tied_plain_at .later [] [.handle] true Rows.fnExactFracReadCard.stood.harness true
    over (fun _ h => by cases h) (by kernel_rfl) (fun _ h => by cases h) fnExactFracRead_row_tie rfl ⟨rfl, rfl⟩ (by kernel_rfl) rfl
    (fun f fn hf hfn => by
      obtain rfl : f = 4 := Option.some.inj ((show Tryd.prog.funcNamed Rows.fnExactFracReadRow.func = some 4 by kernel_rfl).symm.trans hf) |>.symm
      obtain rfl : fn = Tryd.f4 := (Option.some.inj (Tryd.func4.symm.trans hfn)).symm
      exact ⟨by kernel_rfl, fun j t ht => by
        rw [Tryd.params4] at ht
        have h3 : t = 9 := by
          rcases j with _ | j
          · simp at ht; subst ht; simp
          simp at ht
        rcases h3 with rfl
        · exact (show Tryd.prog.wantsStandIn 9 = false by kernel_rfl)
      ⟩)
    (by kernel_rfl)
end fnExactFracRead
theorem fnExactFracRead_holds : Rows.FnExactFracReadCardSaid := fnExactFracRead.card
#print axioms fnExactFracRead_holds
end Go.Proofs.YthokphoojmpajahDoor
