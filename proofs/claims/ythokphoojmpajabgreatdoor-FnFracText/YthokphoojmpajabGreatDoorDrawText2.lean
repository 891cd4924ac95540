/- The contracts of DrawFracText and DrawFracRead. -/
import Derived.Test.YthokphoojmpajabGreatDoorGDf
import Derived.Test.YthokphoojmpajabGreatDoorFrText
namespace Go.Proofs.YthokphoojmpajabGreatDoor
open Go.RowKit Go.Proofs.Pin

set_option maxRecDepth 20000 in
set_option maxHeartbeats 1000000 in
theorem drawFracText_any (a : Option Addr) (len cap : Nat) (bs : List Int) (w : World) (h : SlU w a bs) (hb : ByteL bs) (hl : bs.length = len) (hl2 : len ≤ 1048576) (hcap : len ≤ cap) :
    Calls Tryz.prog 18 #[.slice a len cap] w fun e w' => ∃ f r cr X s cs Y, e = .returned (fracV f r X.length cr s Y.length cs) ∧ OwnI w' w.heap.size r cr X ∧ OwnI w' w.heap.size s cs Y ∧ X.length ≤ 300 ∧ Y.length ≤ 300 ∧ Below w.heap.size w w' := by
  obtain ⟨w0, hw0⟩ : ∃ w0, w0 = w.alloc (.cells #[.bool false, .slice none 0 0, .slice none 0 0] 25) := ⟨_, rfl⟩
  have b0 : Below w.heap.size w w0 := by rw [hw0]; exact (Below.refl _ w).alloc (Nat.le_refl _) _
  have k0 : BoxC w0 w.heap.size 25 #[.bool false, .slice none 0 0, .slice none 0 0] := by rw [hw0]; exact boxc_new _ _ _
  have n0 := boxc_lt k0
  have h' : SlU w0 a bs := by
    rcases h with h | ⟨b, off, rfl, hlt, hc⟩
    · exact .inl h
    · exact .inr ⟨b, off, rfl, Nat.lt_of_lt_of_le hlt b0.size, fun i hi => (b0.cell (p := ⟨b, off + i, none⟩) hlt).trans (hc i hi)⟩
  have C0 : Hid _ := open_any a len cap bs w0 h' hb hl hl2 hcap
  have CG : Hid (∀ (W : World) (g lb : Nat) (bs' : List Int), Rd W g a lb cap bs' 0 → Calls Tryz.prog 24 #[.pointer (some ⟨g, 0, none⟩)] W fun e w' => FracRet W g a lb cap bs' 0 e w') := fun W g lb bs' hr => frac_any g a lb cap bs' 0 W hr (by omega)
  unfold FracRet at CG
  unfold fracV at CG ⊢
  clear h h' hb hl
  go_enter Tryz.func18, Tryz.ntmps18
  go_wp2_with fail
  rw [← hw0]
  clear hw0
  refine Calls.mono C0.out ?_
  rintro e w1 ⟨g, lb, bs', rfl, hg, R1, b1⟩
  have B1 := b0.trans (b1.mono b0.size)
  have k1 := boxc_keep k0 b1
  clear C0 b1 b0 k0
  go_wp2_with fail
  refine Calls.mono (CG.out _ _ _ _ R1) ?_
  rintro e w2 ⟨f, r, cr, X, s, cs, Y, p', rfl, o1, o2, lX, lY, _, _, g2⟩
  have B2 : Below w.heap.size w w2 := B1.grown g2 B1.size (fun k hk => by have := Option.some.inj hk; omega)
  have k2 := boxc_kept k1 g2 (by intro e; have := Option.some.inj e; omega)
  have n1 := boxc_lt k1
  obtain ⟨d0, d1, d2, df, dn⟩ := boxc3 k2
  have q1 : Hid _ := (own_far o1 (gr_set3 w2 w.heap.size (.bool f) (.slice r X.length cr) (.slice s Y.length cs)) n1).mono (base' := w.heap.size) (by omega)
  have q2 : Hid _ := (own_far o2 (gr_set3 w2 w.heap.size (.bool f) (.slice r X.length cr) (.slice s Y.length cs)) n1).mono (base' := w.heap.size) (by omega)
  have q3 : Hid (Below w.heap.size w _) := below_set3 B2 (Nat.le_refl w.heap.size) (.bool f) (.slice r X.length cr) (.slice s Y.length cs)
  clear CG R1 o1 o2 g2 B2 B1 k1 k2
  go_wp2
  refine ⟨rfl, .agg #[.bool f, .slice r X.length cr, .slice s Y.length cs], ?_, f, r, cr, X, s, cs, Y, rfl, q1.out, q2.out, lX, lY, q3.out⟩
  simp [results, Tryz.f18, go_sem, d0, d1, d2]

theorem ftxt_size (b o : Bool) (t u : ByteArray) : (ftxt b o t u).size ≤ t.size + u.size + 2 := by
  have e1 : (⟨#[45]⟩ : ByteArray).size = 1 := rfl
  have e2 : (⟨#[47]⟩ : ByteArray).size = 1 := rfl
  cases b <;> cases o
  · show (t ++ (⟨#[47]⟩ ++ u)).size ≤ _
    rw [ByteArray.size_append, ByteArray.size_append]
    omega
  · show t.size ≤ _
    omega
  · show ((⟨#[45]⟩ ++ t) ++ (⟨#[47]⟩ ++ u)).size ≤ _
    rw [ByteArray.size_append, ByteArray.size_append, ByteArray.size_append]
    omega
  · show (⟨#[45]⟩ ++ t).size ≤ _
    rw [ByteArray.size_append]
    omega
theorem ftA_size (b : Bool) (X Y : List Int) : (ftA b X Y).size ≤ 2562 := by
  cases h : fokB b X Y with
  | false => rw [ftA_no h]; show 0 ≤ 2562; decide
  | true =>
    obtain ⟨x, y, rfl, rfl, lx, ly, _⟩ := fok_parts h
    rw [ftA_yes h]
    have h1 := txt_len lx
    have h2 := txt_len ly
    have h3 := ftxt_size b (decide (dgs y = [1])) (txt x) (txt y)
    omega

set_option maxRecDepth 20000 in
set_option maxHeartbeats 2000000 in
theorem drawFracRead_any (a : Option Addr) (len cap : Nat) (bs : List Int) (w : World) (h : SlU w a bs) (hb : ByteL bs) (hl : bs.length = len) (hl2 : len ≤ 1048576) (hcap : len ≤ cap) :
    Calls Tryz.prog 21 #[.slice a len cap] w fun e w' => ∃ t : ByteArray, e = .returned (.string t) ∧ t.size ≤ 3000 ∧ Below w.heap.size w w' := by
  have C0 : Hid _ := open_any a len cap bs w h hb hl hl2 hcap
  have CG : Hid (∀ (W : World) (g lb : Nat) (bs' : List Int), Rd W g a lb cap bs' 0 → Calls Tryz.prog 46 #[.pointer (some ⟨g, 0, none⟩)] W fun e w' => ∃ f r cr X s cs Y p', e = .returned (fracV f r X.length cr s Y.length cs) ∧ OwnI w' W.heap.size r cr X ∧ OwnI w' W.heap.size s cs Y ∧ fokB f X Y = true ∧ X.length ≤ 256 ∧ Y.length ≤ 256 ∧ Rd w' g a lb cap bs' p' ∧ p' ≤ 0 + 2000 ∧ W.grownBy w' (some g)) := fun W g lb bs' hr => good_any g a lb cap bs' 0 W hr (by omega)
  have CT : Hid (∀ (W : World) (f : Bool) (r s : Option Addr) (cr cs : Nat) (X Y : List Int), Sl W r X → Sl W s Y → X.length ≤ 256 → Y.length ≤ 256 → Calls Tryz.prog 45 #[fracV f r X.length cr s Y.length cs] W fun e w' => ∃ T : ByteArray, e = .returned (.string T) ∧ T.size ≤ 2562 ∧ Below W.heap.size W w') := fun W f r s cr cs X Y h1 h2 h3 h4 => (specFText_any f r s cr cs X Y W h1 h2 (by omega) (by omega)).mono fun e w' ⟨h5, h6⟩ => ⟨_, h5, ftA_size f X Y, h6⟩
  have CP : Hid (∀ (wr : World) (g lb : Nat) (bs' : List Int) (p' : Nat) (n : Int), Rd wr g a lb cap bs' p' → p' ≤ 1000000 → 1 ≤ n → n ≤ 65536 → Calls Tryz.prog 25 #[.pointer (some ⟨g, 0, none⟩), .int .i64 n] wr fun e w' => ∃ v : Nat, e = .returned (.int .i64 (v : Int)) ∧ (v : Int) < n ∧ Rd w' g a lb cap bs' (p' + 1) ∧ wr.grownBy w' (some g)) := fun wr g lb bs' p' n hr hp hn1 hn2 => (pick_any g a lb cap bs' p' n wr hr hp hn1 hn2).mono fun e w' ⟨v, h1, h2, h3, h4, h5⟩ => ⟨v.toNat, by rw [h1]; congr 2; omega, by omega, h4, h5⟩
  unfold fracV at CG CT
  clear h hb hl
  go_enter Tryz.func21, Tryz.ntmps21
  go_wp2_with fail
  refine Calls.mono C0.out ?_
  rintro e w1 ⟨g, lb, bs', rfl, hg, R1, B1⟩
  clear C0
  go_wp2_with fail
  refine Calls.mono (CG.out _ _ _ _ R1) ?_
  rintro e w2 ⟨f, r, cr, X, s, cs, Y, p2, rfl, o1, o2, _, lX, lY, R2, hp2, g2⟩
  have B2 : Below w.heap.size w w2 := B1.grown g2 B1.size (fun k hk => by have := Option.some.inj hk; omega)
  clear CG R1 g2 B1
  go_wp2_with fail
  refine Calls.mono (CT.out _ _ _ _ _ _ _ _ o1.sl o2.sl lX lY) ?_
  rintro e w3 ⟨T, rfl, hT, b3⟩
  have B3 := B2.trans (b3.mono B2.size)
  have R3 := rd_keep R2 b3
  clear CT R2 b3 B2 o1 o2
  go_wp2_with fail
  refine Calls.mono (CP.out _ _ _ _ _ 14 R3 (by omega) (by omega) (by omega)) ?_
  rintro e w4 ⟨v, rfl, hv, R4, g4⟩
  have B4 : Below w.heap.size w w4 := B3.grown g4 B3.size (fun k hk => by have := Option.some.inj hk; omega)
  clear R3 g4 B3
  have hcase : v = 0 ∨ v = 1 ∨ v = 2 ∨ v = 3 ∨ v = 4 ∨ 5 ≤ v := by omega
  rcases hcase with rfl | rfl | rfl | rfl | rfl | hge
  · go_wp2
    go_ret
    exact ⟨_, rfl, by rw [ByteArray.size_append]; show _ + 2 ≤ 3000; omega, B4⟩
  · go_wp2
    go_ret
    exact ⟨_, rfl, by rw [ByteArray.size_append]; show _ + 2 ≤ 3000; omega, B4⟩
  · go_wp2
    go_ret
    exact ⟨_, rfl, by rw [ByteArray.size_append]; show 1 + _ ≤ 3000; omega, B4⟩
  · go_wp2
    go_ret
    exact ⟨_, rfl, by show 2 ≤ 3000; decide, B4⟩
  · have hg4 := R4.lt.1
    obtain ⟨w5, hw5⟩ : ∃ w5, w5 = w4.alloc (.cells #[.string ⟨#[]⟩, .string ⟨#[45]⟩, .string ⟨#[47]⟩, .string ⟨#[49, 47]⟩, .string ⟨#[47, 51]⟩, .string ⟨#[50, 47, 52]⟩, .string ⟨#[49, 47, 48]⟩, .string ⟨#[48, 47, 53]⟩, .string ⟨#[43, 49]⟩, .string ⟨#[32, 49]⟩, .string ⟨#[49, 47, 45, 50]⟩, .string ⟨#[48, 51]⟩, .string ⟨#[49, 47, 50, 47, 51]⟩] 9) := ⟨_, rfl⟩
    obtain ⟨g5, hg5⟩ : ∃ g5, g5 = w4.heap.size := ⟨_, rfl⟩
    have b5 : Below w4.heap.size w4 w5 := by rw [hw5]; exact (Below.refl _ w4).alloc (Nat.le_refl _) _
    have k5 : BoxC w5 g5 9 #[.string ⟨#[]⟩, .string ⟨#[45]⟩, .string ⟨#[47]⟩, .string ⟨#[49, 47]⟩, .string ⟨#[47, 51]⟩, .string ⟨#[50, 47, 52]⟩, .string ⟨#[49, 47, 48]⟩, .string ⟨#[48, 47, 53]⟩, .string ⟨#[43, 49]⟩, .string ⟨#[32, 49]⟩, .string ⟨#[49, 47, 45, 50]⟩, .string ⟨#[48, 51]⟩, .string ⟨#[49, 47, 50, 47, 51]⟩] := by rw [hw5, hg5]; exact boxc_new _ _ _
    have B5 := B4.trans (b5.mono B4.size)
    have R5 := rd_keep R4 b5
    rw [← hg5] at hg4
    clear R4 B4 b5
    go_wp2_with fail
    rw [← hw5, ← hg5]
    clear hw5 hg5
    refine Calls.mono (CP.out _ _ _ _ _ 13 R5 (by omega) (by omega) (by omega)) ?_
    rintro e w6 ⟨v6, rfl, hv6, R6, g6⟩
    have B6 : Below w.heap.size w w6 := B5.grown g6 B5.size (fun k hk => by have := Option.some.inj hk; omega)
    have k6 := boxc_kept k5 g6 (by intro e; have := Option.some.inj e; omega)
    have hc : ∃ T6 : ByteArray, w6.cell? ⟨g5, v6, none⟩ = some (.string T6) ∧ T6.size ≤ 5 := by
      rw [boxc_cell k6 v6]
      have hcs : v6 = 0 ∨ v6 = 1 ∨ v6 = 2 ∨ v6 = 3 ∨ v6 = 4 ∨ v6 = 5 ∨ v6 = 6 ∨ v6 = 7 ∨ v6 = 8 ∨ v6 = 9 ∨ v6 = 10 ∨ v6 = 11 ∨ v6 = 12 := by omega
      rcases hcs with rfl | rfl | rfl | rfl | rfl | rfl | rfl | rfl | rfl | rfl | rfl | rfl | rfl <;> exact ⟨_, rfl, by decide⟩
    obtain ⟨T6, hc6, hT6⟩ := hc
    clear k5 k6 R5 R6 g6 B5 CP
    go_wp2
    go_ret
    exact ⟨_, rfl, by omega, B6⟩
  · have e0 : ((v : Int) == 0) = false := by rw [beq_eq_false_iff_ne]; omega
    have e1 : ((v : Int) == 1) = false := by rw [beq_eq_false_iff_ne]; omega
    have e2 : ((v : Int) == 2) = false := by rw [beq_eq_false_iff_ne]; omega
    have e3 : ((v : Int) == 3) = false := by rw [beq_eq_false_iff_ne]; omega
    have e4 : ((v : Int) == 4) = false := by rw [beq_eq_false_iff_ne]; omega
    go_wp2
    go_ret
    exact ⟨_, rfl, by omega, B4⟩
end Go.Proofs.YthokphoojmpajabGreatDoor
