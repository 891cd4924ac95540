/- The contract of spec.DecText. -/
import Derived.Test.YthokphoojmpajahDoorDecLaw
import Derived.Test.YthokphoojmpajahDoorGDT
import Derived.Test.YthokphoojmpajahDoorDivAll
import Derived.Test.YthokphoojmpajahDoorMul
import Derived.Deep.RegionHeld3
import Derived.Shelf.RegionOpen
import Derived.Shelf.RegionOpenPlain
import Derived.Deep.Cut
namespace Go.Proofs.YthokphoojmpajahDoor
open Go.RowKit Go.Shelf Go.Proofs.Pin

theorem bz_ext {s t : ByteArray} (h : s.data.toList = t.data.toList) : s = t := by
  cases s; cases t
  simp at h
  simp [h]
theorem cellD_big {B i : Nat} {V W : World} {v : Option Value} (hb : Below V.heap.size V W) (hB : B < V.heap.size) (h : V.drew.cell? ⟨B, i, none⟩ = v) : W.cell? ⟨B, i, none⟩ = v := (hb.cell (p := ⟨B, i, none⟩) hB).trans h

set_option maxRecDepth 20000 in
set_option maxHeartbeats 8000000 in
theorem specDec_any (b : Bool) (r s : Option Addr) (cr cs : Nat) (X Y : List Int) (w : World) (hX : Sl w r X) (hY : Sl w s Y) (lX : X.length ≤ 1048576) (lY : Y.length ≤ 1048576) :
    Calls Tryd.prog 15 #[fracV b r X.length cr s Y.length cs] w fun e w' => e = .returned (.tuple #[.string (dcT b X Y), .bool (dcB b X Y)]) ∧ Below w.heap.size w w' := by
  obtain ⟨w0, hw0⟩ : ∃ w0, w0 = w.alloc (.cells #[.bool b, .slice r X.length cr, .slice s Y.length cs] 27) := ⟨_, rfl⟩
  have B0 : Below w.heap.size w w0 := by rw [hw0]; exact (Below.refl _ w).alloc (Nat.le_refl _) _
  have k0 : BoxC w0 w.heap.size 27 #[.bool b, .slice r X.length cr, .slice s Y.length cs] := by rw [hw0]; exact boxc_new _ _ _
  have C1 : Hid _ := specFok_any b r s cr cs X Y w0 (hX.keep B0) (hY.keep B0) lX lY
  have hcase : (fokB b X Y = false ∧ dcB b X Y = false ∧ dcT b X Y = ⟨#[]⟩) ∨ (fokB b X Y = true ∧ b = true ∧ dcB b X Y = false ∧ dcT b X Y = ⟨#[]⟩) ∨ (fokB b X Y = true ∧ b = false) := by
    rcases dc_cases b X Y with h | h | ⟨h, h1, _⟩
    · exact .inl h
    · exact .inr (.inl h)
    · exact .inr (.inr ⟨h, h1⟩)
  rcases hcase with ⟨h, eB, eT⟩ | ⟨h, rfl, eB, eT⟩ | ⟨h, rfl⟩
  · rw [eB, eT]
    rw [h] at C1
    unfold fracV at C1 ⊢
    clear h lX lY hX hY eB eT
    go_enter Tryd.func15, Tryd.ntmps15
    go_wp2_with fail
    rw [← hw0]
    refine Calls.mono C1.out ?_
    rintro e w1 ⟨rfl, b1⟩
    have HB : Hid (Below w.heap.size w w1) := B0.trans (b1.mono B0.size)
    clear hw0 b1 B0 k0 C1
    go_wp2
    go_ret2
    exact ⟨rfl, HB.out⟩
  · rw [eB, eT]
    rw [h] at C1
    unfold fracV at C1 ⊢
    clear h lX lY hX hY eB eT
    go_enter Tryd.func15, Tryd.ntmps15
    go_wp2_with fail
    rw [← hw0]
    refine Calls.mono C1.out ?_
    rintro e w1 ⟨rfl, b1⟩
    obtain ⟨c0, c1, c2, _, _⟩ := boxc3 (boxc_keep k0 b1)
    have HB : Hid (Below w.heap.size w w1) := B0.trans (b1.mono B0.size)
    clear hw0 b1 B0 k0 C1
    go_wp2
    go_ret2
    exact ⟨rfl, HB.out⟩
  · obtain ⟨x, y, rfl, rfl, lx, ly, hy0, _⟩ := fok_parts h
    rw [h] at C1
    have TN : Hid (∀ (W : World) (k : Nat), k < 60 → Calls Tryd.prog 33 #[.int .i64 (k : Int)] W fun e w' => ∃ a c, e = .returned (.slice a (dgs (10 ^ k)).length c) ∧ OwnI w' W.heap.size a c (dgs (10 ^ k)) ∧ Below W.heap.size W w') := fun W k hk => tens_any k W (by omega)
    have ML : Hid (∀ (W : World) (k : Nat) (a : Option Addr) (c : Nat), k < 60 → Sl W r (dgs x) → Sl W a (dgs (10 ^ k)) → Calls Tryd.prog 32 #[.slice r (dgs x).length cr, .slice a (dgs (10 ^ k)).length c] W fun e w' => ∃ a' c', e = .returned (.slice a' (dgs (x * 10 ^ k)).length c') ∧ OwnI w' W.heap.size a' c' (dgs (x * 10 ^ k)) ∧ Below W.heap.size W w') := fun W k a c hk h1 h2 => l1Mul_any r a cr c x (10 ^ k) W h1 h2 (by omega) (by have := tens_len k; omega)
    have DV : Hid (∀ (W : World) (k : Nat) (a : Option Addr) (c : Nat), k < 60 → Sl W a (dgs (x * 10 ^ k)) → Sl W s (dgs y) → Calls Tryd.prog 31 #[.slice a (dgs (x * 10 ^ k)).length c, .slice s (dgs y).length cs] W fun e w' => ∃ r1 c1 s1 d1, e = .returned (.tuple #[.slice r1 (dgs (x * 10 ^ k / y)).length c1, .slice s1 (dgs (x * 10 ^ k % y)).length d1]) ∧ OwnI w' W.heap.size r1 c1 (dgs (x * 10 ^ k / y)) ∧ Below W.heap.size W w') := fun W k a c hk h1 h2 => (l1Div_any a s c cs _ y W h1 h2 (by have := ten_len x k lx; omega) (by omega) hy0).mono fun e w' ⟨r1, c1, s1, d1, h1, h2, _, h4⟩ => ⟨r1, c1, s1, d1, h1, h2, h4⟩
    have AT : Hid (∀ k, k < 60 → x * 10 ^ k % y = 0 → (∀ j, j < k → x * 10 ^ j % y ≠ 0) → _ ∧ _) := fun k hk h0 hj => dc_at h hk h0 hj
    have NO : Hid ((∀ j, j < 59 → x * 10 ^ j % y ≠ 0) → _ ∧ _) := fun hj => dc_no h hj
    obtain ⟨rT, hrT⟩ : ∃ rT, rT = dcT false (dgs x) (dgs y) := ⟨_, rfl⟩
    obtain ⟨rB, hrB⟩ : ∃ rB, rB = dcB false (dgs x) (dgs y) := ⟨_, rfl⟩
    rw [← hrT, ← hrB] at AT NO ⊢
    have HX : Hid (Sl w r (dgs x)) := hX
    have HY : Hid (Sl w s (dgs y)) := hY
    obtain ⟨Xs, hXe⟩ : ∃ Xs, Xs = dgs x := ⟨_, rfl⟩
    obtain ⟨Ys, hYe⟩ : ∃ Ys, Ys = dgs y := ⟨_, rfl⟩
    rw [← hXe] at HX ML
    rw [← hYe] at HY DV
    rw [← hXe, ← hYe] at C1 hw0 k0 ⊢
    unfold fracV at C1 ⊢
    clear h lX lY hX hY hXe hYe hrT hrB hy0 ly
    go_enter Tryd.func15, Tryd.ntmps15
    go_wp2_with fail
    rw [← hw0]
    refine Calls.mono C1.out ?_
    rintro e w1 ⟨rfl, b1⟩
    have k1 := boxc_keep k0 b1
    obtain ⟨c0, c1, c2, cf, cn⟩ := boxc3 k1
    have B1 := B0.trans (b1.mono B0.size)
    clear hw0 b1 B0 k0 C1
    go_wp2
    clear c0 c1 c2 cf cn
    go_loopw [4] (fun i wr => ∃ (k : Nat), i = .int .i64 (k : Int) ∧ k ≤ 60 ∧ (∀ j, j < k → x * 10 ^ j % y ≠ 0) ∧ Below w1.heap.size w1 wr) (fun i _ => 60 - (intOf i).toNat)
    case atStart => exact ⟨0, rfl, by omega, fun j hj => by omega, Below.refl _ _⟩
    case round =>
      obtain ⟨k, rfl, hk, hj, hb⟩ := hrel
      have kr := boxc_keep k1 hb
      have Br := B1.trans (hb.mono B1.size)
      have HBr : Hid (Below w.heap.size w wr) := Br
      by_cases hlt : k < 60
      · have hltI : (k : Int) < 60 := by omega
        obtain ⟨c0, c1, c2, cf, cn⟩ := boxc3 kr
        have c1d : wr.drew.cell? ⟨w.heap.size, 1, none⟩ = some (.slice r Xs.length cr) := c1
        have c2d : wr.drew.cell? ⟨w.heap.size, 2, none⟩ = some (.slice s Ys.length cs) := c2
        have TN1 : Hid _ := fun W => TN.out W k hlt
        have ML1 : Hid _ := fun W a c => ML.out W k a c hlt
        have DV1 : Hid _ := fun W a c => DV.out W k a c hlt
        have HJ : Hid (∀ j, j < k → x * 10 ^ j % y ≠ 0) := hj
        have HM : Hid ((0 : Int) < ((dgs (x * 10 ^ k % y)).length : Int) ↔ x * 10 ^ k % y ≠ 0) := by
          have := dgs_pos_len (x * 10 ^ k % y)
          show _ ↔ _
          omega
        have LQ : (dgs (x * 10 ^ k / y)).length ≤ 320 := by have h1 := ten_len x k lx; have h2 := dgs_len_le (Nat.div_le_self (x * 10 ^ k) y); omega
        have TX : Hid (∀ (W : World) (a : Option Addr) (c : Nat), (dgs (x * 10 ^ k / y)).length ≤ 256 → Sl W a (dgs (x * 10 ^ k / y)) → Calls Tryd.prog 19 #[.slice a (dgs (x * 10 ^ k / y)).length c] W fun e w' => e = .returned (.string (txt (x * 10 ^ k / y))) ∧ Below W.heap.size W w') := fun W a c h1 h2 => by
          have h3 := specText_any a c _ W h2 (by omega)
          rw [textA_yes h1] at h3
          exact h3
        have HT : Hid ((txt (x * 10 ^ k / y)).size ≤ 1600 ∧ (256 < (dgs (x * 10 ^ k / y)).length → 60 < (txt (x * 10 ^ k / y)).size) ∧ 0 < (txt (x * 10 ^ k / y)).size) := ⟨txt_size_le (K := 320) LQ (by decide), big_txt, txt_some _⟩
        have FO : Hid (∀ W, Calls Tryd.prog 34 #[.string (pointT (txt (x * 10 ^ k / y)) k)] W fun e w' => e = .returned (.bool (decide ((pointT (txt (x * 10 ^ k / y)) k).size ≤ 60))) ∧ W = w') := fun W => by
          obtain ⟨m, hm⟩ := form_point (x * 10 ^ k / y) k
          refine decOk_any _ m W ?_ hm
          rw [point_size]
          have h1 := HT.out.1
          have h2 := (pad_size (txt (x * 10 ^ k / y)) k).2
          split <;> omega
        have AT1 : Hid _ := fun h0 => AT.out k hlt h0 HJ.out
        obtain ⟨Q, hQ⟩ : ∃ Q, Q = dgs (x * 10 ^ k / y) := ⟨_, rfl⟩
        obtain ⟨M, hM⟩ : ∃ M, M = dgs (x * 10 ^ k % y) := ⟨_, rfl⟩
        obtain ⟨Z, hZ⟩ : ∃ Z, Z = dgs (x * 10 ^ k) := ⟨_, rfl⟩
        obtain ⟨E, hE⟩ : ∃ E, E = dgs (10 ^ k) := ⟨_, rfl⟩
        obtain ⟨T, hT⟩ : ∃ T, T = txt (x * 10 ^ k / y) := ⟨_, rfl⟩
        rw [← hE] at TN1 ML1
        rw [← hZ] at ML1 DV1
        rw [← hQ, ← hM] at DV1
        rw [← hQ, ← hT] at TX HT
        rw [← hQ] at LQ
        rw [← hM] at HM
        rw [← hT] at FO AT1
        clear hQ hM hZ hE hT hj TN ML DV AT c0 c1 c2 cf
        go_wp2_with fail
        go_cut [5, 6] from 19 to 30 (fun v u wx => ∃ r1 c1 s1 d1, v = .slice r1 Q.length c1 ∧ u = .slice s1 M.length d1 ∧ Sl wx r1 Q ∧ Below wr.heap.size wr wx)
        case first =>
          go_region_held3 (fun w' => w'.cell? ⟨w.heap.size, 1, none⟩ = some (.slice r Xs.length cr) ∧ w'.cell? ⟨w.heap.size, 2, none⟩ = some (.slice s Ys.length cs))
            (first
              | (with_reducible exact ⟨c1d, c2d⟩)
              | (go_split_ands; refine ⟨?_, ?_⟩ <;> first
                | (with_reducible exact cellD_big bD (by omega) (by assumption))
                | (with_reducible exact cellD_big bM (by omega) (by assumption))
                | (with_reducible exact cellD_big bT (by omega) (by assumption))))
            (first
              | (go_at_call 33; refine Calls.mono (TN1.out wr.drew) ?_; rintro e wt ⟨a1, e1, rfl, o1, bt⟩; have bT : Below wr.heap.size wr wt := below_un2 bt)
              | (go_at_call 32; refine Calls.mono (ML1.out _ _ _ (by exact Sl.keep HX.out (HBr.out.trans (bT.mono (by exact HBr.out.size)))) (by exact o1.sl)) ?_; rintro e wm ⟨a2, e2, rfl, o2, bm⟩; have bM : Below wr.heap.size wr wm := bT.trans (bm.mono bT.size))
              | (go_at_call 31; refine Calls.mono (DV1.out _ _ _ (by exact o2.sl) (by exact Sl.keep HY.out (HBr.out.trans (bM.mono (by exact HBr.out.size))))) ?_; rintro e wd ⟨r1, c1, s1, d1, rfl, o3, bd⟩; have bD : Below wr.heap.size wr wd := bM.trans (bd.mono bM.size)))
          all_goals
            go_wp2_with fail
            go_meet
            exact ⟨_, _, _, _, rfl, rfl, o3.sl, bD⟩
        case rest =>
          obtain ⟨r1, c1, s1, d1, rfl, rfl, sq, bq⟩ := hcut
          clear c1d c2d TN1 ML1 DV1
          have hbq : Below w1.heap.size w1 wc := hb.trans (bq.mono hb.size)
          have HBq : Hid (Below w.heap.size w wc) := HBr.out.trans (bq.mono HBr.out.size)
          by_cases hz : x * 10 ^ k % y = 0
          · have hz0 : ¬ (0 : Int) < (M.length : Int) := fun h => HM.out.1 h hz
            obtain ⟨aY, aN⟩ := AT1.out hz
            by_cases hbig : 256 < Q.length
            · have hbigI : (256 : Int) < (Q.length : Int) := by omega
              obtain ⟨rfl, rfl⟩ := aN (Nat.lt_of_lt_of_le (HT.out.2.1 hbig) (txt_ge T k))
              clear HM hz sq bq hbq TX HT FO AT1 LQ hb kr Br HBr aY aN
              go_wp2
              go_ret2
              exact ⟨rfl, HBq.out⟩
            · have hbigI : ¬ (256 : Int) < (Q.length : Int) := by omega
              have HA : Hid _ := aY
              have HA2 : Hid _ := aN
              have hq256 : Q.length ≤ 256 := by omega
              clear HM hz AT1 aY aN bq hbq hb kr Br HBr hbig
              go_wp2_with fail
              refine Calls.mono (TX.out _ _ _ hq256 sq) ?_
              rintro e w4 ⟨rfl, b4⟩
              have HB4 : Hid (Below w.heap.size w w4) := HBq.out.trans (b4.mono HBq.out.size)
              have hT1 := HT.out.1
              have hT0 := HT.out.2.2
              clear TX sq b4 HBq LQ hq256
              have hz0' : zer 0 ++ T = T := by
                apply bz_ext
                simp [zer]
              go_wp2_with fail
              go_loop [7] (fun v => ∃ (j : Nat) (S : ByteArray), v = .string S ∧ S = zer j ++ T ∧ j ≤ k + 1 - T.size) (fun v => match v with | .string t => k + 1 - t.size | _ => 0)
              case atStart => exact ⟨0, T, rfl, hz0'.symm, Nat.zero_le _⟩
              case round =>
                obtain ⟨j, S, rfl, hS', hjk⟩ := hrel
                have hSs : S.size = j + T.size := by rw [hS', ByteArray.size_append, zer_size]
                have HS : Hid (S = zer j ++ T) := hS'
                clear hS'
                by_cases hle : S.size ≤ k
                · have hleI : (S.size : Int) ≤ (k : Int) := by omega
                  clear hz0'
                  go_wp2
                  go_round
                  case rel => exact ⟨j + 1, _, rfl, by rw [HS.out]; exact zer_more j T, by omega⟩
                  case measure =>
                    show k + 1 - ((⟨#[48]⟩ : ByteArray) ++ S).size < k + 1 - S.size
                    rw [ByteArray.size_append]
                    show k + 1 - (1 + S.size) < _
                    omega
                · have hleI : ¬ (S.size : Int) ≤ (k : Int) := by omega
                  have hSe : S = padT T k := by
                    rw [HS.out]
                    unfold padT
                    have : j = k + 1 - T.size := by omega
                    rw [this]
                  have HQ4 : Hid (S.size ≤ 3300) := by show S.size ≤ 3300; omega
                  clear hz0' hjk
                  by_cases hk0 : k = 0
                  · have hkI : ¬ (0 : Int) < (k : Int) := by omega
                    obtain rfl : S = pointT T k := by
                      rw [hSe, hk0]
                      have e0 : pointT T 0 = T := by simp [pointT]
                      rw [e0]
                      unfold padT
                      have e1 : 0 + 1 - T.size = 0 := by omega
                      rw [e1]
                      apply bz_ext
                      simp [zer]
                    clear hSe HS hSs hk0
                    by_cases hs60 : (pointT T k).size ≤ 60
                    · have ed : decide ((pointT T k).size ≤ 60) = true := decide_eq_true hs60
                      obtain ⟨rfl, rfl⟩ := HA.out hs60
                      rw [ed] at FO
                      clear ed HA HA2 hs60
                      skip
                      go_wp2_with fail
                      refine Calls.mono (FO.out _) ?_
                      rintro e w' ⟨rfl, rfl⟩
                      clear FO
                      go_wp2
                      go_ret2
                      exact ⟨rfl, HB4.out⟩
                    · have ed : decide ((pointT T k).size ≤ 60) = false := decide_eq_false hs60
                      obtain ⟨rfl, rfl⟩ := HA2.out (by omega)
                      rw [ed] at FO
                      clear ed HA HA2 hs60
                      skip
                      go_wp2_with fail
                      refine Calls.mono (FO.out _) ?_
                      rintro e w' ⟨rfl, rfl⟩
                      clear FO
                      go_wp2
                      go_ret2
                      exact ⟨rfl, HB4.out⟩
                  · have hkI : (0 : Int) < (k : Int) := by omega
                    have hpt : pointT T k = S.extract 0 (S.size - k) ++ ⟨#[46]⟩ ++ S.extract (S.size - k) S.size := by
                      rw [hSe]
                      simp [pointT, hk0]
                    have q1 : (0 : Int) ≤ (S.size : Int) - (k : Int) := by omega
                    have q2 : (S.size : Int) - (k : Int) ≤ (S.size : Int) := by omega
                    have q3 : ((S.size : Int) - (k : Int)).toNat = S.size - k := by omega
                    have q4 : S.size ≤ 3300 := HQ4.out
                    have mixed : Tryd.prog.follows Departure.mixedOrders = true := by kernel_rfl
                    have HPT : Hid (pointT T k = S.extract 0 (S.size - k) ++ ⟨#[46]⟩ ++ S.extract (S.size - k) S.size) := hpt
                    clear hSe HS hSs hk0 hpt
                    by_cases hs60 : (pointT T k).size ≤ 60
                    · have ed : decide ((pointT T k).size ≤ 60) = true := decide_eq_true hs60
                      obtain ⟨rfl, rfl⟩ := HA.out hs60
                      rw [ed] at FO
                      clear ed HA HA2 hs60
                      go_wp2_with fail
                      go_region_o
                      go_wp2_with fail
                      rw [← HPT.out]
                      refine Calls.mono (FO.out _) ?_
                      rintro e w' ⟨rfl, rfl⟩
                      clear FO
                      go_wp2
                      go_ret2
                      exact ⟨rfl, HB4.out.drew⟩
                    · have ed : decide ((pointT T k).size ≤ 60) = false := decide_eq_false hs60
                      obtain ⟨rfl, rfl⟩ := HA2.out (by omega)
                      rw [ed] at FO
                      clear ed HA HA2 hs60
                      go_wp2_with fail
                      go_region_o
                      go_wp2_with fail
                      rw [← HPT.out]
                      refine Calls.mono (FO.out _) ?_
                      rintro e w' ⟨rfl, rfl⟩
                      clear FO
                      go_wp2
                      go_ret2
                      exact ⟨rfl, HB4.out.drew⟩
          · have hz0 : (0 : Int) < (M.length : Int) := HM.out.2 hz
            have HNZ : Hid (x * 10 ^ k % y ≠ 0) := hz
            have HF : Hid (Below w1.heap.size w1 wc) := hbq
            clear HM hz sq bq hbq HBq TX HT FO AT1 LQ hb kr Br HBr
            go_wp2
            go_roundw
            case rel => exact ⟨k + 1, by go_num, by omega, fun j hj => by
              by_cases e : j = k
              · subst e; exact HNZ.out
              · exact HJ.out j (by omega), HF.out⟩
            case measure => simp [intOf]; omega
      · have hge : ¬ (k : Int) < 60 := by omega
        obtain ⟨eB, eT⟩ := NO.out (fun j hj' => hj j (by omega))
        clear hj hb kr Br TN ML DV AT NO
        go_wp2
        go_ret2
        exact ⟨by first | rfl | (rw [eB, eT]; rfl), HBr.out⟩
end Go.Proofs.YthokphoojmpajahDoor
