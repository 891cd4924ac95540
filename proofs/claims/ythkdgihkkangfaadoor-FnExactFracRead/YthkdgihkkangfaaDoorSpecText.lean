/- The contract of spec.NatText: a number in decimals. -/
import Derived.Test.YthkdgihkkangfaaDoorBytes
import Derived.Test.YthkdgihkkangfaaDoorGMark
import Derived.Test.YthkdgihkkangfaaDoorGShl
import Derived.Test.YthkdgihkkangfaaDoorGCmpN
import Derived.Deep.LoopGhost
namespace Go.Proofs.YthkdgihkkangfaaDoor
open Go.RowKit Go.Proofs.Pin

/-- What NatText answers. -/
def textA (xs : List Int) : ByteArray := if okB xs = true then txt (val xs).toNat else ⟨#[]⟩
theorem textA_no {xs : List Int} (h : okB xs = false) : textA xs = ⟨#[]⟩ := by simp [textA, h]
theorem textA_yes {x : Nat} (hx : (dgs x).length ≤ 256) : textA (dgs x) = txt x := by simp [textA, dgs_ok hx, val_dgs]
theorem div_pow_succ (n j : Nat) : n / 10 ^ j / 10 = n / 10 ^ (j + 1) := by rw [Nat.div_div_eq_div_mul, Nat.pow_succ]

set_option maxRecDepth 20000 in
set_option maxHeartbeats 3200000 in
theorem specText_any (a : Option Addr) (ca : Nat) (xs : List Int) (w : World) (ha : Sl w a xs) (hx : xs.length ≤ 1048576) :
    Calls Tryd.prog 19 #[.slice a xs.length ca] w fun e w' => e = .returned (.string (textA xs)) ∧ Below w.heap.size w w' := by
  obtain ⟨i0, hi, hz0, hz1, hz2⟩ := info_parts Tryd.info5
  have c1 := (specOk_any a ca xs w ha hx).mono (R' := fun e w' => e = .returned (.bool (okB xs)) ∧ w = w') fun e w' h => ⟨h.1, h.2.symm⟩
  cases h1 : okB xs with
  | false =>
    rw [textA_no h1]
    rw [h1] at c1
    have C1 : Hid _ := c1
    clear c1 h1 ha hx
    go_enter Tryd.func19, Tryd.ntmps19
    go_wp2_with fail
    refine Calls.mono C1.out ?_
    rintro e w' ⟨rfl, rfl⟩
    go_wp2
    go_ret
    exact ⟨rfl, Below.refl _ _⟩
  | true =>
    rw [h1] at c1
    obtain ⟨n, rfl, hn⟩ := ok_dgs h1
    rw [textA_yes hn]
    have C1 : Hid _ := c1
    by_cases h0 : n = 0
    · subst h0
      rw [txt_zero]
      rw [dgs_zero] at C1 ⊢
      clear c1 h1 ha hx hn
      go_enter Tryd.func19, Tryd.ntmps19
      go_wp2_with fail
      refine Calls.mono C1.out ?_
      rintro e w' ⟨rfl, rfl⟩
      go_wp2
      go_ret
      exact ⟨rfl, Below.refl _ _⟩
    · have hpos : 0 < (dgs n).length := by rw [dgs_pos h0]; simp
      have hposb : (((dgs n).length : Int) == 0) = false := by rw [beq_eq_false_iff_ne]; omega
      have H0 : Hid (∃ (j : Nat) (r : Option Addr) (cr : Nat), Value.slice a (dgs n).length ca = .slice r (dgs n).length cr ∧ n = n / 10 ^ j ∧ w.ownsRow w.heap.size 5 1 (.slice none 0 0) j ((low j n).map (Value.int .u8)) ∧ Sl w r (dgs n) ∧ (j = 0 ∨ 10 ^ (j - 1) ≤ n) ∧ j ≤ 5000 ∧ Below w.heap.size w w) := ⟨0, a, ca, rfl, by simp, World.ownsRow_nil _ _ _ _, ha, .inl rfl, by omega, Below.refl _ _⟩
      have HT : Hid (txt n = ⟨((low (nd n) n).reverse.map bt).toArray⟩) := txt_pos h0
      have HN : Hid ((dgs n).length ≤ 256 ∧ n ≠ 0 ∧ nd n ≤ 5000) := ⟨hn, h0, Nat.le_trans (nd_256 hn) (by decide)⟩
      obtain ⟨T, hT⟩ : ∃ T, T = txt n := ⟨_, rfl⟩
      have HTT : Hid (T = txt n) := hT
      rw [← hT]
      obtain ⟨X, hX⟩ : ∃ X, X = dgs n := ⟨_, rfl⟩
      rw [← hX] at C1 H0 hposb ⊢
      have HX : Hid (X = dgs n) := hX
      clear c1 h1 ha hx hn h0 hpos hT hX
      go_enter Tryd.func19, Tryd.ntmps19
      go_wp2_with fail
      refine Calls.mono C1.out ?_
      rintro e w' ⟨rfl, rfl⟩
      go_wp2_with fail
      go_loopg [3, 4] n (fun m v d wr => ∃ (j : Nat) (r : Option Addr) (cr : Nat), d = .slice r (dgs m).length cr ∧ m = n / 10 ^ j ∧ wr.ownsRow w.heap.size 5 1 v j ((low j n).map (Value.int .u8)) ∧ Sl wr r (dgs m) ∧ (j = 0 ∨ 10 ^ (j - 1) ≤ n) ∧ j ≤ 5000 ∧ Below w.heap.size w wr)
      case atStart =>
        have h := H0.out
        rw [HX.out] at h ⊢
        exact h
      case round =>
        obtain ⟨j, r, cr, rfl, hm, hown, hs, hj, hj2, hb⟩ := hrel
        clear H0 C1
        by_cases h0 : gk = 0
        · subst h0
          have hL : j = nd n := nd_eq (by
            have := Nat.lt_of_div_eq_zero (Nat.pow_pos (n := j) (show 0 < 10 by decide)) hm.symm
            exact this) hj
          subst hL
          have hL0 : 0 < nd n := by rw [nd_pos HN.out.2.1]; omega
          obtain ⟨g, cap, rfl, hlen, hg0, hg1, hcap, hcells⟩ := row_some hown hL0
          have HB : Hid (Below w.heap.size w wr) := hb
          have HC : Hid (∀ W, Below wr.heap.size wr W → ∀ i, i < nd n → W.cell? ⟨g, i, none⟩ = some (.int .u8 ((low (nd n) n).getD i 0))) := fun W hW i hi => by
            have := hW.cell (p := ⟨g, i, none⟩) hg1
            rw [this]
            exact hcells i hi
          have HBd : Hid (∀ i, i < nd n → 48 ≤ (low (nd n) n).getD i 0 ∧ (low (nd n) n).getD i 0 ≤ 57) := fun i hi => low_bd hi
          obtain ⟨Z, hZ⟩ : ∃ Z, Z = low (nd n) n := ⟨_, rfl⟩
          rw [← hZ] at HC HBd hlen HT
          obtain ⟨L, hLe⟩ : ∃ L, L = nd n := ⟨_, rfl⟩
          rw [← hLe] at HC HBd hlen hL0 hcap HN ⊢
          clear hZ hLe hown hs hj hm hcells hb hj2 hposb
          rw [dgs_zero, List.length_nil]
          have hL5 : L ≤ 5000 := HN.out.2.2
          go_wp2_with fail
          clear hcap hg0 hg1
          obtain ⟨B0, hB0⟩ : ∃ B0, B0 = wr.heap.size := ⟨_, rfl⟩
          rw [← hB0] at HC
          have HBs : Hid (w.heap.size ≤ B0 ∧ B0 ≤ wr.heap.size) := ⟨by rw [hB0]; exact HB.out.size, by omega⟩
          clear hB0
          go_loopw [7, 8] (fun v i wq => ∃ t : Nat, t ≤ L ∧ i = .int .i64 ((L : Int) - 1 - t) ∧ wq.ownsRow B0 5 1 v t ((Z.reverse.take t).map (Value.int .u8)) ∧ Below B0 wr wq) (fun _ i _ => (intOf i + 1).toNat)
          case atStart => exact ⟨0, Nat.zero_le _, by simp, World.ownsRow_nil _ _ _ _, Below.refl _ _⟩
          case round =>
            obtain ⟨t, ht, rfl, hown, hbq⟩ := hrel
            have HBQ : Hid (Below _ _ wr) := hbq
            have HBW : Hid (Below w.heap.size w wr) := HB.out.trans (hbq.mono HBs.out.1)
            by_cases hlt : t < L
            · obtain ⟨p, hp⟩ : ∃ p, p = L - 1 - t := ⟨_, rfl⟩
              have hpI : (L : Int) - 1 - (t : Int) = (p : Int) := by omega
              have hpL : p < L := by omega
              have hcell := HC.out _ hbq p hpL
              have HR : Hid (Z.reverse.take (t + 1) = Z.reverse.take t ++ [Z.getD p 0]) := by
                show _ = _
                rw [take_next (by rw [List.length_reverse, hlen]; exact hlt)]
                congr 2
                rw [List.getD_eq_getElem?_getD, List.getD_eq_getElem?_getD, List.getElem?_reverse (by omega), hlen, hp]
              obtain ⟨b, hbe⟩ : ∃ b, b = Z.getD p 0 := ⟨_, rfl⟩
              rw [← hbe] at hcell HR
              obtain ⟨cs, hcs⟩ : ∃ cs, cs = (Z.reverse.take t).map (Value.int .u8) := ⟨_, rfl⟩
              rw [← hcs] at hown
              have HCS : Hid (cs = (Z.reverse.take t).map (Value.int .u8)) := hcs
              have HP : Hid (p = L - 1 - t) := hp
              rw [hpI]
              clear hp hpI hbe hcs hbq
              have hp0 : (0 : Int) ≤ (p : Int) := by omega
              have hp1 : (p : Int) < (L : Int) := by omega
              go_wp2_with (at_builtin; refine wpList_append_own _ rfl _ _ 63 rfl B0 5 i0 (.int .u8 0) 1 1 Tryd.underlying63 hi hz0 hz1 hz2 rfl (by decide) _ _ _ rfl (hown.alloc _) ⟨wr.heap.size, 0, none⟩ 1 1 [.int .u8 b] rfl rfl (cell_one_new _ _ _) (by simp [Value.oneCell']) ?c3 ?c4 ?c5 ?_)
              case c3 => unfold maxLen; omega
              case c4 => omega
              case c5 => have := HBQ.out.size; have := HBs.out.2; simp; omega
              intro v' w3 hown3 hgrow3 _
              have HB3 : Hid (Below B0 _ w3) := below_append HBQ.out HBs.out.2 hown hgrow3
              have HO3 : Hid (w3.ownsRow B0 5 1 v' (t + 1) ((Z.reverse.take (t + 1)).map (Value.int .u8))) := by
                show w3.ownsRow B0 5 1 v' (t + 1) _
                rw [HR.out, List.map_append, ← HCS.out]
                exact hown3
              clear hown hown3 hgrow3
              go_wp2
              go_roundw
              case rel => exact ⟨t + 1, by omega, by congr 1; have := HP.out; omega, HO3.out, HB3.out⟩
              case measure => have := HP.out; simp [intOf]
            · have htL : t = L := by omega
              subst htL
              obtain ⟨g2, cap2, rfl, hlen2, _, hg2, _, hcells2⟩ := row_some hown hL0
              have hfull : Z.reverse.take t = Z.reverse := List.take_of_length_le (by rw [List.length_reverse]; omega)
              rw [hfull] at hlen2 hcells2
              have hconv := conv_row (W := wr) (cap := cap2) 63 Tryd.underlying63 Tryd.underlying5 Tryd.underlying9 hlen2 (fun i hi => by
                have h1 : Z.reverse.getD i 0 = Z.getD (t - 1 - i) 0 := by
                  rw [List.getD_eq_getElem?_getD, List.getD_eq_getElem?_getD, List.getElem?_reverse (by omega), hlen]
                rw [h1]
                have := HBd.out (t - 1 - i) (by omega)
                omega) hcells2
              rw [show (⟨(Z.reverse.map bt).toArray⟩ : ByteArray) = T by rw [HTT.out, HT.out]] at hconv
              have hneg : ¬ (0 : Int) ≤ (t : Int) - 1 - (t : Int) := by omega
              clear hcells2 hown hbq hfull hlen2 hlt
              go_wp2
              go_ret
              exact ⟨rfl, HBW.out⟩
        · have hp : 0 < (dgs gk).length := by rw [dgs_pos h0]; simp
          have hgl : (dgs gk).length ≤ 256 := Nat.le_trans (dgs_len_le (by rw [hm]; exact Nat.div_le_self _ _)) HN.out.1
          have C2 : Hid (Calls Tryd.prog 38 #[.slice r (dgs gk).length cr, .int .i64 10] wr fun e w' => ∃ r2 c2, e = .returned (.tuple #[.slice r2 (dgs (gk / 10)).length c2, .int .i64 ((gk % 10 : Nat) : Int)]) ∧ OwnI w' wr.heap.size r2 c2 (dgs (gk / 10)) ∧ Below wr.heap.size wr w') := l1DivSmall_any r cr gk 10 wr hs (by omega) (by decide) (by decide)
          have hdl := Nat.mod_lt gk (show 0 < 10 by decide)
          have hnew : low (j + 1) n = low j n ++ [48 + ((gk % 10 : Nat) : Int)] := by rw [hm]; rfl
          have hgn : gk / 10 = n / 10 ^ (j + 1) := by rw [hm]; exact div_pow_succ n j
          have hge : 10 ^ j ≤ n := by
            rcases Nat.lt_or_ge n (10 ^ j) with h | h
            · rw [Nat.div_eq_of_lt h] at hm
              exact absurd hm h0
            · exact h
          have hj3 : j ≤ 1280 := by
            have := pow_lt_inv (Nat.lt_of_le_of_lt hge (nd_lt n))
            have := nd_256 HN.out.1
            omega
          have HR : Hid (low (j + 1) n = low j n ++ [48 + ((gk % 10 : Nat) : Int)] ∧ gk / 10 = n / 10 ^ (j + 1) ∧ 10 ^ j ≤ n ∧ gk / 10 < gk) := ⟨hnew, hgn, hge, by omega⟩
          obtain ⟨q, hq⟩ : ∃ q, q = gk / 10 := ⟨_, rfl⟩
          rw [← hq] at C2 HR
          obtain ⟨d, hd⟩ : ∃ d, d = gk % 10 := ⟨_, rfl⟩
          rw [← hd] at C2 HR hdl
          obtain ⟨Q, hQ⟩ : ∃ Q, Q = dgs q := ⟨_, rfl⟩
          rw [← hQ] at C2
          have HQ : Hid (Q = dgs q) := hQ
          obtain ⟨U, hU⟩ : ∃ U, U = dgs gk := ⟨_, rfl⟩
          rw [← hU] at C2 hp ⊢
          have hpI : (0 : Int) < (U.length : Int) := by omega
          have hbyte : IntKind.u8.wrap (48 + (d : Int)) = 48 + (d : Int) := u8_small (by omega) (by omega)
          obtain ⟨cs, hcs⟩ : ∃ cs, cs = (low j n).map (Value.int .u8) := ⟨_, rfl⟩
          rw [← hcs] at hown
          have HCS : Hid (cs = (low j n).map (Value.int .u8)) := hcs
          have HW : Hid (wr.ownsRow w.heap.size 5 1 _ j cs ∧ Below w.heap.size w wr) := ⟨hown, hb⟩
          clear hq hd hQ hU hcs hnew hgn hge hm hgl hs hj hb hown
          go_wp2_with fail
          refine Calls.mono C2.out ?_
          rintro e w2 ⟨r2, c2, rfl, o2, b2⟩
          have hown2 := World.ownsRow.kept (w' := w2) (row := none) HW.out.1 ⟨b2.os, b2.tape, b2.output, b2.size, fun k hk _ => b2.block k hk⟩ (by
            cases e : Value.ownBlock _ with
            | none => exact .inl rfl
            | some k => exact .inr (by simp))
          have hB2 : Below w.heap.size w w2 := HW.out.2.trans (b2.mono HW.out.2.size)
          have hltB := ownBlock_lt HW.out.1
          go_wp2_with (at_builtin; refine wpList_append_own _ rfl _ _ 63 rfl w.heap.size 5 i0 (.int .u8 0) 1 1 Tryd.underlying63 hi hz0 hz1 hz2 rfl (by decide) _ _ _ rfl (hown2.alloc _) ⟨w2.heap.size, 0, none⟩ 1 1 [.int .u8 (48 + (d : Int))] rfl rfl (cell_one_new _ _ _) (by simp [Value.oneCell']) ?c3 ?c4 ?c5 ?_)
          case c3 => unfold maxLen; omega
          case c4 => omega
          case c5 => have := hB2.size; simp; omega
          intro v' w3 hown3 hgrow3 _
          have HB3 : Hid (Below w.heap.size w w3) := below_append hB2 (Nat.le_refl _) hown2 hgrow3
          have o3 : OwnI w3 wr.heap.size r2 c2 Q := (o2.kept (World.grownBy_alloc _ _ none) (fun _ _ e => by cases e)).kept hgrow3 (fun g hg e => by
            have h1 := hltB _ e
            have h2 := own_ge o2 g.block (by rw [hg]; rfl)
            omega)
          have HO3 : Hid (OwnI w3 wr.heap.size r2 c2 Q ∧ w3.ownsRow w.heap.size 5 1 v' (j + 1) ((low (j + 1) n).map (Value.int .u8))) := ⟨o3, by
            rw [HR.out.1, List.map_append, ← HCS.out]
            exact hown3⟩
          clear hown2 hown3 hgrow3 o2 o3 b2 hB2 hltB C2
          go_wp2
          go_roundg q
          case measure => exact HR.out.2.2.2
          case rel =>
            obtain ⟨e1, e2, e3, e4⟩ := HR.out
            exact ⟨j + 1, r2, c2, by rw [HQ.out], e2, HO3.out.2, by rw [← HQ.out]; exact HO3.out.1.sl, .inr (by rw [Nat.add_sub_cancel]; exact e3), by omega, HB3.out⟩
end Go.Proofs.YthkdgihkkangfaaDoor
