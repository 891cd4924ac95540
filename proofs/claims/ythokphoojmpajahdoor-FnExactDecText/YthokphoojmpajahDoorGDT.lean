/- Rows of bytes of the call's own, and the string that one comes to. The contract of spec.NatText: a number in decimals. slices.Reverse at bytes, walked. The contract of impl.digits.text: a number in decimals. -/
import Derived.Test.YthokphoojmpajahDoorProg
import Derived.Test.YthokphoojmpajahDoorBase
import Derived.Test.YthokphoojmpajahDoorGEq
import Derived.Test.YthokphoojmpajahDoorGTxt
import Derived.Laws.IdiomStrings
import Derived.WalkKit
import Derived.WalkSpells
import Derived.Test.YthokphoojmpajahDoorGMark
import Derived.Test.YthokphoojmpajahDoorGShl
import Derived.Test.YthokphoojmpajahDoorGCmpN
import Derived.Deep.LoopGhost
import Derived.Sort.WalkB12
import Derived.Lib.SlicesMore
import Derived.Deep.RegionWith
import Derived.Test.YthokphoojmpajahDoorCut
namespace Go.Proofs.YthokphoojmpajahDoor
open Go.RowKit Go.Proofs.Pin

theorem Tryd.info5 : (Tryd.prog.info? 5).map (fun i => (i.zero, i.size, i.bytes)) = some (some (.int .u8 0), 1, 1) := by kernel_rfl
theorem u8_small {z : Int} (h0 : 0 ≤ z) (h1 : z < 256) : IntKind.u8.wrap z = z := by
  simp [IntKind.wrap, IntKind.bits, IntKind.signed]
  omega
theorem ownBlock_lt {w : World} {base : Nat} {e : TypeId} {size : Nat} {v : Value} {n : Nat} {xs : List Value} (h : w.ownsRow base e size v n xs) : ∀ k, v.ownBlock = some k → k < w.heap.size := by
  intro k hk
  rcases h.2 with ⟨rfl, _⟩ | ⟨g, cap, cur, rfl, _, hg, _⟩
  · cases hk
  · cases hk; exact lt_of_block hg
/-- A row with something in it is a slice of a block of its own. -/
theorem row_some {w : World} {base n : Nat} {v : Value} {zs : List Int} (h : w.ownsRow base 5 1 v n (zs.map (Value.int .u8))) (h0 : 0 < n) : ∃ g cap, v = .slice (some ⟨g, 0, none⟩) n cap ∧ zs.length = n ∧ base ≤ g ∧ g < w.heap.size ∧ n ≤ cap ∧ (∀ i, i < n → w.cell? ⟨g, i, none⟩ = some (.int .u8 (zs.getD i 0))) := by
  have hn : zs.length = n := by have := h.1; simpa using this
  have h' := h
  rcases h.2 with ⟨_, h2⟩ | ⟨g, cap, cur, rfl, hb, hg, hc, _⟩
  · omega
  · refine ⟨g, cap, rfl, hn, hb, lt_of_block hg, ?_, fun i hi => ?_⟩
    · exact hc
    · rw [h'.cellAt i (by omega)]
      simp [List.getD_eq_getElem?_getD, List.getElem?_eq_getElem (show i < zs.length by omega)]
/-- 'string(b)' over a row of bytes. -/
theorem conv_row {W : World} {g n cap : Nat} {zs : List Int} (src : TypeId) (hs : Tryd.prog.underlying src = some (.slice 5)) (he : Tryd.prog.underlying 5 = some (.int .u8)) (hd : Tryd.prog.underlying 9 = some .string) (hl : zs.length = n) (hb : ∀ i, i < n → 0 ≤ zs.getD i 0 ∧ zs.getD i 0 < 256)
    (hc : ∀ i, i < n → W.cell? ⟨g, i, none⟩ = some (.int .u8 (zs.getD i 0))) : (convert src 9 (.slice (some ⟨g, 0, none⟩) n cap)).run Tryd.prog W = .ok (.string ⟨(zs.map bt).toArray⟩) W := by
  have h := run_convert_bytes_back (P := Tryd.prog) W src 9 5 ⟨g, 0, none⟩ cap (zs.map bt) hs he hd (fun j hj => by
    have hj' : j < n := by simpa [hl] using hj
    have e : (⟨g, 0, none⟩ : Addr).add j = ⟨g, j, none⟩ := by unfold Addr.add; split <;> simp_all
    rw [e, hc j hj']
    have hz : (zs.map bt)[j] = bt (zs.getD j 0) := by
      simp [List.getD_eq_getElem?_getD, List.getElem?_eq_getElem (show j < zs.length by omega)]
    rw [hz, bt_nat (hb j hj').1 (hb j hj').2])
  rw [List.length_map, hl] at h
  exact h
end Go.Proofs.YthokphoojmpajahDoor

namespace Go.Proofs.YthokphoojmpajahDoor
open Go.RowKit Go.Proofs.Pin

/-- What NatText answers. -/
def textA (xs : List Int) : ByteArray := if okB xs = true then txt (val xs).toNat else ⟨#[]⟩
theorem textA_no {xs : List Int} (h : okB xs = false) : textA xs = ⟨#[]⟩ := by simp [textA, h]
theorem textA_yes {x : Nat} (hx : (dgs x).length ≤ 256) : textA (dgs x) = txt x := by simp [textA, dgs_ok hx, val_dgs]
theorem div_pow_succ (n j : Nat) : n / 10 ^ j / 10 = n / 10 ^ (j + 1) := by rw [Nat.div_div_eq_div_mul, Nat.pow_succ]

set_option maxRecDepth 20000 in
set_option maxHeartbeats 3200000 in
theorem specText_any (a : Option Addr) (ca : Nat) (xs : List Int) (w : World) (ha : Sl w a xs) (hx : xs.length ≤ 1048576) :
    Calls Tryd.prog 19 #[.slice a xs.length ca] w fun e w' => e = .returned (.string (textA xs)) ∧ Below w.heap.size w w' := by
  obtain ⟨i0, hi, hz0, hz1, hz2⟩ := info_parts Tryd.info5
  have c1 := (specOk_any a ca xs w ha hx).mono (R' := fun e w' => e = .returned (.bool (okB xs)) ∧ w = w') fun e w' h => ⟨h.1, h.2.symm⟩
  cases h1 : okB xs with
  | false =>
    rw [textA_no h1]
    rw [h1] at c1
    have C1 : Hid _ := c1
    clear c1 h1 ha hx
    go_enter Tryd.func19, Tryd.ntmps19
    go_wp2_with fail
    refine Calls.mono C1.out ?_
    rintro e w' ⟨rfl, rfl⟩
    go_wp2
    go_ret
    exact ⟨rfl, Below.refl _ _⟩
  | true =>
    rw [h1] at c1
    obtain ⟨n, rfl, hn⟩ := ok_dgs h1
    rw [textA_yes hn]
    have C1 : Hid _ := c1
    by_cases h0 : n = 0
    · subst h0
      rw [txt_zero]
      rw [dgs_zero] at C1 ⊢
      clear c1 h1 ha hx hn
      go_enter Tryd.func19, Tryd.ntmps19
      go_wp2_with fail
      refine Calls.mono C1.out ?_
      rintro e w' ⟨rfl, rfl⟩
      go_wp2
      go_ret
      exact ⟨rfl, Below.refl _ _⟩
    · have hpos : 0 < (dgs n).length := by rw [dgs_pos h0]; simp
      have hposb : (((dgs n).length : Int) == 0) = false := by rw [beq_eq_false_iff_ne]; omega
      have H0 : Hid (∃ (j : Nat) (r : Option Addr) (cr : Nat), Value.slice a (dgs n).length ca = .slice r (dgs n).length cr ∧ n = n / 10 ^ j ∧ w.ownsRow w.heap.size 5 1 (.slice none 0 0) j ((low j n).map (Value.int .u8)) ∧ Sl w r (dgs n) ∧ (j = 0 ∨ 10 ^ (j - 1) ≤ n) ∧ j ≤ 5000 ∧ Below w.heap.size w w) := ⟨0, a, ca, rfl, by simp, World.ownsRow_nil _ _ _ _, ha, .inl rfl, by omega, Below.refl _ _⟩
      have HT : Hid (txt n = ⟨((low (nd n) n).reverse.map bt).toArray⟩) := txt_pos h0
      have HN : Hid ((dgs n).length ≤ 256 ∧ n ≠ 0 ∧ nd n ≤ 5000) := ⟨hn, h0, Nat.le_trans (nd_256 hn) (by decide)⟩
      obtain ⟨T, hT⟩ : ∃ T, T = txt n := ⟨_, rfl⟩
      have HTT : Hid (T = txt n) := hT
      rw [← hT]
      obtain ⟨X, hX⟩ : ∃ X, X = dgs n := ⟨_, rfl⟩
      rw [← hX] at C1 H0 hposb ⊢
      have HX : Hid (X = dgs n) := hX
      clear c1 h1 ha hx hn h0 hpos hT hX
      go_enter Tryd.func19, Tryd.ntmps19
      go_wp2_with fail
      refine Calls.mono C1.out ?_
      rintro e w' ⟨rfl, rfl⟩
      go_wp2_with fail
      go_loopg [3, 4] n (fun m v d wr => ∃ (j : Nat) (r : Option Addr) (cr : Nat), d = .slice r (dgs m).length cr ∧ m = n / 10 ^ j ∧ wr.ownsRow w.heap.size 5 1 v j ((low j n).map (Value.int .u8)) ∧ Sl wr r (dgs m) ∧ (j = 0 ∨ 10 ^ (j - 1) ≤ n) ∧ j ≤ 5000 ∧ Below w.heap.size w wr)
      case atStart =>
        have h := H0.out
        rw [HX.out] at h ⊢
        exact h
      case round =>
        obtain ⟨j, r, cr, rfl, hm, hown, hs, hj, hj2, hb⟩ := hrel
        clear H0 C1
        by_cases h0 : gk = 0
        · subst h0
          have hL : j = nd n := nd_eq (by
            have := Nat.lt_of_div_eq_zero (Nat.pow_pos (n := j) (show 0 < 10 by decide)) hm.symm
            exact this) hj
          subst hL
          have hL0 : 0 < nd n := by rw [nd_pos HN.out.2.1]; omega
          obtain ⟨g, cap, rfl, hlen, hg0, hg1, hcap, hcells⟩ := row_some hown hL0
          have HB : Hid (Below w.heap.size w wr) := hb
          have HC : Hid (∀ W, Below wr.heap.size wr W → ∀ i, i < nd n → W.cell? ⟨g, i, none⟩ = some (.int .u8 ((low (nd n) n).getD i 0))) := fun W hW i hi => by
            have := hW.cell (p := ⟨g, i, none⟩) hg1
            rw [this]
            exact hcells i hi
          have HBd : Hid (∀ i, i < nd n → 48 ≤ (low (nd n) n).getD i 0 ∧ (low (nd n) n).getD i 0 ≤ 57) := fun i hi => low_bd hi
          obtain ⟨Z, hZ⟩ : ∃ Z, Z = low (nd n) n := ⟨_, rfl⟩
          rw [← hZ] at HC HBd hlen HT
          obtain ⟨L, hLe⟩ : ∃ L, L = nd n := ⟨_, rfl⟩
          rw [← hLe] at HC HBd hlen hL0 hcap HN ⊢
          clear hZ hLe hown hs hj hm hcells hb hj2 hposb
          rw [dgs_zero, List.length_nil]
          have hL5 : L ≤ 5000 := HN.out.2.2
          go_wp2_with fail
          clear hcap hg0 hg1
          obtain ⟨B0, hB0⟩ : ∃ B0, B0 = wr.heap.size := ⟨_, rfl⟩
          rw [← hB0] at HC
          have HBs : Hid (w.heap.size ≤ B0 ∧ B0 ≤ wr.heap.size) := ⟨by rw [hB0]; exact HB.out.size, by omega⟩
          clear hB0
          go_loopw [7, 8] (fun v i wq => ∃ t : Nat, t ≤ L ∧ i = .int .i64 ((L : Int) - 1 - t) ∧ wq.ownsRow B0 5 1 v t ((Z.reverse.take t).map (Value.int .u8)) ∧ Below B0 wr wq) (fun _ i _ => (intOf i + 1).toNat)
          case atStart => exact ⟨0, Nat.zero_le _, by simp, World.ownsRow_nil _ _ _ _, Below.refl _ _⟩
          case round =>
            obtain ⟨t, ht, rfl, hown, hbq⟩ := hrel
            have HBQ : Hid (Below _ _ wr) := hbq
            have HBW : Hid (Below w.heap.size w wr) := HB.out.trans (hbq.mono HBs.out.1)
            by_cases hlt : t < L
            · obtain ⟨p, hp⟩ : ∃ p, p = L - 1 - t := ⟨_, rfl⟩
              have hpI : (L : Int) - 1 - (t : Int) = (p : Int) := by omega
              have hpL : p < L := by omega
              have hcell := HC.out _ hbq p hpL
              have HR : Hid (Z.reverse.take (t + 1) = Z.reverse.take t ++ [Z.getD p 0]) := by
                show _ = _
                rw [take_next (by rw [List.length_reverse, hlen]; exact hlt)]
                congr 2
                rw [List.getD_eq_getElem?_getD, List.getD_eq_getElem?_getD, List.getElem?_reverse (by omega), hlen, hp]
              obtain ⟨b, hbe⟩ : ∃ b, b = Z.getD p 0 := ⟨_, rfl⟩
              rw [← hbe] at hcell HR
              obtain ⟨cs, hcs⟩ : ∃ cs, cs = (Z.reverse.take t).map (Value.int .u8) := ⟨_, rfl⟩
              rw [← hcs] at hown
              have HCS : Hid (cs = (Z.reverse.take t).map (Value.int .u8)) := hcs
              have HP : Hid (p = L - 1 - t) := hp
              rw [hpI]
              clear hp hpI hbe hcs hbq
              have hp0 : (0 : Int) ≤ (p : Int) := by omega
              have hp1 : (p : Int) < (L : Int) := by omega
              go_wp2_with (at_builtin; refine wpList_append_own _ rfl _ _ 63 rfl B0 5 i0 (.int .u8 0) 1 1 Tryd.underlying63 hi hz0 hz1 hz2 rfl (by decide) _ _ _ rfl (hown.alloc _) ⟨wr.heap.size, 0, none⟩ 1 1 [.int .u8 b] rfl rfl (cell_one_new _ _ _) (by simp [Value.oneCell']) ?c3 ?c4 ?c5 ?_)
              case c3 => unfold maxLen; omega
              case c4 => omega
              case c5 => have := HBQ.out.size; have := HBs.out.2; simp; omega
              intro v' w3 hown3 hgrow3 _
              have HB3 : Hid (Below B0 _ w3) := below_append HBQ.out HBs.out.2 hown hgrow3
              have HO3 : Hid (w3.ownsRow B0 5 1 v' (t + 1) ((Z.reverse.take (t + 1)).map (Value.int .u8))) := by
                show w3.ownsRow B0 5 1 v' (t + 1) _
                rw [HR.out, List.map_append, ← HCS.out]
                exact hown3
              clear hown hown3 hgrow3
              go_wp2
              go_roundw
              case rel => exact ⟨t + 1, by omega, by congr 1; have := HP.out; omega, HO3.out, HB3.out⟩
              case measure => have := HP.out; simp [intOf]
            · have htL : t = L := by omega
              subst htL
              obtain ⟨g2, cap2, rfl, hlen2, _, hg2, _, hcells2⟩ := row_some hown hL0
              have hfull : Z.reverse.take t = Z.reverse := List.take_of_length_le (by rw [List.length_reverse]; omega)
              rw [hfull] at hlen2 hcells2
              have hconv := conv_row (W := wr) (cap := cap2) 63 Tryd.underlying63 Tryd.underlying5 Tryd.underlying9 hlen2 (fun i hi => by
                have h1 : Z.reverse.getD i 0 = Z.getD (t - 1 - i) 0 := by
                  rw [List.getD_eq_getElem?_getD, List.getD_eq_getElem?_getD, List.getElem?_reverse (by omega), hlen]
                rw [h1]
                have := HBd.out (t - 1 - i) (by omega)
                omega) hcells2
              rw [show (⟨(Z.reverse.map bt).toArray⟩ : ByteArray) = T by rw [HTT.out, HT.out]] at hconv
              have hneg : ¬ (0 : Int) ≤ (t : Int) - 1 - (t : Int) := by omega
              clear hcells2 hown hbq hfull hlen2 hlt
              go_wp2
              go_ret
              exact ⟨rfl, HBW.out⟩
        · have hp : 0 < (dgs gk).length := by rw [dgs_pos h0]; simp
          have hgl : (dgs gk).length ≤ 256 := Nat.le_trans (dgs_len_le (by rw [hm]; exact Nat.div_le_self _ _)) HN.out.1
          have C2 : Hid (Calls Tryd.prog 38 #[.slice r (dgs gk).length cr, .int .i64 10] wr fun e w' => ∃ r2 c2, e = .returned (.tuple #[.slice r2 (dgs (gk / 10)).length c2, .int .i64 ((gk % 10 : Nat) : Int)]) ∧ OwnI w' wr.heap.size r2 c2 (dgs (gk / 10)) ∧ Below wr.heap.size wr w') := l1DivSmall_any r cr gk 10 wr hs (by omega) (by decide) (by decide)
          have hdl := Nat.mod_lt gk (show 0 < 10 by decide)
          have hnew : low (j + 1) n = low j n ++ [48 + ((gk % 10 : Nat) : Int)] := by rw [hm]; rfl
          have hgn : gk / 10 = n / 10 ^ (j + 1) := by rw [hm]; exact div_pow_succ n j
          have hge : 10 ^ j ≤ n := by
            rcases Nat.lt_or_ge n (10 ^ j) with h | h
            · rw [Nat.div_eq_of_lt h] at hm
              exact absurd hm h0
            · exact h
          have hj3 : j ≤ 1280 := by
            have := pow_lt_inv (Nat.lt_of_le_of_lt hge (nd_lt n))
            have := nd_256 HN.out.1
            omega
          have HR : Hid (low (j + 1) n = low j n ++ [48 + ((gk % 10 : Nat) : Int)] ∧ gk / 10 = n / 10 ^ (j + 1) ∧ 10 ^ j ≤ n ∧ gk / 10 < gk) := ⟨hnew, hgn, hge, by omega⟩
          obtain ⟨q, hq⟩ : ∃ q, q = gk / 10 := ⟨_, rfl⟩
          rw [← hq] at C2 HR
          obtain ⟨d, hd⟩ : ∃ d, d = gk % 10 := ⟨_, rfl⟩
          rw [← hd] at C2 HR hdl
          obtain ⟨Q, hQ⟩ : ∃ Q, Q = dgs q := ⟨_, rfl⟩
          rw [← hQ] at C2
          have HQ : Hid (Q = dgs q) := hQ
          obtain ⟨U, hU⟩ : ∃ U, U = dgs gk := ⟨_, rfl⟩
          rw [← hU] at C2 hp ⊢
          have hpI : (0 : Int) < (U.length : Int) := by omega
          have hbyte : IntKind.u8.wrap (48 + (d : Int)) = 48 + (d : Int) := u8_small (by omega) (by omega)
          obtain ⟨cs, hcs⟩ : ∃ cs, cs = (low j n).map (Value.int .u8) := ⟨_, rfl⟩
          rw [← hcs] at hown
          have HCS : Hid (cs = (low j n).map (Value.int .u8)) := hcs
          have HW : Hid (wr.ownsRow w.heap.size 5 1 _ j cs ∧ Below w.heap.size w wr) := ⟨hown, hb⟩
          clear hq hd hQ hU hcs hnew hgn hge hm hgl hs hj hb hown
          go_wp2_with fail
          refine Calls.mono C2.out ?_
          rintro e w2 ⟨r2, c2, rfl, o2, b2⟩
          have hown2 := World.ownsRow.kept (w' := w2) (row := none) HW.out.1 ⟨b2.os, b2.tape, b2.output, b2.size, fun k hk _ => b2.block k hk⟩ (by
            cases e : Value.ownBlock _ with
            | none => exact .inl rfl
            | some k => exact .inr (by simp))
          have hB2 : Below w.heap.size w w2 := HW.out.2.trans (b2.mono HW.out.2.size)
          have hltB := ownBlock_lt HW.out.1
          go_wp2_with (at_builtin; refine wpList_append_own _ rfl _ _ 63 rfl w.heap.size 5 i0 (.int .u8 0) 1 1 Tryd.underlying63 hi hz0 hz1 hz2 rfl (by decide) _ _ _ rfl (hown2.alloc _) ⟨w2.heap.size, 0, none⟩ 1 1 [.int .u8 (48 + (d : Int))] rfl rfl (cell_one_new _ _ _) (by simp [Value.oneCell']) ?c3 ?c4 ?c5 ?_)
          case c3 => unfold maxLen; omega
          case c4 => omega
          case c5 => have := hB2.size; simp; omega
          intro v' w3 hown3 hgrow3 _
          have HB3 : Hid (Below w.heap.size w w3) := below_append hB2 (Nat.le_refl _) hown2 hgrow3
          have o3 : OwnI w3 wr.heap.size r2 c2 Q := (o2.kept (World.grownBy_alloc _ _ none) (fun _ _ e => by cases e)).kept hgrow3 (fun g hg e => by
            have h1 := hltB _ e
            have h2 := own_ge o2 g.block (by rw [hg]; rfl)
            omega)
          have HO3 : Hid (OwnI w3 wr.heap.size r2 c2 Q ∧ w3.ownsRow w.heap.size 5 1 v' (j + 1) ((low (j + 1) n).map (Value.int .u8))) := ⟨o3, by
            rw [HR.out.1, List.map_append, ← HCS.out]
            exact hown3⟩
          clear hown2 hown3 hgrow3 o2 o3 b2 hB2 hltB C2
          go_wp2
          go_roundg q
          case measure => exact HR.out.2.2.2
          case rel =>
            obtain ⟨e1, e2, e3, e4⟩ := HR.out
            exact ⟨j + 1, r2, c2, by rw [HQ.out], e2, HO3.out.2, by rw [← HQ.out]; exact HO3.out.1.sl, .inr (by rw [Nat.add_sub_cancel]; exact e3), by omega, HB3.out⟩
end Go.Proofs.YthokphoojmpajahDoor

namespace Go.Proofs.YthokphoojmpajahDoor
open Go.RowKit Go.Lib Go.Sort Go.Proofs.Pin

@[reducible] def enc8 (z : Int) : Value := .int .u8 z

set_option maxHeartbeats 1600000 in
set_option maxRecDepth 1000000 in
theorem reverse8 (blk off cap : Nat) (d : Array Int) (w : World) (hH : Holds enc8 w blk off d) (hsz : d.size ≤ 9223372036854775807) :
    Calls Tryd.prog 68 #[.slice (some ⟨blk, off, none⟩) d.size cap] w fun e w' => e = .returned (.tuple #[]) ∧ ∃ n, w' = putRow enc8 (Sort.ahead w n) blk off d.reverse := by
  go_enter Tryd.func68, Tryd.ntmps68
  go_wp2
  go_loopg [2, 3] d.size (fun k s2 s3 wr => ∃ (i jn : Nat) (jz : Int) (dk : Array Int) (n : Nat), s2 = .int .i64 i ∧ s3 = .int .i64 jz ∧ ((i : Int) < jz → jz = jn ∧ jn < d.size) ∧ (¬ (i : Int) < jz → ¬ i < jn) ∧ jn - i ≤ k ∧
    dk.size = d.size ∧ wr = putRow enc8 (Sort.ahead w n) blk off dk ∧ reverseLoop i jn dk = reverseLoop 0 (d.size - 1) d)
  case atStart => exact ⟨0, d.size - 1, (d.size : Int) - 1, d, 0, rfl, rfl, fun h => ⟨by omega, by omega⟩, fun h => by omega, by omega, rfl, (putRow_self enc8 w blk off d hH).symm, rfl⟩
  case round =>
    obtain ⟨i, jn, jz, dk, n, rfl, rfl, h1, h2, hk, hds, hwr, heq⟩ := hrel
    by_cases hlt : (i : Int) < jz
    · obtain ⟨rfl, hjn⟩ := h1 hlt
      have hij : i < jn := by omega
      have hHk : Holds enc8 wr blk off dk := by rw [hwr]; exact holds_putRow enc8 _ blk off d dk (holds_ahead enc8 w n blk off d hH) hds
      obtain ⟨ci, fi⟩ := hHk i (by omega)
      simp only [enc8] at ci
      obtain ⟨cj, fj⟩ := hHk jn (by omega)
      simp only [enc8] at cj
      have A : Aside (wr = putRow enc8 (Sort.ahead w n) blk off dk) := hwr
      clear hwr hHk hH h1 h2
      go_wp2_with fail
      go_region
      go_wp2
      go_roundg (jn - 1 - (i + 1))
      case measure => omega
      case rel =>
        rw [reverseLoop, if_pos hij] at heq
        exact ⟨i + 1, jn - 1, (jn : Int) - 1, swp dk i jn, n + 1, by simp, rfl, fun h => ⟨by omega, by omega⟩, fun h => by omega, Nat.le_refl _, by rw [size_swp]; exact hds,
          swap_world enc8 (by omega) (by omega) A.out (by first | rfl | simp [enc8, getElem!_pos, show jn < dk.size by omega]) (by first | rfl | simp [enc8, getElem!_pos, show i < dk.size by omega]), heq⟩
    · have hnot := h2 hlt
      go_wp2
      go_end0
      refine ⟨rfl, n, ?_⟩
      rw [reverseLoop, if_neg hnot] at heq
      rw [← Lib.reverseLoop_reverse, ← heq]

/-- The row's cells behind it, and what else has turned: nothing below the row's block. -/
theorem reverse8_any (B g cap L : Nat) (zs : List Int) (w : World) (hl : zs.length = L) (hB : B ≤ g) (hm : L ≤ 1048576) (hc : ∀ i, i < L → w.cell? ⟨g, i, none⟩ = some (.int .u8 (zs.getD i 0))) (hf : ∀ i, i < L → w.frozen? ⟨g, i, none⟩ = false) :
    Calls Tryd.prog 68 #[.slice (some ⟨g, 0, none⟩) L cap] w fun e w' => e = .returned (.tuple #[]) ∧ (∀ i, i < L → w'.cell? ⟨g, i, none⟩ = some (.int .u8 (zs.reverse.getD i 0))) ∧ Below B w w' := by
  have hH : Holds enc8 w g 0 zs.toArray := fun j hj => by
    have hj' : j < L := by simpa [hl] using hj
    have e : (zs.toArray)[j]! = zs.getD j 0 := by
      rw [getElem!_pos _ j hj]
      simp [List.getD_eq_getElem?_getD, List.getElem?_eq_getElem (show j < zs.length by omega)]
    rw [Nat.zero_add, e]
    exact ⟨hc j hj', hf j hj'⟩
  have h := reverse8 g 0 cap zs.toArray w hH (by simp; omega)
  have hs : zs.toArray.size = L := by simpa using hl
  rw [hs] at h
  refine h.mono ?_
  rintro e w' ⟨rfl, n, rfl⟩
  refine ⟨rfl, fun i hi => ?_, ?_⟩
  · have h2 := (holds_putRow enc8 (Sort.ahead w n) g 0 zs.toArray zs.toArray.reverse (holds_ahead enc8 w n g 0 zs.toArray hH) (by simp) i (by simpa [hl] using hi)).1
    rw [Nat.zero_add] at h2
    rw [h2, getElem!_pos _ i (by simpa [hl] using hi)]
    simp [enc8, List.getD_eq_getElem?_getD, List.getElem?_eq_getElem (show i < zs.reverse.length by simp; omega)]
  · have hr : ∀ k, k ≠ g → (putRow enc8 (Sort.ahead w n) g 0 zs.toArray.reverse).heap[k]? = w.heap[k]? := fun k hk => by
      show ((Sort.ahead w n).heap.modify g _)[k]? = _
      rw [Array.getElem?_modify, if_neg (Ne.symm hk)]
      rfl
    exact ⟨rfl, rfl, rfl, by rw [size_putRow]; exact Nat.le_refl _, fun k hk => hr k (by omega)⟩
end Go.Proofs.YthokphoojmpajahDoor

namespace Go.Proofs.YthokphoojmpajahDoor
open Go.RowKit Go.Proofs.Pin

theorem low_more (n t j : Nat) (hj : j < 4) : low (4 * t + (j + 1)) n = low (4 * t + j) n ++ [48 + ((n / 10 ^ (4 * t) % 10000 / 10 ^ j % 10 : Nat) : Int)] := by
  rw [← Nat.add_assoc]
  show low (4 * t + j) n ++ [48 + ((n / 10 ^ (4 * t + j) % 10 : Nat) : Int)] = _
  rw [Nat.pow_add, ← Nat.div_div_eq_div_mul]
  obtain ⟨g, hg⟩ : ∃ g, g = n / 10 ^ (4 * t) := ⟨_, rfl⟩
  rw [← hg]
  congr 4
  have h : j = 0 ∨ j = 1 ∨ j = 2 ∨ j = 3 := by omega
  rcases h with rfl | rfl | rfl | rfl <;> simp <;> omega
theorem div_four (n t : Nat) : n / 10 ^ (4 * t) / 10000 = n / 10 ^ (4 * (t + 1)) := by
  rw [Nat.div_div_eq_div_mul]
  congr 1
  rw [Nat.mul_add, Nat.pow_add]
theorem top_zero {n z : Nat} (h1 : n < 10 ^ (z + 1)) : n / 10 ^ z % 10 = 0 ↔ n < 10 ^ z := by
  have hp : 0 < 10 ^ z := Nat.pow_pos (by decide)
  have h2 : n / 10 ^ z < 10 := by
    rw [Nat.div_lt_iff_lt_mul hp]
    rw [Nat.pow_succ, Nat.mul_comm] at h1
    exact h1
  rw [Nat.mod_eq_of_lt h2, Nat.div_eq_zero_iff]
  omega

/-- A row of bytes and a row of ints lie apart. -/
theorem row_apart {w : World} {base base2 n cap k : Nat} {v : Value} {xs : List Value} {r : Option Addr} {zs : List Int} (h : w.ownsRow base 5 1 v n xs) (h2 : OwnI w base2 r cap zs) (h3 : v.ownBlock = some k) (h4 : r.map (·.block) = some k) : False := by
  rcases h.2 with ⟨rfl, _⟩ | ⟨g, c1, cur, rfl, _, hg, _⟩
  · cases h3
  · cases h3
    rcases h2.2 with ⟨e, _⟩ | ⟨g', c2, cur', e, _, hg', _⟩
    · injection e with e1 _ _
      subst e1
      cases h4
    · injection e with e1 _ _
      subst e1
      cases h4
      have e2 : some (Obj.cells cur 5 (0, 0)) = some (Obj.cells cur' 3 (0, 0)) := hg.symm.trans hg'
      injection e2 with e3
      injection e3 with _ e4 _
      exact absurd e4 (by decide)

set_option maxRecDepth 20000 in
set_option maxHeartbeats 3200000 in
theorem dText_any (a : Option Addr) (ca : Nat) (n : Nat) (w : World) (ha : Sl w a (dgs n)) (hn : (dgs n).length ≤ 1024) :
    Calls Tryd.prog 41 #[.slice a (dgs n).length ca] w fun e w' => e = .returned (.string (txt n)) ∧ Below w.heap.size w w' := by
  obtain ⟨i0, hi, hz0, hz1, hz2⟩ := info_parts Tryd.info5
  by_cases h0 : n = 0
  · subst h0
    rw [txt_zero, dgs_zero]
    clear ha hn
    go_enter Tryd.func41, Tryd.ntmps41
    go_wp2
    refine wp_loop_rounds 1 ?_
    rw [rounds_succ]
    go_wp2
    refine wp_loop_rounds 1 ?_
    rw [rounds_succ]
    go_wp2
    go_ret
    exact ⟨rfl, Below.refl _ _⟩
  · have hL := nd_len hn
    have H0 : Hid (∃ (t : Nat) (r : Option Addr) (cr : Nat), Value.slice a (dgs n).length ca = .slice r (dgs n).length cr ∧ n = n / 10 ^ (4 * t) ∧ w.ownsRow w.heap.size 5 1 (.slice none 0 0) (4 * t) ((low (4 * t) n).map (Value.int .u8)) ∧ Sl w r (dgs n) ∧ (t = 0 ∨ 10 ^ (4 * (t - 1)) ≤ n) ∧ t ≤ 5000 ∧ Below w.heap.size w w) := ⟨0, a, ca, rfl, by simp, World.ownsRow_nil _ _ _ _, ha, .inl rfl, by omega, Below.refl _ _⟩
    have HT : Hid (txt n = ⟨((low (nd n) n).reverse.map bt).toArray⟩) := txt_pos h0
    have HN : Hid ((dgs n).length ≤ 1024 ∧ n ≠ 0 ∧ nd n ≤ 5120) := ⟨hn, h0, hL⟩
    obtain ⟨T, hT⟩ : ∃ T, T = txt n := ⟨_, rfl⟩
    have HTT : Hid (T = txt n) := hT
    rw [← hT]
    obtain ⟨X, hX⟩ : ∃ X, X = dgs n := ⟨_, rfl⟩
    rw [← hX] at H0 ⊢
    have HX : Hid (X = dgs n) := hX
    clear ha hn h0 hT hX hL
    go_enter Tryd.func41, Tryd.ntmps41
    go_wp2
    go_loopg [0, 3] n (fun m d v wr => ∃ (t : Nat) (r : Option Addr) (cr : Nat), d = .slice r (dgs m).length cr ∧ m = n / 10 ^ (4 * t) ∧ wr.ownsRow w.heap.size 5 1 v (4 * t) ((low (4 * t) n).map (Value.int .u8)) ∧ Sl wr r (dgs m) ∧ (t = 0 ∨ 10 ^ (4 * (t - 1)) ≤ n) ∧ t ≤ 5000 ∧ Below w.heap.size w wr)
    case atStart =>
      have h := H0.out
      rw [HX.out] at h ⊢
      exact h
    case round =>
      obtain ⟨t, r, cr, rfl, hm, hown, hs, hj, hj2, hb⟩ := hrel
      clear H0
      by_cases h0 : gk = 0
      · subst h0
        have hlt : n < 10 ^ (4 * t) := Nat.lt_of_div_eq_zero (Nat.pow_pos (by decide)) hm.symm
        have ht0 : 0 < 4 * t := by
          rcases Nat.eq_zero_or_pos t with h | h
          · subst h
            have := HN.out.2.1
            simp at hlt
            omega
          · omega
        obtain ⟨g, cap, rfl, hlen, hg0, hg1, hcap, hcells⟩ := row_some hown ht0
        have HF : Hid (∀ i, wr.frozen? ⟨g, i, none⟩ = false) := fun i => hown.frozenAt i
        have HB : Hid (Below w.heap.size w wr) := hb
        obtain ⟨K, hK⟩ : ∃ K, K = 4 * t := ⟨_, rfl⟩
        rw [← hK] at hlt ht0 hlen hcap hcells ⊢
        have HC : Hid (∀ i, i < K → wr.cell? ⟨g, i, none⟩ = some (.int .u8 (48 + ((n / 10 ^ i % 10 : Nat) : Int)))) := fun i hi => by rw [hcells i hi, low_get (by omega)]
        have HK : Hid (n < 10 ^ K) := hlt
        have hK5 : K ≤ 20000 := by omega
        clear hK hlt hown hcells hlen hs hj hj2 hb hm
        rw [dgs_zero, List.length_nil]
        go_wp2_with fail
        go_loopw [6] (fun s wq => ∃ z : Nat, z ≤ K ∧ n < 10 ^ z ∧ s = .int .i64 (z : Int) ∧ wq = wr) (fun s _ => (intOf s).toNat)
        case atStart => exact ⟨K, Nat.le_refl _, HK.out, rfl, rfl⟩
        case round =>
          obtain ⟨z, hzK, hzn, rfl, rfl⟩ := hrel
          have hz0 : z ≠ 0 := by
            intro e
            subst e
            have := HN.out.2.1
            simp at hzn
            omega
          obtain ⟨y, rfl⟩ : ∃ y, z = y + 1 := ⟨z - 1, by omega⟩
          have hc := HC.out y (by omega)
          obtain ⟨c, hce⟩ : ∃ c, c = n / 10 ^ y % 10 := ⟨_, rfl⟩
          rw [← hce] at hc
          have hyI : (((y + 1 : Nat) : Int)) - 1 = (y : Int) := by omega
          have hyp : (0 : Int) < ((y + 1 : Nat) : Int) := by omega
          have hyK : y < K := by omega
          by_cases hc0 : c = 0
          · have HZ : Hid (n < 10 ^ y) := (top_zero hzn).1 (by rw [← hce]; exact hc0)
            have hcb : ((48 + (c : Int)) == 48) = true := by rw [hc0]; rfl
            clear hce hzn hc0
            go_wp2
            go_roundw
            case rel => exact ⟨y, by omega, HZ.out, by first | rfl | (congr 1; omega), by trivial⟩
            case measure => simp [intOf]
          · have hcb : ((48 + (c : Int)) == 48) = false := by rw [beq_eq_false_iff_ne]; omega
            have hnd : y + 1 = nd n := nd_eq hzn (.inr (by
              rw [Nat.add_sub_cancel]
              rcases Nat.lt_or_ge n (10 ^ y) with h | h
              · exact absurd (by rw [hce]; exact (top_zero hzn).2 h) hc0
              · exact h))
            have hlen2 : (low (nd n) n).length = nd n := low_len _ _
            have R : Hid _ := reverse8_any w.heap.size g cap (nd n) (low (nd n) n) wr hlen2 hg0 (by have := HN.out.2.2; omega) (fun i hi => by rw [HC.out i (by omega), low_get hi]) (fun i _ => HF.out i)
            rw [← hnd] at R
            have HBd : Hid (∀ i, i < y + 1 → 0 ≤ (low (nd n) n).reverse.getD i 0 ∧ (low (nd n) n).reverse.getD i 0 < 256) := fun i hi => by
              have h1 : (low (nd n) n).reverse.getD i 0 = (low (nd n) n).getD (nd n - 1 - i) 0 := by
                rw [List.getD_eq_getElem?_getD, List.getD_eq_getElem?_getD, List.getElem?_reverse (by omega), hlen2]
              rw [h1]
              have := low_bd (n := n) (show nd n - 1 - i < nd n by omega)
              omega
            obtain ⟨Z, hZ⟩ : ∃ Z, Z = low (nd n) n := ⟨_, rfl⟩
            have HZl : Hid (Z.reverse.length = y + 1) := by
              show Z.reverse.length = y + 1
              rw [List.length_reverse, hZ, hlen2, hnd]
            have HTT2 : Hid ((⟨(Z.reverse.map bt).toArray⟩ : ByteArray) = T) := by
              show _ = _
              rw [HTT.out, HT.out, hZ]
            rw [hnd, ← hZ] at R
            rw [← hnd] at R
            rw [← hZ] at HBd
            clear hce hzn hc0 hnd hlen2 hZ HF
            have hyne : (((y + 1 : Nat) : Int) == 0) = false := by rw [beq_eq_false_iff_ne]; omega
            have hycap : y + 1 ≤ cap := by omega
            go_wp2_with fail
            refine Calls.mono R.out ?_
            rintro e w2 ⟨rfl, hc2, b2⟩
            have HB2 : Hid (Below w.heap.size w w2) := HB.out.trans b2
            have hconv := conv_row (W := w2) (cap := cap) 63 Tryd.underlying63 Tryd.underlying5 Tryd.underlying9 HZl.out HBd.out hc2
            rw [HTT2.out] at hconv
            clear hc2 b2 hc R
            go_wp2
            go_ret
            exact ⟨rfl, HB2.out⟩
      · have hp : 0 < (dgs gk).length := by rw [dgs_pos h0]; simp
        have hgl : (dgs gk).length ≤ 1024 := Nat.le_trans (dgs_len_le (by rw [hm]; exact Nat.div_le_self _ _)) HN.out.1
        have C2 : Hid (Calls Tryd.prog 67 #[.slice r (dgs gk).length cr, .int .i64 10000] wr fun e w' => ∃ r2 c2, e = .returned (.tuple #[.slice r2 (dgs (gk / 10000)).length c2, .int .i64 ((gk % 10000 : Nat) : Int)]) ∧ OwnI w' wr.heap.size r2 c2 (dgs (gk / 10000)) ∧ Below wr.heap.size wr w') := cut_any r cr gk 10000 wr hs (by omega) (by decide) (by decide)
        have hge : 10 ^ (4 * t) ≤ n := by
          rcases Nat.lt_or_ge n (10 ^ (4 * t)) with h | h
          · rw [Nat.div_eq_of_lt h] at hm
            exact absurd hm h0
          · exact h
        have ht3 : t ≤ 1300 := by
          have := pow_lt_inv (Nat.lt_of_le_of_lt hge (nd_lt n))
          have := HN.out.2.2
          omega
        have HR : Hid (gk / 10000 = n / 10 ^ (4 * (t + 1)) ∧ 10 ^ (4 * t) ≤ n ∧ gk / 10000 < gk) := ⟨by rw [hm]; exact div_four n t, hge, by omega⟩
        have HM : Hid (∀ j, j < 4 → low (4 * t + (j + 1)) n = low (4 * t + j) n ++ [48 + ((gk % 10000 / 10 ^ j % 10 : Nat) : Int)]) := fun j hj => by rw [hm]; exact low_more n t j hj
        have hdl := Nat.mod_lt gk (show 0 < 10000 by decide)
        obtain ⟨q, hq⟩ : ∃ q, q = gk / 10000 := ⟨_, rfl⟩
        rw [← hq] at C2 HR
        obtain ⟨d, hd⟩ : ∃ d, d = gk % 10000 := ⟨_, rfl⟩
        rw [← hd] at C2 hdl HM
        obtain ⟨Q, hQ⟩ : ∃ Q, Q = dgs q := ⟨_, rfl⟩
        rw [← hQ] at C2
        have HQ : Hid (Q = dgs q) := hQ
        obtain ⟨U, hU⟩ : ∃ U, U = dgs gk := ⟨_, rfl⟩
        rw [← hU] at C2 hp ⊢
        have hpI : (0 : Int) < (U.length : Int) := by omega
        have HW : Hid (wr.ownsRow w.heap.size 5 1 _ (4 * t) ((low (4 * t) n).map (Value.int .u8)) ∧ Below w.heap.size w wr) := ⟨hown, hb⟩
        clear hq hd hQ hU hge hm hgl hs hj hb hown
        go_wp2_with fail
        refine Calls.mono C2.out ?_
        rintro e w2 ⟨r2, c2, rfl, o2, b2⟩
        have hown2 := World.ownsRow.kept (w' := w2) (row := none) HW.out.1 ⟨b2.os, b2.tape, b2.output, b2.size, fun k hk _ => b2.block k hk⟩ (by
          cases e : Value.ownBlock _ with
          | none => exact .inl rfl
          | some k => exact .inr (by simp))
        have hB2 : Below w.heap.size w w2 := HW.out.2.trans (b2.mono HW.out.2.size)
        have hltB := ownBlock_lt HW.out.1
        have H1 : Hid (w2.ownsRow w.heap.size 5 1 _ (4 * t + 0) ((low (4 * t + 0) n).map (Value.int .u8)) ∧ OwnI w2 wr.heap.size r2 c2 Q ∧ (∀ k, Value.ownBlock _ = some k → k < wr.heap.size) ∧ Below w.heap.size w w2) := ⟨hown2, o2, hltB, hB2⟩
        clear hown2 o2 hltB hB2 b2 C2 HW
        go_wp2_with fail
        go_loopw [3, 5, 15] (fun v c i wq => ∃ j : Nat, j ≤ 4 ∧ i = .int .i64 (j : Int) ∧ c = .int .i64 ((d / 10 ^ j : Nat) : Int) ∧ wq.ownsRow w.heap.size 5 1 v (4 * t + j) ((low (4 * t + j) n).map (Value.int .u8)) ∧ OwnI wq wr.heap.size r2 c2 Q ∧ Below w.heap.size w wq) (fun _ _ i _ => (4 - intOf i).toNat)
        case atStart => exact ⟨0, by omega, rfl, by simp, H1.out.1, H1.out.2.1, H1.out.2.2.2⟩
        case round =>
          obtain ⟨j, hj4, rfl, rfl, hown, ho, hb⟩ := hrel
          by_cases hlt : j < 4
          · have hnew := HM.out j hlt
            have hcj1 : d / 10 ^ j < 10000 := Nat.lt_of_le_of_lt (Nat.div_le_self _ _) hdl
            obtain ⟨c, hc⟩ : ∃ c, c = d / 10 ^ j := ⟨_, rfl⟩
            rw [← hc] at hnew hcj1 ⊢
            have HNX : Hid (low (4 * t + (j + 1)) n = low (4 * t + j) n ++ [48 + ((c % 10 : Nat) : Int)] ∧ c / 10 = d / 10 ^ (j + 1)) := ⟨hnew, by rw [hc]; exact div_pow_succ d j⟩
            have hltI : (j : Int) < 4 := by omega
            clear hnew hc
            have HO1 : Hid (OwnI wr _ r2 c2 Q ∧ wr.ownsRow w.heap.size 5 1 _ (4 * t + j) ((low (4 * t + j) n).map (Value.int .u8)) ∧ Below w.heap.size w wr) := ⟨ho, hown, hb⟩
            clear ho hb
            go_wp2_with (at_builtin; refine wpList_append_own _ rfl _ _ 63 rfl w.heap.size 5 i0 (.int .u8 0) 1 1 Tryd.underlying63 hi hz0 hz1 hz2 rfl (by decide) _ _ _ rfl (hown.alloc _) ⟨wr.heap.size, 0, none⟩ 1 1 [.int .u8 (48 + (c : Int) % 10)] rfl rfl (cell_one_new _ _ _) (by simp [Value.oneCell']) ?c3 ?c4 ?c5 ?_)
            case c3 => unfold maxLen; omega
            case c4 => omega
            case c5 => have := HO1.out.2.2.size; simp; omega
            intro v' w3 hown3 hgrow3 _
            have HB3 : Hid (Below w.heap.size w w3) := below_append HO1.out.2.2 (Nat.le_refl _) hown hgrow3
            have o3 : OwnI w3 _ r2 c2 Q := (HO1.out.1.kept (World.grownBy_alloc _ _ none) (fun _ _ e => by cases e)).kept hgrow3 (fun g hg e => row_apart hown HO1.out.1 e (by rw [hg]; rfl))
            have HO3 : Hid (OwnI w3 _ r2 c2 Q ∧ w3.ownsRow w.heap.size 5 1 v' (4 * t + (j + 1)) ((low (4 * t + (j + 1)) n).map (Value.int .u8))) := ⟨o3, by
              rw [HNX.out.1, List.map_append]
              exact hown3⟩
            clear hown hown3 hgrow3 o3 HO1
            go_wp2
            go_roundw
            case rel => exact ⟨j + 1, by omega, by simp, by rw [← HNX.out.2]; simp, HO3.out.2, HO3.out.1, HB3.out⟩
            case measure => simp [intOf]; omega
          · have hj : j = 4 := by omega
            subst hj
            have HO1 : Hid (OwnI wr _ r2 c2 Q ∧ wr.ownsRow w.heap.size 5 1 _ (4 * (t + 1)) ((low (4 * (t + 1)) n).map (Value.int .u8)) ∧ Below w.heap.size w wr) := ⟨ho, hown, hb⟩
            clear ho hown hb
            go_wp2
            go_roundg q
            case measure => exact HR.out.2.2
            case rel =>
              obtain ⟨e1, e2, e3⟩ := HR.out
              obtain ⟨k1, k2, k3⟩ := HO1.out
              exact ⟨t + 1, r2, c2, by rw [HQ.out], e1, k2, by rw [← HQ.out]; exact k1.sl, .inr (by rw [Nat.add_sub_cancel]; exact e2), by omega, k3⟩
end Go.Proofs.YthokphoojmpajahDoor
