/- The contract of impl.digits.text: a number in decimals. -/
import Derived.Test.YthkdgihkkangfaaDoorSpecText
import Derived.Test.YthkdgihkkangfaaDoorRev8
import Derived.Test.YthkdgihkkangfaaDoorCut
import Derived.Deep.LoopGhost
namespace Go.Proofs.YthkdgihkkangfaaDoor
open Go.RowKit Go.Proofs.Pin

theorem low_more (n t j : Nat) (hj : j < 4) : low (4 * t + (j + 1)) n = low (4 * t + j) n ++ [48 + ((n / 10 ^ (4 * t) % 10000 / 10 ^ j % 10 : Nat) : Int)] := by
  rw [← Nat.add_assoc]
  show low (4 * t + j) n ++ [48 + ((n / 10 ^ (4 * t + j) % 10 : Nat) : Int)] = _
  rw [Nat.pow_add, ← Nat.div_div_eq_div_mul]
  obtain ⟨g, hg⟩ : ∃ g, g = n / 10 ^ (4 * t) := ⟨_, rfl⟩
  rw [← hg]
  congr 4
  have h : j = 0 ∨ j = 1 ∨ j = 2 ∨ j = 3 := by omega
  rcases h with rfl | rfl | rfl | rfl <;> simp <;> omega
theorem div_four (n t : Nat) : n / 10 ^ (4 * t) / 10000 = n / 10 ^ (4 * (t + 1)) := by
  rw [Nat.div_div_eq_div_mul]
  congr 1
  rw [Nat.mul_add, Nat.pow_add]
theorem top_zero {n z : Nat} (h1 : n < 10 ^ (z + 1)) : n / 10 ^ z % 10 = 0 ↔ n < 10 ^ z := by
  have hp : 0 < 10 ^ z := Nat.pow_pos (by decide)
  have h2 : n / 10 ^ z < 10 := by
    rw [Nat.div_lt_iff_lt_mul hp]
    rw [Nat.pow_succ, Nat.mul_comm] at h1
    exact h1
  rw [Nat.mod_eq_of_lt h2, Nat.div_eq_zero_iff]
  omega

/-- A row of bytes and a row of ints lie apart. -/
theorem row_apart {w : World} {base base2 n cap k : Nat} {v : Value} {xs : List Value} {r : Option Addr} {zs : List Int} (h : w.ownsRow base 5 1 v n xs) (h2 : OwnI w base2 r cap zs) (h3 : v.ownBlock = some k) (h4 : r.map (·.block) = some k) : False := by
  rcases h.2 with ⟨rfl, _⟩ | ⟨g, c1, cur, rfl, _, hg, _⟩
  · cases h3
  · cases h3
    rcases h2.2 with ⟨e, _⟩ | ⟨g', c2, cur', e, _, hg', _⟩
    · injection e with e1 _ _
      subst e1
      cases h4
    · injection e with e1 _ _
      subst e1
      cases h4
      have e2 : some (Obj.cells cur 5 (0, 0)) = some (Obj.cells cur' 3 (0, 0)) := hg.symm.trans hg'
      injection e2 with e3
      injection e3 with _ e4 _
      exact absurd e4 (by decide)

set_option maxRecDepth 20000 in
set_option maxHeartbeats 3200000 in
theorem dText_any (a : Option Addr) (ca : Nat) (n : Nat) (w : World) (ha : Sl w a (dgs n)) (hn : (dgs n).length ≤ 1024) :
    Calls Tryd.prog 41 #[.slice a (dgs n).length ca] w fun e w' => e = .returned (.string (txt n)) ∧ Below w.heap.size w w' := by
  obtain ⟨i0, hi, hz0, hz1, hz2⟩ := info_parts Tryd.info5
  by_cases h0 : n = 0
  · subst h0
    rw [txt_zero, dgs_zero]
    clear ha hn
    go_enter Tryd.func41, Tryd.ntmps41
    go_wp2
    refine wp_loop_rounds 1 ?_
    rw [rounds_succ]
    go_wp2
    refine wp_loop_rounds 1 ?_
    rw [rounds_succ]
    go_wp2
    go_ret
    exact ⟨rfl, Below.refl _ _⟩
  · have hL := nd_len hn
    have H0 : Hid (∃ (t : Nat) (r : Option Addr) (cr : Nat), Value.slice a (dgs n).length ca = .slice r (dgs n).length cr ∧ n = n / 10 ^ (4 * t) ∧ w.ownsRow w.heap.size 5 1 (.slice none 0 0) (4 * t) ((low (4 * t) n).map (Value.int .u8)) ∧ Sl w r (dgs n) ∧ (t = 0 ∨ 10 ^ (4 * (t - 1)) ≤ n) ∧ t ≤ 5000 ∧ Below w.heap.size w w) := ⟨0, a, ca, rfl, by simp, World.ownsRow_nil _ _ _ _, ha, .inl rfl, by omega, Below.refl _ _⟩
    have HT : Hid (txt n = ⟨((low (nd n) n).reverse.map bt).toArray⟩) := txt_pos h0
    have HN : Hid ((dgs n).length ≤ 1024 ∧ n ≠ 0 ∧ nd n ≤ 5120) := ⟨hn, h0, hL⟩
    obtain ⟨T, hT⟩ : ∃ T, T = txt n := ⟨_, rfl⟩
    have HTT : Hid (T = txt n) := hT
    rw [← hT]
    obtain ⟨X, hX⟩ : ∃ X, X = dgs n := ⟨_, rfl⟩
    rw [← hX] at H0 ⊢
    have HX : Hid (X = dgs n) := hX
    clear ha hn h0 hT hX hL
    go_enter Tryd.func41, Tryd.ntmps41
    go_wp2
    go_loopg [0, 3] n (fun m d v wr => ∃ (t : Nat) (r : Option Addr) (cr : Nat), d = .slice r (dgs m).length cr ∧ m = n / 10 ^ (4 * t) ∧ wr.ownsRow w.heap.size 5 1 v (4 * t) ((low (4 * t) n).map (Value.int .u8)) ∧ Sl wr r (dgs m) ∧ (t = 0 ∨ 10 ^ (4 * (t - 1)) ≤ n) ∧ t ≤ 5000 ∧ Below w.heap.size w wr)
    case atStart =>
      have h := H0.out
      rw [HX.out] at h ⊢
      exact h
    case round =>
      obtain ⟨t, r, cr, rfl, hm, hown, hs, hj, hj2, hb⟩ := hrel
      clear H0
      by_cases h0 : gk = 0
      · subst h0
        have hlt : n < 10 ^ (4 * t) := Nat.lt_of_div_eq_zero (Nat.pow_pos (by decide)) hm.symm
        have ht0 : 0 < 4 * t := by
          rcases Nat.eq_zero_or_pos t with h | h
          · subst h
            have := HN.out.2.1
            simp at hlt
            omega
          · omega
        obtain ⟨g, cap, rfl, hlen, hg0, hg1, hcap, hcells⟩ := row_some hown ht0
        have HF : Hid (∀ i, wr.frozen? ⟨g, i, none⟩ = false) := fun i => hown.frozenAt i
        have HB : Hid (Below w.heap.size w wr) := hb
        obtain ⟨K, hK⟩ : ∃ K, K = 4 * t := ⟨_, rfl⟩
        rw [← hK] at hlt ht0 hlen hcap hcells ⊢
        have HC : Hid (∀ i, i < K → wr.cell? ⟨g, i, none⟩ = some (.int .u8 (48 + ((n / 10 ^ i % 10 : Nat) : Int)))) := fun i hi => by rw [hcells i hi, low_get (by omega)]
        have HK : Hid (n < 10 ^ K) := hlt
        have hK5 : K ≤ 20000 := by omega
        clear hK hlt hown hcells hlen hs hj hj2 hb hm
        rw [dgs_zero, List.length_nil]
        go_wp2_with fail
        go_loopw [6] (fun s wq => ∃ z : Nat, z ≤ K ∧ n < 10 ^ z ∧ s = .int .i64 (z : Int) ∧ wq = wr) (fun s _ => (intOf s).toNat)
        case atStart => exact ⟨K, Nat.le_refl _, HK.out, rfl, rfl⟩
        case round =>
          obtain ⟨z, hzK, hzn, rfl, rfl⟩ := hrel
          have hz0 : z ≠ 0 := by
            intro e
            subst e
            have := HN.out.2.1
            simp at hzn
            omega
          obtain ⟨y, rfl⟩ : ∃ y, z = y + 1 := ⟨z - 1, by omega⟩
          have hc := HC.out y (by omega)
          obtain ⟨c, hce⟩ : ∃ c, c = n / 10 ^ y % 10 := ⟨_, rfl⟩
          rw [← hce] at hc
          have hyI : (((y + 1 : Nat) : Int)) - 1 = (y : Int) := by omega
          have hyp : (0 : Int) < ((y + 1 : Nat) : Int) := by omega
          have hyK : y < K := by omega
          by_cases hc0 : c = 0
          · have HZ : Hid (n < 10 ^ y) := (top_zero hzn).1 (by rw [← hce]; exact hc0)
            have hcb : ((48 + (c : Int)) == 48) = true := by rw [hc0]; rfl
            clear hce hzn hc0
            go_wp2
            go_roundw
            case rel => exact ⟨y, by omega, HZ.out, by first | rfl | (congr 1; omega), by trivial⟩
            case measure => simp [intOf]
          · have hcb : ((48 + (c : Int)) == 48) = false := by rw [beq_eq_false_iff_ne]; omega
            have hnd : y + 1 = nd n := nd_eq hzn (.inr (by
              rw [Nat.add_sub_cancel]
              rcases Nat.lt_or_ge n (10 ^ y) with h | h
              · exact absurd (by rw [hce]; exact (top_zero hzn).2 h) hc0
              · exact h))
            have hlen2 : (low (nd n) n).length = nd n := low_len _ _
            have R : Hid _ := reverse8_any w.heap.size g cap (nd n) (low (nd n) n) wr hlen2 hg0 (by have := HN.out.2.2; omega) (fun i hi => by rw [HC.out i (by omega), low_get hi]) (fun i _ => HF.out i)
            rw [← hnd] at R
            have HBd : Hid (∀ i, i < y + 1 → 0 ≤ (low (nd n) n).reverse.getD i 0 ∧ (low (nd n) n).reverse.getD i 0 < 256) := fun i hi => by
              have h1 : (low (nd n) n).reverse.getD i 0 = (low (nd n) n).getD (nd n - 1 - i) 0 := by
                rw [List.getD_eq_getElem?_getD, List.getD_eq_getElem?_getD, List.getElem?_reverse (by omega), hlen2]
              rw [h1]
              have := low_bd (n := n) (show nd n - 1 - i < nd n by omega)
              omega
            obtain ⟨Z, hZ⟩ : ∃ Z, Z = low (nd n) n := ⟨_, rfl⟩
            have HZl : Hid (Z.reverse.length = y + 1) := by
              show Z.reverse.length = y + 1
              rw [List.length_reverse, hZ, hlen2, hnd]
            have HTT2 : Hid ((⟨(Z.reverse.map bt).toArray⟩ : ByteArray) = T) := by
              show _ = _
              rw [HTT.out, HT.out, hZ]
            rw [hnd, ← hZ] at R
            rw [← hnd] at R
            rw [← hZ] at HBd
            clear hce hzn hc0 hnd hlen2 hZ HF
            have hyne : (((y + 1 : Nat) : Int) == 0) = false := by rw [beq_eq_false_iff_ne]; omega
            have hycap : y + 1 ≤ cap := by omega
            go_wp2_with fail
            refine Calls.mono R.out ?_
            rintro e w2 ⟨rfl, hc2, b2⟩
            have HB2 : Hid (Below w.heap.size w w2) := HB.out.trans b2
            have hconv := conv_row (W := w2) (cap := cap) 63 Tryd.underlying63 Tryd.underlying5 Tryd.underlying9 HZl.out HBd.out hc2
            rw [HTT2.out] at hconv
            clear hc2 b2 hc R
            go_wp2
            go_ret
            exact ⟨rfl, HB2.out⟩
      · have hp : 0 < (dgs gk).length := by rw [dgs_pos h0]; simp
        have hgl : (dgs gk).length ≤ 1024 := Nat.le_trans (dgs_len_le (by rw [hm]; exact Nat.div_le_self _ _)) HN.out.1
        have C2 : Hid (Calls Tryd.prog 67 #[.slice r (dgs gk).length cr, .int .i64 10000] wr fun e w' => ∃ r2 c2, e = .returned (.tuple #[.slice r2 (dgs (gk / 10000)).length c2, .int .i64 ((gk % 10000 : Nat) : Int)]) ∧ OwnI w' wr.heap.size r2 c2 (dgs (gk / 10000)) ∧ Below wr.heap.size wr w') := cut_any r cr gk 10000 wr hs (by omega) (by decide) (by decide)
        have hge : 10 ^ (4 * t) ≤ n := by
          rcases Nat.lt_or_ge n (10 ^ (4 * t)) with h | h
          · rw [Nat.div_eq_of_lt h] at hm
            exact absurd hm h0
          · exact h
        have ht3 : t ≤ 1300 := by
          have := pow_lt_inv (Nat.lt_of_le_of_lt hge (nd_lt n))
          have := HN.out.2.2
          omega
        have HR : Hid (gk / 10000 = n / 10 ^ (4 * (t + 1)) ∧ 10 ^ (4 * t) ≤ n ∧ gk / 10000 < gk) := ⟨by rw [hm]; exact div_four n t, hge, by omega⟩
        have HM : Hid (∀ j, j < 4 → low (4 * t + (j + 1)) n = low (4 * t + j) n ++ [48 + ((gk % 10000 / 10 ^ j % 10 : Nat) : Int)]) := fun j hj => by rw [hm]; exact low_more n t j hj
        have hdl := Nat.mod_lt gk (show 0 < 10000 by decide)
        obtain ⟨q, hq⟩ : ∃ q, q = gk / 10000 := ⟨_, rfl⟩
        rw [← hq] at C2 HR
        obtain ⟨d, hd⟩ : ∃ d, d = gk % 10000 := ⟨_, rfl⟩
        rw [← hd] at C2 hdl HM
        obtain ⟨Q, hQ⟩ : ∃ Q, Q = dgs q := ⟨_, rfl⟩
        rw [← hQ] at C2
        have HQ : Hid (Q = dgs q) := hQ
        obtain ⟨U, hU⟩ : ∃ U, U = dgs gk := ⟨_, rfl⟩
        rw [← hU] at C2 hp ⊢
        have hpI : (0 : Int) < (U.length : Int) := by omega
        have HW : Hid (wr.ownsRow w.heap.size 5 1 _ (4 * t) ((low (4 * t) n).map (Value.int .u8)) ∧ Below w.heap.size w wr) := ⟨hown, hb⟩
        clear hq hd hQ hU hge hm hgl hs hj hb hown
        go_wp2_with fail
        refine Calls.mono C2.out ?_
        rintro e w2 ⟨r2, c2, rfl, o2, b2⟩
        have hown2 := World.ownsRow.kept (w' := w2) (row := none) HW.out.1 ⟨b2.os, b2.tape, b2.output, b2.size, fun k hk _ => b2.block k hk⟩ (by
          cases e : Value.ownBlock _ with
          | none => exact .inl rfl
          | some k => exact .inr (by simp))
        have hB2 : Below w.heap.size w w2 := HW.out.2.trans (b2.mono HW.out.2.size)
        have hltB := ownBlock_lt HW.out.1
        have H1 : Hid (w2.ownsRow w.heap.size 5 1 _ (4 * t + 0) ((low (4 * t + 0) n).map (Value.int .u8)) ∧ OwnI w2 wr.heap.size r2 c2 Q ∧ (∀ k, Value.ownBlock _ = some k → k < wr.heap.size) ∧ Below w.heap.size w w2) := ⟨hown2, o2, hltB, hB2⟩
        clear hown2 o2 hltB hB2 b2 C2 HW
        go_wp2_with fail
        go_loopw [3, 5, 15] (fun v c i wq => ∃ j : Nat, j ≤ 4 ∧ i = .int .i64 (j : Int) ∧ c = .int .i64 ((d / 10 ^ j : Nat) : Int) ∧ wq.ownsRow w.heap.size 5 1 v (4 * t + j) ((low (4 * t + j) n).map (Value.int .u8)) ∧ OwnI wq wr.heap.size r2 c2 Q ∧ Below w.heap.size w wq) (fun _ _ i _ => (4 - intOf i).toNat)
        case atStart => exact ⟨0, by omega, rfl, by simp, H1.out.1, H1.out.2.1, H1.out.2.2.2⟩
        case round =>
          obtain ⟨j, hj4, rfl, rfl, hown, ho, hb⟩ := hrel
          by_cases hlt : j < 4
          · have hnew := HM.out j hlt
            have hcj1 : d / 10 ^ j < 10000 := Nat.lt_of_le_of_lt (Nat.div_le_self _ _) hdl
            obtain ⟨c, hc⟩ : ∃ c, c = d / 10 ^ j := ⟨_, rfl⟩
            rw [← hc] at hnew hcj1 ⊢
            have HNX : Hid (low (4 * t + (j + 1)) n = low (4 * t + j) n ++ [48 + ((c % 10 : Nat) : Int)] ∧ c / 10 = d / 10 ^ (j + 1)) := ⟨hnew, by rw [hc]; exact div_pow_succ d j⟩
            have hltI : (j : Int) < 4 := by omega
            clear hnew hc
            have HO1 : Hid (OwnI wr _ r2 c2 Q ∧ wr.ownsRow w.heap.size 5 1 _ (4 * t + j) ((low (4 * t + j) n).map (Value.int .u8)) ∧ Below w.heap.size w wr) := ⟨ho, hown, hb⟩
            clear ho hb
            go_wp2_with (at_builtin; refine wpList_append_own _ rfl _ _ 63 rfl w.heap.size 5 i0 (.int .u8 0) 1 1 Tryd.underlying63 hi hz0 hz1 hz2 rfl (by decide) _ _ _ rfl (hown.alloc _) ⟨wr.heap.size, 0, none⟩ 1 1 [.int .u8 (48 + (c : Int) % 10)] rfl rfl (cell_one_new _ _ _) (by simp [Value.oneCell']) ?c3 ?c4 ?c5 ?_)
            case c3 => unfold maxLen; omega
            case c4 => omega
            case c5 => have := HO1.out.2.2.size; simp; omega
            intro v' w3 hown3 hgrow3 _
            have HB3 : Hid (Below w.heap.size w w3) := below_append HO1.out.2.2 (Nat.le_refl _) hown hgrow3
            have o3 : OwnI w3 _ r2 c2 Q := (HO1.out.1.kept (World.grownBy_alloc _ _ none) (fun _ _ e => by cases e)).kept hgrow3 (fun g hg e => row_apart hown HO1.out.1 e (by rw [hg]; rfl))
            have HO3 : Hid (OwnI w3 _ r2 c2 Q ∧ w3.ownsRow w.heap.size 5 1 v' (4 * t + (j + 1)) ((low (4 * t + (j + 1)) n).map (Value.int .u8))) := ⟨o3, by
              rw [HNX.out.1, List.map_append]
              exact hown3⟩
            clear hown hown3 hgrow3 o3 HO1
            go_wp2
            go_roundw
            case rel => exact ⟨j + 1, by omega, by simp, by rw [← HNX.out.2]; simp, HO3.out.2, HO3.out.1, HB3.out⟩
            case measure => simp [intOf]; omega
          · have hj : j = 4 := by omega
            subst hj
            have HO1 : Hid (OwnI wr _ r2 c2 Q ∧ wr.ownsRow w.heap.size 5 1 _ (4 * (t + 1)) ((low (4 * (t + 1)) n).map (Value.int .u8)) ∧ Below w.heap.size w wr) := ⟨ho, hown, hb⟩
            clear ho hown hb
            go_wp2
            go_roundg q
            case measure => exact HR.out.2.2
            case rel =>
              obtain ⟨e1, e2, e3⟩ := HR.out
              obtain ⟨k1, k2, k3⟩ := HO1.out
              exact ⟨t + 1, r2, c2, by rw [HQ.out], e1, k2, by rw [← HQ.out]; exact k1.sl, .inr (by rw [Nat.add_sub_cancel]; exact e2), by omega, k3⟩
end Go.Proofs.YthkdgihkkangfaaDoor
