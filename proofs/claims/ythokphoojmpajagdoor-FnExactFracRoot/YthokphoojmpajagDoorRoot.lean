/- The contract of impl.digits.root: the digits of the square root, down, by Newton's way from above. -/
import Derived.Test.YthokphoojmpajagDoorPow2
import Derived.Test.YthokphoojmpajagDoorRaised
import Derived.Test.YthokphoojmpajagDoorDivBy
import Derived.Test.YthokphoojmpajagDoorPlus
import Derived.Test.YthokphoojmpajagDoorCut
import Derived.Deep.LoopGhost
namespace Go.Proofs.YthokphoojmpajagDoor
open Go.RowKit Go.Proofs.Pin

theorem half_len {x : Nat} : (dgs (x / 2)).length ≤ (dgs x).length := dgs_len_le (Nat.div_le_self _ _)

set_option maxRecDepth 20000 in
set_option maxHeartbeats 3200000 in
theorem root_any (a : Option Addr) (ca : Nat) (x : Nat) (w : World) (ha : Sl w a (dgs x)) (hx : (dgs x).length ≤ 256) (hca : (dgs x).length ≤ ca) :
    Calls Tryd.prog 89 #[.slice a (dgs x).length ca] w fun e w' => ∃ r cr, e = .returned (.slice r (dgs (rt x)).length cr) ∧ OwnI w' w.heap.size r cr (dgs (rt x)) ∧ Below w.heap.size w w' := by
  by_cases h0 : x = 0
  · subst h0
    have e : dgs (rt 0) = [] := rfl
    rw [e, dgs_zero]
    clear e ha hx hca
    go_enter Tryd.func89, Tryd.ntmps89
    go_wp2
    go_ret
    exact ⟨none, 0, rfl, OwnI.nil _ _, Below.refl _ _⟩
  · have hpos := nz_len h0
    obtain ⟨hb1, hb2, hb3⟩ := bits_lt (x := x)
    obtain ⟨B, hB⟩ : ∃ B : Nat, bitsOf (dgs x) = (B : Int) := ⟨(bitsOf (dgs x)).toNat, by omega⟩
    have hB4 : B ≤ 4096 := by omega
    have CB : Hid (Calls Tryd.prog 99 #[.slice a (dgs x).length ca] w fun e w' => e = .returned (.int .i64 (B : Int)) ∧ w = w') := by
      have h := bitCount_any a ca (dgs x) w ha hx (fun i hi => by have := (Dg_dgs x).at i; exact dig_yes this.1 this.2)
      rw [hB] at h
      exact h.mono fun e w' h => ⟨h.1, h.2.symm⟩
    have hst : x < 2 ^ ((B + 1) / 2) * 2 ^ ((B + 1) / 2) := half_sq (by rw [hB, Int.toNat_natCast]; omega)
    obtain ⟨K, hK⟩ : ∃ K, K = (B + 1) / 2 := ⟨_, rfl⟩
    have hKI : ((B : Int) + 1) / 2 = (K : Int) := by omega
    have hK2 : K ≤ 2048 := by omega
    rw [← hK] at hst
    have hgl : (dgs (2 ^ K)).length ≤ 300 := Nat.le_trans (pow_len K) (by omega)
    have d1 : dgs 1 = [1] := dgs_one (by decide) (by decide)
    obtain ⟨W, hW⟩ : ∃ W, W = w.alloc (.cells #[.int .i64 1] 3) := ⟨_, rfl⟩
    have B0 : Below w.heap.size w W := by rw [hW]; exact (Below.refl _ w).alloc (Nat.le_refl _) _
    have hs : Sl W (some ⟨w.heap.size, 0, none⟩) (dgs 1) := by
      rw [d1, hW]
      exact (own_of_block (base := w.heap.size) (zs := [(1 : Int)]) (World.alloc_heap_new w _) (Nat.le_refl _) (by simp [maxLen])).sl
    have hf := pow16_lt K
    have CR : Hid (Calls Tryd.prog 100 #[.slice (some ⟨w.heap.size, 0, none⟩) 1 1, .int .i64 ((K : Int) / 16), .int .i64 (wrap64 ((2 : Int) ^ (K % 16)))] W fun e w' => ∃ r cr, e = .returned (.slice r (dgs (2 ^ K)).length cr) ∧ OwnI w' w.heap.size r cr (dgs (2 ^ K)) ∧ Below w.heap.size w w') := by
      have h := raised_any (some ⟨w.heap.size, 0, none⟩) 1 1 (K / 16) ((2 ^ (K % 16) : Nat) : Int) W hs (by decide) (by rw [d1]; decide) (by have := Nat.two_pow_pos (K % 16); omega) (by omega) (by omega)
      rw [Int.toNat_natCast, Nat.one_mul, pow2_split, show (dgs 1).length = 1 by rw [d1]; rfl, ← wrap_pow, show ((K / 16 : Nat) : Int) = (K : Int) / 16 by omega] at h
      exact h.mono fun e w' ⟨r, cr, h1, h2, h3⟩ => ⟨r, cr, h1, h2.mono B0.size, B0.trans (h3.mono B0.size)⟩
    have HRP : Hid (rt x ≠ 0) := rt_pos h0
    have HX : Hid ((dgs x).length ≤ 256 ∧ (dgs x).length ≤ ca) := ⟨hx, hca⟩
    have HA : Hid (∀ W, Below w.heap.size w W → Sl W a (dgs x)) := fun W h => ha.keep h
    obtain ⟨G, hG⟩ : ∃ G, G = 2 ^ K := ⟨_, rfl⟩
    rw [← hG] at CR hst hgl
    have HG : Hid (rt x ≤ G ∧ G ≠ 0 ∧ (dgs G).length ≤ 300) := ⟨Nat.le_of_lt (rt_lt hst), by rw [hG]; exact Nat.ne_of_gt (Nat.two_pow_pos _), hgl⟩
    obtain ⟨Z, hZ⟩ : ∃ Z, Z = dgs x := ⟨_, rfl⟩
    have HZ : Hid (Z = dgs x) := hZ
    rw [← hZ] at CB HA hpos ⊢
    obtain ⟨R, hR⟩ : ∃ R, R = dgs (rt x) := ⟨_, rfl⟩
    have HR : Hid (R = dgs (rt x)) := hR
    rw [← hR]
    obtain ⟨DG, hDG⟩ : ∃ DG, DG = dgs G := ⟨_, rfl⟩
    rw [← hDG] at CR
    have HDG : Hid (DG = dgs G) := hDG
    have hn0 : ((Z.length : Int) == 0) = false := by rw [beq_eq_false_iff_ne]; omega
    clear hb1 hb2 hb3 hB hst hK ha hx hca hZ hR d1 hs hf hG hgl hDG hpos h0 B0
    go_enter Tryd.func89, Tryd.ntmps89
    go_wp2_with fail
    refine Calls.mono CB.out ?_
    rintro e w1 ⟨rfl, rfl⟩
    go_wp2_with fail
    rw [← hW]
    clear hW hKI
    refine Calls.mono CR.out ?_
    rintro e w2 ⟨r2, c2, rfl, o2, b2⟩
    have H0 : Hid (∃ (a' : Option Addr) (ca' : Nat), Value.slice r2 DG.length c2 = .slice a' (dgs G).length ca' ∧ OwnI w2 w.heap.size a' ca' (dgs G) ∧ rt x ≤ G ∧ G ≠ 0 ∧ (dgs G).length ≤ 300 ∧ Below w.heap.size w w2) := ⟨r2, c2, by rw [HDG.out], by rw [← HDG.out]; exact o2, HG.out.1, HG.out.2.1, HG.out.2.2, b2⟩
    clear o2 b2 CB CR
    go_wp2_with fail
    go_loopg [4] G (fun k d wr => ∃ (a' : Option Addr) (ca' : Nat), d = .slice a' (dgs k).length ca' ∧ OwnI wr w.heap.size a' ca' (dgs k) ∧ rt x ≤ k ∧ k ≠ 0 ∧ (dgs k).length ≤ 300 ∧ Below w.heap.size w wr)
    case atStart => exact H0.out
    case round =>
      obtain ⟨a', ca', rfl, ho, hge, hk0, hkl, hbw⟩ := hrel
      have hql : (dgs (x / gk)).length ≤ 300 := Nat.le_trans (Nat.le_trans (dgs_len_le (Nat.div_le_self _ _)) HX.out.1) (by decide)
      have C1 : Hid (Calls Tryd.prog 75 #[.slice a Z.length ca, .slice a' (dgs gk).length ca'] wr fun e w' => ∃ r cr s cs, e = .returned (.tuple #[.slice r (dgs (x / gk)).length cr, .slice s (dgs (x % gk)).length cs]) ∧ OwnI w' wr.heap.size r cr (dgs (x / gk)) ∧ Below wr.heap.size wr w') := by
        have h := divBy_any a a' ca ca' x gk wr (by rw [← HZ.out]; exact HA.out _ hbw) ho.sl (Nat.le_trans HX.out.1 (by decide)) (by omega) hk0 HX.out.2
        rw [← HZ.out] at h
        exact h.mono fun e w' ⟨r, cr, s, cs, h1, h2, _, _, h3⟩ => ⟨r, cr, s, cs, h1, h2, h3⟩
      have C2 : Hid (∀ W b cb, Sl W a' (dgs gk) → Sl W b (dgs (x / gk)) → Calls Tryd.prog 76 #[.slice a' (dgs gk).length ca', .slice b (dgs (x / gk)).length cb] W fun e w' => ∃ r cr, e = .returned (.slice r (dgs (gk + x / gk)).length cr) ∧ OwnI w' W.heap.size r cr (dgs (gk + x / gk)) ∧ Below W.heap.size W w') := fun W b cb h1 h2 => plus_any a' b ca' cb gk (x / gk) W h1 h2 (by omega) (by omega)
      have hsl := sum_len hkl hql
      have C3 : Hid (∀ W b cb, Sl W b (dgs (gk + x / gk)) → Calls Tryd.prog 90 #[.slice b (dgs (gk + x / gk)).length cb, .int .i64 2] W fun e w' => ∃ r cr, e = .returned (.tuple #[.slice r (dgs ((gk + x / gk) / 2)).length cr, .int .i64 (((gk + x / gk) % 2 : Nat) : Int)]) ∧ OwnI w' W.heap.size r cr (dgs ((gk + x / gk) / 2)) ∧ Below W.heap.size W w') := fun W b cb h1 => cut_any b cb (gk + x / gk) 2 W h1 (by omega) (by decide) (by decide)
      have hnl : (dgs ((gk + x / gk) / 2)).length ≤ 301 := Nat.le_trans half_len hsl
      have C4 : Hid (∀ W b cb, Sl W b (dgs ((gk + x / gk) / 2)) → Sl W a' (dgs gk) → Calls Tryd.prog 81 #[.slice b (dgs ((gk + x / gk) / 2)).length cb, .slice a' (dgs gk).length ca'] W fun e w' => e = .returned (.int .i64 (sg (((gk + x / gk) / 2 : Nat) : Int) (gk : Int))) ∧ Below W.heap.size W w') := fun W b cb h1 h2 => by
        have h := cmp_any b a' cb ca' (dgs ((gk + x / gk) / 2)) (dgs gk) W h1 h2 (by omega)
        rw [cmp_dgs] at h
        exact h
      obtain ⟨N, hN⟩ : ∃ N, N = (gk + x / gk) / 2 := ⟨_, rfl⟩
      have hN1 := newton_ge hge hk0
      have hN2 : gk ≤ (gk + x / gk) / 2 → gk = rt x := newton_end hge
      rw [← hN] at C3 C4 hnl hN1 hN2
      obtain ⟨Q, hQ⟩ : ∃ Q, Q = dgs (x / gk) := ⟨_, rfl⟩
      rw [← hQ] at C1 C2
      obtain ⟨T, hT⟩ : ∃ T, T = dgs (gk + x / gk) := ⟨_, rfl⟩
      rw [← hT] at C2 C3
      obtain ⟨m, hm⟩ : ∃ m : Int, m = (((gk + x / gk) % 2 : Nat) : Int) := ⟨_, rfl⟩
      rw [← hm] at C3
      obtain ⟨m2, hm2⟩ : ∃ m2, m2 = dgs (x % gk) := ⟨_, rfl⟩
      rw [← hm2] at C1
      obtain ⟨DN, hDN⟩ : ∃ DN, DN = dgs N := ⟨_, rfl⟩
      rw [← hDN] at C3 C4 hnl
      obtain ⟨c, hc⟩ : ∃ c, c = sg ((N : Nat) : Int) (gk : Int) := ⟨_, rfl⟩
      rw [← hc] at C4
      obtain ⟨U, hU⟩ : ∃ U, U = dgs gk := ⟨_, rfl⟩
      rw [← hU] at C1 C2 C4 ho hkl ⊢
      have HU : Hid (U = dgs gk ∧ DN = dgs N ∧ rt x ≤ N) := ⟨hU, hDN, hN1⟩
      have HO : Hid (OwnI wr w.heap.size a' ca' U ∧ Below w.heap.size w wr) := ⟨ho, hbw⟩
      have hcase : (0 ≤ c ∧ R = dgs gk) ∨ (c < 0 ∧ N < gk) := by
        rcases Nat.lt_or_ge N gk with h | h
        · right
          exact ⟨by rw [hc, sg_lt (by omega)]; decide, h⟩
        · left
          refine ⟨?_, by rw [HR.out, ← hN2 h]⟩
          rcases Nat.lt_or_eq_of_le h with h1 | h1
          · rw [hc, sg_gt (by omega)]; decide
          · rw [hc, sg_eq (by omega)]; decide
      have hkl' : Hid (U.length ≤ 300) := hkl
      clear hN hN1 hN2 hQ hT hm hm2 hDN hc hU hge hk0 hkl hbw ho hql hsl hnl H0
      rcases hcase with ⟨hc, hle⟩ | ⟨hc, hle⟩
      · have HE : Hid (R = dgs gk) := hle
        clear hle
        go_wp2_with fail
        refine Calls.mono C1.out ?_
        rintro e w3 ⟨r3, c3, s3, d3, rfl, o3, b3⟩
        go_wp2_with fail
        refine Calls.mono (C2.out _ _ _ (HO.out.1.sl.keep b3) o3.sl) ?_
        rintro e w4 ⟨r4, c4, rfl, o4, b4⟩
        have b34 := b3.trans (b4.mono b3.size)
        clear o3 b3 b4
        go_wp2_with fail
        refine Calls.mono (C3.out _ _ _ o4.sl) ?_
        rintro e w5 ⟨r5, c5, rfl, o5, b5⟩
        have b35 := b34.trans (b5.mono b34.size)
        clear o4 b5 b34
        go_wp2_with fail
        refine Calls.mono (C4.out _ _ _ o5.sl (HO.out.1.sl.keep b35)) ?_
        rintro e w6 ⟨rfl, b6⟩
        have b36 := b35.trans (b6.mono b35.size)
        have HF : Hid (OwnI w6 w.heap.size a' ca' U ∧ Below w.heap.size w w6) := ⟨HO.out.1.keep b36, HO.out.2.trans (b36.mono HO.out.2.size)⟩
        clear o5 b6 b35 b36 C1 C2 C3 C4
        go_wp2
        go_ret
        exact ⟨a', ca', by rw [HE.out, ← HU.out.1]; rfl, by rw [HE.out, ← HU.out.1]; exact HF.out.1, HF.out.2⟩
      · have HE : Hid (N < gk) := hle
        clear hle
        go_wp2_with fail
        refine Calls.mono C1.out ?_
        rintro e w3 ⟨r3, c3, s3, d3, rfl, o3, b3⟩
        go_wp2_with fail
        refine Calls.mono (C2.out _ _ _ (HO.out.1.sl.keep b3) o3.sl) ?_
        rintro e w4 ⟨r4, c4, rfl, o4, b4⟩
        have b34 := b3.trans (b4.mono b3.size)
        clear o3 b3 b4
        go_wp2_with fail
        refine Calls.mono (C3.out _ _ _ o4.sl) ?_
        rintro e w5 ⟨r5, c5, rfl, o5, b5⟩
        have b35 := b34.trans (b5.mono b34.size)
        have o5' := (o5.mono b34.size).mono HO.out.2.size
        clear o4 b5 b34
        go_wp2_with fail
        refine Calls.mono (C4.out _ _ _ o5.sl (HO.out.1.sl.keep b35)) ?_
        rintro e w6 ⟨rfl, b6⟩
        have b36 := b35.trans (b6.mono b35.size)
        have HF : Hid (OwnI w6 w.heap.size r5 c5 DN ∧ Below w.heap.size w w6) := ⟨o5'.keep b6, HO.out.2.trans (b36.mono HO.out.2.size)⟩
        clear o5 o5' b6 b35 b36 C1 C2 C3 C4
        go_wp2
        go_roundg N
        case measure => exact HE.out
        case rel =>
          obtain ⟨h1, h2, h3⟩ := HU.out
          have hr := HRP.out
          have hl : (dgs N).length ≤ 300 := Nat.le_trans (dgs_len_le (Nat.le_of_lt HE.out)) (by rw [← h1]; exact hkl'.out)
          exact ⟨r5, c5, by rw [h2], by rw [← h2]; exact HF.out.1, h3, by omega, hl, HF.out.2⟩
end Go.Proofs.YthokphoojmpajagDoor
