/- The contract of impl.digits.raised: a number times a factor of one digit, with noughts put below. The contract of impl.digits.root: the digits of the square root, down, by Newton's way from above. The contracts of spec.NatRoot and impl.NatRoot: the root, whether it is exact, and whether there is one. The contracts of impl.FracRoot and spec.FracRoot. -/
import Derived.Test.YthokphoojmpajabGreatDoorGRd
import Derived.Test.YthokphoojmpajabGreatDoorGNum
import Derived.Deep.RegionLaw
import Derived.Deep.AppendLies
import Derived.Test.YthokphoojmpajabGreatDoorDivBy
import Derived.Test.YthokphoojmpajabGreatDoorGAr
import Derived.Test.YthokphoojmpajabGreatDoorGCut
import Derived.Deep.LoopGhost
import Derived.Test.YthokphoojmpajabGreatDoorGMark
import Derived.Test.YthokphoojmpajabGreatDoorTimes
import Derived.Test.YthokphoojmpajabGreatDoorGRt
import Derived.Test.YthokphoojmpajabGreatDoorGFr8
import Derived.Test.YthokphoojmpajabGreatDoorGSp
namespace Go.Proofs.YthokphoojmpajabGreatDoor
open Go.RowKit Go.Proofs.Pin

theorem mk_run (n : Nat) (hn : n ≤ 30000) (w : World) : (Instr.makeSlice 44 (.int .i64 (n : Int)) (.int .i64 (n : Int))).run Tryz.prog w = .ok (.slice (some ⟨w.heap.size, 0, none⟩) n n) (w.alloc (.cells (Array.replicate n (Value.int .i64 0)) 3)) := by
  obtain ⟨i0, hi, hz0, hz1, hz2⟩ := info_parts Tryz.info3
  have h := run_make (P := Tryz.prog) w 44 3 i0 (.int .i64 0) Tryz.underlying44 hi hz0 .i64 .i64 (n : Int) (n : Int) (by omega) (Int.le_refl _) (by rw [hz2]; omega) (by omega)
  rw [h, hz1, Int.toNat_natCast, Nat.mul_one]
  have e : madeCells (Value.int .i64 0).cells n = Array.replicate n (Value.int .i64 0) := by
    rw [← List.toArray_replicate, ← toList_madeCells_one, Array.toArray_toList]; rfl
  rw [e]

theorem own_made (n : Nat) (w : World) (base : Nat) (hn : n ≤ 30000) (hb : base ≤ w.heap.size) : OwnI (w.alloc (.cells (Array.replicate n (Value.int .i64 0)) 3)) base (some ⟨w.heap.size, 0, none⟩) n (List.replicate n 0) := by
  have h := own_of_block (base := base) (zs := List.replicate n (0 : Int)) (g := w.heap.size) (w := w.alloc (.cells (Array.replicate n (Value.int .i64 0)) 3)) (by rw [List.map_replicate, List.toArray_replicate]; exact heap_alloc_new w _) hb (by simp [maxLen]; omega)
  rw [List.length_replicate] at h
  exact h

theorem dgs_mul_len {x f K : Nat} (hx : (dgs x).length ≤ K) (hf : f < 65536) : (dgs (x * f)).length ≤ K + 1 := by
  rw [dgs_len_iff] at hx ⊢
  rw [Nat.pow_succ]
  exact Nat.mul_lt_mul_of_lt_of_lt hx hf

set_option maxRecDepth 20000 in
attribute [local go_sem ↓] mk_run

set_option maxHeartbeats 1600000 in
theorem raised_any (a : Option Addr) (ca : Nat) (x n : Nat) (f : Int) (w : World) (ha : Sl w a (dgs x)) (hx0 : x ≠ 0) (hx : (dgs x).length ≤ 20000) (hf0 : 0 < f) (hf1 : f < 65536) (hn : n ≤ 30000) :
    Calls Tryz.prog 108 #[.slice a (dgs x).length ca, .int .i64 (n : Int), .int .i64 f] w fun e w' => ∃ r cr, e = .returned (.slice r (dgs (x * f.toNat * 65536 ^ n)).length cr) ∧ OwnI w' w.heap.size r cr (dgs (x * f.toNat * 65536 ^ n)) ∧ Below w.heap.size w w' := by
  obtain ⟨i0, hi, hz0, hz1, hz2⟩ := info_parts Tryz.info3
  have CS : Hid (∀ w1, Sl w1 a (dgs x) → Calls Tryz.prog 117 #[.slice a (dgs x).length ca, .int .i64 f, .int .i64 0] w1 fun e w' => ∃ r cr, e = .returned (.slice r (dgs (x * f.toNat)).length cr) ∧ OwnI w' w1.heap.size r cr (dgs (x * f.toNat)) ∧ Below w1.heap.size w1 w') := fun w1 h => by
    have h := scaled_any a ca x f 0 w1 h (by omega) (by omega) hf1 (by omega) (by omega)
    rw [Int.toNat_zero, Nat.add_zero] at h
    exact h
  obtain ⟨D, hD⟩ : ∃ D, D = dgs (x * f.toNat) := ⟨_, rfl⟩
  have hxf : x * f.toNat ≠ 0 := Nat.mul_ne_zero hx0 (by omega)
  have HR : Hid (List.replicate n (0 : Int) ++ D = dgs (x * f.toNat * 65536 ^ n)) := by rw [hD]; exact dgs_shift n _ hxf
  have HDg : Hid (Dg (List.replicate n (0 : Int) ++ D)) := by rw [hD]; exact (Dg.zeros n).append (Dg_dgs _)
  have hDl : D.length ≤ 30000 := by
    rw [hD]; exact Nat.le_trans (dgs_mul_len (f := f.toNat) hx (by omega)) (by decide)
  have hD0 : 0 < D.length := by
    rcases Nat.eq_zero_or_pos D.length with h1 | h1
    · have h2 := val_dgs (x * f.toNat)
      rw [← hD, List.length_eq_zero_iff.mp h1] at h2
      simp only [val] at h2
      omega
    · exact h1
  rw [← hD] at CS
  obtain ⟨R, hR⟩ : ∃ R, R = dgs (x * f.toNat * 65536 ^ n) := ⟨_, rfl⟩
  rw [← hR] at HR ⊢
  have HK : Hid (∀ W, Below w.heap.size w W → Sl W a (dgs x)) := fun W h => ha.keep h
  obtain ⟨m, hm⟩ : ∃ m, m = D.length := ⟨_, rfl⟩
  have HM : Hid (m = D.length) := hm
  rw [← hm] at hDl hD0 CS
  have BR : Hid (Below w.heap.size w w.drew) := below_dN (Below.refl _ _) 1
  have CT : Hid (∀ g cap (w3 : World), w3.ownsRow w.heap.size 3 1 (.slice (some ⟨g, 0, none⟩) (n + m) cap) (n + m) ((List.replicate n (0 : Int)).map (Value.int .i64) ++ D.map (Value.int .i64)) → Calls Tryz.prog 88 #[.slice (some ⟨g, 0, none⟩) (n + m) cap] w3 fun e w' => e = .returned (.slice (some ⟨g, 0, none⟩) R.length cap) ∧ OwnI w3 w.heap.size (some ⟨g, 0, none⟩) cap R ∧ w3 = w') := fun g cap w3 h => by
    have hl : (List.replicate n (0 : Int) ++ D).length = n + m := by rw [List.length_append, List.length_replicate, hm]
    have ho : OwnI w3 w.heap.size (some ⟨g, 0, none⟩) cap (List.replicate n (0 : Int) ++ D) := by
      unfold OwnI
      rw [hl, List.map_append]
      exact h
    have T := trimmed_any w.heap.size (some ⟨g, 0, none⟩) cap _ w3 ho (by rw [hl]; omega)
    have e : (List.replicate n (0 : Int) ++ D).take (trimN (List.replicate n (0 : Int) ++ D) (List.replicate n (0 : Int) ++ D).length) = R := by
      rw [trim_dgs HDg.out, HR.out, hR, val_dgs, Int.toNat_natCast]
    rw [e, hl] at T
    exact T.mono fun e w' h => ⟨h.1, by rw [h.2.2]; exact h.2.1, h.2.2⟩
  have hone : ∀ u ∈ D.map (Value.int .i64), u.oneCell' = true := oneCells D
  have hnl : (D.map (Value.int .i64)).length = m * 1 := by rw [List.length_map, hm, Nat.mul_one]
  have HW : Hid (∀ (W : World) (r : Option Addr), Sl W r D → ∃ ad, r = some ad ∧ ∀ j v, (D.map (Value.int .i64))[j]? = some v → W.cell? (ad.add j) = some v) := fun W r h => sl_src h (by omega)
  have HN : Hid (∀ (W W' : World) (g : Nat), OwnI W w.heap.size (some ⟨g, 0, none⟩) n (List.replicate n (0 : Int)) → Below W.heap.size W W' → W'.ownsRow w.heap.size 3 1 (.slice (some ⟨g, 0, none⟩) n n) n ((List.replicate n (0 : Int)).map (Value.int .i64))) := fun W W' g h hb => by
    have k := h.keep hb
    unfold OwnI at k
    rw [List.length_replicate] at k
    exact k
  clear hD hm hR ha hx hxf
  go_enter Tryz.func108, Tryz.ntmps108
  go_wp2_with fail
  go_region_law (first
    | (go_simp; go_at_call 117; refine Calls.mono (CS.out _ (HK.out _ (by first | exact BR.out | exact BR.out.alloc (Nat.le_refl _) _))) ?_; rintro e w2 ⟨r, cr, rfl, o2, b2⟩; have B2 : Below w.heap.size w w2 := (by first | exact BR.out | exact BR.out.alloc (Nat.le_refl _) _ : Below w.heap.size w _).trans (b2.mono (by first | exact Nat.le_refl _ | simp)); (try (have rA := HN.out _ _ _ (own_made n w.drew w.heap.size hn (Nat.le_refl _)) b2)); obtain ⟨ad, rfl, hsrc⟩ := HW.out w2 r o2.sl; have hsl : ∀ j v, (D.map (Value.int .i64))[j]? = some v → (ad.add j).block < w2.heap.size := (fun j v h => World.block_lt_of_cell? w2 _ (hsrc j v h)))
    | (go_simp; go_at_call 88; refine Calls.mono (CT.out _ _ _ hown3) ?_; rintro e w' ⟨rfl, o4, rfl⟩)
    | (refine step_append_lies _ (by rfl) _ _ _ (by rfl) w.heap.size 3 i0 (.int .i64 0) 1 8 Tryz.underlying44 hi hz0 hz1 hz2 rfl (by decide) (.slice (some ⟨w.heap.size, 0, none⟩) n n) n _ (by rfl) rA ad m cr _ (by rfl) hnl hsrc hone hD0 (by unfold maxLen; omega) (by omega) B2.size _ rfl ?_; intro g cap w3 hown3 hgrow3 hat3 hlt3; have B3 : Below w.heap.size w w3 := B2.grown hgrow3 B2.size (fun k hk => by cases hk; first | exact Nat.le_refl _ | exact B2.size))
    | (refine step_append_lies _ (by rfl) _ _ _ (by rfl) w.heap.size 3 i0 (.int .i64 0) 1 8 Tryz.underlying44 hi hz0 hz1 hz2 rfl (by decide) (.slice (some ⟨w2.heap.size, 0, none⟩) n n) n _ (by rfl) (HN.out _ _ _ (own_made n w2 w.heap.size hn B2.size) (Below.refl _ _)) ad m cr _ (by rfl) hnl (fun j v h => by rw [← hsrc j v h]; exact (World.grownBy_alloc _ _ none).cell_far _ (hsl j v h) (by simp)) hone hD0 (by unfold maxLen; omega) (by omega) (B2.alloc B2.size _).size _ rfl ?_; intro g cap w3 hown3 hgrow3 hat3 hlt3; have B3 : Below w.heap.size w w3 := (B2.alloc B2.size (.cells (Array.replicate n (Value.int .i64 0)) 3)).grown hgrow3 (B2.alloc B2.size (.cells (Array.replicate n (Value.int .i64 0)) 3)).size (fun k hk => by cases hk; first | exact Nat.le_refl _ | exact B2.size)))
  all_goals
    go_wp2
    go_ret
    exact ⟨_, _, rfl, o4, B3⟩
end Go.Proofs.YthokphoojmpajabGreatDoor

namespace Go.Proofs.YthokphoojmpajabGreatDoor
open Go.RowKit Go.Proofs.Pin

theorem half_len {x : Nat} : (dgs (x / 2)).length ≤ (dgs x).length := dgs_len_le (Nat.div_le_self _ _)

set_option maxRecDepth 20000 in
set_option maxHeartbeats 3200000 in
theorem root_any (a : Option Addr) (ca : Nat) (x : Nat) (w : World) (ha : Sl w a (dgs x)) (hx : (dgs x).length ≤ 256) (hca : (dgs x).length ≤ ca) :
    Calls Tryz.prog 84 #[.slice a (dgs x).length ca] w fun e w' => ∃ r cr, e = .returned (.slice r (dgs (rt x)).length cr) ∧ OwnI w' w.heap.size r cr (dgs (rt x)) ∧ Below w.heap.size w w' := by
  by_cases h0 : x = 0
  · subst h0
    have e : dgs (rt 0) = [] := rfl
    rw [e, dgs_zero]
    clear e ha hx hca
    go_enter Tryz.func84, Tryz.ntmps84
    go_wp2
    go_ret
    exact ⟨none, 0, rfl, OwnI.nil _ _, Below.refl _ _⟩
  · have hpos := nz_len h0
    obtain ⟨hb1, hb2, hb3⟩ := bits_lt (x := x)
    obtain ⟨B, hB⟩ : ∃ B : Nat, bitsOf (dgs x) = (B : Int) := ⟨(bitsOf (dgs x)).toNat, by omega⟩
    have hB4 : B ≤ 4096 := by omega
    have CB : Hid (Calls Tryz.prog 107 #[.slice a (dgs x).length ca] w fun e w' => e = .returned (.int .i64 (B : Int)) ∧ w = w') := by
      have h := bitCount_any a ca (dgs x) w ha hx (fun i hi => by have := (Dg_dgs x).at i; exact dig_yes this.1 this.2)
      rw [hB] at h
      exact h.mono fun e w' h => ⟨h.1, h.2.symm⟩
    have hst : x < 2 ^ ((B + 1) / 2) * 2 ^ ((B + 1) / 2) := half_sq (by rw [hB, Int.toNat_natCast]; omega)
    obtain ⟨K, hK⟩ : ∃ K, K = (B + 1) / 2 := ⟨_, rfl⟩
    have hKI : ((B : Int) + 1) / 2 = (K : Int) := by omega
    have hK2 : K ≤ 2048 := by omega
    rw [← hK] at hst
    have hgl : (dgs (2 ^ K)).length ≤ 300 := Nat.le_trans (pow_len K) (by omega)
    have d1 : dgs 1 = [1] := dgs_one (by decide) (by decide)
    obtain ⟨W, hW⟩ : ∃ W, W = w.alloc (.cells #[.int .i64 1] 3) := ⟨_, rfl⟩
    have B0 : Below w.heap.size w W := by rw [hW]; exact (Below.refl _ w).alloc (Nat.le_refl _) _
    have hs : Sl W (some ⟨w.heap.size, 0, none⟩) (dgs 1) := by
      rw [d1, hW]
      exact (own_of_block (base := w.heap.size) (zs := [(1 : Int)]) (World.alloc_heap_new w _) (Nat.le_refl _) (by simp [maxLen])).sl
    have hf := pow16_lt K
    have CR : Hid (Calls Tryz.prog 108 #[.slice (some ⟨w.heap.size, 0, none⟩) 1 1, .int .i64 ((K : Int) / 16), .int .i64 (wrap64 ((2 : Int) ^ (K % 16)))] W fun e w' => ∃ r cr, e = .returned (.slice r (dgs (2 ^ K)).length cr) ∧ OwnI w' w.heap.size r cr (dgs (2 ^ K)) ∧ Below w.heap.size w w') := by
      have h := raised_any (some ⟨w.heap.size, 0, none⟩) 1 1 (K / 16) ((2 ^ (K % 16) : Nat) : Int) W hs (by decide) (by rw [d1]; decide) (by have := Nat.two_pow_pos (K % 16); omega) (by omega) (by omega)
      rw [Int.toNat_natCast, Nat.one_mul, pow2_split, show (dgs 1).length = 1 by rw [d1]; rfl, ← wrap_pow, show ((K / 16 : Nat) : Int) = (K : Int) / 16 by omega] at h
      exact h.mono fun e w' ⟨r, cr, h1, h2, h3⟩ => ⟨r, cr, h1, h2.mono B0.size, B0.trans (h3.mono B0.size)⟩
    have HRP : Hid (rt x ≠ 0) := rt_pos h0
    have HX : Hid ((dgs x).length ≤ 256 ∧ (dgs x).length ≤ ca) := ⟨hx, hca⟩
    have HA : Hid (∀ W, Below w.heap.size w W → Sl W a (dgs x)) := fun W h => ha.keep h
    obtain ⟨G, hG⟩ : ∃ G, G = 2 ^ K := ⟨_, rfl⟩
    rw [← hG] at CR hst hgl
    have HG : Hid (rt x ≤ G ∧ G ≠ 0 ∧ (dgs G).length ≤ 300) := ⟨Nat.le_of_lt (rt_lt hst), by rw [hG]; exact Nat.ne_of_gt (Nat.two_pow_pos _), hgl⟩
    obtain ⟨Z, hZ⟩ : ∃ Z, Z = dgs x := ⟨_, rfl⟩
    have HZ : Hid (Z = dgs x) := hZ
    rw [← hZ] at CB HA hpos ⊢
    obtain ⟨R, hR⟩ : ∃ R, R = dgs (rt x) := ⟨_, rfl⟩
    have HR : Hid (R = dgs (rt x)) := hR
    rw [← hR]
    obtain ⟨DG, hDG⟩ : ∃ DG, DG = dgs G := ⟨_, rfl⟩
    rw [← hDG] at CR
    have HDG : Hid (DG = dgs G) := hDG
    have hn0 : ((Z.length : Int) == 0) = false := by rw [beq_eq_false_iff_ne]; omega
    clear hb1 hb2 hb3 hB hst hK ha hx hca hZ hR d1 hs hf hG hgl hDG hpos h0 B0
    go_enter Tryz.func84, Tryz.ntmps84
    go_wp2_with fail
    refine Calls.mono CB.out ?_
    rintro e w1 ⟨rfl, rfl⟩
    go_wp2_with fail
    rw [← hW]
    clear hW hKI
    refine Calls.mono CR.out ?_
    rintro e w2 ⟨r2, c2, rfl, o2, b2⟩
    have H0 : Hid (∃ (a' : Option Addr) (ca' : Nat), Value.slice r2 DG.length c2 = .slice a' (dgs G).length ca' ∧ OwnI w2 w.heap.size a' ca' (dgs G) ∧ rt x ≤ G ∧ G ≠ 0 ∧ (dgs G).length ≤ 300 ∧ Below w.heap.size w w2) := ⟨r2, c2, by rw [HDG.out], by rw [← HDG.out]; exact o2, HG.out.1, HG.out.2.1, HG.out.2.2, b2⟩
    clear o2 b2 CB CR
    go_wp2_with fail
    go_loopg [4] G (fun k d wr => ∃ (a' : Option Addr) (ca' : Nat), d = .slice a' (dgs k).length ca' ∧ OwnI wr w.heap.size a' ca' (dgs k) ∧ rt x ≤ k ∧ k ≠ 0 ∧ (dgs k).length ≤ 300 ∧ Below w.heap.size w wr)
    case atStart => exact H0.out
    case round =>
      obtain ⟨a', ca', rfl, ho, hge, hk0, hkl, hbw⟩ := hrel
      have hql : (dgs (x / gk)).length ≤ 300 := Nat.le_trans (Nat.le_trans (dgs_len_le (Nat.div_le_self _ _)) HX.out.1) (by decide)
      have C1 : Hid (Calls Tryz.prog 59 #[.slice a Z.length ca, .slice a' (dgs gk).length ca'] wr fun e w' => ∃ r cr s cs, e = .returned (.tuple #[.slice r (dgs (x / gk)).length cr, .slice s (dgs (x % gk)).length cs]) ∧ OwnI w' wr.heap.size r cr (dgs (x / gk)) ∧ Below wr.heap.size wr w') := by
        have h := divBy_any a a' ca ca' x gk wr (by rw [← HZ.out]; exact HA.out _ hbw) ho.sl (Nat.le_trans HX.out.1 (by decide)) (by omega) hk0 HX.out.2
        rw [← HZ.out] at h
        exact h.mono fun e w' ⟨r, cr, s, cs, h1, h2, _, _, h3⟩ => ⟨r, cr, s, cs, h1, h2, h3⟩
      have C2 : Hid (∀ W b cb, Sl W a' (dgs gk) → Sl W b (dgs (x / gk)) → Calls Tryz.prog 60 #[.slice a' (dgs gk).length ca', .slice b (dgs (x / gk)).length cb] W fun e w' => ∃ r cr, e = .returned (.slice r (dgs (gk + x / gk)).length cr) ∧ OwnI w' W.heap.size r cr (dgs (gk + x / gk)) ∧ Below W.heap.size W w') := fun W b cb h1 h2 => plus_any a' b ca' cb gk (x / gk) W h1 h2 (by omega) (by omega)
      have hsl := sum_len hkl hql
      have C3 : Hid (∀ W b cb, Sl W b (dgs (gk + x / gk)) → Calls Tryz.prog 89 #[.slice b (dgs (gk + x / gk)).length cb, .int .i64 2] W fun e w' => ∃ r cr, e = .returned (.tuple #[.slice r (dgs ((gk + x / gk) / 2)).length cr, .int .i64 (((gk + x / gk) % 2 : Nat) : Int)]) ∧ OwnI w' W.heap.size r cr (dgs ((gk + x / gk) / 2)) ∧ Below W.heap.size W w') := fun W b cb h1 => cut_any b cb (gk + x / gk) 2 W h1 (by omega) (by decide) (by decide)
      have hnl : (dgs ((gk + x / gk) / 2)).length ≤ 301 := Nat.le_trans half_len hsl
      have C4 : Hid (∀ W b cb, Sl W b (dgs ((gk + x / gk) / 2)) → Sl W a' (dgs gk) → Calls Tryz.prog 85 #[.slice b (dgs ((gk + x / gk) / 2)).length cb, .slice a' (dgs gk).length ca'] W fun e w' => e = .returned (.int .i64 (sg (((gk + x / gk) / 2 : Nat) : Int) (gk : Int))) ∧ Below W.heap.size W w') := fun W b cb h1 h2 => by
        have h := cmp_any b a' cb ca' (dgs ((gk + x / gk) / 2)) (dgs gk) W h1 h2 (by omega)
        rw [cmp_dgs] at h
        exact h
      obtain ⟨N, hN⟩ : ∃ N, N = (gk + x / gk) / 2 := ⟨_, rfl⟩
      have hN1 := newton_ge hge hk0
      have hN2 : gk ≤ (gk + x / gk) / 2 → gk = rt x := newton_end hge
      rw [← hN] at C3 C4 hnl hN1 hN2
      obtain ⟨Q, hQ⟩ : ∃ Q, Q = dgs (x / gk) := ⟨_, rfl⟩
      rw [← hQ] at C1 C2
      obtain ⟨T, hT⟩ : ∃ T, T = dgs (gk + x / gk) := ⟨_, rfl⟩
      rw [← hT] at C2 C3
      obtain ⟨m, hm⟩ : ∃ m : Int, m = (((gk + x / gk) % 2 : Nat) : Int) := ⟨_, rfl⟩
      rw [← hm] at C3
      obtain ⟨m2, hm2⟩ : ∃ m2, m2 = dgs (x % gk) := ⟨_, rfl⟩
      rw [← hm2] at C1
      obtain ⟨DN, hDN⟩ : ∃ DN, DN = dgs N := ⟨_, rfl⟩
      rw [← hDN] at C3 C4 hnl
      obtain ⟨c, hc⟩ : ∃ c, c = sg ((N : Nat) : Int) (gk : Int) := ⟨_, rfl⟩
      rw [← hc] at C4
      obtain ⟨U, hU⟩ : ∃ U, U = dgs gk := ⟨_, rfl⟩
      rw [← hU] at C1 C2 C4 ho hkl ⊢
      have HU : Hid (U = dgs gk ∧ DN = dgs N ∧ rt x ≤ N) := ⟨hU, hDN, hN1⟩
      have HO : Hid (OwnI wr w.heap.size a' ca' U ∧ Below w.heap.size w wr) := ⟨ho, hbw⟩
      have hcase : (0 ≤ c ∧ R = dgs gk) ∨ (c < 0 ∧ N < gk) := by
        rcases Nat.lt_or_ge N gk with h | h
        · right
          exact ⟨by rw [hc, sg_lt (by omega)]; decide, h⟩
        · left
          refine ⟨?_, by rw [HR.out, ← hN2 h]⟩
          rcases Nat.lt_or_eq_of_le h with h1 | h1
          · rw [hc, sg_gt (by omega)]; decide
          · rw [hc, sg_eq (by omega)]; decide
      have hkl' : Hid (U.length ≤ 300) := hkl
      clear hN hN1 hN2 hQ hT hm hm2 hDN hc hU hge hk0 hkl hbw ho hql hsl hnl H0
      rcases hcase with ⟨hc, hle⟩ | ⟨hc, hle⟩
      · have HE : Hid (R = dgs gk) := hle
        clear hle
        go_wp2_with fail
        refine Calls.mono C1.out ?_
        rintro e w3 ⟨r3, c3, s3, d3, rfl, o3, b3⟩
        go_wp2_with fail
        refine Calls.mono (C2.out _ _ _ (HO.out.1.sl.keep b3) o3.sl) ?_
        rintro e w4 ⟨r4, c4, rfl, o4, b4⟩
        have b34 := b3.trans (b4.mono b3.size)
        clear o3 b3 b4
        go_wp2_with fail
        refine Calls.mono (C3.out _ _ _ o4.sl) ?_
        rintro e w5 ⟨r5, c5, rfl, o5, b5⟩
        have b35 := b34.trans (b5.mono b34.size)
        clear o4 b5 b34
        go_wp2_with fail
        refine Calls.mono (C4.out _ _ _ o5.sl (HO.out.1.sl.keep b35)) ?_
        rintro e w6 ⟨rfl, b6⟩
        have b36 := b35.trans (b6.mono b35.size)
        have HF : Hid (OwnI w6 w.heap.size a' ca' U ∧ Below w.heap.size w w6) := ⟨HO.out.1.keep b36, HO.out.2.trans (b36.mono HO.out.2.size)⟩
        clear o5 b6 b35 b36 C1 C2 C3 C4
        go_wp2
        go_ret
        exact ⟨a', ca', by rw [HE.out, ← HU.out.1]; rfl, by rw [HE.out, ← HU.out.1]; exact HF.out.1, HF.out.2⟩
      · have HE : Hid (N < gk) := hle
        clear hle
        go_wp2_with fail
        refine Calls.mono C1.out ?_
        rintro e w3 ⟨r3, c3, s3, d3, rfl, o3, b3⟩
        go_wp2_with fail
        refine Calls.mono (C2.out _ _ _ (HO.out.1.sl.keep b3) o3.sl) ?_
        rintro e w4 ⟨r4, c4, rfl, o4, b4⟩
        have b34 := b3.trans (b4.mono b3.size)
        clear o3 b3 b4
        go_wp2_with fail
        refine Calls.mono (C3.out _ _ _ o4.sl) ?_
        rintro e w5 ⟨r5, c5, rfl, o5, b5⟩
        have b35 := b34.trans (b5.mono b34.size)
        have o5' := (o5.mono b34.size).mono HO.out.2.size
        clear o4 b5 b34
        go_wp2_with fail
        refine Calls.mono (C4.out _ _ _ o5.sl (HO.out.1.sl.keep b35)) ?_
        rintro e w6 ⟨rfl, b6⟩
        have b36 := b35.trans (b6.mono b35.size)
        have HF : Hid (OwnI w6 w.heap.size r5 c5 DN ∧ Below w.heap.size w w6) := ⟨o5'.keep b6, HO.out.2.trans (b36.mono HO.out.2.size)⟩
        clear o5 o5' b6 b35 b36 C1 C2 C3 C4
        go_wp2
        go_roundg N
        case measure => exact HE.out
        case rel =>
          obtain ⟨h1, h2, h3⟩ := HU.out
          have hr := HRP.out
          have hl : (dgs N).length ≤ 300 := Nat.le_trans (dgs_len_le (Nat.le_of_lt HE.out)) (by rw [← h1]; exact hkl'.out)
          exact ⟨r5, c5, by rw [h2], by rw [← h2]; exact HF.out.1, h3, by omega, hl, HF.out.2⟩
end Go.Proofs.YthokphoojmpajabGreatDoor

namespace Go.Proofs.YthokphoojmpajabGreatDoor
open Go.RowKit Go.Proofs.Pin

def rtL (xs : List Int) : List Int := if okB xs = true then dgs (rt (val xs).toNat) else []
def rtX (xs : List Int) : Bool := okB xs && decide (rt (val xs).toNat * rt (val xs).toNat = (val xs).toNat)
theorem rt_no {xs : List Int} (h : okB xs = false) : rtL xs = [] ∧ rtX xs = false := by simp [rtL, rtX, h]
theorem rt_yes {x : Nat} (hx : (dgs x).length ≤ 256) : rtL (dgs x) = dgs (rt x) ∧ rtX (dgs x) = decide (rt x * rt x = x) := by simp [rtL, rtX, dgs_ok hx, val_dgs]
theorem rtL_len (xs : List Int) : (rtL xs).length ≤ 256 := by
  cases h : okB xs with
  | false => rw [(rt_no h).1]; simp
  | true =>
    obtain ⟨x, rfl, hx⟩ := ok_dgs h
    rw [(rt_yes hx).1]
    exact Nat.le_trans (dgs_len_le (rt_self x)) hx
theorem sg_zero (x y : Nat) : (sg (x : Int) (y : Int) == 0) = decide (x = y) := by
  rcases Nat.lt_trichotomy x y with h | h | h
  · rw [sg_lt (by omega)]
    have : x ≠ y := by omega
    simp [this]
  · rw [sg_eq (by omega)]
    simp [h]
  · rw [sg_gt (by omega)]
    have : x ≠ y := by omega
    simp [this]

/-- What a function of a list of digits that answers a root is said to do. -/
def RootOp (F : Nat) : Prop := ∀ (a : Option Addr) (ca : Nat) (xs : List Int) (w : World), Sl w a xs → xs.length ≤ 1048576 → xs.length ≤ ca →
  Calls Tryz.prog F #[.slice a xs.length ca] w fun e w' => ∃ r cr, e = .returned (.tuple #[.slice r (rtL xs).length cr, .bool (rtX xs), .bool (okB xs)]) ∧ OwnI w' w.heap.size r cr (rtL xs) ∧ Below w.heap.size w w'

set_option maxRecDepth 20000 in
set_option maxHeartbeats 800000 in
theorem specRoot_op : RootOp 31 := by
  intro a ca xs w ha hx hca
  cases h1 : okB xs with
  | false =>
    rw [(rt_no h1).1, (rt_no h1).2]
    go_enter Tryz.func31, Tryz.ntmps31
    go_wp2_with (go_at_call 37; refine (specOk_any _ _ xs _ ha hx).mono ?_; rintro e w' ⟨rfl, rfl⟩)
    go_ret3
    exact ⟨none, 0, rfl, OwnI.nil _ _, Below.refl _ _⟩
  | true =>
    have c1 := (specOk_any a ca xs w ha hx).mono (R' := fun e w' => e = .returned (.bool (okB xs)) ∧ w = w') fun e w' h => ⟨h.1, h.2.symm⟩
    rw [h1] at c1
    have C1 : Hid _ := c1
    obtain ⟨x, rfl, hx'⟩ := ok_dgs h1
    rw [(rt_yes hx').1, (rt_yes hx').2]
    have hrl : (dgs (rt x)).length ≤ 256 := Nat.le_trans (dgs_len_le (rt_self x)) hx'
    have C2 : Hid _ := l1Root_any a ca x w ha hx'
    have C3 : Hid (∀ W r cr, Sl W r (dgs (rt x)) → Calls Tryz.prog 50 #[.slice r (dgs (rt x)).length cr, .slice r (dgs (rt x)).length cr] W fun e w' => ∃ s cs, e = .returned (.slice s (dgs (rt x * rt x)).length cs) ∧ OwnI w' W.heap.size s cs (dgs (rt x * rt x)) ∧ Below W.heap.size W w') := fun W r cr h => l1Mul_any r r cr cr (rt x) (rt x) W h h (by omega) (by omega)
    have hml := mul_len hrl hrl
    have C4 : Hid (∀ W s cs, Sl W s (dgs (rt x * rt x)) → Sl W a (dgs x) → Calls Tryz.prog 56 #[.slice s (dgs (rt x * rt x)).length cs, .slice a (dgs x).length ca] W fun e w' => e = .returned (.int .i64 (sg ((rt x * rt x : Nat) : Int) (x : Int))) ∧ Below W.heap.size W w') := fun W s cs h1 h2 => by
      have h := l1Cmp_any s a cs ca (dgs (rt x * rt x)) (dgs x) W h1 h2 (by omega) (by omega)
      rw [cmp_dgs] at h
      exact h.mono fun e w' h => ⟨h.1, by obtain ⟨q, hq⟩ := h.2; rw [hq]; exact below_dN (Below.refl _ _) q⟩
    have HB : Hid ((sg ((rt x * rt x : Nat) : Int) (x : Int) == 0) = decide (rt x * rt x = x)) := sg_zero _ _
    have HA : Hid (∀ W, Below w.heap.size w W → Sl W a (dgs x)) := fun W h => ha.keep h
    obtain ⟨c, hc⟩ : ∃ c, c = sg ((rt x * rt x : Nat) : Int) (x : Int) := ⟨_, rfl⟩
    rw [← hc] at C4 HB
    obtain ⟨bb, hbb⟩ : ∃ bb, bb = decide (rt x * rt x = x) := ⟨_, rfl⟩
    rw [← hbb] at HB ⊢
    obtain ⟨M, hM⟩ : ∃ M, M = dgs (rt x * rt x) := ⟨_, rfl⟩
    rw [← hM] at C3 C4
    obtain ⟨R, hR⟩ : ∃ R, R = dgs (rt x) := ⟨_, rfl⟩
    rw [← hR] at C2 C3 ⊢
    obtain ⟨X, hX⟩ : ∃ X, X = dgs x := ⟨_, rfl⟩
    rw [← hX] at C1 C2 C4 HA ⊢
    clear c1 h1 hrl hml hc hbb hM hR hX ha hx hx' hca
    go_enter Tryz.func31, Tryz.ntmps31
    go_wp2_with fail
    refine Calls.mono C1.out ?_
    rintro e w' ⟨rfl, rfl⟩
    go_wp2_with fail
    refine Calls.mono C2.out ?_
    rintro e w2 ⟨r2, c2, rfl, o2, b2⟩
    go_wp2_with fail
    refine Calls.mono (C3.out _ _ _ o2.sl) ?_
    rintro e w3 ⟨r3, c3, rfl, o3, b3⟩
    have B3 := b2.trans (b3.mono b2.size)
    have o23 := o2.keep b3
    clear o2 b2 b3
    go_wp2_with fail
    refine Calls.mono (C4.out _ _ _ o3.sl (HA.out _ B3)) ?_
    rintro e w4 ⟨rfl, b4⟩
    have B4 := B3.trans (b4.mono B3.size)
    have o24 := o23.keep b4
    clear o3 b4 B3 o23
    have hcb := HB.out
    go_wp2
    go_ret3
    exact ⟨r2, c2, rfl, o24, B4⟩

set_option maxRecDepth 20000 in
set_option maxHeartbeats 800000 in
theorem implRoot_op : RootOp 54 := by
  intro a ca xs w ha hx hca
  cases h1 : okB xs with
  | false =>
    rw [(rt_no h1).1, (rt_no h1).2]
    go_enter Tryz.func54, Tryz.ntmps54
    go_wp2_with (go_at_call 78; refine (implOk_any _ _ xs _ ha hx).mono ?_; rintro e w' ⟨rfl, rfl⟩)
    go_ret3
    exact ⟨none, 0, rfl, OwnI.nil _ _, Below.refl _ _⟩
  | true =>
    have c1 := (implOk_any a ca xs w ha hx).mono (R' := fun e w' => e = .returned (.bool (okB xs)) ∧ w = w') fun e w' h => ⟨h.1, h.2.symm⟩
    rw [h1] at c1
    have C1 : Hid _ := c1
    obtain ⟨x, rfl, hx'⟩ := ok_dgs h1
    rw [(rt_yes hx').1, (rt_yes hx').2]
    have hrl : (dgs (rt x)).length ≤ 256 := Nat.le_trans (dgs_len_le (rt_self x)) hx'
    have C2 : Hid _ := root_any a ca x w ha hx' hca
    have C3 : Hid (∀ W r cr, Sl W r (dgs (rt x)) → Calls Tryz.prog 57 #[.slice r (dgs (rt x)).length cr, .slice r (dgs (rt x)).length cr] W fun e w' => ∃ s cs, e = .returned (.slice s (dgs (rt x * rt x)).length cs) ∧ OwnI w' W.heap.size s cs (dgs (rt x * rt x)) ∧ Below W.heap.size W w') := fun W r cr h => times_any r r cr cr (rt x) (rt x) W h h (by omega) (by omega)
    have hml := mul_len hrl hrl
    have C4 : Hid (∀ W s cs, Sl W s (dgs (rt x * rt x)) → Sl W a (dgs x) → Calls Tryz.prog 85 #[.slice s (dgs (rt x * rt x)).length cs, .slice a (dgs x).length ca] W fun e w' => e = .returned (.int .i64 (sg ((rt x * rt x : Nat) : Int) (x : Int))) ∧ Below W.heap.size W w') := fun W s cs h1 h2 => by
      have h := cmp_any s a cs ca (dgs (rt x * rt x)) (dgs x) W h1 h2 (by omega)
      rw [cmp_dgs] at h
      exact h.mono fun e w' h => ⟨h.1, h.2⟩
    have HB : Hid ((sg ((rt x * rt x : Nat) : Int) (x : Int) == 0) = decide (rt x * rt x = x)) := sg_zero _ _
    have HA : Hid (∀ W, Below w.heap.size w W → Sl W a (dgs x)) := fun W h => ha.keep h
    obtain ⟨c, hc⟩ : ∃ c, c = sg ((rt x * rt x : Nat) : Int) (x : Int) := ⟨_, rfl⟩
    rw [← hc] at C4 HB
    obtain ⟨bb, hbb⟩ : ∃ bb, bb = decide (rt x * rt x = x) := ⟨_, rfl⟩
    rw [← hbb] at HB ⊢
    obtain ⟨M, hM⟩ : ∃ M, M = dgs (rt x * rt x) := ⟨_, rfl⟩
    rw [← hM] at C3 C4
    obtain ⟨R, hR⟩ : ∃ R, R = dgs (rt x) := ⟨_, rfl⟩
    rw [← hR] at C2 C3 ⊢
    obtain ⟨X, hX⟩ : ∃ X, X = dgs x := ⟨_, rfl⟩
    rw [← hX] at C1 C2 C4 HA ⊢
    clear c1 h1 hrl hml hc hbb hM hR hX ha hx hx' hca
    go_enter Tryz.func54, Tryz.ntmps54
    go_wp2_with fail
    refine Calls.mono C1.out ?_
    rintro e w' ⟨rfl, rfl⟩
    go_wp2_with fail
    refine Calls.mono C2.out ?_
    rintro e w2 ⟨r2, c2, rfl, o2, b2⟩
    go_wp2_with fail
    refine Calls.mono (C3.out _ _ _ o2.sl) ?_
    rintro e w3 ⟨r3, c3, rfl, o3, b3⟩
    have B3 := b2.trans (b3.mono b2.size)
    have o23 := o2.keep b3
    clear o2 b2 b3
    go_wp2_with fail
    refine Calls.mono (C4.out _ _ _ o3.sl (HA.out _ B3)) ?_
    rintro e w4 ⟨rfl, b4⟩
    have B4 := B3.trans (b4.mono B3.size)
    have o24 := o23.keep b4
    clear o3 b4 B3 o23
    have hcb := HB.out
    go_wp2
    go_ret3
    exact ⟨r2, c2, rfl, o24, B4⟩
end Go.Proofs.YthokphoojmpajabGreatDoor

namespace Go.Proofs.YthokphoojmpajabGreatDoor
open Go.RowKit Go.Proofs.Pin

/-- The root, if both roots are exact and the fraction is not below 0. -/
def rootA (b : Bool) (x y : Nat) : FAns := if b = false ∧ rtX (dgs x) = true ∧ rtX (dgs y) = true then ⟨false, rtL (dgs x), rtL (dgs y), true⟩ else noA
theorem rootA_len (b : Bool) (X Y : List Int) : (op1A rootA b X Y).X.length ≤ 256 ∧ (op1A rootA b X Y).Y.length ≤ 256 := by
  unfold op1A
  split
  · unfold rootA
    split
    · exact ⟨rtL_len _, rtL_len _⟩
    · exact ⟨Nat.zero_le _, Nat.zero_le _⟩
  · exact ⟨Nat.zero_le _, Nat.zero_le _⟩
theorem rootA_cases (b : Bool) (x y : Nat) : (b = true ∧ rootA b x y = noA) ∨ (b = false ∧ rtX (dgs x) = false ∧ rootA b x y = noA) ∨ (b = false ∧ rtX (dgs x) = true ∧ rtX (dgs y) = false ∧ rootA b x y = noA) ∨ (b = false ∧ rtX (dgs x) = true ∧ rtX (dgs y) = true ∧ rootA b x y = ⟨false, rtL (dgs x), rtL (dgs y), true⟩) := by
  unfold rootA
  cases b with
  | true => exact .inl ⟨rfl, by simp⟩
  | false =>
    cases h1 : rtX (dgs x) with
    | false => exact .inr (.inl ⟨rfl, rfl, by simp⟩)
    | true =>
      cases h2 : rtX (dgs y) with
      | false => exact .inr (.inr (.inl ⟨rfl, rfl, rfl, by simp⟩))
      | true => exact .inr (.inr (.inr ⟨rfl, rfl, rfl, by simp⟩))

set_option maxRecDepth 20000 in
set_option maxHeartbeats 2000000 in
theorem frRoot_tell (r s : Option Addr) (cr cs x y : Nat) (b : Bool) (w : World) (hx : Sl w r (dgs x)) (hy : Sl w s (dgs y)) (lx : (dgs x).length ≤ 256) (ly : (dgs y).length ≤ 256) (kx : (dgs x).length ≤ cr) (ky : (dgs y).length ≤ cs) :
    Calls Tryz.prog 30 #[frV r (dgs x).length cr s (dgs y).length cs b] w fun e w' => ∃ v ev, e = .returned (.tuple #[v, ev]) ∧ TellO w' w.heap.size v ev (rootA b x y) ∧ Below w.heap.size w w' := by
  have C1 : Hid (∀ W, Sl W r (dgs x) → Calls Tryz.prog 54 #[.slice r (dgs x).length cr] W fun e w' => ∃ a c v, e = .returned (.tuple #[.slice a (rtL (dgs x)).length c, .bool (rtX (dgs x)), v]) ∧ OwnI w' W.heap.size a c (rtL (dgs x)) ∧ Below W.heap.size W w') := fun W h => (implRoot_op r cr (dgs x) W h (by omega) kx).mono fun e w' ⟨r1, c1, h1, h2, h3⟩ => ⟨r1, c1, _, h1, h2, h3⟩
  have C2 : Hid (∀ W, Sl W s (dgs y) → Calls Tryz.prog 54 #[.slice s (dgs y).length cs] W fun e w' => ∃ a c v, e = .returned (.tuple #[.slice a (rtL (dgs y)).length c, .bool (rtX (dgs y)), v]) ∧ OwnI w' W.heap.size a c (rtL (dgs y)) ∧ Below W.heap.size W w') := fun W h => (implRoot_op s cs (dgs y) W h (by omega) ky).mono fun e w' ⟨r1, c1, h1, h2, h3⟩ => ⟨r1, c1, _, h1, h2, h3⟩
  have hc := rootA_cases b x y
  have l1 := rtL_len (dgs x)
  have l2 := rtL_len (dgs y)
  obtain ⟨A, hA⟩ : ∃ A, A = rootA b x y := ⟨_, rfl⟩
  obtain ⟨X, hXe⟩ : ∃ X, X = dgs x := ⟨_, rfl⟩
  obtain ⟨Y, hYe⟩ : ∃ Y, Y = dgs y := ⟨_, rfl⟩
  rw [← hA, ← hXe, ← hYe] at hc
  rw [← hXe] at C1 hx l1
  rw [← hYe] at C2 hy l2
  rw [← hA, ← hXe, ← hYe]
  obtain ⟨P, hP⟩ : ∃ P, P = rtL X := ⟨_, rfl⟩
  obtain ⟨Q, hQ⟩ : ∃ Q, Q = rtL Y := ⟨_, rfl⟩
  obtain ⟨eX, heX⟩ : ∃ eX, eX = rtX X := ⟨_, rfl⟩
  obtain ⟨eY, heY⟩ : ∃ eY, eY = rtX Y := ⟨_, rfl⟩
  rw [← hP, ← hQ, ← heX, ← heY] at hc
  rw [← hP, ← heX] at C1
  rw [← hQ, ← heY] at C2
  rw [← hP] at l1
  rw [← hQ] at l2
  clear hA hXe hYe hP hQ heX heY lx ly kx ky
  unfold frV
  obtain ⟨w0, hw0⟩ : ∃ w0, w0 = (w.alloc (.cells #[.slice r X.length cr, .slice s Y.length cs, .bool b] 48)).alloc (.cells #[.slice none 0 0, .slice none 0 0, .bool false] 48) := ⟨_, rfl⟩
  have B0 : Below w.heap.size w w0 := by rw [hw0]; exact ((Below.refl _ w).alloc (Nat.le_refl _) _).alloc (by simp) _
  have k1 : BoxC w0 w.heap.size 48 #[.slice r X.length cr, .slice s Y.length cs, .bool b] := by rw [hw0]; exact boxc_alloc (boxc_new _ _ _) _
  have k2 : BoxC w0 (w.heap.size + 1) 48 #[.slice none 0 0, .slice none 0 0, .bool false] := by
    rw [hw0]
    have h := boxc_new (w.alloc (.cells #[.slice r X.length cr, .slice s Y.length cs, .bool b] 48)) 48 #[.slice none 0 0, .slice none 0 0, .bool false]
    rw [World.size_alloc] at h
    exact h
  rcases hc with ⟨rfl, rfl⟩ | ⟨rfl, rfl, rfl⟩ | ⟨rfl, rfl, rfl, rfl⟩ | ⟨rfl, rfl, rfl, rfl⟩
  all_goals
    go_enter Tryz.func30, Tryz.ntmps30
    go_wp2_with fail
    rw [← hw0]
    refine Calls.mono (C1.out _ (hx.keep B0)) ?_
    rintro e w1 ⟨a1, c1, v1, rfl, o1, b1⟩
    have k11 := boxc_keep k1 b1
    have k21 := boxc_keep k2 b1
    have B1 := B0.trans (b1.mono B0.size)
    have z0 := boxc_lt k2
    obtain ⟨p0, p1, p2, _, _⟩ := boxc3 k11
    clear hw0 b1 k1 k2 C1
    go_wp2_with fail
    refine Calls.mono (C2.out _ (hy.keep B1)) ?_
    rintro e w2 ⟨a2, c2, v2, rfl, o2, b2⟩
    have k12 := boxc_keep k11 b2
    have k22 := boxc_keep k21 b2
    have z1 := boxc_lt k21
    have HB : Hid (Below w.heap.size w w2) := B1.trans (b2.mono B1.size)
    have HO : Hid (OwnI w2 w0.heap.size a1 c1 P ∧ OwnI w2 w1.heap.size a2 c2 Q) := ⟨o1.keep b2, o2⟩
    have y0 := B0.size
    have y1 := B1.size
    clear p0 p1 p2
    obtain ⟨p0, p1, p2, _, _⟩ := boxc3 k12
    obtain ⟨d0, d1, d2, df, dn⟩ := boxc3 k22
    clear C2 k11 k21 k12 k22 b2 o1 o2 B0 B1 hx hy
    go_wp2
    first
      | (refine ⟨rfl, .tuple #[.agg #[.slice none 0 0, .slice none 0 0, .bool false], .iface 77 (.string ⟨#[110, 111, 32, 102, 114, 97, 99, 116, 105, 111, 110, 32, 104, 97, 115, 32, 116, 104, 105, 115, 32, 115, 113, 117, 97, 114, 101]⟩)], ?_, _, _, rfl, .inr ⟨_, rfl, rfl, rfl⟩, below_set3 HB.out (Nat.le_succ _) _ _ _⟩; simp [results, Tryz.f30, go_sem, d0, d1, d2]; done)
      | (refine ⟨rfl, .tuple #[.agg #[.slice a1 P.length c1, .slice a2 Q.length c2, .bool false], .nilIface], ?_, _, _, rfl, .inl ⟨a1, c1, a2, c2, rfl, rfl, (own_far HO.out.1 (gr_set3 _ _ _ _ _) z0).mono (by omega), (own_far HO.out.2 (gr_set3 _ _ _ _ _) z1).mono (by omega), rfl, by show P.length ≤ 1048576; omega, by show Q.length ≤ 1048576; omega⟩, below_set3 HB.out (Nat.le_succ _) _ _ _⟩; simp [results, Tryz.f30, go_sem, d0, d1, d2]; done)
set_option maxRecDepth 20000 in
set_option maxHeartbeats 1000000 in
theorem implRoot_any (b : Bool) (r s : Option Addr) (cr cs : Nat) (X Y : List Int) (w : World) (hh : Hdl w) (hX : Sl w r X) (hY : Sl w s Y) (lX : X.length ≤ 1048576) (lY : Y.length ≤ 1048576) (cX : X.length ≤ cr) (cY : Y.length ≤ cs) :
    Calls Tryz.prog 6 #[fracV b r X.length cr s Y.length cs] w fun e w' => RetF w e w' (op1A rootA b X Y) := by
  obtain ⟨w0, hw0⟩ : ∃ w0, w0 = (w.alloc (.cells #[.bool b, .slice r X.length cr, .slice s Y.length cs] 25)).alloc (.cells #[.bool false, .slice none 0 0, .slice none 0 0] 25) := ⟨_, rfl⟩
  have B0 : Below w.heap.size w w0 := by rw [hw0]; exact ((Below.refl _ w).alloc (Nat.le_refl _) _).alloc (by simp) _
  have k2 : BoxC w0 (w.heap.size + 1) 25 #[.bool false, .slice none 0 0, .slice none 0 0] := by
    rw [hw0]
    have h := boxc_new (w.alloc (.cells #[.bool b, .slice r X.length cr, .slice s Y.length cs] 25)) 25 #[.bool false, .slice none 0 0, .slice none 0 0]
    rw [World.size_alloc] at h
    exact h
  cases h : fokB b X Y with
  | false =>
    rw [op1A_no h]
    have C1 : Hid _ := taken_no b r s cr cs X Y w0 (hX.keep B0) (hY.keep B0) lX lY cX cY h
    have CF : Hid (∀ t W, Hdl W → Calls Tryz.prog 28 #[flt t] W fun e w' => e = .returned (.bool true) ∧ Below W.heap.size W w') := fun t W h => isFault_hit t W h
    unfold fracV fr0 flt at C1
    unfold flt at CF
    unfold frV at C1
    unfold fracV
    clear h lX lY cX cY hX hY
    go_enter Tryz.func6, Tryz.ntmps6
    go_wp2_with fail
    rw [← hw0]
    refine Calls.mono C1.out ?_
    rintro e w1 ⟨⟨t, rfl⟩, b1⟩
    have k21 := boxc_keep k2 b1
    have B1 := B0.trans (b1.mono B0.size)
    have B2 : Below w.heap.size w (w1.alloc (.cells #[.slice none 0 0, .slice none 0 0, .bool false] 48)) := B1.alloc B1.size _
    have h2 := hh.keep B2 hh.pos
    have k22 := boxc_alloc k21 (.cells #[.slice none 0 0, .slice none 0 0, .bool false] 48)
    clear hw0 b1 B0 k2 C1
    go_wp2_with fail
    refine Calls.mono (CF.out t _ h2) ?_
    rintro e w2 ⟨rfl, b2⟩
    obtain ⟨d0, d1, d2, df, dn⟩ := boxc3 (boxc_keep k22 b2)
    have HB : Hid (Below w.heap.size w w2) := B2.trans (b2.mono B2.size)
    clear CF h2 b2 B1 B2 k21 k22 hh
    go_wp2
    refine ⟨rfl, .tuple #[.agg #[.bool false, .slice none 0 0, .slice none 0 0], .bool false], ?_, retF_no (below_set3 HB.out (by omega) _ _ _)⟩
    simp [results, Tryz.f6, go_sem, d0, d1, d2]
  | true =>
    have C1 : Hid _ := taken_yes b r s cr cs X Y w0 (hX.keep B0) (hY.keep B0) lX lY cX cY h
    obtain ⟨x, y, rfl, rfl, lx, ly, _⟩ := fok_parts h
    rw [op1A_yes h]
    have CG : Hid (∀ W, Sl W r (dgs x) → Sl W s (dgs y) → Calls Tryz.prog 30 #[frV r (dgs x).length cr s (dgs y).length cs b] W fun e w' => ∃ v ev, e = .returned (.tuple #[v, ev]) ∧ TellO w' W.heap.size v ev (rootA b x y) ∧ Below W.heap.size W w') := fun W h1 h2 => frRoot_tell r s cr cs x y b W h1 h2 lx ly cX cY
    have CL : Hid (∀ W v ev, Hdl W → Tell W v ev (rootA b x y) → Calls Tryz.prog 29 #[v, ev] W fun e w' => RetF W e w' (rootA b x y)) := fun W v ev h1 h2 => told_tell v ev _ W h1 h2
    have CF : Hid (∀ W, Calls Tryz.prog 28 #[.nilIface] W fun e w' => e = .returned (.bool false) ∧ Below W.heap.size W w') := fun W => isFault_nil W
    obtain ⟨A, hA⟩ : ∃ A, A = rootA b x y := ⟨_, rfl⟩
    obtain ⟨X, hXe⟩ : ∃ X, X = dgs x := ⟨_, rfl⟩
    obtain ⟨Y, hYe⟩ : ∃ Y, Y = dgs y := ⟨_, rfl⟩
    rw [← hXe] at hX
    rw [← hYe] at hY
    rw [← hXe, ← hYe] at C1 hw0
    rw [← hXe, ← hYe, ← hA] at CG
    rw [← hA] at CL
    rw [← hXe, ← hYe, ← hA]
    unfold fracV at C1
    unfold frV at C1 CG
    unfold fracV
    clear h lX lY cX cY hXe hYe hA lx ly
    go_enter Tryz.func6, Tryz.ntmps6
    go_wp2_with fail
    rw [← hw0]
    refine Calls.mono C1.out ?_
    rintro e w1 ⟨rfl, b1⟩
    have k21 := boxc_keep k2 b1
    have B1 := B0.trans (b1.mono B0.size)
    have B2 : Below w.heap.size w (w1.alloc (.cells #[.slice r X.length cr, .slice s Y.length cs, .bool b] 48)) := B1.alloc B1.size _
    have k22 := boxc_alloc k21 (.cells #[.slice r X.length cr, .slice s Y.length cs, .bool b] 48)
    have kx := boxc_new w1 48 #[.slice r X.length cr, .slice s Y.length cs, .bool b]
    clear hw0 b1 B0 k2 C1
    go_wp2_with fail
    refine Calls.mono (CF.out _) ?_
    rintro e w2 ⟨rfl, b2⟩
    have k23 := boxc_keep k22 b2
    have B3 := B2.trans (b2.mono B2.size)
    obtain ⟨c0, c1, c2, _, _⟩ := boxc3 (boxc_keep kx b2)
    clear b2 B1 B2 k21 k22 kx CF
    go_wp2_with fail
    refine Calls.mono (CG.out _ (hX.keep B3) (hY.keep B3)) ?_
    rintro e w3 ⟨v3, e3, rfl, T3, b3⟩
    have k24 := boxc_keep k23 b3
    have B4 := B3.trans (b3.mono B3.size)
    have h4 := hh.keep B4 hh.pos
    clear b3 B3 k23 CG c0 c1 c2 hX hY
    go_wp2_with fail
    refine Calls.mono (CL.out _ _ _ h4 T3.tell) ?_
    rintro e w4 ⟨r4, c4, s4, e4, rfl, o4, p4, ap4, b4⟩
    obtain ⟨d0, d1, d2, df, dn⟩ := boxc3 (boxc_keep k24 b4)
    have H : Hid (RetF w _ _ A) := retF_fin o4 p4 ap4 (B4.trans (b4.mono B4.size)) (Nat.le_succ w.heap.size) (boxc_lt k24) (.bool A.b) (.slice r4 A.X.length c4) (.slice s4 A.Y.length e4)
    clear CL b4 B4 k24 o4 p4 ap4 T3 h4 hh
    unfold fracV at H ⊢
    go_wp2
    refine ⟨rfl, .tuple #[.agg #[.bool A.b, .slice r4 A.X.length c4, .slice s4 A.Y.length e4], .bool A.ok], ?_, H.out⟩
    simp [results, Tryz.f6, go_sem, d0, d1, d2]

set_option maxRecDepth 20000 in
set_option maxHeartbeats 2000000 in
theorem specRoot_any (b : Bool) (r s : Option Addr) (cr cs : Nat) (X Y : List Int) (w : World) (hX : Sl w r X) (hY : Sl w s Y) (lX : X.length ≤ 1048576) (lY : Y.length ≤ 1048576) (cX : X.length ≤ cr) (cY : Y.length ≤ cs) :
    Calls Tryz.prog 7 #[fracV b r X.length cr s Y.length cs] w fun e w' => RetS w e w' (op1A rootA b X Y) := by
  obtain ⟨w0, hw0⟩ : ∃ w0, w0 = (w.alloc (.cells #[.bool b, .slice r X.length cr, .slice s Y.length cs] 25)).alloc (.cells #[.bool false, .slice none 0 0, .slice none 0 0] 25) := ⟨_, rfl⟩
  have B0 : Below w.heap.size w w0 := by rw [hw0]; exact ((Below.refl _ w).alloc (Nat.le_refl _) _).alloc (by simp) _
  have k1 : BoxC w0 w.heap.size 25 #[.bool b, .slice r X.length cr, .slice s Y.length cs] := by rw [hw0]; exact boxc_alloc (boxc_new _ _ _) _
  have k2 : BoxC w0 (w.heap.size + 1) 25 #[.bool false, .slice none 0 0, .slice none 0 0] := by
    rw [hw0]
    have h := boxc_new (w.alloc (.cells #[.bool b, .slice r X.length cr, .slice s Y.length cs] 25)) 25 #[.bool false, .slice none 0 0, .slice none 0 0]
    rw [World.size_alloc] at h
    exact h
  have C1 : Hid _ := specFok_any b r s cr cs X Y w0 (hX.keep B0) (hY.keep B0) lX lY
  cases h : fokB b X Y with
  | false =>
    rw [op1A_no h]
    rw [h] at C1
    unfold fracV at C1 ⊢
    clear h lX lY hX hY
    go_enter Tryz.func7, Tryz.ntmps7
    go_wp2_with fail
    rw [← hw0]
    refine Calls.mono C1.out ?_
    rintro e w1 ⟨rfl, b1⟩
    obtain ⟨d0, d1, d2, df, dn⟩ := boxc3 (boxc_keep k2 b1)
    have HB : Hid (Below w.heap.size w w1) := B0.trans (b1.mono B0.size)
    clear hw0 b1 B0 k1 k2 C1
    go_wp2
    refine ⟨rfl, .tuple #[.agg #[.bool false, .slice none 0 0, .slice none 0 0], .bool false], ?_, retS_no (below_set3 HB.out (by omega) _ _ _)⟩
    simp [results, Tryz.f7, go_sem, d0, d1, d2]
  | true =>
    rw [h] at C1
    obtain ⟨x, y, rfl, rfl, lx, ly, _⟩ := fok_parts h
    rw [op1A_yes h]
    have CX : Hid (∀ W, Sl W r (dgs x) → Calls Tryz.prog 31 #[.slice r (dgs x).length cr] W fun e w' => ∃ a c v, e = .returned (.tuple #[.slice a (rtL (dgs x)).length c, .bool (rtX (dgs x)), v]) ∧ OwnI w' W.heap.size a c (rtL (dgs x)) ∧ Below W.heap.size W w') := fun W h => (specRoot_op r cr (dgs x) W h lX cX).mono fun e w' ⟨r1, c1, h1, h2, h3⟩ => ⟨r1, c1, _, h1, h2, h3⟩
    have CY : Hid (∀ W, Sl W s (dgs y) → Calls Tryz.prog 31 #[.slice s (dgs y).length cs] W fun e w' => ∃ a c v, e = .returned (.tuple #[.slice a (rtL (dgs y)).length c, .bool (rtX (dgs y)), v]) ∧ OwnI w' W.heap.size a c (rtL (dgs y)) ∧ Below W.heap.size W w') := fun W h => (specRoot_op s cs (dgs y) W h lY cY).mono fun e w' ⟨r1, c1, h1, h2, h3⟩ => ⟨r1, c1, _, h1, h2, h3⟩
    have hc := rootA_cases b x y
    obtain ⟨A, hA⟩ : ∃ A, A = rootA b x y := ⟨_, rfl⟩
    obtain ⟨X, hXe⟩ : ∃ X, X = dgs x := ⟨_, rfl⟩
    obtain ⟨Y, hYe⟩ : ∃ Y, Y = dgs y := ⟨_, rfl⟩
    rw [← hA, ← hXe, ← hYe] at hc
    rw [← hXe] at CX hX
    rw [← hYe] at CY hY
    rw [← hXe, ← hYe] at C1 hw0 k1
    rw [← hA, ← hXe, ← hYe]
    obtain ⟨P, hP⟩ : ∃ P, P = rtL X := ⟨_, rfl⟩
    obtain ⟨Q, hQ⟩ : ∃ Q, Q = rtL Y := ⟨_, rfl⟩
    obtain ⟨eX, heX⟩ : ∃ eX, eX = rtX X := ⟨_, rfl⟩
    obtain ⟨eY, heY⟩ : ∃ eY, eY = rtX Y := ⟨_, rfl⟩
    rw [← hP, ← hQ, ← heX, ← heY] at hc
    rw [← hP, ← heX] at CX
    rw [← hQ, ← heY] at CY
    clear hA hXe hYe hP hQ heX heY lx ly lX lY cX cY h
    unfold fracV at C1 ⊢
    rcases hc with ⟨rfl, rfl⟩ | hc
    · go_enter Tryz.func7, Tryz.ntmps7
      go_wp2_with fail
      rw [← hw0]
      refine Calls.mono C1.out ?_
      rintro e w1 ⟨rfl, b1⟩
      obtain ⟨p0, p1, p2, _, _⟩ := boxc3 (boxc_keep k1 b1)
      obtain ⟨d0, d1, d2, df, dn⟩ := boxc3 (boxc_keep k2 b1)
      have HB : Hid (Below w.heap.size w w1) := B0.trans (b1.mono B0.size)
      clear hw0 b1 B0 k1 k2 C1 CX CY hX hY
      go_wp2
      refine ⟨rfl, .tuple #[.agg #[.bool false, .slice none 0 0, .slice none 0 0], .bool false], ?_, retS_no (below_set3 HB.out (by omega) _ _ _)⟩
      simp [results, Tryz.f7, go_sem, d0, d1, d2]
    · rcases hc with ⟨rfl, rfl, rfl⟩ | ⟨rfl, rfl, rfl, rfl⟩ | ⟨rfl, rfl, rfl, rfl⟩
      all_goals
        go_enter Tryz.func7, Tryz.ntmps7
        go_wp2_with fail
        rw [← hw0]
        refine Calls.mono C1.out ?_
        rintro e w1 ⟨rfl, b1⟩
        have k11 := boxc_keep k1 b1
        have k21 := boxc_keep k2 b1
        have B1 := B0.trans (b1.mono B0.size)
        obtain ⟨p0, p1, p2, _, _⟩ := boxc3 k11
        clear hw0 b1 B0 k1 k2 C1
        go_wp2_with fail
        refine Calls.mono (CX.out _ (hX.keep B1)) ?_
        rintro e w2 ⟨a2, c2, v2, rfl, o2, b2⟩
        have k12 := boxc_keep k11 b2
        have k22 := boxc_keep k21 b2
        have B2 := B1.trans (b2.mono B1.size)
        have z1 := boxc_lt k21
        clear p0 p1 p2 b2 k11 k21 B1 CX hX
        obtain ⟨p0, p1, p2, _, _⟩ := boxc3 k12
        go_wp2_with fail
        refine Calls.mono (CY.out _ (hY.keep B2)) ?_
        rintro e w3 ⟨a3, c3, v3, rfl, o3, b3⟩
        obtain ⟨d0, d1, d2, df, dn⟩ := boxc3 (boxc_keep k22 b3)
        have z2 := boxc_lt k22
        have HB : Hid (Below w.heap.size w w3) := B2.trans (b3.mono B2.size)
        have HO : Hid (OwnI w3 w1.heap.size a2 c2 P ∧ OwnI w3 w2.heap.size a3 c3 Q) := ⟨o2.keep b3, o3⟩
        clear p0 p1 p2 b3 k12 k22 B2 CY hY o2 o3
        go_wp2
        first
          | (refine ⟨rfl, .tuple #[.agg #[.bool false, .slice none 0 0, .slice none 0 0], .bool false], ?_, retS_no (below_set3 HB.out (by omega) _ _ _)⟩; simp [results, Tryz.f7, go_sem, d0, d1, d2]; done)
          | (refine ⟨rfl, .tuple #[.agg #[.bool false, .slice a2 P.length c2, .slice a3 Q.length c3], .bool true], ?_, retS_fin (A := ⟨false, P, Q, true⟩) HO.out.1 HO.out.2 HB.out (Nat.le_succ w.heap.size) z1 z2 _ _ _⟩; simp [results, Tryz.f7, go_sem, d0, d1, d2]; done)
end Go.Proofs.YthokphoojmpajabGreatDoor
