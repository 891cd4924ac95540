/- The contract of impl.digits.raised: a number times a factor of one digit, with noughts put below. -/
import Derived.Test.YthokphoojmpajagDoorScaled
import Derived.Test.YthokphoojmpajagDoorGNum
import Derived.Deep.RegionLaw
import Derived.Deep.AppendLies
namespace Go.Proofs.YthokphoojmpajagDoor
open Go.RowKit Go.Proofs.Pin

theorem mk_run (n : Nat) (hn : n ≤ 30000) (w : World) : (Instr.makeSlice 41 (.int .i64 (n : Int)) (.int .i64 (n : Int))).run Tryd.prog w = .ok (.slice (some ⟨w.heap.size, 0, none⟩) n n) (w.alloc (.cells (Array.replicate n (Value.int .i64 0)) 3)) := by
  obtain ⟨i0, hi, hz0, hz1, hz2⟩ := info_parts Tryd.info3
  have h := run_make (P := Tryd.prog) w 41 3 i0 (.int .i64 0) Tryd.underlying41 hi hz0 .i64 .i64 (n : Int) (n : Int) (by omega) (Int.le_refl _) (by rw [hz2]; omega) (by omega)
  rw [h, hz1, Int.toNat_natCast, Nat.mul_one]
  have e : madeCells (Value.int .i64 0).cells n = Array.replicate n (Value.int .i64 0) := by
    rw [← List.toArray_replicate, ← toList_madeCells_one, Array.toArray_toList]; rfl
  rw [e]

theorem own_made (n : Nat) (w : World) (base : Nat) (hn : n ≤ 30000) (hb : base ≤ w.heap.size) : OwnI (w.alloc (.cells (Array.replicate n (Value.int .i64 0)) 3)) base (some ⟨w.heap.size, 0, none⟩) n (List.replicate n 0) := by
  have h := own_of_block (base := base) (zs := List.replicate n (0 : Int)) (g := w.heap.size) (w := w.alloc (.cells (Array.replicate n (Value.int .i64 0)) 3)) (by rw [List.map_replicate, List.toArray_replicate]; exact heap_alloc_new w _) hb (by simp [maxLen]; omega)
  rw [List.length_replicate] at h
  exact h

theorem dgs_mul_len {x f K : Nat} (hx : (dgs x).length ≤ K) (hf : f < 65536) : (dgs (x * f)).length ≤ K + 1 := by
  rw [dgs_len_iff] at hx ⊢
  rw [Nat.pow_succ]
  exact Nat.mul_lt_mul_of_lt_of_lt hx hf

set_option maxRecDepth 20000 in
attribute [local go_sem ↓] mk_run

set_option maxHeartbeats 1600000 in
theorem raised_any (a : Option Addr) (ca : Nat) (x n : Nat) (f : Int) (w : World) (ha : Sl w a (dgs x)) (hx0 : x ≠ 0) (hx : (dgs x).length ≤ 20000) (hf0 : 0 < f) (hf1 : f < 65536) (hn : n ≤ 30000) :
    Calls Tryd.prog 100 #[.slice a (dgs x).length ca, .int .i64 (n : Int), .int .i64 f] w fun e w' => ∃ r cr, e = .returned (.slice r (dgs (x * f.toNat * 65536 ^ n)).length cr) ∧ OwnI w' w.heap.size r cr (dgs (x * f.toNat * 65536 ^ n)) ∧ Below w.heap.size w w' := by
  obtain ⟨i0, hi, hz0, hz1, hz2⟩ := info_parts Tryd.info3
  have CS : Hid (∀ w1, Sl w1 a (dgs x) → Calls Tryd.prog 107 #[.slice a (dgs x).length ca, .int .i64 f, .int .i64 0] w1 fun e w' => ∃ r cr, e = .returned (.slice r (dgs (x * f.toNat)).length cr) ∧ OwnI w' w1.heap.size r cr (dgs (x * f.toNat)) ∧ Below w1.heap.size w1 w') := fun w1 h => by
    have h := scaled_any a ca x f 0 w1 h (by omega) (by omega) hf1 (by omega) (by omega)
    rw [Int.toNat_zero, Nat.add_zero] at h
    exact h
  obtain ⟨D, hD⟩ : ∃ D, D = dgs (x * f.toNat) := ⟨_, rfl⟩
  have hxf : x * f.toNat ≠ 0 := Nat.mul_ne_zero hx0 (by omega)
  have HR : Hid (List.replicate n (0 : Int) ++ D = dgs (x * f.toNat * 65536 ^ n)) := by rw [hD]; exact dgs_shift n _ hxf
  have HDg : Hid (Dg (List.replicate n (0 : Int) ++ D)) := by rw [hD]; exact (Dg.zeros n).append (Dg_dgs _)
  have hDl : D.length ≤ 30000 := by
    rw [hD]; exact Nat.le_trans (dgs_mul_len (f := f.toNat) hx (by omega)) (by decide)
  have hD0 : 0 < D.length := by
    rcases Nat.eq_zero_or_pos D.length with h1 | h1
    · have h2 := val_dgs (x * f.toNat)
      rw [← hD, List.length_eq_zero_iff.mp h1] at h2
      simp only [val] at h2
      omega
    · exact h1
  rw [← hD] at CS
  obtain ⟨R, hR⟩ : ∃ R, R = dgs (x * f.toNat * 65536 ^ n) := ⟨_, rfl⟩
  rw [← hR] at HR ⊢
  have HK : Hid (∀ W, Below w.heap.size w W → Sl W a (dgs x)) := fun W h => ha.keep h
  obtain ⟨m, hm⟩ : ∃ m, m = D.length := ⟨_, rfl⟩
  have HM : Hid (m = D.length) := hm
  rw [← hm] at hDl hD0 CS
  have BR : Hid (Below w.heap.size w w.drew) := below_dN (Below.refl _ _) 1
  have CT : Hid (∀ g cap (w3 : World), w3.ownsRow w.heap.size 3 1 (.slice (some ⟨g, 0, none⟩) (n + m) cap) (n + m) ((List.replicate n (0 : Int)).map (Value.int .i64) ++ D.map (Value.int .i64)) → Calls Tryd.prog 84 #[.slice (some ⟨g, 0, none⟩) (n + m) cap] w3 fun e w' => e = .returned (.slice (some ⟨g, 0, none⟩) R.length cap) ∧ OwnI w3 w.heap.size (some ⟨g, 0, none⟩) cap R ∧ w3 = w') := fun g cap w3 h => by
    have hl : (List.replicate n (0 : Int) ++ D).length = n + m := by rw [List.length_append, List.length_replicate, hm]
    have ho : OwnI w3 w.heap.size (some ⟨g, 0, none⟩) cap (List.replicate n (0 : Int) ++ D) := by
      unfold OwnI
      rw [hl, List.map_append]
      exact h
    have T := trimmed_any w.heap.size (some ⟨g, 0, none⟩) cap _ w3 ho (by rw [hl]; omega)
    have e : (List.replicate n (0 : Int) ++ D).take (trimN (List.replicate n (0 : Int) ++ D) (List.replicate n (0 : Int) ++ D).length) = R := by
      rw [trim_dgs HDg.out, HR.out, hR, val_dgs, Int.toNat_natCast]
    rw [e, hl] at T
    exact T.mono fun e w' h => ⟨h.1, by rw [h.2.2]; exact h.2.1, h.2.2⟩
  have hone : ∀ u ∈ D.map (Value.int .i64), u.oneCell' = true := oneCells D
  have hnl : (D.map (Value.int .i64)).length = m * 1 := by rw [List.length_map, hm, Nat.mul_one]
  have HW : Hid (∀ (W : World) (r : Option Addr), Sl W r D → ∃ ad, r = some ad ∧ ∀ j v, (D.map (Value.int .i64))[j]? = some v → W.cell? (ad.add j) = some v) := fun W r h => sl_src h (by omega)
  have HN : Hid (∀ (W W' : World) (g : Nat), OwnI W w.heap.size (some ⟨g, 0, none⟩) n (List.replicate n (0 : Int)) → Below W.heap.size W W' → W'.ownsRow w.heap.size 3 1 (.slice (some ⟨g, 0, none⟩) n n) n ((List.replicate n (0 : Int)).map (Value.int .i64))) := fun W W' g h hb => by
    have k := h.keep hb
    unfold OwnI at k
    rw [List.length_replicate] at k
    exact k
  clear hD hm hR ha hx hxf
  go_enter Tryd.func100, Tryd.ntmps100
  go_wp2_with fail
  go_region_law (first
    | (go_simp; go_at_call 107; refine Calls.mono (CS.out _ (HK.out _ (by first | exact BR.out | exact BR.out.alloc (Nat.le_refl _) _))) ?_; rintro e w2 ⟨r, cr, rfl, o2, b2⟩; have B2 : Below w.heap.size w w2 := (by first | exact BR.out | exact BR.out.alloc (Nat.le_refl _) _ : Below w.heap.size w _).trans (b2.mono (by first | exact Nat.le_refl _ | simp)); (try (have rA := HN.out _ _ _ (own_made n w.drew w.heap.size hn (Nat.le_refl _)) b2)); obtain ⟨ad, rfl, hsrc⟩ := HW.out w2 r o2.sl; have hsl : ∀ j v, (D.map (Value.int .i64))[j]? = some v → (ad.add j).block < w2.heap.size := (fun j v h => World.block_lt_of_cell? w2 _ (hsrc j v h)))
    | (go_simp; go_at_call 84; refine Calls.mono (CT.out _ _ _ hown3) ?_; rintro e w' ⟨rfl, o4, rfl⟩)
    | (refine step_append_lies _ (by rfl) _ _ _ (by rfl) w.heap.size 3 i0 (.int .i64 0) 1 8 Tryd.underlying41 hi hz0 hz1 hz2 rfl (by decide) (.slice (some ⟨w.heap.size, 0, none⟩) n n) n _ (by rfl) rA ad m cr _ (by rfl) hnl hsrc hone hD0 (by unfold maxLen; omega) (by omega) B2.size _ rfl ?_; intro g cap w3 hown3 hgrow3 hat3 hlt3; have B3 : Below w.heap.size w w3 := B2.grown hgrow3 B2.size (fun k hk => by cases hk; first | exact Nat.le_refl _ | exact B2.size))
    | (refine step_append_lies _ (by rfl) _ _ _ (by rfl) w.heap.size 3 i0 (.int .i64 0) 1 8 Tryd.underlying41 hi hz0 hz1 hz2 rfl (by decide) (.slice (some ⟨w2.heap.size, 0, none⟩) n n) n _ (by rfl) (HN.out _ _ _ (own_made n w2 w.heap.size hn B2.size) (Below.refl _ _)) ad m cr _ (by rfl) hnl (fun j v h => by rw [← hsrc j v h]; exact (World.grownBy_alloc _ _ none).cell_far _ (hsl j v h) (by simp)) hone hD0 (by unfold maxLen; omega) (by omega) (B2.alloc B2.size _).size _ rfl ?_; intro g cap w3 hown3 hgrow3 hat3 hlt3; have B3 : Below w.heap.size w w3 := (B2.alloc B2.size (.cells (Array.replicate n (Value.int .i64 0)) 3)).grown hgrow3 (B2.alloc B2.size (.cells (Array.replicate n (Value.int .i64 0)) 3)).size (fun k hk => by cases hk; first | exact Nat.le_refl _ | exact B2.size)))
  all_goals
    go_wp2
    go_ret
    exact ⟨_, _, rfl, o4, B3⟩
end Go.Proofs.YthokphoojmpajagDoor
