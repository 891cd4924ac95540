/- For the laws of fractions: the size that is left, and what stays while two rows are marked. -/
import Derived.Test.YthokphoojmpajahDoorFracIn
import Derived.Test.YthokphoojmpajahDoorGFr8
namespace Go.Proofs.YthokphoojmpajahDoor
open Go.RowKit Go.Proofs.Pin

set_option maxRecDepth 20000 in
theorem szFrac_at (b : Bool) (r s : Option Addr) (n m c d : Nat) (l : Int) (w : World) (hn : n ≤ 9223372036854775807) (hm : m ≤ 9223372036854775807) (h0 : 0 ≤ l) (hl : l ≤ 1048576) :
    Calls Tryd.prog 6 #[fracV b r n c s m d, .int .i64 l] w fun e w' => ∃ l' : Int, e = .returned (.int .i64 l') ∧ (l' < 0 ∨ (0 ≤ l' ∧ l' ≤ 1048576 ∧ n ≤ 1048576 ∧ m ≤ 1048576)) ∧ Below w.heap.size w w' := by
  unfold fracV
  have B0 : Below w.heap.size w (w.alloc (.cells #[.bool b, .slice r n c, .slice s m d] 24)) := (Below.refl _ w).alloc (Nat.le_refl _) _
  have K1 := szS_any r n c l (w.alloc (.cells #[.bool b, .slice r n c, .slice s m d] 24)) hn h0 hl
  by_cases h1 : (n : Int) ≤ l
  · have K2 := szS_any s m d (l - (n : Int)) (w.alloc (.cells #[.bool b, .slice r n c, .slice s m d] 24)) hm (by omega) (by omega)
    rw [if_pos h1] at K1
    have k1 : Hid _ := K1
    have e1 : ¬ l - (n : Int) < 0 := by omega
    by_cases h2 : (m : Int) ≤ l - (n : Int)
    · rw [if_pos h2] at K2
      have k2 : Hid _ := K2
      have e2 : ¬ l - (n : Int) - (m : Int) < 0 := by omega
      clear K1 K2
      go_enter Tryd.func6, Tryd.ntmps6
      go_wp2_with fail
      refine Calls.mono k1.out ?_
      rintro e w' ⟨rfl, rfl⟩
      go_wp2_with fail
      refine Calls.mono k2.out ?_
      rintro e w' ⟨rfl, rfl⟩
      go_wp2
      go_ret
      exact ⟨_, rfl, .inr ⟨by omega, by omega, by omega, by omega⟩, B0⟩
    · rw [if_neg h2] at K2
      have k2 : Hid _ := K2
      clear K1 K2
      go_enter Tryd.func6, Tryd.ntmps6
      go_wp2_with fail
      refine Calls.mono k1.out ?_
      rintro e w' ⟨rfl, rfl⟩
      go_wp2_with fail
      refine Calls.mono k2.out ?_
      rintro e w' ⟨rfl, rfl⟩
      go_wp2
      go_ret
      exact ⟨_, rfl, .inl (by omega), B0⟩
  · rw [if_neg h1] at K1
    have k1 : Hid _ := K1
    clear K1
    go_enter Tryd.func6, Tryd.ntmps6
    go_wp2_with fail
    refine Calls.mono k1.out ?_
    rintro e w' ⟨rfl, rfl⟩
    go_wp2
    go_ret
    exact ⟨_, rfl, .inl (by omega), B0⟩

/-- What could be read ahead of the two rows that are marked can be read behind it. -/
theorem sl_old {W0 W W' : World} {a r s : Option Addr} {zs : List Int} {L : Nat} (h0 : Sl W0 a zs) (h : Sl W a zs) (hL : W0.heap.size ≤ L) (hg : grown2 W W' (r.map (·.block)) (s.map (·.block))) (hr : ∀ k, r.map (·.block) = some k → L ≤ k) (hs : ∀ k, s.map (·.block) = some k → L ≤ k) : Sl W' a zs :=
  sl_two h hg (fun g hg' => h0.later (Nat.le_trans hL (hr g hg'))) (fun g hg' => h0.later (Nat.le_trans hL (hs g hg')))
/-- A row of the call's own that was laid later stays. -/
theorem own_new {W W' : World} {a r s : Option Addr} {zs : List Int} {base c U : Nat} (h : OwnI W base a c zs) (hg : grown2 W W' (r.map (·.block)) (s.map (·.block))) (hr : ∀ k, r.map (·.block) = some k → k < U) (hs : ∀ k, s.map (·.block) = some k → k < U) (hU : U ≤ base) : OwnI W' base a c zs := by
  obtain ⟨w1, g1, g2⟩ := hg
  exact (h.keptR g1 (fun k hk j hj => by have := hr k hk; have := own_ge h j hj; omega)).keptR g2 (fun k hk j hj => by have := hs k hk; have := own_ge h j hj; omega)
theorem boxc_two {W W' : World} {B : Nat} {t : TypeId} {cs : Array Value} {r s : Option Addr} (h : BoxC W B t cs) (hg : grown2 W W' (r.map (·.block)) (s.map (·.block))) (hr : ∀ k, r.map (·.block) = some k → k ≠ B) (hs : ∀ k, s.map (·.block) = some k → k ≠ B) : BoxC W' B t cs := by
  obtain ⟨w1, g1, g2⟩ := hg
  exact boxc_kept (boxc_kept h g1 (fun e => hr B e.symm rfl)) g2 (fun e => hs B e.symm rfl)
theorem cell_big {B i : Nat} {V W : World} {v : Option Value} (hb : Below V.heap.size V W) (hB : B < V.heap.size) (h : V.drew.cell? ⟨B, i, none⟩ = v) : W.cell? ⟨B, i, none⟩ = v := (hb.cell (p := ⟨B, i, none⟩) hB).trans h
theorem cell_new {B i : Nat} {V W : World} {v : Option Value} {o : Obj} (hb : Below V.heap.size V W) (hB : B < V.heap.size) (h : V.drew.cell? ⟨B, i, none⟩ = v) : (W.alloc o).cell? ⟨B, i, none⟩ = v := by
  rw [World.cell?_alloc_lt _ _ _ (Nat.lt_of_lt_of_le hB hb.size)]
  exact cell_big hb hB h
/-- The answer can be read. -/
def RetR (W : World) (e : Ending) (w' : World) (A : FAns) : Prop :=
  ∃ r cr s cs, e = .returned (.tuple #[fracV A.b r A.X.length cr s A.Y.length cs, .bool A.ok]) ∧ Sl w' r A.X ∧ Sl w' s A.Y ∧ Below W.heap.size W w'
theorem RetF.r {W : World} {e : Ending} {w' : World} {A : FAns} (h : RetF W e w' A) : RetR W e w' A := by
  obtain ⟨r, cr, s, cs, h1, h2, h3, _, h5⟩ := h
  exact ⟨r, cr, s, cs, h1, h2.sl, h3.sl, h5⟩
theorem ap_blocks {r s : Option Addr} (h : Ap r s) : ∀ i j, r.map (·.block) = some i → s.map (·.block) = some j → i ≠ j := by
  intro i j hi hj
  cases r with
  | none => cases hi
  | some x => cases s with
    | none => cases hj
    | some y => cases hi; cases hj; exact h x y rfl rfl
end Go.Proofs.YthokphoojmpajahDoor
