/- The contract of digits.copied. -/
import Derived.Test.YthokphoojmpajahDoorGAr
import Derived.Laws.AppendOwnNone
namespace Go.Proofs.YthokphoojmpajahDoor
open Go.RowKit Go.Proofs.Pin

theorem append_none (ty : TypeId) (i : TypeInfo) (hi : Tryd.prog.info? 3 = some i) (c : Nat) (w : World) : (Builtin.append_ #[42, 42] ty #[.slice none 0 0, .slice none 0 c]).run Tryd.prog w = .ok (.slice none 0 0) w := by
  simp [Builtin.append_, run_underlying Tryd.underlying42, sizeOf, typeInfo, hi, Builtin.lenOf, Builtin.firstCells]

set_option maxRecDepth 20000 in
set_option maxHeartbeats 400000 in
theorem copied_any (a : Option Addr) (ca : Nat) (zs : List Int) (w : World) (h : Sl w a zs) (hlen : zs.length ≤ 1048576) :
    Calls Tryd.prog 48 #[.slice a zs.length ca] w fun e w' => ∃ r cr, e = .returned (.slice r zs.length cr) ∧ OwnI w' w.heap.size r cr zs ∧ Below w.heap.size w w' := by
  obtain ⟨i0, hi, hz0, hz1, hz2⟩ := info_parts Tryd.info3
  have hnil := World.ownsRow_nil w w.heap.size 3 1
  obtain ⟨n, hn⟩ : ∃ n, n = zs.length := ⟨_, rfl⟩
  have HN : Hid (n = zs.length) := hn
  have hn2 : n ≤ 1048576 := by omega
  obtain ⟨cs, hcs⟩ : ∃ cs, cs = zs.map (Value.int .i64) := ⟨_, rfl⟩
  have HCS : Hid (cs = zs.map (Value.int .i64)) := hcs
  have hcl : cs.length = n * 1 := by rw [hcs, List.length_map, hn, Nat.mul_one]
  by_cases h0 : ∃ ad, a = some ad
  · obtain ⟨ad, rfl⟩ := h0
    have hsrc : ∀ j u, cs[j]? = some u → w.cell? (ad.add j) = some u := by
      intro j u hu
      by_cases hz : 0 < zs.length
      · obtain ⟨ad', e, hsr⟩ := sl_src h hz
        cases e
        rw [hcs] at hu
        exact hsr j u hu
      · rw [hcs, List.length_eq_zero_iff.mp (by omega : zs.length = 0)] at hu
        simp at hu
    have hone : ∀ u ∈ cs, u.oneCell' = true := by rw [hcs]; exact oneCells zs
    rw [← hn]
    clear hn h hlen hcs
    go_enter Tryd.func48, Tryd.ntmps48
    go_wp2_with (at_builtin; refine wpList_append_own _ rfl _ _ 42 rfl w.heap.size 3 i0 (.int .i64 0) 1 8 Tryd.underlying42 hi hz0 hz1 hz2 rfl (by decide) _ _ _ rfl hnil ad n ca cs rfl hcl hsrc hone ?_ ?_ (Nat.le_refl _) ?_)
    rotate_left 2
    · intro v' w1 hown' hgrow _
      have hb : Below w.heap.size w w1 := (Below.refl _ _).grown hgrow (Nat.le_refl _) (fun k hk => by cases hk)
      have hown2 : w1.ownsRow w.heap.size 3 1 v' n (zs.map (Value.int .i64)) := by
        have h := hown'
        rw [← HCS.out]
        simpa using h
      obtain ⟨r, cr, hv, ho⟩ := OwnI.of_row hown2
      rw [← HN.out] at hv
      subst hv
      clear hown' hgrow hown2
      go_wp2
      go_ret
      exact ⟨r, cr, rfl, ho, hb⟩
    · unfold maxLen; omega
    · omega
  · have ha : a = none := by
      cases a with
      | none => rfl
      | some ad => exact absurd ⟨ad, rfl⟩ h0
    subst ha
    have hz : zs = [] := by
      rcases h with h | ⟨b, off, e, _⟩
      · exact h
      · cases e
    subst hz
    have hrun := fun ty w => append_none ty i0 hi ca w
    clear hcl hnil hn h h0 hcs
    go_enter Tryd.func48, Tryd.ntmps48
    go_wp2
    go_ret
    exact ⟨none, 0, rfl, OwnI.nil _ _, Below.refl _ _⟩

end Go.Proofs.YthokphoojmpajahDoor
