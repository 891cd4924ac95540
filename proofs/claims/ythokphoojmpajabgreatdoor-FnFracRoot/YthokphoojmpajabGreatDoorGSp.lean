/- The contracts of spec.l2Make and spec.l2Sum. The contract of spec.l2Sum. -/
import Derived.Test.YthokphoojmpajabGreatDoorGFr8
import Derived.Test.YthokphoojmpajabGreatDoorGFr6
import Derived.Test.YthokphoojmpajabGreatDoorMul
import Derived.Test.YthokphoojmpajabGreatDoorGSA
import Derived.Test.YthokphoojmpajabGreatDoorCmp
import Derived.Test.YthokphoojmpajabGreatDoorGDivs
import Derived.Test.YthokphoojmpajabGreatDoorGGcd
namespace Go.Proofs.YthokphoojmpajabGreatDoor
open Go.RowKit Go.Proofs.Pin

/-- What a function of the specification that answers with a fraction leaves. -/
def RetS (W : World) (e : Ending) (w' : World) (A : FAns) : Prop :=
  ∃ r cr s cs, e = .returned (.tuple #[fracV A.b r A.X.length cr s A.Y.length cs, .bool A.ok]) ∧ OwnI w' W.heap.size r cr A.X ∧ OwnI w' W.heap.size s cs A.Y ∧ Below W.heap.size W w'
theorem retS_no {W w' : World} (h : Below W.heap.size W w') : RetS W (.returned (.tuple #[fracV false none 0 0 none 0 0, .bool false])) w' noA :=
  ⟨none, 0, none, 0, rfl, own_nil _ _, own_nil _ _, h⟩
theorem retS_fin {w w5 : World} {A : FAns} {r s : Option Addr} {cr cs g p q : Nat} (o : OwnI w5 p r cr A.X) (o' : OwnI w5 q s cs A.Y) (hB : Below w.heap.size w w5) (hg : w.heap.size ≤ g) (hp : g < p) (hq : g < q) (x y z : Value) :
    RetS w (.returned (.tuple #[fracV A.b r A.X.length cr s A.Y.length cs, .bool A.ok])) (((w5.setCell ⟨g, 0, none⟩ x).setCell ⟨g, 1, none⟩ y).setCell ⟨g, 2, none⟩ z) A :=
  ⟨r, cr, s, cs, rfl, (own_far o (gr_set3 _ _ _ _ _) hp).mono (by omega), (own_far o' (gr_set3 _ _ _ _ _) hq).mono (by omega), below_set3 hB hg _ _ _⟩

theorem makeA_zero (b : Bool) {y : Nat} (hy : y ≠ 0) : makeA b 0 y = ⟨false, [], [1], true⟩ := by
  have h1 : loX 0 y = [] := by unfold loX; rw [Nat.zero_div]; rfl
  have h2 : loY 0 y = [1] := by unfold loY; rw [Nat.gcd_zero_left, Nat.div_self (by omega)]; rfl
  unfold makeA
  rw [h1, h2]
  simp
theorem makeA_yes {b : Bool} {x y : Nat} (hx : x ≠ 0) (h1 : (loX x y).length ≤ 256) (h2 : (loY x y).length ≤ 256) : makeA b x y = ⟨b, loX x y, loY x y, true⟩ := by
  have h0 : 0 < (loX x y).length := by
    unfold loX
    rw [dgs_pos_len]
    have hg : 0 < Nat.gcd x y := Nat.gcd_pos_of_pos_left _ (by omega)
    exact Nat.ne_of_gt (Nat.div_pos (Nat.le_of_dvd (by omega) (Nat.gcd_dvd_left x y)) hg)
  unfold makeA
  rw [if_pos ⟨h1, h2⟩]
  simp [h0]
theorem makeA_no {b : Bool} {x y : Nat} (h : ¬ ((loX x y).length ≤ 256 ∧ (loY x y).length ≤ 256)) : makeA b x y = noA := by
  unfold makeA; rw [if_neg h]

set_option maxRecDepth 20000 in
set_option maxHeartbeats 1000000 in
theorem l2Make_any (b : Bool) (r s : Option Addr) (cr cs x y : Nat) (w : World) (hx : Sl w r (dgs x)) (hy : Sl w s (dgs y)) (lx : (dgs x).length ≤ 2000) (ly : (dgs y).length ≤ 2000) (hy0 : y ≠ 0) :
    Calls Tryz.prog 49 #[.bool b, .slice r (dgs x).length cr, .slice s (dgs y).length cs] w fun e w' => RetS w e w' (makeA b x y) := by
  by_cases hx0 : x = 0
  · subst hx0
    rw [makeA_zero b hy0]
    have e0 : (dgs 0).length = 0 := rfl
    rw [e0]
    have H : Hid (RetS w (.returned (.tuple #[fracV false none 0 0 (some ⟨w.heap.size + 1, 0, none⟩) 1 1, .bool true])) ((w.alloc (.cells #[.bool false, .slice none 0 0, .slice (some ⟨w.heap.size + 1, 0, none⟩) 1 1] 25)).alloc (.cells #[.int .i64 1] 3)) ⟨false, [], [1], true⟩) :=
      ⟨none, 0, some ⟨w.heap.size + 1, 0, none⟩, 1, rfl, own_nil _ _, own_blk1 (zs := [1]) (by have h := World.alloc_heap_new (w.alloc (.cells #[.bool false, .slice none 0 0, .slice (some ⟨w.heap.size + 1, 0, none⟩) 1 1] 25)) (.cells #[.int .i64 1] 3); simpa using h) (by omega) (by simp; unfold maxLen; omega), ((Below.refl _ w).alloc (Nat.le_refl _) _).alloc (by simp) _⟩
    unfold fracV at H
    clear hx hy lx ly hy0 e0
    go_enter Tryz.func49, Tryz.ntmps49
    go_wp2
    refine ⟨rfl, .tuple #[.agg #[.bool false, .slice none 0 0, .slice (some ⟨w.heap.size + 1, 0, none⟩) 1 1], .bool true], ?_, H.out⟩
    simp [results, Tryz.f49, go_sem]
  · have hl : (((dgs x).length : Int) == 0) = false := by rw [beq_eq_false_iff_ne]; have := (dgs_pos_len x).2 hx0; omega
    have hg0 : Nat.gcd x y ≠ 0 := fun h => hy0 (Nat.eq_zero_of_gcd_eq_zero_right h)
    have hgl : (dgs (Nat.gcd x y)).length ≤ 2000 := Nat.le_trans (dgs_len_le (Nat.gcd_le_right _ (by omega))) ly
    have CG : Hid (∀ W, Sl W r (dgs x) → Sl W s (dgs y) → Calls Tryz.prog 39 #[.slice r (dgs x).length cr, .slice s (dgs y).length cs] W fun e w' => ∃ r' c', e = .returned (.slice r' (dgs (Nat.gcd x y)).length c') ∧ OwnI w' W.heap.size r' c' (dgs (Nat.gcd x y)) ∧ Below W.heap.size W w') := fun W h1 h2 => l1Gcd_any r s cr cs x y W h1 h2 lx ly
    have C1 : Hid (∀ W a c, Sl W r (dgs x) → Sl W a (dgs (Nat.gcd x y)) → Calls Tryz.prog 63 #[.slice r (dgs x).length cr, .slice a (dgs (Nat.gcd x y)).length c] W fun e w' => ∃ r' c' v, e = .returned (.tuple #[.slice r' (loX x y).length c', v]) ∧ OwnI w' W.heap.size r' c' (loX x y) ∧ Below W.heap.size W w') := fun W a c h1 h2 => (l1Div_any r a cr c x _ W h1 h2 lx hgl hg0).mono fun e w' ⟨r1, c1, s1, d1, h1, h2, _, h4⟩ => ⟨r1, c1, _, h1, h2, h4⟩
    have C2 : Hid (∀ W a c, Sl W s (dgs y) → Sl W a (dgs (Nat.gcd x y)) → Calls Tryz.prog 63 #[.slice s (dgs y).length cs, .slice a (dgs (Nat.gcd x y)).length c] W fun e w' => ∃ r' c' v, e = .returned (.tuple #[.slice r' (loY x y).length c', v]) ∧ OwnI w' W.heap.size r' c' (loY x y) ∧ Below W.heap.size W w') := fun W a c h1 h2 => (l1Div_any s a cs c y _ W h1 h2 ly hgl hg0).mono fun e w' ⟨r1, c1, s1, d1, h1, h2, _, h4⟩ => ⟨r1, c1, _, h1, h2, h4⟩
    have HY : Hid ((loX x y).length ≤ 256 → (loY x y).length ≤ 256 → makeA b x y = ⟨b, loX x y, loY x y, true⟩) := fun h1 h2 => makeA_yes hx0 h1 h2
    have HN : Hid (¬ ((loX x y).length ≤ 256 ∧ (loY x y).length ≤ 256) → makeA b x y = noA) := fun h => makeA_no h
    obtain ⟨A, hA⟩ : ∃ A, A = makeA b x y := ⟨_, rfl⟩
    obtain ⟨X, hX⟩ : ∃ X, X = dgs x := ⟨_, rfl⟩
    obtain ⟨Y, hY⟩ : ∃ Y, Y = dgs y := ⟨_, rfl⟩
    obtain ⟨G, hG⟩ : ∃ G, G = dgs (Nat.gcd x y) := ⟨_, rfl⟩
    obtain ⟨P, hP⟩ : ∃ P, P = loX x y := ⟨_, rfl⟩
    obtain ⟨Q, hQ⟩ : ∃ Q, Q = loY x y := ⟨_, rfl⟩
    rw [← hX, ← hY, ← hG] at CG
    rw [← hX, ← hG, ← hP] at C1
    rw [← hY, ← hG, ← hQ] at C2
    rw [← hA, ← hP, ← hQ] at HY HN
    rw [← hX] at hx hl
    rw [← hY] at hy
    rw [← hA, ← hX, ← hY]
    clear hA hX hY hG hP hQ lx ly hy0 hg0 hgl hx0
    have B0 : Below w.heap.size w (w.alloc (.cells #[.bool false, .slice none 0 0, .slice none 0 0] 25)) := (Below.refl _ w).alloc (Nat.le_refl _) _
    have k0 := boxc_new w 25 #[.bool false, .slice none 0 0, .slice none 0 0]
    go_enter Tryz.func49, Tryz.ntmps49
    go_wp2_with fail
    refine Calls.mono (CG.out _ (hx.keep B0) (hy.keep B0)) ?_
    rintro e w1 ⟨a1, c1, rfl, o1, b1⟩
    have k1 := boxc_keep k0 b1
    have B1 := B0.trans (b1.mono B0.size)
    clear CG k0 B0 b1
    go_wp2_with fail
    refine Calls.mono (C1.out _ _ _ (hx.keep B1) o1.sl) ?_
    rintro e w2 ⟨a2, c2, v2, rfl, o2, b2⟩
    have k2 := boxc_keep k1 b2
    have B2 := B1.trans (b2.mono B1.size)
    have g2 := o1.sl.keep b2
    have n1 := boxc_lt k1
    clear C1 k1 b2 o1 B1 hx
    go_wp2_with fail
    refine Calls.mono (C2.out _ _ _ (hy.keep B2) g2) ?_
    rintro e w3 ⟨a3, c3, v3, rfl, o3, b3⟩
    obtain ⟨d0, d1, d2, df, dn⟩ := boxc3 (boxc_keep k2 b3)
    have n2 := boxc_lt k2
    have HB : Hid (Below w.heap.size w w3) := B2.trans (b3.mono B2.size)
    have HO : Hid (OwnI w3 w1.heap.size a2 c2 P ∧ OwnI w3 w2.heap.size a3 c3 Q) := ⟨o2.keep b3, o3⟩
    clear C2 k2 b3 o2 o3 B2 hy g2
    by_cases h1 : (256 : Int) < (P.length : Int)
    · have hA := HN.out (fun h => by omega)
      subst hA
      clear HN HY
      go_wp2
      refine ⟨rfl, .tuple #[.agg #[.bool false, .slice none 0 0, .slice none 0 0], .bool false], ?_, retS_no (below_set3 HB.out (Nat.le_refl _) _ _ _)⟩
      simp [results, Tryz.f49, go_sem, d0, d1, d2]
    · by_cases h2 : (256 : Int) < (Q.length : Int)
      · have hA := HN.out (fun h => by omega)
        subst hA
        clear HN HY
        go_wp2
        refine ⟨rfl, .tuple #[.agg #[.bool false, .slice none 0 0, .slice none 0 0], .bool false], ?_, retS_no (below_set3 HB.out (Nat.le_refl _) _ _ _)⟩
        simp [results, Tryz.f49, go_sem, d0, d1, d2]
      · have hA := HY.out (by omega) (by omega)
        subst hA
        have H : Hid (RetS w _ _ ⟨b, P, Q, true⟩) := retS_fin (A := ⟨b, P, Q, true⟩) HO.out.1 HO.out.2 HB.out (Nat.le_refl _) n1 n2 (.bool b) (.slice a2 P.length c2) (.slice a3 Q.length c3)
        unfold fracV at H
        clear HN HY HO HB
        go_wp2
        refine ⟨rfl, .tuple #[.agg #[.bool b, .slice a2 P.length c2, .slice a3 Q.length c3], .bool true], ?_, H.out⟩
        simp [results, Tryz.f49, go_sem, d0, d1, d2]
end Go.Proofs.YthokphoojmpajabGreatDoor

namespace Go.Proofs.YthokphoojmpajabGreatDoor
open Go.RowKit Go.Proofs.Pin

theorem own_dN {w : World} {base c : Nat} {r : Option Addr} {X : List Int} (o : OwnI w base r c X) (q : Nat) : OwnI (w.drewN q) base r c X := o.kept (row := none) ⟨rfl, rfl, rfl, Nat.le_refl _, fun _ _ _ => rfl⟩ (fun _ _ e => by cases e)
theorem boxc_dN {W : World} {B : Nat} {t : TypeId} {cs : Array Value} (h : BoxC W B t cs) (q : Nat) : BoxC (W.drewN q) B t cs := h

end Go.Proofs.YthokphoojmpajabGreatDoor
