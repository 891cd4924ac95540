/- The contracts of spec.l2Make and spec.l2Sum. The contract of spec.l2Sum. -/
import Derived.Test.YthokphoojmpajaaGreatDoorGFr8
import Derived.Test.YthokphoojmpajaaGreatDoorGFr6
import Derived.Test.YthokphoojmpajaaGreatDoorMul
import Derived.Test.YthokphoojmpajaaGreatDoorGSA
import Derived.Test.YthokphoojmpajaaGreatDoorCmp
import Derived.Test.YthokphoojmpajaaGreatDoorDivAll
import Derived.Test.YthokphoojmpajaaGreatDoorGGcd
namespace Go.Proofs.YthokphoojmpajaaGreatDoor
open Go.RowKit Go.Proofs.Pin

/-- What a function of the specification that answers with a fraction leaves. -/
def RetS (W : World) (e : Ending) (w' : World) (A : FAns) : Prop :=
  ∃ r cr s cs, e = .returned (.tuple #[fracV A.b r A.X.length cr s A.Y.length cs, .bool A.ok]) ∧ OwnI w' W.heap.size r cr A.X ∧ OwnI w' W.heap.size s cs A.Y ∧ Below W.heap.size W w'
theorem retS_no {W w' : World} (h : Below W.heap.size W w') : RetS W (.returned (.tuple #[fracV false none 0 0 none 0 0, .bool false])) w' noA :=
  ⟨none, 0, none, 0, rfl, own_nil _ _, own_nil _ _, h⟩
theorem retS_fin {w w5 : World} {A : FAns} {r s : Option Addr} {cr cs g p q : Nat} (o : OwnI w5 p r cr A.X) (o' : OwnI w5 q s cs A.Y) (hB : Below w.heap.size w w5) (hg : w.heap.size ≤ g) (hp : g < p) (hq : g < q) (x y z : Value) :
    RetS w (.returned (.tuple #[fracV A.b r A.X.length cr s A.Y.length cs, .bool A.ok])) (((w5.setCell ⟨g, 0, none⟩ x).setCell ⟨g, 1, none⟩ y).setCell ⟨g, 2, none⟩ z) A :=
  ⟨r, cr, s, cs, rfl, (own_far o (gr_set3 _ _ _ _ _) hp).mono (by omega), (own_far o' (gr_set3 _ _ _ _ _) hq).mono (by omega), below_set3 hB hg _ _ _⟩

theorem makeA_zero (b : Bool) {y : Nat} (hy : y ≠ 0) : makeA b 0 y = ⟨false, [], [1], true⟩ := by
  have h1 : loX 0 y = [] := by unfold loX; rw [Nat.zero_div]; rfl
  have h2 : loY 0 y = [1] := by unfold loY; rw [Nat.gcd_zero_left, Nat.div_self (by omega)]; rfl
  unfold makeA
  rw [h1, h2]
  simp
theorem makeA_yes {b : Bool} {x y : Nat} (hx : x ≠ 0) (h1 : (loX x y).length ≤ 256) (h2 : (loY x y).length ≤ 256) : makeA b x y = ⟨b, loX x y, loY x y, true⟩ := by
  have h0 : 0 < (loX x y).length := by
    unfold loX
    rw [dgs_pos_len]
    have hg : 0 < Nat.gcd x y := Nat.gcd_pos_of_pos_left _ (by omega)
    exact Nat.ne_of_gt (Nat.div_pos (Nat.le_of_dvd (by omega) (Nat.gcd_dvd_left x y)) hg)
  unfold makeA
  rw [if_pos ⟨h1, h2⟩]
  simp [h0]
theorem makeA_no {b : Bool} {x y : Nat} (h : ¬ ((loX x y).length ≤ 256 ∧ (loY x y).length ≤ 256)) : makeA b x y = noA := by
  unfold makeA; rw [if_neg h]

set_option maxRecDepth 20000 in
set_option maxHeartbeats 1000000 in
theorem l2Make_any (b : Bool) (r s : Option Addr) (cr cs x y : Nat) (w : World) (hx : Sl w r (dgs x)) (hy : Sl w s (dgs y)) (lx : (dgs x).length ≤ 2000) (ly : (dgs y).length ≤ 2000) (hy0 : y ≠ 0) :
    Calls Tryz.prog 24 #[.bool b, .slice r (dgs x).length cr, .slice s (dgs y).length cs] w fun e w' => RetS w e w' (makeA b x y) := by
  by_cases hx0 : x = 0
  · subst hx0
    rw [makeA_zero b hy0]
    have e0 : (dgs 0).length = 0 := rfl
    rw [e0]
    have H : Hid (RetS w (.returned (.tuple #[fracV false none 0 0 (some ⟨w.heap.size + 1, 0, none⟩) 1 1, .bool true])) ((w.alloc (.cells #[.bool false, .slice none 0 0, .slice (some ⟨w.heap.size + 1, 0, none⟩) 1 1] 25)).alloc (.cells #[.int .i64 1] 3)) ⟨false, [], [1], true⟩) :=
      ⟨none, 0, some ⟨w.heap.size + 1, 0, none⟩, 1, rfl, own_nil _ _, own_blk1 (zs := [1]) (by have h := World.alloc_heap_new (w.alloc (.cells #[.bool false, .slice none 0 0, .slice (some ⟨w.heap.size + 1, 0, none⟩) 1 1] 25)) (.cells #[.int .i64 1] 3); simpa using h) (by omega) (by simp; unfold maxLen; omega), ((Below.refl _ w).alloc (Nat.le_refl _) _).alloc (by simp) _⟩
    unfold fracV at H
    clear hx hy lx ly hy0 e0
    go_enter Tryz.func24, Tryz.ntmps24
    go_wp2
    refine ⟨rfl, .tuple #[.agg #[.bool false, .slice none 0 0, .slice (some ⟨w.heap.size + 1, 0, none⟩) 1 1], .bool true], ?_, H.out⟩
    simp [results, Tryz.f24, go_sem]
  · have hl : (((dgs x).length : Int) == 0) = false := by rw [beq_eq_false_iff_ne]; have := (dgs_pos_len x).2 hx0; omega
    have hg0 : Nat.gcd x y ≠ 0 := fun h => hy0 (Nat.eq_zero_of_gcd_eq_zero_right h)
    have hgl : (dgs (Nat.gcd x y)).length ≤ 2000 := Nat.le_trans (dgs_len_le (Nat.gcd_le_right _ (by omega))) ly
    have CG : Hid (∀ W, Sl W r (dgs x) → Sl W s (dgs y) → Calls Tryz.prog 45 #[.slice r (dgs x).length cr, .slice s (dgs y).length cs] W fun e w' => ∃ r' c', e = .returned (.slice r' (dgs (Nat.gcd x y)).length c') ∧ OwnI w' W.heap.size r' c' (dgs (Nat.gcd x y)) ∧ Below W.heap.size W w') := fun W h1 h2 => l1Gcd_any r s cr cs x y W h1 h2 lx ly
    have C1 : Hid (∀ W a c, Sl W r (dgs x) → Sl W a (dgs (Nat.gcd x y)) → Calls Tryz.prog 49 #[.slice r (dgs x).length cr, .slice a (dgs (Nat.gcd x y)).length c] W fun e w' => ∃ r' c' v, e = .returned (.tuple #[.slice r' (loX x y).length c', v]) ∧ OwnI w' W.heap.size r' c' (loX x y) ∧ Below W.heap.size W w') := fun W a c h1 h2 => (l1Div_any r a cr c x _ W h1 h2 lx hgl hg0).mono fun e w' ⟨r1, c1, s1, d1, h1, h2, _, h4⟩ => ⟨r1, c1, _, h1, h2, h4⟩
    have C2 : Hid (∀ W a c, Sl W s (dgs y) → Sl W a (dgs (Nat.gcd x y)) → Calls Tryz.prog 49 #[.slice s (dgs y).length cs, .slice a (dgs (Nat.gcd x y)).length c] W fun e w' => ∃ r' c' v, e = .returned (.tuple #[.slice r' (loY x y).length c', v]) ∧ OwnI w' W.heap.size r' c' (loY x y) ∧ Below W.heap.size W w') := fun W a c h1 h2 => (l1Div_any s a cs c y _ W h1 h2 ly hgl hg0).mono fun e w' ⟨r1, c1, s1, d1, h1, h2, _, h4⟩ => ⟨r1, c1, _, h1, h2, h4⟩
    have HY : Hid ((loX x y).length ≤ 256 → (loY x y).length ≤ 256 → makeA b x y = ⟨b, loX x y, loY x y, true⟩) := fun h1 h2 => makeA_yes hx0 h1 h2
    have HN : Hid (¬ ((loX x y).length ≤ 256 ∧ (loY x y).length ≤ 256) → makeA b x y = noA) := fun h => makeA_no h
    obtain ⟨A, hA⟩ : ∃ A, A = makeA b x y := ⟨_, rfl⟩
    obtain ⟨X, hX⟩ : ∃ X, X = dgs x := ⟨_, rfl⟩
    obtain ⟨Y, hY⟩ : ∃ Y, Y = dgs y := ⟨_, rfl⟩
    obtain ⟨G, hG⟩ : ∃ G, G = dgs (Nat.gcd x y) := ⟨_, rfl⟩
    obtain ⟨P, hP⟩ : ∃ P, P = loX x y := ⟨_, rfl⟩
    obtain ⟨Q, hQ⟩ : ∃ Q, Q = loY x y := ⟨_, rfl⟩
    rw [← hX, ← hY, ← hG] at CG
    rw [← hX, ← hG, ← hP] at C1
    rw [← hY, ← hG, ← hQ] at C2
    rw [← hA, ← hP, ← hQ] at HY HN
    rw [← hX] at hx hl
    rw [← hY] at hy
    rw [← hA, ← hX, ← hY]
    clear hA hX hY hG hP hQ lx ly hy0 hg0 hgl hx0
    have B0 : Below w.heap.size w (w.alloc (.cells #[.bool false, .slice none 0 0, .slice none 0 0] 25)) := (Below.refl _ w).alloc (Nat.le_refl _) _
    have k0 := boxc_new w 25 #[.bool false, .slice none 0 0, .slice none 0 0]
    go_enter Tryz.func24, Tryz.ntmps24
    go_wp2_with fail
    refine Calls.mono (CG.out _ (hx.keep B0) (hy.keep B0)) ?_
    rintro e w1 ⟨a1, c1, rfl, o1, b1⟩
    have k1 := boxc_keep k0 b1
    have B1 := B0.trans (b1.mono B0.size)
    clear CG k0 B0 b1
    go_wp2_with fail
    refine Calls.mono (C1.out _ _ _ (hx.keep B1) o1.sl) ?_
    rintro e w2 ⟨a2, c2, v2, rfl, o2, b2⟩
    have k2 := boxc_keep k1 b2
    have B2 := B1.trans (b2.mono B1.size)
    have g2 := o1.sl.keep b2
    have n1 := boxc_lt k1
    clear C1 k1 b2 o1 B1 hx
    go_wp2_with fail
    refine Calls.mono (C2.out _ _ _ (hy.keep B2) g2) ?_
    rintro e w3 ⟨a3, c3, v3, rfl, o3, b3⟩
    obtain ⟨d0, d1, d2, df, dn⟩ := boxc3 (boxc_keep k2 b3)
    have n2 := boxc_lt k2
    have HB : Hid (Below w.heap.size w w3) := B2.trans (b3.mono B2.size)
    have HO : Hid (OwnI w3 w1.heap.size a2 c2 P ∧ OwnI w3 w2.heap.size a3 c3 Q) := ⟨o2.keep b3, o3⟩
    clear C2 k2 b3 o2 o3 B2 hy g2
    by_cases h1 : (256 : Int) < (P.length : Int)
    · have hA := HN.out (fun h => by omega)
      subst hA
      clear HN HY
      go_wp2
      refine ⟨rfl, .tuple #[.agg #[.bool false, .slice none 0 0, .slice none 0 0], .bool false], ?_, retS_no (below_set3 HB.out (Nat.le_refl _) _ _ _)⟩
      simp [results, Tryz.f24, go_sem, d0, d1, d2]
    · by_cases h2 : (256 : Int) < (Q.length : Int)
      · have hA := HN.out (fun h => by omega)
        subst hA
        clear HN HY
        go_wp2
        refine ⟨rfl, .tuple #[.agg #[.bool false, .slice none 0 0, .slice none 0 0], .bool false], ?_, retS_no (below_set3 HB.out (Nat.le_refl _) _ _ _)⟩
        simp [results, Tryz.f24, go_sem, d0, d1, d2]
      · have hA := HY.out (by omega) (by omega)
        subst hA
        have H : Hid (RetS w _ _ ⟨b, P, Q, true⟩) := retS_fin (A := ⟨b, P, Q, true⟩) HO.out.1 HO.out.2 HB.out (Nat.le_refl _) n1 n2 (.bool b) (.slice a2 P.length c2) (.slice a3 Q.length c3)
        unfold fracV at H
        clear HN HY HO HB
        go_wp2
        refine ⟨rfl, .tuple #[.agg #[.bool b, .slice a2 P.length c2, .slice a3 Q.length c3], .bool true], ?_, H.out⟩
        simp [results, Tryz.f24, go_sem, d0, d1, d2]
end Go.Proofs.YthokphoojmpajaaGreatDoor

namespace Go.Proofs.YthokphoojmpajaaGreatDoor
open Go.RowKit Go.Proofs.Pin

theorem own_dN {w : World} {base c : Nat} {r : Option Addr} {X : List Int} (o : OwnI w base r c X) (q : Nat) : OwnI (w.drewN q) base r c X := o.kept (row := none) ⟨rfl, rfl, rfl, Nat.le_refl _, fun _ _ _ => rfl⟩ (fun _ _ e => by cases e)
theorem boxc_dN {W : World} {B : Nat} {t : TypeId} {cs : Array Value} (h : BoxC W B t cs) (q : Nat) : BoxC (W.drewN q) B t cs := h

set_option maxRecDepth 20000 in
set_option maxHeartbeats 2000000 in
theorem l2Sum_any (b : Bool) (r s : Option Addr) (cr cs x y : Nat) (b' : Bool) (r' s' : Option Addr) (cr' cs' x' y' : Nat) (w : World) (hx : Sl w r (dgs x)) (hy : Sl w s (dgs y)) (hx' : Sl w r' (dgs x')) (hy' : Sl w s' (dgs y')) (lx : (dgs x).length ≤ 256) (ly : (dgs y).length ≤ 256) (lx' : (dgs x').length ≤ 256) (ly' : (dgs y').length ≤ 256) :
    Calls Tryz.prog 23 #[fracV b r (dgs x).length cr s (dgs y).length cs, fracV b' r' (dgs x').length cr' s' (dgs y').length cs'] w fun e w' => ∃ r2 c2 s2 d2, e = .returned (.tuple #[.bool (smB b b' (x * y') (x' * y)), .slice r2 (dgs (smT b b' (x * y') (x' * y))).length c2, .slice s2 (dgs (y * y')).length d2]) ∧ OwnI w' w.heap.size r2 c2 (dgs (smT b b' (x * y') (x' * y))) ∧ OwnI w' w.heap.size s2 d2 (dgs (y * y')) ∧ Below w.heap.size w w' := by
  have lm : (dgs (x * y')).length ≤ 4001 := by have := len_mul2 x y'; omega
  have lo : (dgs (x' * y)).length ≤ 4001 := by have := len_mul2 x' y; omega
  have C1 : Hid (∀ W, Sl W r (dgs x) → Sl W s' (dgs y') → Calls Tryz.prog 27 #[.slice r (dgs x).length cr, .slice s' (dgs y').length cs'] W fun e w' => ∃ a c, e = .returned (.slice a (dgs (x * y')).length c) ∧ OwnI w' W.heap.size a c (dgs (x * y')) ∧ Below W.heap.size W w') := fun W h1 h2 => l1Mul_any r s' cr cs' x y' W h1 h2 (by omega) (by omega)
  have C2 : Hid (∀ W, Sl W r' (dgs x') → Sl W s (dgs y) → Calls Tryz.prog 27 #[.slice r' (dgs x').length cr', .slice s (dgs y).length cs] W fun e w' => ∃ a c, e = .returned (.slice a (dgs (x' * y)).length c) ∧ OwnI w' W.heap.size a c (dgs (x' * y)) ∧ Below W.heap.size W w') := fun W h1 h2 => l1Mul_any r' s cr' cs x' y W h1 h2 (by omega) (by omega)
  have C3 : Hid (∀ W, Sl W s (dgs y) → Sl W s' (dgs y') → Calls Tryz.prog 27 #[.slice s (dgs y).length cs, .slice s' (dgs y').length cs'] W fun e w' => ∃ a c, e = .returned (.slice a (dgs (y * y')).length c) ∧ OwnI w' W.heap.size a c (dgs (y * y')) ∧ Below W.heap.size W w') := fun W h1 h2 => l1Mul_any s s' cs cs' y y' W h1 h2 (by omega) (by omega)
  obtain ⟨m, hm⟩ : ∃ m, m = x * y' := ⟨_, rfl⟩
  obtain ⟨o, ho⟩ : ∃ o, o = x' * y := ⟨_, rfl⟩
  obtain ⟨X, hX⟩ : ∃ X, X = dgs x := ⟨_, rfl⟩
  obtain ⟨Y, hY⟩ : ∃ Y, Y = dgs y := ⟨_, rfl⟩
  obtain ⟨X', hX'⟩ : ∃ X', X' = dgs x' := ⟨_, rfl⟩
  obtain ⟨Y', hY'⟩ : ∃ Y', Y' = dgs y' := ⟨_, rfl⟩
  obtain ⟨D, hD⟩ : ∃ D, D = dgs (y * y') := ⟨_, rfl⟩
  rw [← hX, ← hY', ← hm] at C1
  rw [← hX', ← hY, ← ho] at C2
  rw [← hY, ← hY', ← hD] at C3
  rw [← hX] at hx
  rw [← hY] at hy
  rw [← hX'] at hx'
  rw [← hY'] at hy'
  rw [← hm] at lm
  rw [← ho] at lo
  rw [← hX, ← hX', ← hY, ← hY', ← hm, ← ho, ← hD]
  clear hX hY hX' hY' hm ho hD lx ly lx' ly'
  have CP : Hid (∀ W a c a' c', Sl W a (dgs m) → Sl W a' (dgs o) → Calls Tryz.prog 46 #[.slice a (dgs m).length c, .slice a' (dgs o).length c'] W fun e w' => ∃ a c, e = .returned (.slice a (dgs (m + o)).length c) ∧ OwnI w' W.heap.size a c (dgs (m + o)) ∧ Below W.heap.size W w') := fun W a c a' c' h1 h2 => l1Add_any a a' c c' m o W h1 h2 (by omega) (by omega)
  have CC : Hid (∀ W a c a' c', Sl W a (dgs m) → Sl W a' (dgs o) → Calls Tryz.prog 47 #[.slice a (dgs m).length c, .slice a' (dgs o).length c'] W fun e w' => e = .returned (.int .i64 (sg (m : Int) (o : Int))) ∧ ∃ q, w' = W.drewN q) := fun W a c a' c' h1 h2 => by
    have h := l1Cmp_any a a' c c' (dgs m) (dgs o) W h1 h2 (by omega) (by omega)
    rw [cmp_dgs] at h
    exact h
  have CM : Hid (o ≤ m → ∀ W a c a' c', Sl W a (dgs m) → Sl W a' (dgs o) → Calls Tryz.prog 48 #[.slice a (dgs m).length c, .slice a' (dgs o).length c'] W fun e w' => ∃ a c, e = .returned (.slice a (dgs (m - o)).length c) ∧ OwnI w' W.heap.size a c (dgs (m - o)) ∧ Below W.heap.size W w') := fun h W a c a' c' h1 h2 => l1Sub_any a a' c c' m o W h1 h2 (by omega) h
  have CN : Hid (m ≤ o → ∀ W a c a' c', Sl W a (dgs o) → Sl W a' (dgs m) → Calls Tryz.prog 48 #[.slice a (dgs o).length c, .slice a' (dgs m).length c'] W fun e w' => ∃ a c, e = .returned (.slice a (dgs (o - m)).length c) ∧ OwnI w' W.heap.size a c (dgs (o - m)) ∧ Below W.heap.size W w') := fun h W a c a' c' h1 h2 => l1Sub_any a a' c c' o m W h1 h2 (by omega) h
  obtain ⟨M, hM⟩ : ∃ M, M = dgs m := ⟨_, rfl⟩
  obtain ⟨O, hO⟩ : ∃ O, O = dgs o := ⟨_, rfl⟩
  rw [← hM] at C1
  rw [← hO] at C2
  rw [← hM, ← hO] at CP CC CM CN
  clear hM hO lm lo
  obtain ⟨S, hS⟩ : ∃ S, S = dgs (smT b b' m o) := ⟨_, rfl⟩
  obtain ⟨Z, hZ⟩ : ∃ Z, Z = smB b b' m o := ⟨_, rfl⟩
  rw [← hS, ← hZ]
  have HS : Hid (S = dgs (smT b b' m o)) := hS
  have HZ : Hid (Z = smB b b' m o) := hZ
  clear hS hZ
  unfold fracV
  obtain ⟨w0, hw0⟩ : ∃ w0, w0 = (w.alloc (.cells #[.bool b, .slice r X.length cr, .slice s Y.length cs] 25)).alloc (.cells #[.bool b', .slice r' X'.length cr', .slice s' Y'.length cs'] 25) := ⟨_, rfl⟩
  have B0 : Below w.heap.size w w0 := by rw [hw0]; exact ((Below.refl _ w).alloc (Nat.le_refl _) _).alloc (by simp) _
  have k1 : BoxC w0 w.heap.size 25 #[.bool b, .slice r X.length cr, .slice s Y.length cs] := by rw [hw0]; exact boxc_alloc (boxc_new _ _ _) _
  have k2 : BoxC w0 (w.heap.size + 1) 25 #[.bool b', .slice r' X'.length cr', .slice s' Y'.length cs'] := by
    rw [hw0]
    have h := boxc_new (w.alloc (.cells #[.bool b, .slice r X.length cr, .slice s Y.length cs] 25)) 25 #[.bool b', .slice r' X'.length cr', .slice s' Y'.length cs']
    rw [World.size_alloc] at h
    exact h
  go_enter Tryz.func23, Tryz.ntmps23
  go_wp2_with fail
  rw [← hw0]
  refine Calls.mono (C1.out _ (hx.keep B0) (hy'.keep B0)) ?_
  rintro e w1 ⟨a1, c1, rfl, o1, b1⟩
  have k11 := boxc_keep k1 b1
  have k21 := boxc_keep k2 b1
  have B1 := B0.trans (b1.mono B0.size)
  have s1 := o1.sl
  clear hw0 k1 k2 b1 B0 o1 C1
  obtain ⟨p0, p1, p2, _, _⟩ := boxc3 k11
  obtain ⟨q0, q1, q2, _, _⟩ := boxc3 k21
  go_wp2_with fail
  refine Calls.mono (C2.out _ (hx'.keep B1) (hy.keep B1)) ?_
  rintro e w2 ⟨a2, c2, rfl, o2, b2⟩
  have k12 := boxc_keep k11 b2
  have k22 := boxc_keep k21 b2
  have B2 := B1.trans (b2.mono B1.size)
  have t1 := s1.keep b2
  have t2 := o2.sl
  clear k11 k21 b2 B1 o2 C2 s1 p0 p1 p2 q0 q1 q2
  obtain ⟨p0, p1, p2, _, _⟩ := boxc3 k12
  obtain ⟨q0, q1, q2, _, _⟩ := boxc3 k22
  go_wp2_with fail
  refine Calls.mono (C3.out _ (hy.keep B2) (hy'.keep B2)) ?_
  rintro e w3 ⟨a3, c3, rfl, o3, b3⟩
  have k13 := boxc_keep k12 b3
  have k23 := boxc_keep k22 b3
  have B3 := B2.trans (b3.mono B2.size)
  have u1 := t1.keep b3
  have u2 := t2.keep b3
  have z2 := B2.size
  have OD : Hid (OwnI w3 w2.heap.size a3 c3 D) := o3
  have HB : Hid (Below w.heap.size w w3) := B3
  clear k12 k22 b3 B2 C3 t1 t2 p0 p1 p2 q0 q1 q2 o3 B3 hx hy hx' hy'
  have K1 : Hid _ := k13
  have K2 : Hid _ := k23
  obtain ⟨p0, p1, p2, _, n1⟩ := boxc3 k13
  obtain ⟨q0, q1, q2, _, n2⟩ := boxc3 k23
  have U1 : Hid (Sl w3 a1 M) := u1
  have U2 : Hid (Sl w3 a2 O) := u2
  clear u1 u2 k13 k23
  by_cases hbb : b = b'
  · have hbe : (b == b') = true := by simpa using hbb
    have eT : dgs (m + o) = S := by rw [HS.out]; simp [smT, hbb]
    have EB : Hid (Z = b) := by show Z = b; rw [HZ.out]; simp [smB, hbb]
    rw [eT] at CP
    clear hbb eT
    have p0d : w3.drew.cell? ⟨w.heap.size, 0, none⟩ = some (.bool b) := p0
    go_wp2_with fail
    go_region_held3 (fun w' => w'.cell? ⟨w.heap.size, 0, none⟩ = some (.bool b)) (first | (with_reducible exact p0d) | (rw [b4.cell (by simp; omega)]; with_reducible exact p0d))
      (first | (go_at_call 46; refine Calls.mono (CP.out w3.drew _ _ _ _ (by exact U1.out) (by exact U2.out)) ?_; rintro e w4 ⟨r4, c4, rfl, o4, b4⟩))
    go_wp2
    have b4' := below_un2 b4
    refine ⟨rfl, .tuple #[.bool b, .slice r4 S.length c4, .slice a3 D.length c3], ?_, r4, c4, a3, c3, by rw [EB.out], o4.mono HB.out.size, (OwnI.keep OD.out b4').mono z2, HB.out.trans (b4'.mono HB.out.size)⟩
    simp [results, Tryz.f23, go_sem]
  · have hbe : (b == b') = false := by simpa using hbb
    by_cases hlt : m < o
    · have eT : dgs (o - m) = S := by rw [HS.out]; simp [smT, hbb, hlt]
      have EB : Hid (Z = b') := by show Z = b'; rw [HZ.out]; simp [smB, hbb, hlt]
      have es : sg (m : Int) (o : Int) = -1 := sg_lt (by omega)
      rw [eT] at CN
      rw [es] at CC
      have CN2 : Hid _ := CN.out (by omega)
      clear hbb eT es CN
      go_wp2_with fail
      refine Calls.mono (CC.out _ _ _ _ _ U1.out U2.out) ?_
      rintro e w4 ⟨rfl, q, rfl⟩
      have q0' : (w3.drewN q).cell? ⟨w.heap.size + 1, 0, none⟩ = some (.bool b') := q0
      have q0d : (w3.drewN q).drew.cell? ⟨w.heap.size + 1, 0, none⟩ = some (.bool b') := q0
      have zq : (w3.drewN q).heap.size = w3.heap.size := rfl
      have U1q : Hid (Sl (w3.drewN q) a1 M) := U1.out
      have U2q : Hid (Sl (w3.drewN q) a2 O) := U2.out
      have ODq : Hid (OwnI (w3.drewN q) w2.heap.size a3 c3 D) := own_dN OD.out q
      have HBq : Hid (Below w.heap.size w (w3.drewN q)) := below_dN HB.out q
      clear p0 p1 p2 q0 q1 q2 U1 U2 OD HB K1 K2
      obtain ⟨wq, hwq⟩ : ∃ wq, wq = w3.drewN q := ⟨_, rfl⟩
      rw [← hwq] at q0' q0d zq U1q U2q ODq HBq ⊢
      clear hwq
      have n2q : w.heap.size + 1 < wq.heap.size := by omega
      go_wp2_with fail
      go_region_held3 (fun w' => w'.cell? ⟨w.heap.size + 1, 0, none⟩ = some (.bool b')) (first | (with_reducible exact q0d) | (rw [b4.cell (by simp; omega)]; with_reducible exact q0d))
        (first | (go_at_call 48; refine Calls.mono (CN2.out wq.drew _ _ _ _ (by exact U2q.out) (by exact U1q.out)) ?_; rintro e w4 ⟨r4, c4, rfl, o4, b4⟩))
      go_wp2
      have b4' := below_un2 b4
      refine ⟨rfl, .tuple #[.bool b', .slice r4 S.length c4, .slice a3 D.length c3], ?_, r4, c4, a3, c3, by rw [EB.out], o4.mono HBq.out.size, (OwnI.keep ODq.out b4').mono z2, HBq.out.trans (b4'.mono HBq.out.size)⟩
      simp [results, Tryz.f23, go_sem]
    · have eT : dgs (m - o) = S := by rw [HS.out]; simp [smT, hbb, hlt]
      have EB : Hid (Z = b) := by show Z = b; rw [HZ.out]; simp [smB, hbb, hlt]
      have es : 0 ≤ sg (m : Int) (o : Int) := by
        rcases Nat.lt_or_ge o m with h | h
        · rw [sg_gt (by omega)]; omega
        · rw [sg_eq (by omega)]; omega
      rw [eT] at CM
      have CN2 : Hid _ := CM.out (by omega)
      obtain ⟨z, hz⟩ : ∃ z, z = sg (m : Int) (o : Int) := ⟨_, rfl⟩
      rw [← hz] at CC es
      clear hbb eT CM hz
      go_wp2_with fail
      refine Calls.mono (CC.out _ _ _ _ _ U1.out U2.out) ?_
      rintro e w4 ⟨rfl, q, rfl⟩
      have p0' : (w3.drewN q).cell? ⟨w.heap.size, 0, none⟩ = some (.bool b) := p0
      have p0d : (w3.drewN q).drew.cell? ⟨w.heap.size, 0, none⟩ = some (.bool b) := p0
      have zq : (w3.drewN q).heap.size = w3.heap.size := rfl
      have U1q : Hid (Sl (w3.drewN q) a1 M) := U1.out
      have U2q : Hid (Sl (w3.drewN q) a2 O) := U2.out
      have ODq : Hid (OwnI (w3.drewN q) w2.heap.size a3 c3 D) := own_dN OD.out q
      have HBq : Hid (Below w.heap.size w (w3.drewN q)) := below_dN HB.out q
      clear p0 p1 p2 q0 q1 q2 U1 U2 OD HB K1 K2
      obtain ⟨wq, hwq⟩ : ∃ wq, wq = w3.drewN q := ⟨_, rfl⟩
      rw [← hwq] at p0' p0d zq U1q U2q ODq HBq ⊢
      clear hwq
      have n2q : w.heap.size + 1 < wq.heap.size := by omega
      go_wp2_with fail
      go_region_held3 (fun w' => w'.cell? ⟨w.heap.size, 0, none⟩ = some (.bool b)) (first | (with_reducible exact p0d) | (rw [b4.cell (by simp; omega)]; with_reducible exact p0d))
        (first | (go_at_call 48; refine Calls.mono (CN2.out wq.drew _ _ _ _ (by exact U1q.out) (by exact U2q.out)) ?_; rintro e w4 ⟨r4, c4, rfl, o4, b4⟩))
      go_wp2
      have b4' := below_un2 b4
      refine ⟨rfl, .tuple #[.bool b, .slice r4 S.length c4, .slice a3 D.length c3], ?_, r4, c4, a3, c3, by rw [EB.out], o4.mono HBq.out.size, (OwnI.keep ODq.out b4').mono z2, HBq.out.trans (b4'.mono HBq.out.size)⟩
      simp [results, Tryz.f23, go_sem]
end Go.Proofs.YthokphoojmpajaaGreatDoor
