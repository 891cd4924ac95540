/- The contract of spec.FracAdd. The contract of spec.FracMul. -/
import Derived.Test.YthokphoojmpajabGreatDoorGSp
import Derived.Test.YthokphoojmpajabGreatDoorGFr6
namespace Go.Proofs.YthokphoojmpajabGreatDoor
open Go.RowKit Go.Proofs.Pin

end Go.Proofs.YthokphoojmpajabGreatDoor

namespace Go.Proofs.YthokphoojmpajabGreatDoor
open Go.RowKit Go.Proofs.Pin

set_option maxRecDepth 20000 in
set_option maxHeartbeats 2000000 in
theorem specMul_any (b : Bool) (r s : Option Addr) (cr cs : Nat) (X Y : List Int) (b' : Bool) (r' s' : Option Addr) (cr' cs' : Nat) (X' Y' : List Int) (w : World) (hX : Sl w r X) (hY : Sl w s Y) (hX' : Sl w r' X') (hY' : Sl w s' Y')
    (lX : X.length ≤ 1048576) (lY : Y.length ≤ 1048576) (lX' : X'.length ≤ 1048576) (lY' : Y'.length ≤ 1048576) :
    Calls Tryz.prog 26 #[fracV b r X.length cr s Y.length cs, fracV b' r' X'.length cr' s' Y'.length cs'] w fun e w' => RetS w e w' (op2A mulA b X Y b' X' Y') := by
  obtain ⟨w0, hw0, k1, k2, k3, B0, z0⟩ := boxes3 w 25 25 25 #[.bool b, .slice r X.length cr, .slice s Y.length cs] #[.bool b', .slice r' X'.length cr', .slice s' Y'.length cs'] #[.bool false, .slice none 0 0, .slice none 0 0]
  have C1 : Hid (∀ W, Sl W r X → Sl W s Y → Calls Tryz.prog 13 #[fracV b r X.length cr s Y.length cs] W fun e w' => e = .returned (.bool (fokB b X Y)) ∧ Below W.heap.size W w') := fun W h1 h2 => specFok_any b r s cr cs X Y W h1 h2 lX lY
  have C2 : Hid (∀ W, Sl W r' X' → Sl W s' Y' → Calls Tryz.prog 13 #[fracV b' r' X'.length cr' s' Y'.length cs'] W fun e w' => e = .returned (.bool (fokB b' X' Y')) ∧ Below W.heap.size W w') := fun W h1 h2 => specFok_any b' r' s' cr' cs' X' Y' W h1 h2 lX' lY'
  cases h : fokB b X Y with
  | false =>
    rw [op2A_no1 h]
    rw [h] at C1
    unfold fracV at C1 ⊢
    clear C2 lX lY lX' lY' h
    go_enter Tryz.func26, Tryz.ntmps26
    go_wp2_with fail
    rw [← hw0]
    refine Calls.mono (C1.out _ (hX.keep B0) (hY.keep B0)) ?_
    rintro e w1 ⟨rfl, b1⟩
    obtain ⟨d0, d1, d2, df, dn⟩ := boxc3 (boxc_keep k3 b1)
    have HB : Hid (Below w.heap.size w w1) := B0.trans (b1.mono B0.size)
    clear b1 B0 k1 k2 k3 C1 hw0 hX hY hX' hY' z0
    go_wp2
    refine ⟨rfl, .tuple #[.agg #[.bool false, .slice none 0 0, .slice none 0 0], .bool false], ?_, retS_no (below_set3 HB.out (by omega) _ _ _)⟩
    simp [results, Tryz.f26, go_sem, d0, d1, d2]
  | true =>
    rw [h] at C1
    cases h' : fokB b' X' Y' with
    | false =>
      rw [op2A_no2 h']
      rw [h'] at C2
      unfold fracV at C1 C2 ⊢
      clear lX lY lX' lY' h h'
      go_enter Tryz.func26, Tryz.ntmps26
      go_wp2_with fail
      rw [← hw0]
      refine Calls.mono (C1.out _ (hX.keep B0) (hY.keep B0)) ?_
      rintro e w1 ⟨rfl, b1⟩
      have k21 := boxc_keep k2 b1
      have k31 := boxc_keep k3 b1
      have B1 := B0.trans (b1.mono B0.size)
      clear b1 B0 k1 k2 k3 C1 hw0
      obtain ⟨q0, q1, q2, _, _⟩ := boxc3 k21
      go_wp2_with fail
      refine Calls.mono (C2.out _ (hX'.keep B1) (hY'.keep B1)) ?_
      rintro e w2 ⟨rfl, b2⟩
      obtain ⟨d0, d1, d2, df, dn⟩ := boxc3 (boxc_keep k31 b2)
      have HB : Hid (Below w.heap.size w w2) := B1.trans (b2.mono B1.size)
      clear b2 B1 k21 k31 C2 hX hY hX' hY' z0 q0 q1 q2
      go_wp2
      refine ⟨rfl, .tuple #[.agg #[.bool false, .slice none 0 0, .slice none 0 0], .bool false], ?_, retS_no (below_set3 HB.out (by omega) _ _ _)⟩
      simp [results, Tryz.f26, go_sem, d0, d1, d2]
    | true =>
      rw [h'] at C2
      obtain ⟨x, y, rfl, rfl, lx, ly, hy0, hb, hg⟩ := fok_parts h
      obtain ⟨x', y', rfl, rfl, lx', ly', hy0', hb', hg'⟩ := fok_parts h'
      rw [op2A_yes h h']
      have l1 : (dgs (x * x')).length ≤ 2000 := by have := len_mul2 x x'; omega
      have l2 : (dgs (y * y')).length ≤ 2000 := by have := len_mul2 y y'; omega
      have CS : Hid (∀ W, Sl W r (dgs x) → Sl W r' (dgs x') → Calls Tryz.prog 50 #[.slice r (dgs x).length cr, .slice r' (dgs x').length cr'] W fun e w' => ∃ r2 c2, e = .returned (.slice r2 (dgs (x * x')).length c2) ∧ OwnI w' W.heap.size r2 c2 (dgs (x * x')) ∧ Below W.heap.size W w') := fun W h1 h2 => l1Mul_any r r' cr cr' x x' W h1 h2 (by omega) (by omega)
      have CS2 : Hid (∀ W, Sl W s (dgs y) → Sl W s' (dgs y') → Calls Tryz.prog 50 #[.slice s (dgs y).length cs, .slice s' (dgs y').length cs'] W fun e w' => ∃ r2 c2, e = .returned (.slice r2 (dgs (y * y')).length c2) ∧ OwnI w' W.heap.size r2 c2 (dgs (y * y')) ∧ Below W.heap.size W w') := fun W h1 h2 => l1Mul_any s s' cs cs' y y' W h1 h2 (by omega) (by omega)
      have CM : Hid (∀ W r2 c2 s2 d2, Sl W r2 (dgs (x * x')) → Sl W s2 (dgs (y * y')) → Calls Tryz.prog 49 #[.bool (b != b'), .slice r2 (dgs (x * x')).length c2, .slice s2 (dgs (y * y')).length d2] W fun e w' => RetS W e w' (mulA b x y b' x' y')) := fun W r2 c2 s2 d2 h1 h2 => l2Make_any _ r2 s2 c2 d2 _ _ W h1 h2 l1 l2 (Nat.mul_ne_zero hy0 hy0')
      obtain ⟨A, hA⟩ : ∃ A, A = mulA b x y b' x' y' := ⟨_, rfl⟩
      obtain ⟨X, hXe⟩ : ∃ X, X = dgs x := ⟨_, rfl⟩
      obtain ⟨Y, hYe⟩ : ∃ Y, Y = dgs y := ⟨_, rfl⟩
      obtain ⟨X', hXe'⟩ : ∃ X', X' = dgs x' := ⟨_, rfl⟩
      obtain ⟨Y', hYe'⟩ : ∃ Y', Y' = dgs y' := ⟨_, rfl⟩
      rw [← hXe] at hX k1
      rw [← hYe] at hY k1
      rw [← hXe'] at hX' k2
      rw [← hYe'] at hY' k2
      rw [← hXe, ← hYe] at C1 hw0
      rw [← hXe', ← hYe'] at C2 hw0
      obtain ⟨P, hP⟩ : ∃ P, P = dgs (x * x') := ⟨_, rfl⟩
      obtain ⟨Q, hQ⟩ : ∃ Q, Q = dgs (y * y') := ⟨_, rfl⟩
      rw [← hXe, ← hXe', ← hP] at CS
      rw [← hYe, ← hYe', ← hQ] at CS2
      rw [← hA, ← hP, ← hQ] at CM
      clear hP hQ l1 l2
      have HCM : Hid (∀ W r2 c2 s2 d2, Sl W r2 P → Sl W s2 Q → Calls Tryz.prog 49 #[.bool (!(b == b')), .slice r2 P.length c2, .slice s2 Q.length d2] W fun e w' => RetS W e w' A) := CM.out
      clear CM
      rw [← hA, ← hXe, ← hYe, ← hXe', ← hYe']
      clear hXe hYe hXe' hYe' hA lx ly lx' ly' lX lY lX' lY' h h' hy0 hy0' hb hb' hg hg'
      unfold fracV at C1 C2 ⊢
      go_enter Tryz.func26, Tryz.ntmps26
      go_wp2_with fail
      rw [← hw0]
      refine Calls.mono (C1.out _ (hX.keep B0) (hY.keep B0)) ?_
      rintro e w1 ⟨rfl, b1⟩
      have k11 := boxc_keep k1 b1
      have k21 := boxc_keep k2 b1
      have k31 := boxc_keep k3 b1
      have B1 := B0.trans (b1.mono B0.size)
      clear b1 B0 k1 k2 k3 C1 hw0 z0
      obtain ⟨q0, q1, q2, _, _⟩ := boxc3 k21
      go_wp2_with fail
      refine Calls.mono (C2.out _ (hX'.keep B1) (hY'.keep B1)) ?_
      rintro e w2 ⟨rfl, b2⟩
      have k12 := boxc_keep k11 b2
      have k22 := boxc_keep k21 b2
      have k32 := boxc_keep k31 b2
      have B2 := B1.trans (b2.mono B1.size)
      clear b2 B1 k11 k21 k31 C2 q0 q1 q2
      obtain ⟨p0, p1, p2, _, _⟩ := boxc3 k12
      obtain ⟨q0, q1, q2, _, n2⟩ := boxc3 k22
      have HX : Hid (Sl w2 r X ∧ Sl w2 s Y ∧ Sl w2 r' X' ∧ Sl w2 s' Y') := ⟨hX.keep B2, hY.keep B2, hX'.keep B2, hY'.keep B2⟩
      have HB2 : Hid (Below w.heap.size w w2) := B2
      have K32 : Hid (BoxC w2 (w.heap.size + 1 + 1) 25 #[.bool false, .slice none 0 0, .slice none 0 0]) := k32
      have n3 := boxc_lt k32
      have p0d : w2.drew.cell? ⟨w.heap.size, 0, none⟩ = some (.bool b) := p0
      have p1d : w2.drew.cell? ⟨w.heap.size, 1, none⟩ = some (.slice r X.length cr) := p1
      have p2d : w2.drew.cell? ⟨w.heap.size, 2, none⟩ = some (.slice s Y.length cs) := p2
      have q0d : w2.drew.cell? ⟨w.heap.size + 1, 0, none⟩ = some (.bool b') := q0
      have q1d : w2.drew.cell? ⟨w.heap.size + 1, 1, none⟩ = some (.slice r' X'.length cr') := q1
      have q2d : w2.drew.cell? ⟨w.heap.size + 1, 2, none⟩ = some (.slice s' Y'.length cs') := q2
      clear k12 k22 k32 B2 hX hY hX' hY' p0 p1 p2 q0 q1 q2
      go_wp2_with fail
      go_region_held3 (fun w' => w'.cell? ⟨w.heap.size, 0, none⟩ = some (.bool b) ∧ w'.cell? ⟨w.heap.size, 1, none⟩ = some (.slice r X.length cr) ∧ w'.cell? ⟨w.heap.size, 2, none⟩ = some (.slice s Y.length cs) ∧ w'.cell? ⟨w.heap.size + 1, 0, none⟩ = some (.bool b') ∧ w'.cell? ⟨w.heap.size + 1, 1, none⟩ = some (.slice r' X'.length cr') ∧ w'.cell? ⟨w.heap.size + 1, 2, none⟩ = some (.slice s' Y'.length cs'))
        (first
          | (with_reducible exact ⟨p0d, p1d, p2d, q0d, q1d, q2d⟩)
          | (go_split_ands; refine ⟨?_, ?_, ?_, ?_, ?_, ?_⟩ <;> first
            | (with_reducible exact keep_set3 (by assumption) (by omega) _ _ _)
            | (rw [b5.cell (by simp; omega)]; with_reducible assumption)
            | (rw [b4.cell (by simp; omega)]; with_reducible assumption)
            | (rw [b3.cell (by simp; omega)]; with_reducible assumption)))
        (first
          | (go_at_call_of 50 (Value.slice r X.length cr); refine Calls.mono (CS.out w2.drew (by exact HX.out.1) (by exact HX.out.2.2.1)) ?_; rintro e w3 ⟨r3, c3, rfl, o3, b3⟩; have z3 : w2.heap.size ≤ w3.heap.size := b3.size; have b3' := below_un2 b3)
          | (go_at_call_of 50 (Value.slice s Y.length cs); refine Calls.mono (CS2.out _ (by exact Sl.keep HX.out.2.1 b3') (by exact Sl.keep HX.out.2.2.2 b3')) ?_; rintro e w4 ⟨r4, c4, rfl, o4, b4⟩; have z4 : w3.heap.size ≤ w4.heap.size := b4.size; have B4 : Below w.heap.size w w4 := (HB2.out.trans (b3'.mono (by exact HB2.out.size))).trans (b4.mono (by have := HB2.out.size; omega)); have k34 := boxc_keep (boxc_keep K32.out b3') b4; have s3 := (o3.keep b4).sl)
          | (go_at_call 49; refine Calls.mono (HCM.out _ _ _ _ _ s3 (by exact o4.sl)) ?_; rintro e w5 ⟨r5, c5, s5, d5, rfl, o5, p5, b5⟩; have z5 : w4.heap.size ≤ w5.heap.size := b5.size; have H : Hid (RetS w _ _ A) := retS_fin o5 p5 (B4.trans (b5.mono B4.size)) (by omega : w.heap.size ≤ w.heap.size + 1 + 1) (boxc_lt k34) (boxc_lt k34) (.bool A.b) (.slice r5 A.X.length c5) (.slice s5 A.Y.length d5); obtain ⟨d0, d1, d2, df, dn⟩ := boxc3 (boxc_keep k34 b5); unfold fracV))
      unfold fracV at H
      go_wp2
      refine ⟨rfl, .tuple #[.agg #[.bool A.b, .slice r5 A.X.length c5, .slice s5 A.Y.length d5], .bool A.ok], ?_, H.out⟩
      simp [results, Tryz.f26, go_sem, d0, d1, d2]
end Go.Proofs.YthokphoojmpajabGreatDoor
