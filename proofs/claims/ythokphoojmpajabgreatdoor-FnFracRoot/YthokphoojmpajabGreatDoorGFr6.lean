/- Fractions as impl reckons with them: plus. Fractions as impl reckons with them: sumOf, of two. The sum and the difference of two fractions, as numbers say it. -/
import Derived.Test.YthokphoojmpajabGreatDoorGAr
import Derived.Test.YthokphoojmpajabGreatDoorMinus
import Derived.Test.YthokphoojmpajabGreatDoorGCut
import Derived.Test.YthokphoojmpajabGreatDoorGCmpN
import Derived.Deep.Cut
import Derived.Test.YthokphoojmpajabGreatDoorGFr8
namespace Go.Proofs.YthokphoojmpajabGreatDoor
open Go.RowKit Go.Proofs.Pin

/-- The top and the sign of a sum: m and o are brought to one bottom. -/
def smT (b b' : Bool) (m o : Nat) : Nat := if b = b' then m + o else if m < o then o - m else m - o
def smB (b b' : Bool) (m o : Nat) : Bool := if b = b' then b else if m < o then b' else b

theorem plus_fin {w w5 V : World} {g r5b rDb c5 cD : Nat} {r5 rD : Option Addr} {S D : List Int} (o5 : OwnI w5 r5b r5 c5 S) (hg5 : g < r5b) (oD : OwnI w5 rDb rD cD D) (hgD : ∀ k, rD.map (·.block) = some k → k ≠ g) (gV : w5.grownBy V (some g)) (B5 : Below w.heap.size w w5) (h2 : w.heap.size + 1 + 1 < rDb) (hW : rDb ≤ g) (x y z : Value) :
    OwnI (((V.setCell ⟨w.heap.size + 1 + 1, 0, none⟩ x).setCell ⟨w.heap.size + 1 + 1, 1, none⟩ y).setCell ⟨w.heap.size + 1 + 1, 2, none⟩ z) w.heap.size r5 c5 S ∧ OwnI (((V.setCell ⟨w.heap.size + 1 + 1, 0, none⟩ x).setCell ⟨w.heap.size + 1 + 1, 1, none⟩ y).setCell ⟨w.heap.size + 1 + 1, 2, none⟩ z) w.heap.size rD cD D ∧ Below w.heap.size w (((V.setCell ⟨w.heap.size + 1 + 1, 0, none⟩ x).setCell ⟨w.heap.size + 1 + 1, 1, none⟩ y).setCell ⟨w.heap.size + 1 + 1, 2, none⟩ z) :=
  ⟨(own_far (own_far o5 gV hg5) (gr_set3 _ _ _ _ _) (by omega)).mono (by omega), (own_far (oD.keptR gV (fun k hk j hj => by cases hk; exact hgD j hj)) (gr_set3 _ _ _ _ _) h2).mono (by omega), below_set3 (B5.grown gV B5.size (fun k hk => by cases hk; omega)) (by omega) _ _ _⟩

set_option maxRecDepth 100000 in
set_option maxHeartbeats 4000000 in
theorem frPlus_any (r s r' s' : Option Addr) (cr cs cr' cs' x y x' y' : Nat) (b b' : Bool) (w : World) (hx : Sl w r (dgs x)) (hy : Sl w s (dgs y)) (hx' : Sl w r' (dgs x')) (hy' : Sl w s' (dgs y')) (lx : (dgs x).length ≤ 2000) (ly : (dgs y).length ≤ 2000) (lx' : (dgs x').length ≤ 2000) (ly' : (dgs y').length ≤ 2000) :
    Calls Tryz.prog 64 #[frV r (dgs x).length cr s (dgs y).length cs b, frV r' (dgs x').length cr' s' (dgs y').length cs' b'] w fun e w' => ∃ r2 c2 s2 d2, e = .returned (frV r2 (dgs (smT b b' (x * y') (x' * y))).length c2 s2 (dgs (y * y')).length d2 (smB b b' (x * y') (x' * y))) ∧ OwnI w' w.heap.size r2 c2 (dgs (smT b b' (x * y') (x' * y))) ∧ OwnI w' w.heap.size s2 d2 (dgs (y * y')) ∧ Below w.heap.size w w' := by
  have C1 : Hid (∀ W, Sl W r (dgs x) → Sl W s' (dgs y') → Calls Tryz.prog 57 #[.slice r (dgs x).length cr, .slice s' (dgs y').length cs'] W fun e w' => ∃ a c, e = .returned (.slice a (dgs (x * y')).length c) ∧ OwnI w' W.heap.size a c (dgs (x * y')) ∧ Below W.heap.size W w') := fun W h1 h2 => times_any r s' cr cs' x y' W h1 h2 (by omega) (by omega)
  have C2 : Hid (∀ W, Sl W r' (dgs x') → Sl W s (dgs y) → Calls Tryz.prog 57 #[.slice r' (dgs x').length cr', .slice s (dgs y).length cs] W fun e w' => ∃ a c, e = .returned (.slice a (dgs (x' * y)).length c) ∧ OwnI w' W.heap.size a c (dgs (x' * y)) ∧ Below W.heap.size W w') := fun W h1 h2 => times_any r' s cr' cs x' y W h1 h2 (by omega) (by omega)
  have C3 : Hid (∀ W, Sl W s (dgs y) → Sl W s' (dgs y') → Calls Tryz.prog 57 #[.slice s (dgs y).length cs, .slice s' (dgs y').length cs'] W fun e w' => ∃ a c, e = .returned (.slice a (dgs (y * y')).length c) ∧ OwnI w' W.heap.size a c (dgs (y * y')) ∧ Below W.heap.size W w') := fun W h1 h2 => times_any s s' cs cs' y y' W h1 h2 (by omega) (by omega)
  have lm : (dgs (x * y')).length ≤ 4001 := by have := len_mul2 x y'; omega
  have lo : (dgs (x' * y)).length ≤ 4001 := by have := len_mul2 x' y; omega
  obtain ⟨m, hm⟩ : ∃ m, m = x * y' := ⟨_, rfl⟩
  obtain ⟨o, ho⟩ : ∃ o, o = x' * y := ⟨_, rfl⟩
  obtain ⟨X, hX⟩ : ∃ X, X = dgs x := ⟨_, rfl⟩
  obtain ⟨Y, hY⟩ : ∃ Y, Y = dgs y := ⟨_, rfl⟩
  obtain ⟨X', hX'⟩ : ∃ X', X' = dgs x' := ⟨_, rfl⟩
  obtain ⟨Y', hY'⟩ : ∃ Y', Y' = dgs y' := ⟨_, rfl⟩
  obtain ⟨D, hD⟩ : ∃ D, D = dgs (y * y') := ⟨_, rfl⟩
  rw [← hX, ← hY', ← hm] at C1
  rw [← hX', ← hY, ← ho] at C2
  rw [← hY, ← hY', ← hD] at C3
  rw [← hX] at hx
  rw [← hY] at hy
  rw [← hX'] at hx'
  rw [← hY'] at hy'
  rw [← hm] at lm
  rw [← ho] at lo
  rw [← hX, ← hX', ← hY, ← hY', ← hm, ← ho, ← hD]
  clear hX hY hX' hY' hm ho hD lx ly lx' ly'
  have CP : Hid (∀ W a c a' c', Sl W a (dgs m) → Sl W a' (dgs o) → Calls Tryz.prog 60 #[.slice a (dgs m).length c, .slice a' (dgs o).length c'] W fun e w' => ∃ a c, e = .returned (.slice a (dgs (m + o)).length c) ∧ OwnI w' W.heap.size a c (dgs (m + o)) ∧ Below W.heap.size W w') := fun W a c a' c' h1 h2 => plus_any a a' c c' m o W h1 h2 (by omega) (by omega)
  have CC : Hid (∀ W a c a' c', Sl W a (dgs m) → Sl W a' (dgs o) → Calls Tryz.prog 85 #[.slice a (dgs m).length c, .slice a' (dgs o).length c'] W fun e w' => e = .returned (.int .i64 (sg (m : Int) (o : Int))) ∧ Below W.heap.size W w') := fun W a c a' c' h1 h2 => by
    have h := cmp_any a a' c c' (dgs m) (dgs o) W h1 h2 (by omega)
    rw [cmp_dgs] at h
    exact h
  have CM : Hid (o ≤ m → ∀ W a c a' c', Sl W a (dgs m) → Sl W a' (dgs o) → Calls Tryz.prog 97 #[.slice a (dgs m).length c, .slice a' (dgs o).length c'] W fun e w' => ∃ a c, e = .returned (.slice a (dgs (m - o)).length c) ∧ OwnI w' W.heap.size a c (dgs (m - o)) ∧ Below W.heap.size W w') := fun h W a c a' c' h1 h2 => minus_any a a' c c' m o W h1 h2 (by omega) h
  have CN : Hid (m ≤ o → ∀ W a c a' c', Sl W a (dgs o) → Sl W a' (dgs m) → Calls Tryz.prog 97 #[.slice a (dgs o).length c, .slice a' (dgs m).length c'] W fun e w' => ∃ a c, e = .returned (.slice a (dgs (o - m)).length c) ∧ OwnI w' W.heap.size a c (dgs (o - m)) ∧ Below W.heap.size W w') := fun h W a c a' c' h1 h2 => minus_any a a' c c' o m W h1 h2 (by omega) h
  obtain ⟨M, hM⟩ : ∃ M, M = dgs m := ⟨_, rfl⟩
  obtain ⟨O, hO⟩ : ∃ O, O = dgs o := ⟨_, rfl⟩
  rw [← hM] at C1
  rw [← hO] at C2
  rw [← hM, ← hO] at CP CC CM CN
  clear hM hO lm lo
  obtain ⟨S, hS⟩ : ∃ S, S = dgs (smT b b' m o) := ⟨_, rfl⟩
  obtain ⟨Z, hZ⟩ : ∃ Z, Z = smB b b' m o := ⟨_, rfl⟩
  rw [← hS, ← hZ]
  have HS : Hid (S = dgs (smT b b' m o)) := hS
  have HZ : Hid (Z = smB b b' m o) := hZ
  clear hS hZ
  unfold frV
  obtain ⟨w0, hw0, k1, k2, k3, B0, z0⟩ := boxes3 w 48 48 48 #[.slice r X.length cr, .slice s Y.length cs, .bool b] #[.slice r' X'.length cr', .slice s' Y'.length cs', .bool b'] #[.slice none 0 0, .slice none 0 0, .bool false]
  have X0 : Hid (Sl w0 r X) := hx.keep B0
  have Y0 : Hid (Sl w0 s Y) := hy.keep B0
  have X0' : Hid (Sl w0 r' X') := hx'.keep B0
  have Y0' : Hid (Sl w0 s' Y') := hy'.keep B0
  obtain ⟨p0, p1, p2, _, n1⟩ := boxc3 k1
  obtain ⟨q0, q1, q2, _, n2⟩ := boxc3 k2
  have K1 : Hid _ := k1
  have K2 : Hid _ := k2
  have K3 : Hid _ := k3
  have HB : Hid _ := B0
  have n3 := boxc_lt k3
  clear hx hy hx' hy' B0 k1 k2 k3 z0
  go_enter Tryz.func64, Tryz.ntmps64
  go_upto_region 1 with fail
  rw [← hw0]
  clear hw0
  go_cut [5, 6] from 8 to 22 (fun v5 v6 wx => ∃ a c a' c', v5 = .slice a M.length c ∧ v6 = .slice a' O.length c' ∧ Sl wx a M ∧ Sl wx a' O ∧ Below w0.heap.size w0 wx)
  case first =>
    go_region_held3 (fun w' => w'.cell? ⟨w.heap.size, 0, none⟩ = some (.slice r X.length cr) ∧ w'.cell? ⟨w.heap.size, 1, none⟩ = some (.slice s Y.length cs) ∧ w'.cell? ⟨w.heap.size + 1, 0, none⟩ = some (.slice r' X'.length cr') ∧ w'.cell? ⟨w.heap.size + 1, 1, none⟩ = some (.slice s' Y'.length cs'))
      (first | exact ⟨p0, p1, q0, q1⟩ | (go_split_ands; refine ⟨?_, ?_, ?_, ?_⟩ <;> first | (rw [b3.cell (by simp; omega)]; assumption) | (rw [b2.cell (by simp; omega)]; assumption) | assumption))
      (first
        | (go_at_call_of 57 (Value.slice r X.length cr); refine Calls.mono (C1.out _ ?_ ?_) ?_; (exact X0.out); (exact Y0'.out); rintro e w2 ⟨r2, c2, rfl, o2, b2⟩; have z2 : w0.heap.size ≤ w2.heap.size := b2.size)
        | (go_at_call_of 57 (Value.slice r' X'.length cr'); refine Calls.mono (C2.out _ ?_ ?_) ?_; (exact Sl.keep (show Sl w0.drew r' X' from X0'.out) b2); (exact Sl.keep (show Sl w0.drew s Y from Y0.out) b2); rintro e w3 ⟨r3, c3, rfl, o3, b3⟩; have z3 : w2.heap.size ≤ w3.heap.size := b3.size))
    all_goals
      go_wp2_with fail
      go_meet
      exact ⟨r2, c2, r3, c3, rfl, rfl, (o2.keep b3).sl, o3.sl, (below_un1 b2).trans (b3.mono z2)⟩
  case rest =>
    obtain ⟨a, c, a', c', rfl, rfl, sM, sO, b1⟩ := hcut
    obtain ⟨W1, hW1⟩ : ∃ W1, W1 = wc := ⟨_, rfl⟩
    subst hW1
    have z1 := b1.size
    have HB1 : Hid (Below w.heap.size w W1) := HB.out.trans (b1.mono HB.out.size)
    have Y1 : Hid (Sl W1 s Y) := Sl.keep Y0.out b1
    have Y1' : Hid (Sl W1 s' Y') := Sl.keep Y0'.out b1
    have SM : Hid (Sl W1 a M) := sM
    have SO : Hid (Sl W1 a' O) := sO
    have J1 : Hid _ := boxc_keep K1.out b1
    have J2 : Hid _ := boxc_keep K2.out b1
    have J3 : Hid _ := boxc_keep K3.out b1
    clear p0 p1 p2 q0 q1 q2
    obtain ⟨p0, p1, p2, _, m1⟩ := boxc3 J1.out
    obtain ⟨q0, q1, q2, _, m2⟩ := boxc3 J2.out
    clear b1 sM sO X0 X0' Y0 Y0' K1 K2 K3 C1 C2 HB
    go_upto_region 2 with fail
    have p1d : W1.drew.cell? ⟨w.heap.size, 1, none⟩ = some (.slice s Y.length cs) := p1
    have p2d : W1.drew.cell? ⟨w.heap.size, 2, none⟩ = some (.bool b) := p2
    have q1d : W1.drew.cell? ⟨w.heap.size + 1, 1, none⟩ = some (.slice s' Y'.length cs') := q1
    go_cut [7] from 22 to 33 (fun v wx => ∃ g rD cD, v = .pointer (some ⟨g, 0, none⟩) ∧ BoxC wx g 48 #[.slice none 0 0, .slice rD D.length cD, .bool b] ∧ OwnI wx W1.heap.size rD cD D ∧ (∀ k, rD.map (·.block) = some k → k ≠ g) ∧ W1.heap.size ≤ g ∧ Below W1.heap.size W1 wx)
    case first =>
      go_region_held3 (fun w' => w'.cell? ⟨w.heap.size, 1, none⟩ = some (.slice s Y.length cs) ∧ w'.cell? ⟨w.heap.size, 2, none⟩ = some (.bool b) ∧ w'.cell? ⟨w.heap.size + 1, 1, none⟩ = some (.slice s' Y'.length cs'))
        (first
          | (with_reducible exact ⟨p1d, p2d, q1d⟩)
          | (go_split_ands; refine ⟨?_, ?_, ?_⟩ <;> first
            | (with_reducible exact keep_set3 (by assumption) (by omega) _ _ _)
            | (rw [b4.cell (by simp; omega)]; with_reducible assumption)
            | (rw [World.cell?_alloc_lt _ _ _ (by simp; omega), b4.cell (by simp; omega)]; with_reducible first | exact p1d | exact p2d | exact q1d)
            | go_keep))
        (first
          | (go_at_call 57; (with_reducible refine Calls.mono (C3.out W1.drew ?_ ?_) ?_); (exact Y1.out); (exact Y1'.out); rintro e w4 ⟨r4, c4, rfl, o4, b4⟩; have z4 : W1.heap.size ≤ w4.heap.size := b4.size)
          | (go_at_call 57; (with_reducible refine Calls.mono (C3.out (W1.alloc (.cells #[.slice none 0 0, .slice none 0 0, .bool false] 48)).drew ?_ ?_) ?_); (exact Sl.keep Y1.out ((Below.refl _ W1).alloc (Nat.le_refl _) _).drew); (exact Sl.keep Y1'.out ((Below.refl _ W1).alloc (Nat.le_refl _) _).drew); rintro e w4 ⟨r4, c4, rfl, o4, b4⟩; have z4 : W1.heap.size + 1 ≤ w4.heap.size := (by have := b4.size; simpa using this); have HK : Hid (BoxC w4 W1.heap.size 48 #[.slice none 0 0, .slice none 0 0, .bool false]) := boxc_keep (boxc_new W1 _ _) (below_un2 b4); obtain ⟨d0, d1, d2, df, dn⟩ := boxc3 (boxc_keep (boxc_new W1 48 #[.slice none 0 0, .slice none 0 0, .bool false]) (below_un2 b4))))
      · go_wp2_with fail
        go_meet
        exact ⟨w4.heap.size, r4, c4, rfl, boxc_new _ _ _, o4.kept (World.grownBy_alloc _ _ none) (fun _ _ e => by cases e), fun k hk => Nat.ne_of_lt (own_block_lt o4 k hk), z4, (below_un2 b4).alloc z4 _⟩
      · go_wp2_with fail
        go_meet
        have o5 : OwnI w4 (W1.heap.size + 1) r4 c4 D := by have h := o4; simpa using h
        exact ⟨W1.heap.size, r4, c4, rfl, boxc_set2 (boxc_set1 (boxc_set0 HK.out _) _) _, (own_far o5 (gr_set3 _ _ _ _ _) (Nat.lt_succ_self _)).mono (Nat.le_succ _), fun k hk => by have := own_ge o5 k hk; omega, Nat.le_refl _, below_set3 (((Below.refl _ W1).alloc (Nat.le_refl _) _).trans ((below_un2 b4).mono (by simp))) (Nat.le_refl _) _ _ _⟩
    case rest =>
      obtain ⟨g, rD, cD, rfl, kg, oD, hgD, hgw, b2⟩ := hcut
      have HBc : Hid (Below w.heap.size w wc) := HB1.out.trans (b2.mono HB1.out.size)
      have sM : Sl wc a M := Sl.keep SM.out b2
      have sO : Sl wc a' O := Sl.keep SO.out b2
      have KG : Hid (BoxC wc g 48 #[.slice none 0 0, .slice rD D.length cD, .bool b]) := kg
      have L3 : Hid (BoxC wc (w.heap.size + 1 + 1) 48 #[.slice none 0 0, .slice none 0 0, .bool false]) := boxc_keep J3.out b2
      have hgl : g < wc.heap.size := boxc_lt kg
      have OD : Hid (OwnI wc W1.heap.size rD cD D) := oD
      have HGD : Hid (∀ k, rD.map (·.block) = some k → k ≠ g) := hgD
      have L2 : Hid (BoxC wc (w.heap.size + 1) 48 #[.slice r' X'.length cr', .slice s' Y'.length cs', .bool b']) := boxc_keep J2.out b2
      have e0 : w.heap.size + 1 + 1 < W1.heap.size := by omega
      obtain ⟨p0', p1', p2', _, m1'⟩ := boxc3 (boxc_keep J1.out b2)
      obtain ⟨q0', q1', q2', _, m2'⟩ := boxc3 L2.out
      clear p0 p1 p2 q0 q1 q2 p1d p2d q1d kg oD hgD b2 J1 J2 J3 SM SO Y1 Y1' C3 HB1
      by_cases hbb : b = b'
      · have hbe : (b == b') = true := by simpa using hbb
        have eT : dgs (m + o) = S := by rw [HS.out]; simp [smT, hbb]
        have EB : Hid (Z = b) := by show Z = b; rw [HZ.out]; simp [smB, hbb]
        rw [eT] at CP
        clear hbb eT
        go_wp2_with fail
        refine Calls.mono (CP.out _ _ _ _ _ sM sO) ?_
        rintro e w5 ⟨r5, c5, rfl, o5, b5⟩
        have B5 := HBc.out.trans (b5.mono HBc.out.size)
        have oD5 := OwnI.keep OD.out b5
        obtain ⟨g0, g1, g2, gf, gn⟩ := boxc3 (boxc_keep KG.out b5)
        obtain ⟨d0, d1, d2, df, dn⟩ := boxc3 (boxc_keep L3.out b5)
        have H5 : Hid _ := plus_fin o5 hgl oD5 HGD.out (gr_set w5 g 0 (.slice r5 S.length c5)) B5 e0 hgw (.slice r5 S.length c5) (.slice rD D.length cD) (.bool b)
        clear o5 b5 B5 oD5 sM sO
        have ne1 : ¬ w.heap.size + 1 + 1 = g := by omega
        have ne2 : ¬ g = w.heap.size + 1 + 1 := by omega
        go_wp2
        refine ⟨rfl, .agg #[.slice r5 S.length c5, .slice rD D.length cD, .bool b], ?_, r5, c5, rD, cD, by rw [EB.out], H5.out.1, H5.out.2.1, H5.out.2.2⟩
        simp [results, Tryz.f64, go_sem, d0, d1, d2]
      · have hbe : (b == b') = false := by simpa using hbb
        by_cases hlt : m < o
        · have eT : dgs (o - m) = S := by rw [HS.out]; simp [smT, hbb, hlt]
          have EB : Hid (Z = b') := by show Z = b'; rw [HZ.out]; simp [smB, hbb, hlt]
          have es : sg (m : Int) (o : Int) = -1 := sg_lt (by omega)
          rw [eT] at CN
          rw [es] at CC
          have CN' := CN.out (by omega)
          have CN2 : Hid _ := CN'
          clear hbb eT es CN CN'
          go_wp2_with fail
          refine Calls.mono (CC.out _ _ _ _ _ sM sO) ?_
          rintro e w4 ⟨rfl, b4⟩
          have sM4 := sM.keep b4
          have sO4 := sO.keep b4
          have KG4 := boxc_keep KG.out b4
          have L34 := boxc_keep L3.out b4
          have L24 := boxc_keep L2.out b4
          have B4 := HBc.out.trans (b4.mono HBc.out.size)
          have oD4 := OwnI.keep OD.out b4
          have hgl4 : g < w4.heap.size := boxc_lt KG4
          clear b4
          go_wp2_with fail
          refine Calls.mono (CN2.out _ _ _ _ _ sO4 sM4) ?_
          rintro e w5 ⟨r5, c5, rfl, o5, b5⟩
          have B5 := B4.trans (b5.mono B4.size)
          have oD5 := oD4.keep b5
          obtain ⟨g0, g1, g2, gf, gn⟩ := boxc3 (boxc_keep KG4 b5)
          obtain ⟨d0, d1, d2, df, dn⟩ := boxc3 (boxc_keep L34 b5)
          obtain ⟨q0, q1, q2, qf, qn⟩ := boxc3 (boxc_keep L24 b5)
          have H5 : Hid _ := plus_fin o5 hgl4 oD5 HGD.out (grown_two (gr_set w5 g 0 (.slice r5 S.length c5)) (gr_set _ g 2 (.bool b'))) B5 e0 hgw (.slice r5 S.length c5) (.slice rD D.length cD) (.bool b')
          clear o5 b5 B5 oD5 sM sO sM4 sO4 KG4 L34 L24 B4 oD4
          have ne1 : ¬ w.heap.size + 1 + 1 = g := by omega
          have ne2 : ¬ g = w.heap.size + 1 + 1 := by omega
          have ne3 : ¬ w.heap.size + 1 = g := by omega
          have ne4 : ¬ g = w.heap.size + 1 := by omega
          go_wp2
          refine ⟨rfl, .agg #[.slice r5 S.length c5, .slice rD D.length cD, .bool b'], ?_, r5, c5, rD, cD, by rw [EB.out], H5.out.1, H5.out.2.1, H5.out.2.2⟩
          simp [results, Tryz.f64, go_sem, d0, d1, d2]
        · have eT : dgs (m - o) = S := by rw [HS.out]; simp [smT, hbb, hlt]
          have EB : Hid (Z = b) := by show Z = b; rw [HZ.out]; simp [smB, hbb, hlt]
          have es : ¬ sg (m : Int) (o : Int) < 0 := by
            rcases Nat.lt_or_ge o m with h | h
            · rw [sg_gt (by omega)]; omega
            · rw [sg_eq (by omega)]; omega
          rw [eT] at CM
          have CN2 : Hid _ := CM.out (by omega)
          obtain ⟨z, hz⟩ : ∃ z, z = sg (m : Int) (o : Int) := ⟨_, rfl⟩
          rw [← hz] at CC es
          clear hbb eT CM hz
          go_wp2_with fail
          refine Calls.mono (CC.out _ _ _ _ _ sM sO) ?_
          rintro e w4 ⟨rfl, b4⟩
          have sM4 := sM.keep b4
          have sO4 := sO.keep b4
          have KG4 := boxc_keep KG.out b4
          have L34 := boxc_keep L3.out b4
          have B4 := HBc.out.trans (b4.mono HBc.out.size)
          have oD4 := OwnI.keep OD.out b4
          have hgl4 : g < w4.heap.size := boxc_lt KG4
          clear b4
          go_wp2_with fail
          refine Calls.mono (CN2.out _ _ _ _ _ sM4 sO4) ?_
          rintro e w5 ⟨r5, c5, rfl, o5, b5⟩
          have B5 := B4.trans (b5.mono B4.size)
          have oD5 := oD4.keep b5
          obtain ⟨g0, g1, g2, gf, gn⟩ := boxc3 (boxc_keep KG4 b5)
          obtain ⟨d0, d1, d2, df, dn⟩ := boxc3 (boxc_keep L34 b5)
          have H5 : Hid _ := plus_fin o5 hgl4 oD5 HGD.out (gr_set w5 g 0 (.slice r5 S.length c5)) B5 e0 hgw (.slice r5 S.length c5) (.slice rD D.length cD) (.bool b)
          clear o5 b5 B5 oD5 sM sO sM4 sO4 KG4 L34 B4 oD4
          have ne1 : ¬ w.heap.size + 1 + 1 = g := by omega
          have ne2 : ¬ g = w.heap.size + 1 + 1 := by omega
          go_wp2
          refine ⟨rfl, .agg #[.slice r5 S.length c5, .slice rD D.length cD, .bool b], ?_, r5, c5, rD, cD, by rw [EB.out], H5.out.1, H5.out.2.1, H5.out.2.2⟩
          simp [results, Tryz.f64, go_sem, d0, d1, d2]
end Go.Proofs.YthokphoojmpajabGreatDoor

namespace Go.Proofs.YthokphoojmpajabGreatDoor
open Go.RowKit Go.Proofs.Pin

theorem sm_zero (b : Bool) (x : Nat) (y : Nat) : smT false b (0 * y) (x * 1) = x := by
  unfold smT
  rw [Nat.zero_mul, Nat.mul_one]
  cases b <;> simp <;> omega
theorem smB_zero {b : Bool} {x : Nat} (y : Nat) (h : b = true → x ≠ 0) : smB false b (0 * y) (x * 1) = b := by
  unfold smB
  rw [Nat.zero_mul, Nat.mul_one]
  cases b with
  | false => simp
  | true => have := h rfl; simp; omega

theorem plus_zero (a : Option Addr) (r s : Option Addr) (cr cs x y : Nat) (b : Bool) (w : World) (ha : Sl w a [1]) (hx : Sl w r (dgs x)) (hy : Sl w s (dgs y)) (lx : (dgs x).length ≤ 2000) (ly : (dgs y).length ≤ 2000) (hb : b = true → x ≠ 0) :
    Calls Tryz.prog 64 #[frV none 0 0 a 1 1 false, frV r (dgs x).length cr s (dgs y).length cs b] w fun e w' => ∃ r2 c2 s2 d2, e = .returned (frV r2 (dgs x).length c2 s2 (dgs y).length d2 b) ∧ OwnI w' w.heap.size r2 c2 (dgs x) ∧ OwnI w' w.heap.size s2 d2 (dgs y) ∧ Below w.heap.size w w' := by
  have h := frPlus_any none a r s 0 1 cr cs 0 1 x y false b w (.inl rfl) ha hx hy (by decide) (by decide) lx ly
  rw [sm_zero, smB_zero y hb, Nat.one_mul] at h
  exact h

set_option maxRecDepth 20000 in
set_option maxHeartbeats 2000000 in
theorem sumOf_two (g : Nat) (r s r' s' : Option Addr) (cr cs cr' cs' x y x' y' : Nat) (b b' : Bool) (w : World)
    (hk : BoxC w g 48 #[.slice r (dgs x).length cr, .slice s (dgs y).length cs, .bool b, .slice r' (dgs x').length cr', .slice s' (dgs y').length cs', .bool b'])
    (hx : Sl w r (dgs x)) (hy : Sl w s (dgs y)) (hx' : Sl w r' (dgs x')) (hy' : Sl w s' (dgs y')) (lx : (dgs x).length ≤ 2000) (ly : (dgs y).length ≤ 2000) (lx' : (dgs x').length ≤ 2000) (ly' : (dgs y').length ≤ 2000) (hb : b = true → x ≠ 0) :
    Calls Tryz.prog 40 #[.slice (some ⟨g, 0, none⟩) 2 2] w fun e w' => ∃ r2 c2 s2 d2, e = .returned (frV r2 (dgs (smT b b' (x * y') (x' * y))).length c2 s2 (dgs (y * y')).length d2 (smB b b' (x * y') (x' * y))) ∧ OwnI w' w.heap.size r2 c2 (dgs (smT b b' (x * y') (x' * y))) ∧ OwnI w' w.heap.size s2 d2 (dgs (y * y')) ∧ Below w.heap.size w w' := by
  have C1 : Hid (∀ W a, Sl W a [1] → Sl W r (dgs x) → Sl W s (dgs y) → Calls Tryz.prog 64 #[frV none 0 0 a 1 1 false, frV r (dgs x).length cr s (dgs y).length cs b] W fun e w' => ∃ r2 c2 s2 d2, e = .returned (frV r2 (dgs x).length c2 s2 (dgs y).length d2 b) ∧ OwnI w' W.heap.size r2 c2 (dgs x) ∧ OwnI w' W.heap.size s2 d2 (dgs y) ∧ Below W.heap.size W w') := fun W a h1 h2 h3 => plus_zero a r s cr cs x y b W h1 h2 h3 lx ly hb
  have C2 : Hid (∀ W r0 c0 s0 d0, Sl W r0 (dgs x) → Sl W s0 (dgs y) → Sl W r' (dgs x') → Sl W s' (dgs y') → Calls Tryz.prog 64 #[frV r0 (dgs x).length c0 s0 (dgs y).length d0 b, frV r' (dgs x').length cr' s' (dgs y').length cs' b'] W fun e w' => ∃ r2 c2 s2 d2, e = .returned (frV r2 (dgs (smT b b' (x * y') (x' * y))).length c2 s2 (dgs (y * y')).length d2 (smB b b' (x * y') (x' * y))) ∧ OwnI w' W.heap.size r2 c2 (dgs (smT b b' (x * y') (x' * y))) ∧ OwnI w' W.heap.size s2 d2 (dgs (y * y')) ∧ Below W.heap.size W w') := fun W r0 c0 s0 d0 h1 h2 h3 h4 => frPlus_any r0 s0 r' s' c0 d0 cr' cs' x y x' y' b b' W h1 h2 h3 h4 lx ly lx' ly'
  have CW : Hid (∀ W, Calls Tryz.prog 61 #[.slice none 0 0] W fun e w' => ∃ g, e = .returned (.agg #[.slice none 0 0, .slice (some ⟨g, 0, none⟩) 1 1]) ∧ OwnI w' W.heap.size (some ⟨g, 0, none⟩) 1 [1] ∧ Below W.heap.size W w') := fun W => whole_any none 0 0 W
  obtain ⟨X, hX⟩ : ∃ X, X = dgs x := ⟨_, rfl⟩
  obtain ⟨Y, hY⟩ : ∃ Y, Y = dgs y := ⟨_, rfl⟩
  obtain ⟨X', hX'⟩ : ∃ X', X' = dgs x' := ⟨_, rfl⟩
  obtain ⟨Y', hY'⟩ : ∃ Y', Y' = dgs y' := ⟨_, rfl⟩
  obtain ⟨P, hP⟩ : ∃ P, P = dgs (smT b b' (x * y') (x' * y)) := ⟨_, rfl⟩
  obtain ⟨Q, hQ⟩ : ∃ Q, Q = dgs (y * y') := ⟨_, rfl⟩
  obtain ⟨Z, hZ⟩ : ∃ Z, Z = smB b b' (x * y') (x' * y) := ⟨_, rfl⟩
  rw [← hX, ← hY] at C1
  rw [← hX, ← hY, ← hX', ← hY', ← hP, ← hQ, ← hZ] at C2
  rw [← hX] at hx
  rw [← hY] at hy
  rw [← hX'] at hx'
  rw [← hY'] at hy'
  rw [← hX, ← hY, ← hX', ← hY'] at hk
  rw [← hP, ← hQ, ← hZ]
  clear hX hY hX' hY' hP hQ hZ lx ly lx' ly' hb
  unfold frV at C1 C2 ⊢
  have gl := boxc_lt hk
  have B0 : Below w.heap.size w (w.alloc (.cells #[.slice none 0 0, .slice none 0 0, .bool false] 48)) := (Below.refl _ w).alloc (Nat.le_refl _) _
  have k0 := boxc_new w 48 #[.slice none 0 0, .slice none 0 0, .bool false]
  go_enter Tryz.func40, Tryz.ntmps40
  go_wp2_with fail
  refine Calls.mono (CW.out _) ?_
  rintro e w1 ⟨u, rfl, o1, b1⟩
  have s1 := o1.sl
  have B1 := B0.trans (b1.mono B0.size)
  have k1 := boxc_keep k0 b1
  have kg := boxc_keep hk B1
  have x1 := hx.keep B1
  have y1 := hy.keep B1
  have x1' := hx'.keep B1
  have y1' := hy'.keep B1
  clear o1 b1 B0 k0 hx hy CW
  obtain ⟨w2, hw2⟩ : ∃ w2, w2 = w1.alloc (.cells #[.slice none 0 0, .slice (some ⟨u, 0, none⟩) 1 1, .bool false] 48) := ⟨_, rfl⟩
  obtain ⟨v, hv⟩ : ∃ v, v = w1.heap.size := ⟨_, rfl⟩
  have b2 : Below w1.heap.size w1 w2 := by rw [hw2]; exact (Below.refl _ w1).alloc (Nat.le_refl _) _
  have kv : BoxC w2 v 48 #[.slice none 0 0, .slice (some ⟨u, 0, none⟩) 1 1, .bool false] := by rw [hw2, hv]; exact boxc_new _ _ _
  have kg2 := boxc_keep kg b2
  have k2 := boxc_keep k1 b2
  have B2 := B1.trans (b2.mono B1.size)
  have hvl : w.heap.size < v := by rw [hv]; exact boxc_lt k1
  have s2 := s1.keep b2
  have x2 := x1.keep b2
  have y2 := y1.keep b2
  have x2' := x1'.keep b2
  have y2' := y1'.keep b2
  go_wp2_with fail
  rw [← hw2, ← hv]
  clear hw2 hv b2 B1 k1 kg s1 x1 y1 x1' y1' hk
  have c0 := boxc_cell kg2 0
  have c1 := boxc_cell kg2 1
  have c2 := boxc_cell kg2 2
  obtain ⟨e0, e1, e2, _, vn⟩ := boxc3 kv
  simp only [List.getElem?_toArray, List.getElem?_cons_zero, List.getElem?_cons_succ] at c0 c1 c2
  have ne1 : ¬ v = w2.heap.size := by omega
  have ne2 : ¬ g = w2.heap.size := by have := boxc_lt kg2; omega
  have gl2 := boxc_lt kg2
  obtain ⟨w3, hw3⟩ : ∃ w3, w3 = w2.alloc (.cells #[.slice r X.length cr, .slice s Y.length cs, .bool b] 48) := ⟨_, rfl⟩
  have b3 : Below w2.heap.size w2 w3 := by rw [hw3]; exact (Below.refl _ w2).alloc (Nat.le_refl _) _
  refine wp_loop_rounds 3 ?_
  rw [rounds_succ]
  go_wp2_with fail
  rw [← hw3]
  refine Calls.mono (C1.out _ _ (s2.keep b3) (x2.keep b3) (y2.keep b3)) ?_
  rintro e w4 ⟨r4, c4, s4, d4, rfl, o4, p4, b4⟩
  have b34 : Below w2.heap.size w2 w4 := b3.trans (b4.mono b3.size)
  have kv4 := boxc_keep kv b34
  have kg4 := boxc_keep kg2 b34
  have k4 := boxc_keep k2 b34
  have x4' := x2'.keep b34
  have y4' := y2'.keep b34
  have B4 := B2.trans (b34.mono B2.size)
  have v3 : v < w3.heap.size := Nat.lt_of_lt_of_le vn b3.size
  clear hw3 b3 b4 b34 kv kg2 k2 x2' y2' s2 x2 y2 B2 C1 c0 c1 c2 e0 e1 e2 ne1 ne2
  obtain ⟨e0, e1, e2, ef, vn4⟩ := boxc3 kv4
  obtain ⟨w5, hw5⟩ : ∃ w5, w5 = ((w4.setCell ⟨v, 0, none⟩ (.slice r4 X.length c4)).setCell ⟨v, 1, none⟩ (.slice s4 Y.length d4)).setCell ⟨v, 2, none⟩ (.bool b) := ⟨_, rfl⟩
  have g5 : w4.grownBy w5 (some v) := by rw [hw5]; exact gr_set3 _ _ _ _ _
  have kv5 : BoxC w5 v 48 #[.slice r4 X.length c4, .slice s4 Y.length d4, .bool b] := by rw [hw5]; exact boxc_set2 (boxc_set1 (boxc_set0 kv4 _) _) _
  have kg5 := boxc_kept kg4 g5 (by simp; omega)
  have k5 := boxc_kept k4 g5 (by simp; omega)
  have o5 := (own_far o4 g5 v3).sl
  have p5 := (own_far p4 g5 v3).sl
  have B5 : Below w.heap.size w w5 := B4.grown g5 B4.size (fun k hk => by cases hk; omega)
  have x5' : Sl w5 r' X' := x4'.apart g5 ((hx'.later (Nat.le_of_lt hvl)))
  have y5' : Sl w5 s' Y' := y4'.apart g5 ((hy'.later (Nat.le_of_lt hvl)))
  go_wp2_with fail
  rw [← hw5]
  rw [rounds_succ]
  clear kv4 kg4 k4 x4' y4' B4 o4 p4 e0 e1 e2 ef hw5
  have c3 := boxc_cell kg5 3
  have c4' := boxc_cell kg5 4
  have c5 := boxc_cell kg5 5
  simp only [List.getElem?_toArray, List.getElem?_cons_zero, List.getElem?_cons_succ] at c3 c4' c5
  obtain ⟨f0, f1, f2, ff, vn5⟩ := boxc3 kv5
  have gl5 := boxc_lt kg5
  have ne1 : ¬ v = w5.heap.size := by omega
  have ne2 : ¬ g = w5.heap.size := by omega
  obtain ⟨w6, hw6⟩ : ∃ w6, w6 = w5.alloc (.cells #[.slice r' X'.length cr', .slice s' Y'.length cs', .bool b'] 48) := ⟨_, rfl⟩
  have b6 : Below w5.heap.size w5 w6 := by rw [hw6]; exact (Below.refl _ w5).alloc (Nat.le_refl _) _
  go_wp2_with fail
  rw [← hw6]
  refine Calls.mono (C2.out _ _ _ _ _ (o5.keep b6) (p5.keep b6) (x5'.keep b6) (y5'.keep b6)) ?_
  rintro e w7 ⟨r7, c7, s7, d7, rfl, o7, p7, b7⟩
  have b67 : Below w5.heap.size w5 w7 := b6.trans (b7.mono b6.size)
  have kv7 := boxc_keep kv5 b67
  have k7 := boxc_keep k5 b67
  have B7 := B5.trans (b67.mono B5.size)
  have v6 : v < w6.heap.size := Nat.lt_of_lt_of_le vn5 b6.size
  have z6 : w.heap.size < w6.heap.size := Nat.lt_of_lt_of_le (boxc_lt k5) b6.size
  have H7 : Hid (OwnI w7 w6.heap.size r7 c7 P ∧ OwnI w7 w6.heap.size s7 d7 Q ∧ Below w.heap.size w w7) := ⟨o7, p7, B7⟩
  clear hw6 b6 b7 b67 kv5 kg5 k5 x5' y5' B5 o5 p5 C2 c3 c4' c5 f0 f1 f2 ff ne1 ne2 o7 p7 B7 hx' hy'
  obtain ⟨e0, e1, e2, ef, en⟩ := boxc3 kv7
  obtain ⟨f0, f1, f2, ff, fn⟩ := boxc3 k7
  clear kv7 k7
  have ne3 : ¬ v = w.heap.size := by omega
  have ne4 : ¬ w.heap.size = v := by omega
  go_wp2_with fail
  rw [rounds_succ]
  go_wp2
  have g8 := gr_set3 w7 v (.slice r7 P.length c7) (.slice s7 Q.length d7) (.bool Z)
  have g9 := gr_set3 (((w7.setCell ⟨v, 0, none⟩ (.slice r7 P.length c7)).setCell ⟨v, 1, none⟩ (.slice s7 Q.length d7)).setCell ⟨v, 2, none⟩ (.bool Z)) w.heap.size (.slice r7 P.length c7) (.slice s7 Q.length d7) (.bool Z)
  have oP := (own_far (own_far H7.out.1 g8 v6) g9 z6).mono (Nat.le_of_lt z6)
  have oQ := (own_far (own_far H7.out.2.1 g8 v6) g9 z6).mono (Nat.le_of_lt z6)
  have hB := below_set3 (below_set3 H7.out.2.2 (Nat.le_of_lt hvl) (.slice r7 P.length c7) (.slice s7 Q.length d7) (.bool Z)) (Nat.le_refl _) (.slice r7 P.length c7) (.slice s7 Q.length d7) (.bool Z)
  refine ⟨rfl, .agg #[.slice r7 P.length c7, .slice s7 Q.length d7, .bool Z], ?_, r7, c7, s7, d7, rfl, oP, oQ, hB⟩
  clear g8 g9 oP oQ hB
  simp [results, Tryz.f40, go_sem, f0, f1, f2]
end Go.Proofs.YthokphoojmpajabGreatDoor

namespace Go.Proofs.YthokphoojmpajabGreatDoor
open Go.RowKit Go.Proofs.Pin

theorem sm_len (b b' : Bool) (m o : Nat) (hm : (dgs m).length ≤ 1000) (ho : (dgs o).length ≤ 1000) : (dgs (smT b b' m o)).length ≤ 2000 := by
  unfold smT
  split
  · have := len_add2 m o; omega
  · split
    · have := len_sub2 o m; omega
    · have := len_sub2 m o; omega
/-- The sum, in lowest terms. -/
def addA (b : Bool) (x y : Nat) (b' : Bool) (x' y' : Nat) : FAns := makeA (smB b b' (x * y') (x' * y)) (smT b b' (x * y') (x' * y)) (y * y')

def subA (b : Bool) (x y : Nat) (b' : Bool) (x' y' : Nat) : FAns := addA b x y (ngB b' x') x' y'
theorem op2A_len {f : Bool → Nat → Nat → Bool → Nat → Nat → FAns} (h : ∀ b x y b' x' y', (f b x y b' x' y').X.length ≤ 256 ∧ (f b x y b' x' y').Y.length ≤ 256) (b : Bool) (X Y : List Int) (b' : Bool) (X' Y' : List Int) : (op2A f b X Y b' X' Y').X.length ≤ 256 ∧ (op2A f b X Y b' X' Y').Y.length ≤ 256 := by
  unfold op2A
  split
  · exact h _ _ _ _ _ _
  · exact ⟨Nat.zero_le _, Nat.zero_le _⟩
theorem addA_len (b : Bool) (X Y : List Int) (b' : Bool) (X' Y' : List Int) : (op2A addA b X Y b' X' Y').X.length ≤ 256 ∧ (op2A addA b X Y b' X' Y').Y.length ≤ 256 := op2A_len (fun _ _ _ _ _ _ => makeA_len _ _ _) b X Y b' X' Y'
theorem subA_len (b : Bool) (X Y : List Int) (b' : Bool) (X' Y' : List Int) : (op2A subA b X Y b' X' Y').X.length ≤ 256 ∧ (op2A subA b X Y b' X' Y').Y.length ≤ 256 := op2A_len (fun _ _ _ _ _ _ => makeA_len _ _ _) b X Y b' X' Y'
theorem mulA_len (b : Bool) (X Y : List Int) (b' : Bool) (X' Y' : List Int) : (op2A mulA b X Y b' X' Y').X.length ≤ 256 ∧ (op2A mulA b X Y b' X' Y').Y.length ≤ 256 := op2A_len (fun _ _ _ _ _ _ => makeA_len _ _ _) b X Y b' X' Y'
theorem divA_len (b : Bool) (X Y : List Int) (b' : Bool) (X' Y' : List Int) : (op2A divA b X Y b' X' Y').X.length ≤ 256 ∧ (op2A divA b X Y b' X' Y').Y.length ≤ 256 := op2A_len (fun _ _ _ _ _ _ => by
  unfold divA
  split
  · exact ⟨Nat.zero_le _, Nat.zero_le _⟩
  · exact makeA_len _ _ _) b X Y b' X' Y'
end Go.Proofs.YthokphoojmpajabGreatDoor
