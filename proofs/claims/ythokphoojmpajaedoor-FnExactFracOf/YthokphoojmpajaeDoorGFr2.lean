/- Fractions as impl reckons with them: taken, bothTaken, told. Fractions as impl reckons with them: bothTaken. Fractions as impl reckons with them: lowest, settled. -/
import Derived.Test.YthokphoojmpajaeDoorFr1
import Derived.Test.YthokphoojmpajaeDoorAs
import Derived.Test.YthokphoojmpajaeDoorFracOk
import Derived.Test.YthokphoojmpajaeDoorCopied
import Derived.Deep.RegionHeld3
namespace Go.Proofs.YthokphoojmpajaeDoor
open Go.RowKit Go.Proofs.Pin

/-- A fault, as an error. -/
def flt (s : ByteArray) : Value := .iface 49 (.string s)
def fr0 : Value := frV none 0 0 none 0 0 false

set_option maxRecDepth 20000 in
theorem told_err (v : Value) (t : ByteArray) (r s : Option Addr) (n cr m cs : Nat) (b : Bool) (w : World) (hh : Hdl w) (hv : v = frV r n cr s m cs b) :
    Calls Tryd.prog 14 #[v, flt t] w fun e w' => e = .returned (.tuple #[fracV false none 0 0 none 0 0, .bool false]) ∧ Below w.heap.size w w' := by
  subst hv
  obtain ⟨w0, hw0⟩ : ∃ w0, w0 = (w.alloc (.cells #[.slice r n cr, .slice s m cs, .bool b] 39)).alloc (.cells #[.bool false, .slice none 0 0, .slice none 0 0] 24) := ⟨_, rfl⟩
  have B0 : Below w.heap.size w w0 := by rw [hw0]; exact ((Below.refl _ w).alloc (Nat.le_refl _) _).alloc (by simp) _
  have fc : BoxC w0 (w.heap.size + 1) 24 #[.bool false, .slice none 0 0, .slice none 0 0] := by
    rw [hw0]
    have h := boxc_new (w.alloc (.cells #[.slice r n cr, .slice s m cs, .bool b] 39)) 24 #[.bool false, .slice none 0 0, .slice none 0 0]
    rw [World.size_alloc] at h
    exact h
  have C : Hid _ := isFault_hit t w0 (hh.keep B0 hh.pos)
  clear hh
  unfold frV flt fracV
  go_enter Tryd.func14, Tryd.ntmps14
  go_wp2_with fail
  rw [← hw0]
  refine Calls.mono C.out ?_
  rintro e w1 ⟨rfl, b1⟩
  obtain ⟨d0, d1, d2, f1, n1⟩ := boxc3 (boxc_keep fc b1)
  have HB : Hid (Below w.heap.size w w1) := B0.trans (b1.mono B0.size)
  clear b1 B0 fc C hw0
  go_wp2
  refine ⟨rfl, .tuple #[.agg #[.bool false, .slice none 0 0, .slice none 0 0], .bool false], ?_, rfl, below_set3 HB.out (by omega) _ _ _⟩
  simp [results, Tryd.f14, go_sem, d0, d1, d2]

set_option maxRecDepth 20000 in
set_option maxHeartbeats 1000000 in
theorem told_ok (v : Value) (r s : Option Addr) (cr cs : Nat) (X Y : List Int) (b : Bool) (w : World) (hX : Sl w r X) (hY : Sl w s Y) (lX : X.length ≤ 1048576) (lY : Y.length ≤ 1048576) (hv : v = frV r X.length cr s Y.length cs b) :
    Calls Tryd.prog 14 #[v, .nilIface] w fun e w' => ∃ r' cr' s' cs', e = .returned (.tuple #[fracV b r' X.length cr' s' Y.length cs', .bool true]) ∧ OwnI w' w.heap.size r' cr' X ∧ OwnI w' w.heap.size s' cs' Y ∧ Ap r' s' ∧ Below w.heap.size w w' := by
  subst hv
  obtain ⟨w0, hw0⟩ : ∃ w0, w0 = (w.alloc (.cells #[.slice r X.length cr, .slice s Y.length cs, .bool b] 39)).alloc (.cells #[.bool false, .slice none 0 0, .slice none 0 0] 24) := ⟨_, rfl⟩
  have B0 : Below w.heap.size w w0 := by rw [hw0]; exact ((Below.refl _ w).alloc (Nat.le_refl _) _).alloc (by simp) _
  have fb : BoxC w0 w.heap.size 39 #[.slice r X.length cr, .slice s Y.length cs, .bool b] := by rw [hw0]; exact boxc_alloc (boxc_new _ _ _) _
  have fc : BoxC w0 (w.heap.size + 1) 24 #[.bool false, .slice none 0 0, .slice none 0 0] := by
    rw [hw0]
    have h := boxc_new (w.alloc (.cells #[.slice r X.length cr, .slice s Y.length cs, .bool b] 39)) 24 #[.bool false, .slice none 0 0, .slice none 0 0]
    rw [World.size_alloc] at h
    exact h
  have C : Hid _ := isFault_nil w0
  have CX : Hid (∀ W, Sl W r X → Calls Tryd.prog 20 #[.slice r X.length cr] W fun e w' => ∃ r' c', e = .returned (.slice r' X.length c') ∧ OwnI w' W.heap.size r' c' X ∧ Below W.heap.size W w') := fun W h => copied_any r cr X W h lX
  have CY : Hid (∀ W, Sl W s Y → Calls Tryd.prog 20 #[.slice s Y.length cs] W fun e w' => ∃ r' c', e = .returned (.slice r' Y.length c') ∧ OwnI w' W.heap.size r' c' Y ∧ Below W.heap.size W w') := fun W h => copied_any s cs Y W h lY
  unfold frV fracV
  go_enter Tryd.func14, Tryd.ntmps14
  go_wp2_with fail
  rw [← hw0]
  refine Calls.mono C.out ?_
  rintro e w1 ⟨rfl, b1⟩
  have K1 := boxc_keep fb b1
  have K2 := boxc_keep fc b1
  have HB : Hid (Below w.heap.size w w1) := B0.trans (b1.mono B0.size)
  have X1 : Hid (Sl w1 r X) := hX.keep HB.out
  have Y1 : Hid (Sl w1 s Y) := hY.keep HB.out
  obtain ⟨c0, c1, c2, _, n0⟩ := boxc3 K1
  have hK1 : Hid _ := K1
  have hK2 : Hid _ := K2
  have n2 := boxc_lt K2
  clear b1 B0 fb fc C hw0 hX hY lX lY K1 K2
  go_wp2_with fail
  go_region_held3 (fun w' => w'.cell? ⟨w.heap.size, 0, none⟩ = some (.slice r X.length cr) ∧ w'.cell? ⟨w.heap.size, 1, none⟩ = some (.slice s Y.length cs) ∧ w'.cell? ⟨w.heap.size, 2, none⟩ = some (.bool b))
    (first | go_keep | (refine ⟨?_, ?_, ?_⟩ <;> first | (rw [b3.cell (by simp; omega)]; first | assumption | (rw [b2.cell (by simp; omega)]; assumption)) | (rw [b2.cell (by simp; omega)]; assumption)))
    (first
      | (go_at_call_of 20 (Value.slice r X.length cr); refine Calls.mono (CX.out _ ?_) ?_; (exact X1.out); rintro e w2 ⟨r2, c2', rfl, o2, b2⟩; have z2 : w1.heap.size ≤ w2.heap.size := b2.size)
      | (go_at_call_of 20 (Value.slice s Y.length cs); refine Calls.mono (CY.out _ ?_) ?_; (exact Sl.keep (show Sl w1.drew s Y from Y1.out) b2); rintro e w3 ⟨r3, c3', rfl, o3, b3⟩; have z3 : w2.heap.size ≤ w3.heap.size := b3.size; obtain ⟨d0, d1, d2, f1, n1⟩ := boxc3 (boxc_keep (boxc_keep (W := w1.drew) hK2.out b2) b3)))
  go_wp2
  have hg := gr_set3 w3 (w.heap.size + 1) (.bool b) (.slice r2 X.length c2') (.slice r3 Y.length c3')
  have oX := own_far ((o2.keep b3).mono (base' := w1.heap.size) (Nat.le_refl _)) hg n2
  have oY := own_far o3 hg (by omega)
  have hB : Below w.heap.size w _ := below_set3 ((HB.out.trans ((below_un1 b2).mono (by exact HB.out.size))).trans (b3.mono (by have := HB.out.size; omega))) (Nat.le_succ w.heap.size) (.bool b) (.slice r2 X.length c2') (.slice r3 Y.length c3')
  refine ⟨rfl, .tuple #[.agg #[.bool b, .slice r2 X.length c2', .slice r3 Y.length c3'], .bool true], ?_, r2, c2', r3, c3', rfl, oX.mono (by have := HB.out.size; omega), oY.mono (by have := HB.out.size; omega), ap_seq o2 o3 (Nat.le_refl _), hB⟩
  clear hg oX oY hB o2 o3
  simp [results, Tryd.f14, go_sem, d0, d1, d2]
end Go.Proofs.YthokphoojmpajaeDoor

namespace Go.Proofs.YthokphoojmpajaeDoor
open Go.RowKit Go.Proofs.Pin

/-- Four boxes, laid one behind the other. -/
theorem boxes4 (w : World) (t1 t2 t3 t4 : TypeId) (c1 c2 c3 c4 : Array Value) : ∃ w0, w0 = (((w.alloc (.cells c1 t1)).alloc (.cells c2 t2)).alloc (.cells c3 t3)).alloc (.cells c4 t4) ∧ BoxC w0 w.heap.size t1 c1 ∧ BoxC w0 (w.heap.size + 1) t2 c2 ∧ BoxC w0 (w.heap.size + 1 + 1) t3 c3 ∧ BoxC w0 (w.heap.size + 1 + 1 + 1) t4 c4 ∧ Below w.heap.size w w0 ∧ w0.heap.size = w.heap.size + 4 := by
  refine ⟨_, rfl, boxc_alloc (boxc_alloc (boxc_alloc (boxc_new _ _ _) _) _) _, ?_, ?_, ?_, (((Below.refl _ w).alloc (Nat.le_refl _) _).alloc (by simp) _).alloc (by simp; omega) _ |>.alloc (by simp; omega) _, by simp⟩
  · have h := boxc_new (w.alloc (.cells c1 t1)) t2 c2
    rw [World.size_alloc] at h
    exact boxc_alloc (boxc_alloc h _) _
  · have h := boxc_new ((w.alloc (.cells c1 t1)).alloc (.cells c2 t2)) t3 c3
    rw [World.size_alloc, World.size_alloc] at h
    exact boxc_alloc h _
  · have h := boxc_new (((w.alloc (.cells c1 t1)).alloc (.cells c2 t2)).alloc (.cells c3 t3)) t4 c4
    rw [World.size_alloc, World.size_alloc, World.size_alloc] at h
    exact h

end Go.Proofs.YthokphoojmpajaeDoor

namespace Go.Proofs.YthokphoojmpajaeDoor
open Go.RowKit Go.Proofs.Pin

set_option maxRecDepth 20000 in
set_option maxHeartbeats 1000000 in
theorem lowest_any (r s : Option Addr) (cr cs x y : Nat) (w : World) (hx : Sl w r (dgs x)) (hy : Sl w s (dgs y)) (lx : (dgs x).length ≤ 2000) (ly : (dgs y).length ≤ 2000) (kx : (dgs x).length ≤ cr) (ky : (dgs y).length ≤ cs) (hy0 : y ≠ 0) :
    Calls Tryd.prog 34 #[.agg #[.slice r (dgs x).length cr, .slice s (dgs y).length cs]] w fun e w' => ∃ r' c' s' d', e = .returned (.agg #[.slice r' (dgs (x / Nat.gcd x y)).length c', .slice s' (dgs (y / Nat.gcd x y)).length d']) ∧ OwnI w' w.heap.size r' c' (dgs (x / Nat.gcd x y)) ∧ OwnI w' w.heap.size s' d' (dgs (y / Nat.gcd x y)) ∧ Below w.heap.size w w' := by
  obtain ⟨g, hg⟩ : ∃ g, g = Nat.gcd x y := ⟨_, rfl⟩
  have hg0 : g ≠ 0 := by rw [hg]; exact fun h => hy0 (Nat.eq_zero_of_gcd_eq_zero_right h)
  have hgl : (dgs g).length ≤ 2000 := by
    refine Nat.le_trans (dgs_small (n := g) (k := (dgs y).length) ?_) ly
    have h1 : g ≤ y := by rw [hg]; exact Nat.gcd_le_right _ (by omega)
    have h2 : y < 65536 ^ (dgs y).length := (dgs_len_iff y _).1 (Nat.le_refl _)
    omega
  have CG : Hid (∀ W, Sl W r (dgs x) → Sl W s (dgs y) → Calls Tryd.prog 40 #[.slice r (dgs x).length cr, .slice s (dgs y).length cs] W fun e w' => ∃ r' c', e = .returned (.slice r' (dgs g).length c') ∧ OwnI w' W.heap.size r' c' (dgs g) ∧ Below W.heap.size W w') := fun W h1 h2 => by rw [hg]; exact gcd_any r s cr cs x y W h1 h2 lx ly kx ky
  have C1 : Hid (∀ W a c, Sl W r (dgs x) → Sl W a (dgs g) → Calls Tryd.prog 41 #[.slice r (dgs x).length cr, .slice a (dgs g).length c] W fun e w' => ∃ r' c' v, e = .returned (.tuple #[.slice r' (dgs (x / g)).length c', v]) ∧ OwnI w' W.heap.size r' c' (dgs (x / g)) ∧ Below W.heap.size W w') := fun W a c h1 h2 => (divBy_any r a cr c x g W h1 h2 lx hgl hg0 kx).mono fun e w' ⟨r1, c1, s1, d1, h1, h2, _, _, h4⟩ => ⟨r1, c1, _, h1, h2, h4⟩
  have C2 : Hid (∀ W a c, Sl W s (dgs y) → Sl W a (dgs g) → Calls Tryd.prog 41 #[.slice s (dgs y).length cs, .slice a (dgs g).length c] W fun e w' => ∃ r' c' v, e = .returned (.tuple #[.slice r' (dgs (y / g)).length c', v]) ∧ OwnI w' W.heap.size r' c' (dgs (y / g)) ∧ Below W.heap.size W w') := fun W a c h1 h2 => (divBy_any s a cs c y g W h1 h2 ly hgl hg0 ky).mono fun e w' ⟨r1, c1, s1, d1, h1, h2, _, _, h4⟩ => ⟨r1, c1, _, h1, h2, h4⟩
  rw [← hg]
  obtain ⟨X, hX⟩ : ∃ X, X = dgs x := ⟨_, rfl⟩
  obtain ⟨Y, hY⟩ : ∃ Y, Y = dgs y := ⟨_, rfl⟩
  obtain ⟨G, hG⟩ : ∃ G, G = dgs g := ⟨_, rfl⟩
  obtain ⟨P, hP⟩ : ∃ P, P = dgs (x / g) := ⟨_, rfl⟩
  obtain ⟨Q, hQ⟩ : ∃ Q, Q = dgs (y / g) := ⟨_, rfl⟩
  rw [← hX, ← hY, ← hG] at CG
  rw [← hX, ← hG, ← hP] at C1
  rw [← hY, ← hG, ← hQ] at C2
  rw [← hX] at hx
  rw [← hY] at hy
  rw [← hX, ← hY, ← hP, ← hQ]
  clear hX hY hG hP hQ lx ly kx ky hy0 hg hg0 hgl
  obtain ⟨w0, hw0⟩ : ∃ w0, w0 = (w.alloc (.cells #[.slice r X.length cr, .slice s Y.length cs] 37)).alloc (.cells #[.slice none 0 0, .slice none 0 0] 37) := ⟨_, rfl⟩
  have B0 : Below w.heap.size w w0 := by rw [hw0]; exact ((Below.refl _ w).alloc (Nat.le_refl _) _).alloc (by simp) _
  have k1 : BoxC w0 w.heap.size 37 #[.slice r X.length cr, .slice s Y.length cs] := by rw [hw0]; exact boxc_alloc (boxc_new _ _ _) _
  have k2 : BoxC w0 (w.heap.size + 1) 37 #[.slice none 0 0, .slice none 0 0] := by
    rw [hw0]
    have h := boxc_new (w.alloc (.cells #[.slice r X.length cr, .slice s Y.length cs] 37)) 37 #[.slice none 0 0, .slice none 0 0]
    rw [World.size_alloc] at h
    exact h
  have x0 := hx.keep B0
  have y0 := hy.keep B0
  go_enter Tryd.func34, Tryd.ntmps34
  go_wp2_with fail
  rw [← hw0]
  refine Calls.mono (CG.out _ x0 y0) ?_
  rintro e w1 ⟨a, c, rfl, o1, b1⟩
  have x1 := x0.keep b1
  have y1 := y0.keep b1
  have s1 := o1.sl
  have k11 := boxc_keep k1 b1
  have k21 := boxc_keep k2 b1
  have B1 := B0.trans (b1.mono B0.size)
  obtain ⟨c0, c1, _, _⟩ := boxc2 k11
  clear hw0 CG x0 y0 b1 k1 k2 o1 B0
  go_wp2_with fail
  refine Calls.mono (C1.out _ _ _ x1 s1) ?_
  rintro e w2 ⟨r2, d2, v2, rfl, o2, b2⟩
  have y2 := y1.keep b2
  have s2 := s1.keep b2
  have k12 := boxc_keep k11 b2
  have k22 := boxc_keep k21 b2
  have B2 := B1.trans (b2.mono B1.size)
  have o2' := o2.mono (base' := w1.heap.size) (Nat.le_refl _)
  have z1 := boxc_lt k21
  clear C1 x1 y1 b2 k11 k21 s1 c0 c1
  obtain ⟨c0, c1, _, _⟩ := boxc2 k12
  go_wp2_with fail
  refine Calls.mono (C2.out _ _ _ y2 s2) ?_
  rintro e w3 ⟨r3, d3, v3, rfl, o3, b3⟩
  have z2 := boxc_lt k22
  obtain ⟨e0, e1, ef, en⟩ := boxc2 (boxc_keep k22 b3)
  have HB : Hid _ := B2.trans (b3.mono B2.size)
  have HO : Hid _ := o2'.keep b3
  clear C2 y2 s2 k12 k22 b3 o2' o2 c0 c1 hx hy
  go_wp2
  have hgr := gr_set2 w3 (w.heap.size + 1) (.slice r2 P.length d2) (.slice r3 Q.length d3)
  have oP := own_far HO.out hgr z1
  have oQ := own_far o3 hgr z2
  have hB : Below w.heap.size w _ := below_set2 HB.out (Nat.le_succ w.heap.size) (.slice r2 P.length d2) (.slice r3 Q.length d3)
  refine ⟨rfl, .agg #[.slice r2 P.length d2, .slice r3 Q.length d3], ?_, r2, d2, r3, d3, rfl, oP.mono (by omega), oQ.mono (by omega), hB⟩
  clear hgr oP oQ hB
  simp [results, Tryd.f34, go_sem, e0, e1]

/-- In lowest terms. -/
def loX (x y : Nat) : List Int := dgs (x / Nat.gcd x y)
def loY (x y : Nat) : List Int := dgs (y / Nat.gcd x y)

set_option maxRecDepth 20000 in
set_option maxHeartbeats 1000000 in
theorem settled_any (r s : Option Addr) (cr cs x y : Nat) (b : Bool) (w : World) (hx : Sl w r (dgs x)) (hy : Sl w s (dgs y)) (lx : (dgs x).length ≤ 2000) (ly : (dgs y).length ≤ 2000) (kx : (dgs x).length ≤ cr) (ky : (dgs y).length ≤ cs) (hy0 : y ≠ 0) :
    Calls Tryd.prog 22 #[frV r (dgs x).length cr s (dgs y).length cs b] w fun e w' =>
      ((loX x y).length ≤ 256 ∧ (loY x y).length ≤ 256 ∧ ∃ r' c' s' d', e = .returned (.tuple #[frV r' (loX x y).length c' s' (loY x y).length d' (b && decide (0 < (loX x y).length)), .nilIface]) ∧ OwnI w' w.heap.size r' c' (loX x y) ∧ OwnI w' w.heap.size s' d' (loY x y) ∧ Below w.heap.size w w')
      ∨ (¬ ((loX x y).length ≤ 256 ∧ (loY x y).length ≤ 256) ∧ (∃ t, e = .returned (.tuple #[fr0, flt t])) ∧ Below w.heap.size w w') := by
  have C : Hid (∀ W, Sl W r (dgs x) → Sl W s (dgs y) → Calls Tryd.prog 34 #[.agg #[.slice r (dgs x).length cr, .slice s (dgs y).length cs]] W fun e w' => ∃ r' c' s' d', e = .returned (.agg #[.slice r' (loX x y).length c', .slice s' (loY x y).length d']) ∧ OwnI w' W.heap.size r' c' (loX x y) ∧ OwnI w' W.heap.size s' d' (loY x y) ∧ Below W.heap.size W w') := fun W h1 h2 => lowest_any r s cr cs x y W h1 h2 lx ly kx ky hy0
  obtain ⟨X, hX⟩ : ∃ X, X = dgs x := ⟨_, rfl⟩
  obtain ⟨Y, hY⟩ : ∃ Y, Y = dgs y := ⟨_, rfl⟩
  obtain ⟨P, hP⟩ : ∃ P, P = loX x y := ⟨_, rfl⟩
  obtain ⟨Q, hQ⟩ : ∃ Q, Q = loY x y := ⟨_, rfl⟩
  rw [← hX, ← hY, ← hP, ← hQ] at C ⊢
  rw [← hX] at hx
  rw [← hY] at hy
  clear hX hY hP hQ lx ly kx ky hy0
  unfold fr0 flt frV
  obtain ⟨w0, hw0⟩ : ∃ w0, w0 = (w.alloc (.cells #[.slice r X.length cr, .slice s Y.length cs, .bool b] 39)).alloc (.cells #[.slice none 0 0, .slice none 0 0, .bool false] 39) := ⟨_, rfl⟩
  have B0 : Below w.heap.size w w0 := by rw [hw0]; exact ((Below.refl _ w).alloc (Nat.le_refl _) _).alloc (by simp) _
  have k1 : BoxC w0 w.heap.size 39 #[.slice r X.length cr, .slice s Y.length cs, .bool b] := by rw [hw0]; exact boxc_alloc (boxc_new _ _ _) _
  have k2 : BoxC w0 (w.heap.size + 1) 39 #[.slice none 0 0, .slice none 0 0, .bool false] := by
    rw [hw0]
    have h := boxc_new (w.alloc (.cells #[.slice r X.length cr, .slice s Y.length cs, .bool b] 39)) 39 #[.slice none 0 0, .slice none 0 0, .bool false]
    rw [World.size_alloc] at h
    exact h
  have x0 := hx.keep B0
  have y0 := hy.keep B0
  have z0 : w0.heap.size = w.heap.size + 2 := by rw [hw0]; simp
  go_enter Tryd.func22, Tryd.ntmps22
  go_wp2_with fail
  rw [← hw0]
  refine Calls.mono (C.out _ x0 y0) ?_
  rintro e w1 ⟨a, c, a', c', rfl, o1, o2, b1⟩
  obtain ⟨c0, c1, c2, cf, cn⟩ := boxc3 (boxc_keep k1 b1)
  obtain ⟨e0, e1, e2, ef, en⟩ := boxc3 (boxc_keep k2 b1)
  have HB : Hid (Below w.heap.size w w1) := B0.trans (b1.mono B0.size)
  have HO : Hid (OwnI w1 w0.heap.size a c P ∧ OwnI w1 w0.heap.size a' c' Q) := ⟨o1, o2⟩
  clear hw0 C x0 y0 k1 k2 b1 o1 o2 B0 hx hy
  by_cases h1 : (256 : Int) < (P.length : Int)
  · have H1 : Hid (¬ (P.length ≤ 256 ∧ Q.length ≤ 256)) := fun h => by omega
    cases b
    all_goals
      go_wp2
      refine ⟨rfl, .tuple #[.agg #[.slice none 0 0, .slice none 0 0, .bool false], .iface 49 (.string ⟨#[116, 111, 111, 32, 109, 97, 110, 121, 32, 100, 105, 103, 105, 116, 115, 32, 105, 110, 32, 108, 111, 119, 101, 115, 116, 32, 116, 101, 114, 109, 115]⟩)], ?_, .inr ⟨H1.out, ⟨_, rfl⟩, below_set3 (below_set3 HB.out (Nat.le_refl _) _ _ _) (Nat.le_succ _) _ _ _⟩⟩
      simp [results, Tryd.f22, go_sem, e0, e1, e2]
  · by_cases h2 : (256 : Int) < (Q.length : Int)
    · have H1 : Hid (¬ (P.length ≤ 256 ∧ Q.length ≤ 256)) := fun h => by omega
      cases b
      all_goals
        go_wp2
        refine ⟨rfl, .tuple #[.agg #[.slice none 0 0, .slice none 0 0, .bool false], .iface 49 (.string ⟨#[116, 111, 111, 32, 109, 97, 110, 121, 32, 100, 105, 103, 105, 116, 115, 32, 105, 110, 32, 108, 111, 119, 101, 115, 116, 32, 116, 101, 114, 109, 115]⟩)], ?_, .inr ⟨H1.out, ⟨_, rfl⟩, below_set3 (below_set3 HB.out (Nat.le_refl _) _ _ _) (Nat.le_succ _) _ _ _⟩⟩
        simp [results, Tryd.f22, go_sem, e0, e1, e2]
    · have HL : Hid (P.length ≤ 256 ∧ Q.length ≤ 256) := ⟨by omega, by omega⟩
      cases b with
      | true =>
        have g1 := gr_set3 w1 w.heap.size (.slice a P.length c) (.slice a' Q.length c') (.bool (decide (0 < P.length)))
        have g2 := gr_set3 (((w1.setCell ⟨w.heap.size, 0, none⟩ (.slice a P.length c)).setCell ⟨w.heap.size, 1, none⟩ (.slice a' Q.length c')).setCell ⟨w.heap.size, 2, none⟩ (.bool (decide (0 < P.length)))) (w.heap.size + 1) (.slice a P.length c) (.slice a' Q.length c') (.bool (decide (0 < P.length)))
        have HP : Hid _ := (own_far (own_far HO.out.1 g1 (by omega)) g2 (by omega)).mono (base' := w.heap.size) (by omega)
        have HQ : Hid _ := (own_far (own_far HO.out.2 g1 (by omega)) g2 (by omega)).mono (base' := w.heap.size) (by omega)
        clear g1 g2
        go_wp2
        refine ⟨rfl, .tuple #[.agg #[.slice a P.length c, .slice a' Q.length c', .bool (decide (0 < P.length))], .nilIface], ?_, .inl ⟨HL.out.1, HL.out.2, a, c, a', c', rfl, HP.out, HQ.out, below_set3 (below_set3 HB.out (Nat.le_refl _) _ _ _) (Nat.le_succ _) _ _ _⟩⟩
        simp [results, Tryd.f22, go_sem, e0, e1, e2]
      | false =>
        have g1 := gr_set3 w1 w.heap.size (.slice a P.length c) (.slice a' Q.length c') (.bool false)
        have g2 := gr_set3 (((w1.setCell ⟨w.heap.size, 0, none⟩ (.slice a P.length c)).setCell ⟨w.heap.size, 1, none⟩ (.slice a' Q.length c')).setCell ⟨w.heap.size, 2, none⟩ (.bool false)) (w.heap.size + 1) (.slice a P.length c) (.slice a' Q.length c') (.bool false)
        have HP : Hid _ := (own_far (own_far HO.out.1 g1 (by omega)) g2 (by omega)).mono (base' := w.heap.size) (by omega)
        have HQ : Hid _ := (own_far (own_far HO.out.2 g1 (by omega)) g2 (by omega)).mono (base' := w.heap.size) (by omega)
        clear g1 g2
        go_wp2
        refine ⟨rfl, .tuple #[.agg #[.slice a P.length c, .slice a' Q.length c', .bool false], .nilIface], ?_, .inl ⟨HL.out.1, HL.out.2, a, c, a', c', rfl, HP.out, HQ.out, below_set3 (below_set3 HB.out (Nat.le_refl _) _ _ _) (Nat.le_succ _) _ _ _⟩⟩
        simp [results, Tryd.f22, go_sem, e0, e1, e2]
end Go.Proofs.YthokphoojmpajaeDoor
