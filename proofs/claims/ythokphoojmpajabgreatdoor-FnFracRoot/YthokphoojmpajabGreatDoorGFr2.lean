/- Fractions as impl reckons with them: taken, bothTaken, told. Fractions as impl reckons with them: bothTaken. Fractions as impl reckons with them: lowest, settled. -/
import Derived.Test.YthokphoojmpajabGreatDoorFr1
import Derived.Test.YthokphoojmpajabGreatDoorAs
import Derived.Test.YthokphoojmpajabGreatDoorFracOk
import Derived.Test.YthokphoojmpajabGreatDoorCopied
import Derived.Deep.RegionHeld3
namespace Go.Proofs.YthokphoojmpajabGreatDoor
open Go.RowKit Go.Proofs.Pin

/-- A fault, as an error. -/
def flt (s : ByteArray) : Value := .iface 77 (.string s)
def fr0 : Value := frV none 0 0 none 0 0 false

set_option maxRecDepth 20000 in
theorem taken_yes (b : Bool) (r s : Option Addr) (cr cs : Nat) (X Y : List Int) (w : World) (hX : Sl w r X) (hY : Sl w s Y) (lX : X.length ≤ 1048576) (lY : Y.length ≤ 1048576) (cX : X.length ≤ cr) (cY : Y.length ≤ cs) (hok : fokB b X Y = true) :
    Calls Tryz.prog 27 #[fracV b r X.length cr s Y.length cs] w fun e w' => e = .returned (.tuple #[frV r X.length cr s Y.length cs b, .nilIface]) ∧ Below w.heap.size w w' := by
  obtain ⟨w0, hw0⟩ : ∃ w0, w0 = (w.alloc (.cells #[.bool b, .slice r X.length cr, .slice s Y.length cs] 25)).alloc (.cells #[.slice none 0 0, .slice none 0 0, .bool false] 48) := ⟨_, rfl⟩
  have B0 : Below w.heap.size w w0 := by rw [hw0]; exact ((Below.refl _ w).alloc (Nat.le_refl _) _).alloc (by simp) _
  have fb : BoxC w0 w.heap.size 25 #[.bool b, .slice r X.length cr, .slice s Y.length cs] := by rw [hw0]; exact boxc_alloc (boxc_new _ _ _) _
  have fc : BoxC w0 (w.heap.size + 1) 48 #[.slice none 0 0, .slice none 0 0, .bool false] := by
    rw [hw0]
    have h := boxc_new (w.alloc (.cells #[.bool b, .slice r X.length cr, .slice s Y.length cs] 25)) 48 #[.slice none 0 0, .slice none 0 0, .bool false]
    rw [World.size_alloc] at h
    exact h
  have C : Hid _ := implFok_any b r s cr cs X Y w0 (hX.keep B0) (hY.keep B0) lX lY cX cY
  rw [hok] at C
  unfold fracV at C ⊢
  unfold frV
  clear hX hY lX lY cX cY hok
  go_enter Tryz.func27, Tryz.ntmps27
  go_wp2_with fail
  rw [← hw0]
  refine Calls.mono C.out ?_
  rintro e w1 ⟨rfl, b1⟩
  obtain ⟨c0, c1, c2, _, _⟩ := boxc3 (boxc_keep fb b1)
  obtain ⟨d0, d1, d2, f1, n1⟩ := boxc3 (boxc_keep fc b1)
  have HB : Hid (Below w.heap.size w w1) := B0.trans (b1.mono B0.size)
  clear b1 B0 fb fc C hw0
  go_wp2
  refine ⟨rfl, .tuple #[.agg #[.slice r X.length cr, .slice s Y.length cs, .bool b], .nilIface], ?_, rfl, below_set3 HB.out (by omega) _ _ _⟩
  simp [results, Tryz.f27, go_sem, d0, d1, d2]

set_option maxRecDepth 20000 in
theorem taken_no (b : Bool) (r s : Option Addr) (cr cs : Nat) (X Y : List Int) (w : World) (hX : Sl w r X) (hY : Sl w s Y) (lX : X.length ≤ 1048576) (lY : Y.length ≤ 1048576) (cX : X.length ≤ cr) (cY : Y.length ≤ cs) (hok : fokB b X Y = false) :
    Calls Tryz.prog 27 #[fracV b r X.length cr s Y.length cs] w fun e w' => (∃ t, e = .returned (.tuple #[fr0, flt t])) ∧ Below w.heap.size w w' := by
  obtain ⟨w0, hw0⟩ : ∃ w0, w0 = (w.alloc (.cells #[.bool b, .slice r X.length cr, .slice s Y.length cs] 25)).alloc (.cells #[.slice none 0 0, .slice none 0 0, .bool false] 48) := ⟨_, rfl⟩
  have B0 : Below w.heap.size w w0 := by rw [hw0]; exact ((Below.refl _ w).alloc (Nat.le_refl _) _).alloc (by simp) _
  have fb : BoxC w0 w.heap.size 25 #[.bool b, .slice r X.length cr, .slice s Y.length cs] := by rw [hw0]; exact boxc_alloc (boxc_new _ _ _) _
  have fc : BoxC w0 (w.heap.size + 1) 48 #[.slice none 0 0, .slice none 0 0, .bool false] := by
    rw [hw0]
    have h := boxc_new (w.alloc (.cells #[.bool b, .slice r X.length cr, .slice s Y.length cs] 25)) 48 #[.slice none 0 0, .slice none 0 0, .bool false]
    rw [World.size_alloc] at h
    exact h
  have C : Hid _ := implFok_any b r s cr cs X Y w0 (hX.keep B0) (hY.keep B0) lX lY cX cY
  rw [hok] at C
  unfold fracV at C ⊢
  unfold fr0 frV flt
  clear hX hY lX lY cX cY hok
  go_enter Tryz.func27, Tryz.ntmps27
  go_wp2_with fail
  rw [← hw0]
  refine Calls.mono C.out ?_
  rintro e w1 ⟨rfl, b1⟩
  obtain ⟨c0, c1, c2, _, _⟩ := boxc3 (boxc_keep fb b1)
  obtain ⟨d0, d1, d2, f1, n1⟩ := boxc3 (boxc_keep fc b1)
  have HB : Hid (Below w.heap.size w w1) := B0.trans (b1.mono B0.size)
  clear b1 B0 fb fc C hw0
  go_wp2
  refine ⟨rfl, .tuple #[.agg #[.slice none 0 0, .slice none 0 0, .bool false], .iface 77 (.string ⟨#[97, 32, 102, 114, 97, 99, 116, 105, 111, 110, 32, 105, 115, 32, 110, 111, 116, 32, 111, 107]⟩)], ?_, ⟨_, rfl⟩, below_set3 HB.out (by omega) _ _ _⟩
  simp [results, Tryz.f27, go_sem, d0, d1, d2]

set_option maxRecDepth 20000 in
theorem told_err (v : Value) (t : ByteArray) (r s : Option Addr) (n cr m cs : Nat) (b : Bool) (w : World) (hh : Hdl w) (hv : v = frV r n cr s m cs b) :
    Calls Tryz.prog 29 #[v, flt t] w fun e w' => e = .returned (.tuple #[fracV false none 0 0 none 0 0, .bool false]) ∧ Below w.heap.size w w' := by
  subst hv
  obtain ⟨w0, hw0⟩ : ∃ w0, w0 = (w.alloc (.cells #[.slice r n cr, .slice s m cs, .bool b] 48)).alloc (.cells #[.bool false, .slice none 0 0, .slice none 0 0] 25) := ⟨_, rfl⟩
  have B0 : Below w.heap.size w w0 := by rw [hw0]; exact ((Below.refl _ w).alloc (Nat.le_refl _) _).alloc (by simp) _
  have fc : BoxC w0 (w.heap.size + 1) 25 #[.bool false, .slice none 0 0, .slice none 0 0] := by
    rw [hw0]
    have h := boxc_new (w.alloc (.cells #[.slice r n cr, .slice s m cs, .bool b] 48)) 25 #[.bool false, .slice none 0 0, .slice none 0 0]
    rw [World.size_alloc] at h
    exact h
  have C : Hid _ := isFault_hit t w0 (hh.keep B0 hh.pos)
  clear hh
  unfold frV flt fracV
  go_enter Tryz.func29, Tryz.ntmps29
  go_wp2_with fail
  rw [← hw0]
  refine Calls.mono C.out ?_
  rintro e w1 ⟨rfl, b1⟩
  obtain ⟨d0, d1, d2, f1, n1⟩ := boxc3 (boxc_keep fc b1)
  have HB : Hid (Below w.heap.size w w1) := B0.trans (b1.mono B0.size)
  clear b1 B0 fc C hw0
  go_wp2
  refine ⟨rfl, .tuple #[.agg #[.bool false, .slice none 0 0, .slice none 0 0], .bool false], ?_, rfl, below_set3 HB.out (by omega) _ _ _⟩
  simp [results, Tryz.f29, go_sem, d0, d1, d2]

set_option maxRecDepth 20000 in
set_option maxHeartbeats 1000000 in
theorem told_ok (v : Value) (r s : Option Addr) (cr cs : Nat) (X Y : List Int) (b : Bool) (w : World) (hX : Sl w r X) (hY : Sl w s Y) (lX : X.length ≤ 1048576) (lY : Y.length ≤ 1048576) (hv : v = frV r X.length cr s Y.length cs b) :
    Calls Tryz.prog 29 #[v, .nilIface] w fun e w' => ∃ r' cr' s' cs', e = .returned (.tuple #[fracV b r' X.length cr' s' Y.length cs', .bool true]) ∧ OwnI w' w.heap.size r' cr' X ∧ OwnI w' w.heap.size s' cs' Y ∧ Ap r' s' ∧ Below w.heap.size w w' := by
  subst hv
  obtain ⟨w0, hw0⟩ : ∃ w0, w0 = (w.alloc (.cells #[.slice r X.length cr, .slice s Y.length cs, .bool b] 48)).alloc (.cells #[.bool false, .slice none 0 0, .slice none 0 0] 25) := ⟨_, rfl⟩
  have B0 : Below w.heap.size w w0 := by rw [hw0]; exact ((Below.refl _ w).alloc (Nat.le_refl _) _).alloc (by simp) _
  have fb : BoxC w0 w.heap.size 48 #[.slice r X.length cr, .slice s Y.length cs, .bool b] := by rw [hw0]; exact boxc_alloc (boxc_new _ _ _) _
  have fc : BoxC w0 (w.heap.size + 1) 25 #[.bool false, .slice none 0 0, .slice none 0 0] := by
    rw [hw0]
    have h := boxc_new (w.alloc (.cells #[.slice r X.length cr, .slice s Y.length cs, .bool b] 48)) 25 #[.bool false, .slice none 0 0, .slice none 0 0]
    rw [World.size_alloc] at h
    exact h
  have C : Hid _ := isFault_nil w0
  have CX : Hid (∀ W, Sl W r X → Calls Tryz.prog 53 #[.slice r X.length cr] W fun e w' => ∃ r' c', e = .returned (.slice r' X.length c') ∧ OwnI w' W.heap.size r' c' X ∧ Below W.heap.size W w') := fun W h => copied_any r cr X W h lX
  have CY : Hid (∀ W, Sl W s Y → Calls Tryz.prog 53 #[.slice s Y.length cs] W fun e w' => ∃ r' c', e = .returned (.slice r' Y.length c') ∧ OwnI w' W.heap.size r' c' Y ∧ Below W.heap.size W w') := fun W h => copied_any s cs Y W h lY
  unfold frV fracV
  go_enter Tryz.func29, Tryz.ntmps29
  go_wp2_with fail
  rw [← hw0]
  refine Calls.mono C.out ?_
  rintro e w1 ⟨rfl, b1⟩
  have K1 := boxc_keep fb b1
  have K2 := boxc_keep fc b1
  have HB : Hid (Below w.heap.size w w1) := B0.trans (b1.mono B0.size)
  have X1 : Hid (Sl w1 r X) := hX.keep HB.out
  have Y1 : Hid (Sl w1 s Y) := hY.keep HB.out
  obtain ⟨c0, c1, c2, _, n0⟩ := boxc3 K1
  have hK1 : Hid _ := K1
  have hK2 : Hid _ := K2
  have n2 := boxc_lt K2
  clear b1 B0 fb fc C hw0 hX hY lX lY K1 K2
  go_wp2_with fail
  go_region_held3 (fun w' => w'.cell? ⟨w.heap.size, 0, none⟩ = some (.slice r X.length cr) ∧ w'.cell? ⟨w.heap.size, 1, none⟩ = some (.slice s Y.length cs) ∧ w'.cell? ⟨w.heap.size, 2, none⟩ = some (.bool b))
    (first | go_keep | (refine ⟨?_, ?_, ?_⟩ <;> first | (rw [b3.cell (by simp; omega)]; first | assumption | (rw [b2.cell (by simp; omega)]; assumption)) | (rw [b2.cell (by simp; omega)]; assumption)))
    (first
      | (go_at_call_of 53 (Value.slice r X.length cr); refine Calls.mono (CX.out _ ?_) ?_; (exact X1.out); rintro e w2 ⟨r2, c2', rfl, o2, b2⟩; have z2 : w1.heap.size ≤ w2.heap.size := b2.size)
      | (go_at_call_of 53 (Value.slice s Y.length cs); refine Calls.mono (CY.out _ ?_) ?_; (exact Sl.keep (show Sl w1.drew s Y from Y1.out) b2); rintro e w3 ⟨r3, c3', rfl, o3, b3⟩; have z3 : w2.heap.size ≤ w3.heap.size := b3.size; obtain ⟨d0, d1, d2, f1, n1⟩ := boxc3 (boxc_keep (boxc_keep (W := w1.drew) hK2.out b2) b3)))
  go_wp2
  have hg := gr_set3 w3 (w.heap.size + 1) (.bool b) (.slice r2 X.length c2') (.slice r3 Y.length c3')
  have oX := own_far ((o2.keep b3).mono (base' := w1.heap.size) (Nat.le_refl _)) hg n2
  have oY := own_far o3 hg (by omega)
  have hB : Below w.heap.size w _ := below_set3 ((HB.out.trans ((below_un1 b2).mono (by exact HB.out.size))).trans (b3.mono (by have := HB.out.size; omega))) (Nat.le_succ w.heap.size) (.bool b) (.slice r2 X.length c2') (.slice r3 Y.length c3')
  refine ⟨rfl, .tuple #[.agg #[.bool b, .slice r2 X.length c2', .slice r3 Y.length c3'], .bool true], ?_, r2, c2', r3, c3', rfl, oX.mono (by have := HB.out.size; omega), oY.mono (by have := HB.out.size; omega), ap_seq o2 o3 (Nat.le_refl _), hB⟩
  clear hg oX oY hB o2 o3
  simp [results, Tryz.f29, go_sem, d0, d1, d2]
end Go.Proofs.YthokphoojmpajabGreatDoor

namespace Go.Proofs.YthokphoojmpajabGreatDoor
open Go.RowKit Go.Proofs.Pin

/-- Four boxes, laid one behind the other. -/
theorem boxes4 (w : World) (t1 t2 t3 t4 : TypeId) (c1 c2 c3 c4 : Array Value) : ∃ w0, w0 = (((w.alloc (.cells c1 t1)).alloc (.cells c2 t2)).alloc (.cells c3 t3)).alloc (.cells c4 t4) ∧ BoxC w0 w.heap.size t1 c1 ∧ BoxC w0 (w.heap.size + 1) t2 c2 ∧ BoxC w0 (w.heap.size + 1 + 1) t3 c3 ∧ BoxC w0 (w.heap.size + 1 + 1 + 1) t4 c4 ∧ Below w.heap.size w w0 ∧ w0.heap.size = w.heap.size + 4 := by
  refine ⟨_, rfl, boxc_alloc (boxc_alloc (boxc_alloc (boxc_new _ _ _) _) _) _, ?_, ?_, ?_, (((Below.refl _ w).alloc (Nat.le_refl _) _).alloc (by simp) _).alloc (by simp; omega) _ |>.alloc (by simp; omega) _, by simp⟩
  · have h := boxc_new (w.alloc (.cells c1 t1)) t2 c2
    rw [World.size_alloc] at h
    exact boxc_alloc (boxc_alloc h _) _
  · have h := boxc_new ((w.alloc (.cells c1 t1)).alloc (.cells c2 t2)) t3 c3
    rw [World.size_alloc, World.size_alloc] at h
    exact boxc_alloc h _
  · have h := boxc_new (((w.alloc (.cells c1 t1)).alloc (.cells c2 t2)).alloc (.cells c3 t3)) t4 c4
    rw [World.size_alloc, World.size_alloc, World.size_alloc] at h
    exact h

set_option maxRecDepth 20000 in
theorem both_yes (b : Bool) (r s : Option Addr) (cr cs : Nat) (X Y : List Int) (b' : Bool) (r' s' : Option Addr) (cr' cs' : Nat) (X' Y' : List Int) (w : World) (hX : Sl w r X) (hY : Sl w s Y) (hX' : Sl w r' X') (hY' : Sl w s' Y')
    (lX : X.length ≤ 1048576) (lY : Y.length ≤ 1048576) (cX : X.length ≤ cr) (cY : Y.length ≤ cs) (lX' : X'.length ≤ 1048576) (lY' : Y'.length ≤ 1048576) (cX' : X'.length ≤ cr') (cY' : Y'.length ≤ cs') (hok : fokB b X Y = true) (hok' : fokB b' X' Y' = true) :
    Calls Tryz.prog 32 #[fracV b r X.length cr s Y.length cs, fracV b' r' X'.length cr' s' Y'.length cs'] w fun e w' => e = .returned (.tuple #[frV r X.length cr s Y.length cs b, frV r' X'.length cr' s' Y'.length cs' b', .nilIface]) ∧ Below w.heap.size w w' := by
  obtain ⟨w0, hw0, k1, k2, k3, k4, B0, z0⟩ := boxes4 w 25 25 48 48 #[.bool b, .slice r X.length cr, .slice s Y.length cs] #[.bool b', .slice r' X'.length cr', .slice s' Y'.length cs'] #[.slice none 0 0, .slice none 0 0, .bool false] #[.slice none 0 0, .slice none 0 0, .bool false]
  have C1 : Hid _ := taken_yes b r s cr cs X Y w0 (hX.keep B0) (hY.keep B0) lX lY cX cY hok
  have C2 : Hid (∀ W, Sl W r' X' → Sl W s' Y' → Calls Tryz.prog 27 #[fracV b' r' X'.length cr' s' Y'.length cs'] W fun e w' => e = .returned (.tuple #[frV r' X'.length cr' s' Y'.length cs' b', .nilIface]) ∧ Below W.heap.size W w') := fun W h1 h2 => taken_yes b' r' s' cr' cs' X' Y' W h1 h2 lX' lY' cX' cY' hok'
  unfold fracV frV at C1 C2 ⊢
  go_enter Tryz.func32, Tryz.ntmps32
  go_wp2_with fail
  rw [← hw0]
  refine Calls.mono C1.out ?_
  rintro e w1 ⟨rfl, b1⟩
  clear hw0 C1
  have K2 := boxc_keep k2 b1
  have K3 := boxc_keep k3 b1
  have K4 := boxc_keep k4 b1
  have B1 := B0.trans (b1.mono B0.size)
  have F : Hid _ := isFault_nil (w1.alloc (.cells #[.slice r X.length cr, .slice s Y.length cs, .bool b] 48))
  clear k1 k2 k3 k4 b1 B0
  go_wp2_with fail
  refine Calls.mono F.out ?_
  rintro e w2 ⟨rfl, b2⟩
  obtain ⟨g, hg⟩ : ∃ g, g = w1.heap.size := ⟨_, rfl⟩
  have K5 : BoxC w2 g 48 #[.slice r X.length cr, .slice s Y.length cs, .bool b] := by rw [hg]; exact boxc_keep (boxc_new _ _ _) b2
  have J2 := boxc_keep (boxc_alloc K2 _) b2
  have J3 := boxc_keep (boxc_alloc K3 _) b2
  have J4 := boxc_keep (boxc_alloc K4 _) b2
  have B2 : Below w.heap.size w w2 := (B1.alloc B1.size _).trans (b2.mono (by have := B1.size; simp; omega))
  have hgl : w.heap.size + 1 + 1 + 1 < g := by rw [hg]; exact boxc_lt K4
  rw [← hg]
  clear K2 K3 K4 b2 B1 F hg
  obtain ⟨c0, c1, c2, _, n2⟩ := boxc3 J2
  have sX' := hX'.keep B2
  have sY' := hY'.keep B2
  go_wp2_with fail
  refine Calls.mono (C2.out _ sX' sY') ?_
  rintro e w3 ⟨rfl, b3⟩
  have B3 := B2.trans (b3.mono B2.size)
  obtain ⟨d0, d1, d2, df, dn⟩ := boxc3 (boxc_keep J3 b3)
  obtain ⟨e0, e1, e2, ef, en⟩ := boxc3 (boxc_keep J4 b3)
  obtain ⟨g0, g1, g2, gf, gn⟩ := boxc3 (boxc_keep K5 b3)
  have HB : Hid _ := B3
  clear C2 J2 J3 J4 K5 b3 B2 B3 sX' sY' c0 c1 c2 hX hY hX' hY' n2 z0
  have v1 : ¬ g = w3.heap.size := by omega
  have v2 : ¬ w.heap.size + 1 + 1 = w3.heap.size := by omega
  have v3 : ¬ w.heap.size + 1 + 1 + 1 = w3.heap.size := by omega
  have v4 : ¬ w.heap.size + 1 + 1 = g := by omega
  have v5 : ¬ w.heap.size + 1 + 1 + 1 = g := by omega
  go_wp2_with fail
  go_region
  go_wp2
  have hB : Below w.heap.size w _ := ((below_set3 (below_set3 HB.out (by omega : w.heap.size ≤ w.heap.size + 1 + 1) (.slice r X.length cr) (.slice s Y.length cs) (.bool b)) (by omega : w.heap.size ≤ w.heap.size + 1 + 1 + 1) (.slice r' X'.length cr') (.slice s' Y'.length cs') (.bool b')).alloc (by have := HB.out.size; simp; omega) (.cells #[.slice r' X'.length cr', .slice s' Y'.length cs', .bool b'] 48)).drew
  refine ⟨rfl, .tuple #[.agg #[.slice r X.length cr, .slice s Y.length cs, .bool b], .agg #[.slice r' X'.length cr', .slice s' Y'.length cs', .bool b'], .nilIface], ?_, rfl, hB⟩
  clear hB
  simp [results, Tryz.f32, go_sem, d0, d1, d2, e0, e1, e2, dn, en]

set_option maxRecDepth 20000 in
theorem both_no2 (b : Bool) (r s : Option Addr) (cr cs : Nat) (X Y : List Int) (b' : Bool) (r' s' : Option Addr) (cr' cs' : Nat) (X' Y' : List Int) (w : World) (hX : Sl w r X) (hY : Sl w s Y) (hX' : Sl w r' X') (hY' : Sl w s' Y')
    (lX : X.length ≤ 1048576) (lY : Y.length ≤ 1048576) (cX : X.length ≤ cr) (cY : Y.length ≤ cs) (lX' : X'.length ≤ 1048576) (lY' : Y'.length ≤ 1048576) (cX' : X'.length ≤ cr') (cY' : Y'.length ≤ cs') (hok : fokB b X Y = true) (hok' : fokB b' X' Y' = false) :
    Calls Tryz.prog 32 #[fracV b r X.length cr s Y.length cs, fracV b' r' X'.length cr' s' Y'.length cs'] w fun e w' => (∃ t, e = .returned (.tuple #[frV r X.length cr s Y.length cs b, fr0, flt t])) ∧ Below w.heap.size w w' := by
  obtain ⟨w0, hw0, k1, k2, k3, k4, B0, z0⟩ := boxes4 w 25 25 48 48 #[.bool b, .slice r X.length cr, .slice s Y.length cs] #[.bool b', .slice r' X'.length cr', .slice s' Y'.length cs'] #[.slice none 0 0, .slice none 0 0, .bool false] #[.slice none 0 0, .slice none 0 0, .bool false]
  have C1 : Hid _ := taken_yes b r s cr cs X Y w0 (hX.keep B0) (hY.keep B0) lX lY cX cY hok
  have C2 : Hid (∀ W, Sl W r' X' → Sl W s' Y' → Calls Tryz.prog 27 #[fracV b' r' X'.length cr' s' Y'.length cs'] W fun e w' => (∃ t, e = .returned (.tuple #[fr0, flt t])) ∧ Below W.heap.size W w') := fun W h1 h2 => taken_no b' r' s' cr' cs' X' Y' W h1 h2 lX' lY' cX' cY' hok'
  unfold fracV at C1 C2 ⊢
  unfold fr0 flt at C2 ⊢
  unfold frV at C1 C2 ⊢
  go_enter Tryz.func32, Tryz.ntmps32
  go_wp2_with fail
  rw [← hw0]
  refine Calls.mono C1.out ?_
  rintro e w1 ⟨rfl, b1⟩
  clear hw0 C1
  have K2 := boxc_keep k2 b1
  have K3 := boxc_keep k3 b1
  have K4 := boxc_keep k4 b1
  have B1 := B0.trans (b1.mono B0.size)
  have F : Hid _ := isFault_nil (w1.alloc (.cells #[.slice r X.length cr, .slice s Y.length cs, .bool b] 48))
  clear k1 k2 k3 k4 b1 B0
  go_wp2_with fail
  refine Calls.mono F.out ?_
  rintro e w2 ⟨rfl, b2⟩
  obtain ⟨g, hg⟩ : ∃ g, g = w1.heap.size := ⟨_, rfl⟩
  have K5 : BoxC w2 g 48 #[.slice r X.length cr, .slice s Y.length cs, .bool b] := by rw [hg]; exact boxc_keep (boxc_new _ _ _) b2
  have J2 := boxc_keep (boxc_alloc K2 _) b2
  have J3 := boxc_keep (boxc_alloc K3 _) b2
  have J4 := boxc_keep (boxc_alloc K4 _) b2
  have B2 : Below w.heap.size w w2 := (B1.alloc B1.size _).trans (b2.mono (by have := B1.size; simp; omega))
  have hgl : w.heap.size + 1 + 1 + 1 < g := by rw [hg]; exact boxc_lt K4
  rw [← hg]
  clear K2 K3 K4 b2 B1 F hg
  obtain ⟨c0, c1, c2, _, n2⟩ := boxc3 J2
  have sX' := hX'.keep B2
  have sY' := hY'.keep B2
  go_wp2_with fail
  refine Calls.mono (C2.out _ sX' sY') ?_
  rintro e w3 ⟨⟨t, rfl⟩, b3⟩
  have B3 := B2.trans (b3.mono B2.size)
  obtain ⟨d0, d1, d2, df, dn⟩ := boxc3 (boxc_keep J3 b3)
  obtain ⟨e0, e1, e2, ef, en⟩ := boxc3 (boxc_keep J4 b3)
  obtain ⟨g0, g1, g2, gf, gn⟩ := boxc3 (boxc_keep K5 b3)
  have HB : Hid _ := B3
  clear C2 J2 J3 J4 K5 b3 B2 B3 sX' sY' c0 c1 c2 hX hY hX' hY' n2 z0
  have v1 : ¬ g = w3.heap.size := by omega
  have v2 : ¬ w.heap.size + 1 + 1 = w3.heap.size := by omega
  have v3 : ¬ w.heap.size + 1 + 1 + 1 = w3.heap.size := by omega
  have v4 : ¬ w.heap.size + 1 + 1 = g := by omega
  have v5 : ¬ w.heap.size + 1 + 1 + 1 = g := by omega
  go_wp2_with fail
  go_region
  go_wp2
  have hB : Below w.heap.size w _ := ((below_set3 (below_set3 HB.out (by omega : w.heap.size ≤ w.heap.size + 1 + 1) (.slice r X.length cr) (.slice s Y.length cs) (.bool b)) (by omega : w.heap.size ≤ w.heap.size + 1 + 1 + 1) (.slice none 0 0) (.slice none 0 0) (.bool false)).alloc (by have := HB.out.size; simp; omega) (.cells #[.slice none 0 0, .slice none 0 0, .bool false] 48)).drew
  refine ⟨rfl, .tuple #[.agg #[.slice r X.length cr, .slice s Y.length cs, .bool b], .agg #[.slice none 0 0, .slice none 0 0, .bool false], .iface 77 (.string t)], ?_, ⟨t, rfl⟩, hB⟩
  clear hB
  simp [results, Tryz.f32, go_sem, d0, d1, d2, e0, e1, e2, dn, en]

set_option maxRecDepth 20000 in
theorem both_no1 (b : Bool) (r s : Option Addr) (cr cs : Nat) (X Y : List Int) (b' : Bool) (r' s' : Option Addr) (n' cr' m' cs' : Nat) (w : World) (hh : Hdl w) (hX : Sl w r X) (hY : Sl w s Y)
    (lX : X.length ≤ 1048576) (lY : Y.length ≤ 1048576) (cX : X.length ≤ cr) (cY : Y.length ≤ cs) (hok : fokB b X Y = false) :
    Calls Tryz.prog 32 #[fracV b r X.length cr s Y.length cs, fracV b' r' n' cr' s' m' cs'] w fun e w' => (∃ t, e = .returned (.tuple #[fr0, fr0, flt t])) ∧ Below w.heap.size w w' := by
  obtain ⟨w0, hw0, k1, k2, k3, k4, B0, z0⟩ := boxes4 w 25 25 48 48 #[.bool b, .slice r X.length cr, .slice s Y.length cs] #[.bool b', .slice r' n' cr', .slice s' m' cs'] #[.slice none 0 0, .slice none 0 0, .bool false] #[.slice none 0 0, .slice none 0 0, .bool false]
  have C1 : Hid _ := taken_no b r s cr cs X Y w0 (hX.keep B0) (hY.keep B0) lX lY cX cY hok
  have F : Hid (∀ t W, Hdl W → Calls Tryz.prog 28 #[flt t] W fun e w' => e = .returned (.bool true) ∧ Below W.heap.size W w') := fun t W h => isFault_hit t W h
  unfold fracV at C1 ⊢
  unfold fr0 flt at C1 ⊢
  unfold flt at F
  unfold frV at C1 ⊢
  go_enter Tryz.func32, Tryz.ntmps32
  go_wp2_with fail
  rw [← hw0]
  refine Calls.mono C1.out ?_
  rintro e w1 ⟨⟨t, rfl⟩, b1⟩
  clear hw0 C1
  have K3 := boxc_keep k3 b1
  have K4 := boxc_keep k4 b1
  have B1 := B0.trans (b1.mono B0.size)
  have hh1 : Hdl (w1.alloc (.cells #[.slice none 0 0, .slice none 0 0, .bool false] 48)) := (hh.keep B1 hh.pos).keep ((Below.refl _ w1).alloc (Nat.le_refl _) _) (hh.keep B1 hh.pos).pos
  clear k1 k2 k3 k4 b1 B0
  go_wp2_with fail
  refine Calls.mono (F.out t _ hh1) ?_
  rintro e w2 ⟨rfl, b2⟩
  have J3 := boxc_keep (boxc_alloc K3 _) b2
  have J4 := boxc_keep (boxc_alloc K4 _) b2
  have B2 : Below w.heap.size w w2 := (B1.alloc B1.size _).trans (b2.mono (by have := B1.size; simp; omega))
  obtain ⟨d0, d1, d2, df, dn⟩ := boxc3 J3
  obtain ⟨e0, e1, e2, ef, en⟩ := boxc3 J4
  have HB : Hid _ := B2
  clear K3 K4 b2 B1 F J3 J4 B2 hh hh1 hX hY z0
  go_wp2
  have hB : Below w.heap.size w _ := below_set3 (below_set3 HB.out (by omega : w.heap.size ≤ w.heap.size + 1 + 1) (.slice none 0 0) (.slice none 0 0) (.bool false)) (by omega : w.heap.size ≤ w.heap.size + 1 + 1 + 1) (.slice none 0 0) (.slice none 0 0) (.bool false)
  refine ⟨rfl, .tuple #[.agg #[.slice none 0 0, .slice none 0 0, .bool false], .agg #[.slice none 0 0, .slice none 0 0, .bool false], .iface 77 (.string t)], ?_, ⟨t, rfl⟩, hB⟩
  clear hB
  simp [results, Tryz.f32, go_sem, d0, d1, d2, e0, e1, e2]

end Go.Proofs.YthokphoojmpajabGreatDoor

namespace Go.Proofs.YthokphoojmpajabGreatDoor
open Go.RowKit Go.Proofs.Pin

set_option maxRecDepth 20000 in
set_option maxHeartbeats 1000000 in
theorem lowest_any (r s : Option Addr) (cr cs x y : Nat) (w : World) (hx : Sl w r (dgs x)) (hy : Sl w s (dgs y)) (lx : (dgs x).length ≤ 2000) (ly : (dgs y).length ≤ 2000) (kx : (dgs x).length ≤ cr) (ky : (dgs y).length ≤ cs) (hy0 : y ≠ 0) :
    Calls Tryz.prog 58 #[.agg #[.slice r (dgs x).length cr, .slice s (dgs y).length cs]] w fun e w' => ∃ r' c' s' d', e = .returned (.agg #[.slice r' (dgs (x / Nat.gcd x y)).length c', .slice s' (dgs (y / Nat.gcd x y)).length d']) ∧ OwnI w' w.heap.size r' c' (dgs (x / Nat.gcd x y)) ∧ OwnI w' w.heap.size s' d' (dgs (y / Nat.gcd x y)) ∧ Below w.heap.size w w' := by
  obtain ⟨g, hg⟩ : ∃ g, g = Nat.gcd x y := ⟨_, rfl⟩
  have hg0 : g ≠ 0 := by rw [hg]; exact fun h => hy0 (Nat.eq_zero_of_gcd_eq_zero_right h)
  have hgl : (dgs g).length ≤ 2000 := by
    refine Nat.le_trans (dgs_small (n := g) (k := (dgs y).length) ?_) ly
    have h1 : g ≤ y := by rw [hg]; exact Nat.gcd_le_right _ (by omega)
    have h2 : y < 65536 ^ (dgs y).length := (dgs_len_iff y _).1 (Nat.le_refl _)
    omega
  have CG : Hid (∀ W, Sl W r (dgs x) → Sl W s (dgs y) → Calls Tryz.prog 79 #[.slice r (dgs x).length cr, .slice s (dgs y).length cs] W fun e w' => ∃ r' c', e = .returned (.slice r' (dgs g).length c') ∧ OwnI w' W.heap.size r' c' (dgs g) ∧ Below W.heap.size W w') := fun W h1 h2 => by rw [hg]; exact gcd_any r s cr cs x y W h1 h2 lx ly kx ky
  have C1 : Hid (∀ W a c, Sl W r (dgs x) → Sl W a (dgs g) → Calls Tryz.prog 59 #[.slice r (dgs x).length cr, .slice a (dgs g).length c] W fun e w' => ∃ r' c' v, e = .returned (.tuple #[.slice r' (dgs (x / g)).length c', v]) ∧ OwnI w' W.heap.size r' c' (dgs (x / g)) ∧ Below W.heap.size W w') := fun W a c h1 h2 => (divBy_any r a cr c x g W h1 h2 lx hgl hg0 kx).mono fun e w' ⟨r1, c1, s1, d1, h1, h2, _, _, h4⟩ => ⟨r1, c1, _, h1, h2, h4⟩
  have C2 : Hid (∀ W a c, Sl W s (dgs y) → Sl W a (dgs g) → Calls Tryz.prog 59 #[.slice s (dgs y).length cs, .slice a (dgs g).length c] W fun e w' => ∃ r' c' v, e = .returned (.tuple #[.slice r' (dgs (y / g)).length c', v]) ∧ OwnI w' W.heap.size r' c' (dgs (y / g)) ∧ Below W.heap.size W w') := fun W a c h1 h2 => (divBy_any s a cs c y g W h1 h2 ly hgl hg0 ky).mono fun e w' ⟨r1, c1, s1, d1, h1, h2, _, _, h4⟩ => ⟨r1, c1, _, h1, h2, h4⟩
  rw [← hg]
  obtain ⟨X, hX⟩ : ∃ X, X = dgs x := ⟨_, rfl⟩
  obtain ⟨Y, hY⟩ : ∃ Y, Y = dgs y := ⟨_, rfl⟩
  obtain ⟨G, hG⟩ : ∃ G, G = dgs g := ⟨_, rfl⟩
  obtain ⟨P, hP⟩ : ∃ P, P = dgs (x / g) := ⟨_, rfl⟩
  obtain ⟨Q, hQ⟩ : ∃ Q, Q = dgs (y / g) := ⟨_, rfl⟩
  rw [← hX, ← hY, ← hG] at CG
  rw [← hX, ← hG, ← hP] at C1
  rw [← hY, ← hG, ← hQ] at C2
  rw [← hX] at hx
  rw [← hY] at hy
  rw [← hX, ← hY, ← hP, ← hQ]
  clear hX hY hG hP hQ lx ly kx ky hy0 hg hg0 hgl
  obtain ⟨w0, hw0⟩ : ∃ w0, w0 = (w.alloc (.cells #[.slice r X.length cr, .slice s Y.length cs] 46)).alloc (.cells #[.slice none 0 0, .slice none 0 0] 46) := ⟨_, rfl⟩
  have B0 : Below w.heap.size w w0 := by rw [hw0]; exact ((Below.refl _ w).alloc (Nat.le_refl _) _).alloc (by simp) _
  have k1 : BoxC w0 w.heap.size 46 #[.slice r X.length cr, .slice s Y.length cs] := by rw [hw0]; exact boxc_alloc (boxc_new _ _ _) _
  have k2 : BoxC w0 (w.heap.size + 1) 46 #[.slice none 0 0, .slice none 0 0] := by
    rw [hw0]
    have h := boxc_new (w.alloc (.cells #[.slice r X.length cr, .slice s Y.length cs] 46)) 46 #[.slice none 0 0, .slice none 0 0]
    rw [World.size_alloc] at h
    exact h
  have x0 := hx.keep B0
  have y0 := hy.keep B0
  go_enter Tryz.func58, Tryz.ntmps58
  go_wp2_with fail
  rw [← hw0]
  refine Calls.mono (CG.out _ x0 y0) ?_
  rintro e w1 ⟨a, c, rfl, o1, b1⟩
  have x1 := x0.keep b1
  have y1 := y0.keep b1
  have s1 := o1.sl
  have k11 := boxc_keep k1 b1
  have k21 := boxc_keep k2 b1
  have B1 := B0.trans (b1.mono B0.size)
  obtain ⟨c0, c1, _, _⟩ := boxc2 k11
  clear hw0 CG x0 y0 b1 k1 k2 o1 B0
  go_wp2_with fail
  refine Calls.mono (C1.out _ _ _ x1 s1) ?_
  rintro e w2 ⟨r2, d2, v2, rfl, o2, b2⟩
  have y2 := y1.keep b2
  have s2 := s1.keep b2
  have k12 := boxc_keep k11 b2
  have k22 := boxc_keep k21 b2
  have B2 := B1.trans (b2.mono B1.size)
  have o2' := o2.mono (base' := w1.heap.size) (Nat.le_refl _)
  have z1 := boxc_lt k21
  clear C1 x1 y1 b2 k11 k21 s1 c0 c1
  obtain ⟨c0, c1, _, _⟩ := boxc2 k12
  go_wp2_with fail
  refine Calls.mono (C2.out _ _ _ y2 s2) ?_
  rintro e w3 ⟨r3, d3, v3, rfl, o3, b3⟩
  have z2 := boxc_lt k22
  obtain ⟨e0, e1, ef, en⟩ := boxc2 (boxc_keep k22 b3)
  have HB : Hid _ := B2.trans (b3.mono B2.size)
  have HO : Hid _ := o2'.keep b3
  clear C2 y2 s2 k12 k22 b3 o2' o2 c0 c1 hx hy
  go_wp2
  have hgr := gr_set2 w3 (w.heap.size + 1) (.slice r2 P.length d2) (.slice r3 Q.length d3)
  have oP := own_far HO.out hgr z1
  have oQ := own_far o3 hgr z2
  have hB : Below w.heap.size w _ := below_set2 HB.out (Nat.le_succ w.heap.size) (.slice r2 P.length d2) (.slice r3 Q.length d3)
  refine ⟨rfl, .agg #[.slice r2 P.length d2, .slice r3 Q.length d3], ?_, r2, d2, r3, d3, rfl, oP.mono (by omega), oQ.mono (by omega), hB⟩
  clear hgr oP oQ hB
  simp [results, Tryz.f58, go_sem, e0, e1]

/-- In lowest terms. -/
def loX (x y : Nat) : List Int := dgs (x / Nat.gcd x y)
def loY (x y : Nat) : List Int := dgs (y / Nat.gcd x y)

set_option maxRecDepth 20000 in
set_option maxHeartbeats 1000000 in
theorem settled_any (r s : Option Addr) (cr cs x y : Nat) (b : Bool) (w : World) (hx : Sl w r (dgs x)) (hy : Sl w s (dgs y)) (lx : (dgs x).length ≤ 2000) (ly : (dgs y).length ≤ 2000) (kx : (dgs x).length ≤ cr) (ky : (dgs y).length ≤ cs) (hy0 : y ≠ 0) :
    Calls Tryz.prog 34 #[frV r (dgs x).length cr s (dgs y).length cs b] w fun e w' =>
      ((loX x y).length ≤ 256 ∧ (loY x y).length ≤ 256 ∧ ∃ r' c' s' d', e = .returned (.tuple #[frV r' (loX x y).length c' s' (loY x y).length d' (b && decide (0 < (loX x y).length)), .nilIface]) ∧ OwnI w' w.heap.size r' c' (loX x y) ∧ OwnI w' w.heap.size s' d' (loY x y) ∧ Below w.heap.size w w')
      ∨ (¬ ((loX x y).length ≤ 256 ∧ (loY x y).length ≤ 256) ∧ (∃ t, e = .returned (.tuple #[fr0, flt t])) ∧ Below w.heap.size w w') := by
  have C : Hid (∀ W, Sl W r (dgs x) → Sl W s (dgs y) → Calls Tryz.prog 58 #[.agg #[.slice r (dgs x).length cr, .slice s (dgs y).length cs]] W fun e w' => ∃ r' c' s' d', e = .returned (.agg #[.slice r' (loX x y).length c', .slice s' (loY x y).length d']) ∧ OwnI w' W.heap.size r' c' (loX x y) ∧ OwnI w' W.heap.size s' d' (loY x y) ∧ Below W.heap.size W w') := fun W h1 h2 => lowest_any r s cr cs x y W h1 h2 lx ly kx ky hy0
  obtain ⟨X, hX⟩ : ∃ X, X = dgs x := ⟨_, rfl⟩
  obtain ⟨Y, hY⟩ : ∃ Y, Y = dgs y := ⟨_, rfl⟩
  obtain ⟨P, hP⟩ : ∃ P, P = loX x y := ⟨_, rfl⟩
  obtain ⟨Q, hQ⟩ : ∃ Q, Q = loY x y := ⟨_, rfl⟩
  rw [← hX, ← hY, ← hP, ← hQ] at C ⊢
  rw [← hX] at hx
  rw [← hY] at hy
  clear hX hY hP hQ lx ly kx ky hy0
  unfold fr0 flt frV
  obtain ⟨w0, hw0⟩ : ∃ w0, w0 = (w.alloc (.cells #[.slice r X.length cr, .slice s Y.length cs, .bool b] 48)).alloc (.cells #[.slice none 0 0, .slice none 0 0, .bool false] 48) := ⟨_, rfl⟩
  have B0 : Below w.heap.size w w0 := by rw [hw0]; exact ((Below.refl _ w).alloc (Nat.le_refl _) _).alloc (by simp) _
  have k1 : BoxC w0 w.heap.size 48 #[.slice r X.length cr, .slice s Y.length cs, .bool b] := by rw [hw0]; exact boxc_alloc (boxc_new _ _ _) _
  have k2 : BoxC w0 (w.heap.size + 1) 48 #[.slice none 0 0, .slice none 0 0, .bool false] := by
    rw [hw0]
    have h := boxc_new (w.alloc (.cells #[.slice r X.length cr, .slice s Y.length cs, .bool b] 48)) 48 #[.slice none 0 0, .slice none 0 0, .bool false]
    rw [World.size_alloc] at h
    exact h
  have x0 := hx.keep B0
  have y0 := hy.keep B0
  have z0 : w0.heap.size = w.heap.size + 2 := by rw [hw0]; simp
  go_enter Tryz.func34, Tryz.ntmps34
  go_wp2_with fail
  rw [← hw0]
  refine Calls.mono (C.out _ x0 y0) ?_
  rintro e w1 ⟨a, c, a', c', rfl, o1, o2, b1⟩
  obtain ⟨c0, c1, c2, cf, cn⟩ := boxc3 (boxc_keep k1 b1)
  obtain ⟨e0, e1, e2, ef, en⟩ := boxc3 (boxc_keep k2 b1)
  have HB : Hid (Below w.heap.size w w1) := B0.trans (b1.mono B0.size)
  have HO : Hid (OwnI w1 w0.heap.size a c P ∧ OwnI w1 w0.heap.size a' c' Q) := ⟨o1, o2⟩
  clear hw0 C x0 y0 k1 k2 b1 o1 o2 B0 hx hy
  by_cases h1 : (256 : Int) < (P.length : Int)
  · have H1 : Hid (¬ (P.length ≤ 256 ∧ Q.length ≤ 256)) := fun h => by omega
    cases b
    all_goals
      go_wp2
      refine ⟨rfl, .tuple #[.agg #[.slice none 0 0, .slice none 0 0, .bool false], .iface 77 (.string ⟨#[116, 111, 111, 32, 109, 97, 110, 121, 32, 100, 105, 103, 105, 116, 115, 32, 105, 110, 32, 108, 111, 119, 101, 115, 116, 32, 116, 101, 114, 109, 115]⟩)], ?_, .inr ⟨H1.out, ⟨_, rfl⟩, below_set3 (below_set3 HB.out (Nat.le_refl _) _ _ _) (Nat.le_succ _) _ _ _⟩⟩
      simp [results, Tryz.f34, go_sem, e0, e1, e2]
  · by_cases h2 : (256 : Int) < (Q.length : Int)
    · have H1 : Hid (¬ (P.length ≤ 256 ∧ Q.length ≤ 256)) := fun h => by omega
      cases b
      all_goals
        go_wp2
        refine ⟨rfl, .tuple #[.agg #[.slice none 0 0, .slice none 0 0, .bool false], .iface 77 (.string ⟨#[116, 111, 111, 32, 109, 97, 110, 121, 32, 100, 105, 103, 105, 116, 115, 32, 105, 110, 32, 108, 111, 119, 101, 115, 116, 32, 116, 101, 114, 109, 115]⟩)], ?_, .inr ⟨H1.out, ⟨_, rfl⟩, below_set3 (below_set3 HB.out (Nat.le_refl _) _ _ _) (Nat.le_succ _) _ _ _⟩⟩
        simp [results, Tryz.f34, go_sem, e0, e1, e2]
    · have HL : Hid (P.length ≤ 256 ∧ Q.length ≤ 256) := ⟨by omega, by omega⟩
      cases b with
      | true =>
        have g1 := gr_set3 w1 w.heap.size (.slice a P.length c) (.slice a' Q.length c') (.bool (decide (0 < P.length)))
        have g2 := gr_set3 (((w1.setCell ⟨w.heap.size, 0, none⟩ (.slice a P.length c)).setCell ⟨w.heap.size, 1, none⟩ (.slice a' Q.length c')).setCell ⟨w.heap.size, 2, none⟩ (.bool (decide (0 < P.length)))) (w.heap.size + 1) (.slice a P.length c) (.slice a' Q.length c') (.bool (decide (0 < P.length)))
        have HP : Hid _ := (own_far (own_far HO.out.1 g1 (by omega)) g2 (by omega)).mono (base' := w.heap.size) (by omega)
        have HQ : Hid _ := (own_far (own_far HO.out.2 g1 (by omega)) g2 (by omega)).mono (base' := w.heap.size) (by omega)
        clear g1 g2
        go_wp2
        refine ⟨rfl, .tuple #[.agg #[.slice a P.length c, .slice a' Q.length c', .bool (decide (0 < P.length))], .nilIface], ?_, .inl ⟨HL.out.1, HL.out.2, a, c, a', c', rfl, HP.out, HQ.out, below_set3 (below_set3 HB.out (Nat.le_refl _) _ _ _) (Nat.le_succ _) _ _ _⟩⟩
        simp [results, Tryz.f34, go_sem, e0, e1, e2]
      | false =>
        have g1 := gr_set3 w1 w.heap.size (.slice a P.length c) (.slice a' Q.length c') (.bool false)
        have g2 := gr_set3 (((w1.setCell ⟨w.heap.size, 0, none⟩ (.slice a P.length c)).setCell ⟨w.heap.size, 1, none⟩ (.slice a' Q.length c')).setCell ⟨w.heap.size, 2, none⟩ (.bool false)) (w.heap.size + 1) (.slice a P.length c) (.slice a' Q.length c') (.bool false)
        have HP : Hid _ := (own_far (own_far HO.out.1 g1 (by omega)) g2 (by omega)).mono (base' := w.heap.size) (by omega)
        have HQ : Hid _ := (own_far (own_far HO.out.2 g1 (by omega)) g2 (by omega)).mono (base' := w.heap.size) (by omega)
        clear g1 g2
        go_wp2
        refine ⟨rfl, .tuple #[.agg #[.slice a P.length c, .slice a' Q.length c', .bool false], .nilIface], ?_, .inl ⟨HL.out.1, HL.out.2, a, c, a', c', rfl, HP.out, HQ.out, below_set3 (below_set3 HB.out (Nat.le_refl _) _ _ _) (Nat.le_succ _) _ _ _⟩⟩
        simp [results, Tryz.f34, go_sem, e0, e1, e2]
end Go.Proofs.YthokphoojmpajabGreatDoor
