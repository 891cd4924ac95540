/- Fractions as impl reckons with them: bothTaken. -/
import Derived.Test.YthokphoojmpajafDoorFr2
namespace Go.Proofs.YthokphoojmpajafDoor
open Go.RowKit Go.Proofs.Pin

/-- Four boxes, laid one behind the other. -/
theorem boxes4 (w : World) (t1 t2 t3 t4 : TypeId) (c1 c2 c3 c4 : Array Value) : ∃ w0, w0 = (((w.alloc (.cells c1 t1)).alloc (.cells c2 t2)).alloc (.cells c3 t3)).alloc (.cells c4 t4) ∧ BoxC w0 w.heap.size t1 c1 ∧ BoxC w0 (w.heap.size + 1) t2 c2 ∧ BoxC w0 (w.heap.size + 1 + 1) t3 c3 ∧ BoxC w0 (w.heap.size + 1 + 1 + 1) t4 c4 ∧ Below w.heap.size w w0 ∧ w0.heap.size = w.heap.size + 4 := by
  refine ⟨_, rfl, boxc_alloc (boxc_alloc (boxc_alloc (boxc_new _ _ _) _) _) _, ?_, ?_, ?_, (((Below.refl _ w).alloc (Nat.le_refl _) _).alloc (by simp) _).alloc (by simp; omega) _ |>.alloc (by simp; omega) _, by simp⟩
  · have h := boxc_new (w.alloc (.cells c1 t1)) t2 c2
    rw [World.size_alloc] at h
    exact boxc_alloc (boxc_alloc h _) _
  · have h := boxc_new ((w.alloc (.cells c1 t1)).alloc (.cells c2 t2)) t3 c3
    rw [World.size_alloc, World.size_alloc] at h
    exact boxc_alloc h _
  · have h := boxc_new (((w.alloc (.cells c1 t1)).alloc (.cells c2 t2)).alloc (.cells c3 t3)) t4 c4
    rw [World.size_alloc, World.size_alloc, World.size_alloc] at h
    exact h

set_option maxRecDepth 20000 in
theorem both_yes (b : Bool) (r s : Option Addr) (cr cs : Nat) (X Y : List Int) (b' : Bool) (r' s' : Option Addr) (cr' cs' : Nat) (X' Y' : List Int) (w : World) (hX : Sl w r X) (hY : Sl w s Y) (hX' : Sl w r' X') (hY' : Sl w s' Y')
    (lX : X.length ≤ 1048576) (lY : Y.length ≤ 1048576) (cX : X.length ≤ cr) (cY : Y.length ≤ cs) (lX' : X'.length ≤ 1048576) (lY' : Y'.length ≤ 1048576) (cX' : X'.length ≤ cr') (cY' : Y'.length ≤ cs') (hok : fokB b X Y = true) (hok' : fokB b' X' Y' = true) :
    Calls Tryd.prog 28 #[fracV b r X.length cr s Y.length cs, fracV b' r' X'.length cr' s' Y'.length cs'] w fun e w' => e = .returned (.tuple #[frV r X.length cr s Y.length cs b, frV r' X'.length cr' s' Y'.length cs' b', .nilIface]) ∧ Below w.heap.size w w' := by
  obtain ⟨w0, hw0, k1, k2, k3, k4, B0, z0⟩ := boxes4 w 27 27 47 47 #[.bool b, .slice r X.length cr, .slice s Y.length cs] #[.bool b', .slice r' X'.length cr', .slice s' Y'.length cs'] #[.slice none 0 0, .slice none 0 0, .bool false] #[.slice none 0 0, .slice none 0 0, .bool false]
  have C1 : Hid _ := taken_yes b r s cr cs X Y w0 (hX.keep B0) (hY.keep B0) lX lY cX cY hok
  have C2 : Hid (∀ W, Sl W r' X' → Sl W s' Y' → Calls Tryd.prog 34 #[fracV b' r' X'.length cr' s' Y'.length cs'] W fun e w' => e = .returned (.tuple #[frV r' X'.length cr' s' Y'.length cs' b', .nilIface]) ∧ Below W.heap.size W w') := fun W h1 h2 => taken_yes b' r' s' cr' cs' X' Y' W h1 h2 lX' lY' cX' cY' hok'
  unfold fracV frV at C1 C2 ⊢
  go_enter Tryd.func28, Tryd.ntmps28
  go_wp2_with fail
  rw [← hw0]
  refine Calls.mono C1.out ?_
  rintro e w1 ⟨rfl, b1⟩
  clear hw0 C1
  have K2 := boxc_keep k2 b1
  have K3 := boxc_keep k3 b1
  have K4 := boxc_keep k4 b1
  have B1 := B0.trans (b1.mono B0.size)
  have F : Hid _ := isFault_nil (w1.alloc (.cells #[.slice r X.length cr, .slice s Y.length cs, .bool b] 47))
  clear k1 k2 k3 k4 b1 B0
  go_wp2_with fail
  refine Calls.mono F.out ?_
  rintro e w2 ⟨rfl, b2⟩
  obtain ⟨g, hg⟩ : ∃ g, g = w1.heap.size := ⟨_, rfl⟩
  have K5 : BoxC w2 g 47 #[.slice r X.length cr, .slice s Y.length cs, .bool b] := by rw [hg]; exact boxc_keep (boxc_new _ _ _) b2
  have J2 := boxc_keep (boxc_alloc K2 _) b2
  have J3 := boxc_keep (boxc_alloc K3 _) b2
  have J4 := boxc_keep (boxc_alloc K4 _) b2
  have B2 : Below w.heap.size w w2 := (B1.alloc B1.size _).trans (b2.mono (by have := B1.size; simp; omega))
  have hgl : w.heap.size + 1 + 1 + 1 < g := by rw [hg]; exact boxc_lt K4
  rw [← hg]
  clear K2 K3 K4 b2 B1 F hg
  obtain ⟨c0, c1, c2, _, n2⟩ := boxc3 J2
  have sX' := hX'.keep B2
  have sY' := hY'.keep B2
  go_wp2_with fail
  refine Calls.mono (C2.out _ sX' sY') ?_
  rintro e w3 ⟨rfl, b3⟩
  have B3 := B2.trans (b3.mono B2.size)
  obtain ⟨d0, d1, d2, df, dn⟩ := boxc3 (boxc_keep J3 b3)
  obtain ⟨e0, e1, e2, ef, en⟩ := boxc3 (boxc_keep J4 b3)
  obtain ⟨g0, g1, g2, gf, gn⟩ := boxc3 (boxc_keep K5 b3)
  have HB : Hid _ := B3
  clear C2 J2 J3 J4 K5 b3 B2 B3 sX' sY' c0 c1 c2 hX hY hX' hY' n2 z0
  have v1 : ¬ g = w3.heap.size := by omega
  have v2 : ¬ w.heap.size + 1 + 1 = w3.heap.size := by omega
  have v3 : ¬ w.heap.size + 1 + 1 + 1 = w3.heap.size := by omega
  have v4 : ¬ w.heap.size + 1 + 1 = g := by omega
  have v5 : ¬ w.heap.size + 1 + 1 + 1 = g := by omega
  go_wp2_with fail
  go_region
  go_wp2
  have hB : Below w.heap.size w _ := ((below_set3 (below_set3 HB.out (by omega : w.heap.size ≤ w.heap.size + 1 + 1) (.slice r X.length cr) (.slice s Y.length cs) (.bool b)) (by omega : w.heap.size ≤ w.heap.size + 1 + 1 + 1) (.slice r' X'.length cr') (.slice s' Y'.length cs') (.bool b')).alloc (by have := HB.out.size; simp; omega) (.cells #[.slice r' X'.length cr', .slice s' Y'.length cs', .bool b'] 47)).drew
  refine ⟨rfl, .tuple #[.agg #[.slice r X.length cr, .slice s Y.length cs, .bool b], .agg #[.slice r' X'.length cr', .slice s' Y'.length cs', .bool b'], .nilIface], ?_, rfl, hB⟩
  clear hB
  simp [results, Tryd.f28, go_sem, d0, d1, d2, e0, e1, e2, dn, en]

set_option maxRecDepth 20000 in
theorem both_no2 (b : Bool) (r s : Option Addr) (cr cs : Nat) (X Y : List Int) (b' : Bool) (r' s' : Option Addr) (cr' cs' : Nat) (X' Y' : List Int) (w : World) (hX : Sl w r X) (hY : Sl w s Y) (hX' : Sl w r' X') (hY' : Sl w s' Y')
    (lX : X.length ≤ 1048576) (lY : Y.length ≤ 1048576) (cX : X.length ≤ cr) (cY : Y.length ≤ cs) (lX' : X'.length ≤ 1048576) (lY' : Y'.length ≤ 1048576) (cX' : X'.length ≤ cr') (cY' : Y'.length ≤ cs') (hok : fokB b X Y = true) (hok' : fokB b' X' Y' = false) :
    Calls Tryd.prog 28 #[fracV b r X.length cr s Y.length cs, fracV b' r' X'.length cr' s' Y'.length cs'] w fun e w' => (∃ t, e = .returned (.tuple #[frV r X.length cr s Y.length cs b, fr0, flt t])) ∧ Below w.heap.size w w' := by
  obtain ⟨w0, hw0, k1, k2, k3, k4, B0, z0⟩ := boxes4 w 27 27 47 47 #[.bool b, .slice r X.length cr, .slice s Y.length cs] #[.bool b', .slice r' X'.length cr', .slice s' Y'.length cs'] #[.slice none 0 0, .slice none 0 0, .bool false] #[.slice none 0 0, .slice none 0 0, .bool false]
  have C1 : Hid _ := taken_yes b r s cr cs X Y w0 (hX.keep B0) (hY.keep B0) lX lY cX cY hok
  have C2 : Hid (∀ W, Sl W r' X' → Sl W s' Y' → Calls Tryd.prog 34 #[fracV b' r' X'.length cr' s' Y'.length cs'] W fun e w' => (∃ t, e = .returned (.tuple #[fr0, flt t])) ∧ Below W.heap.size W w') := fun W h1 h2 => taken_no b' r' s' cr' cs' X' Y' W h1 h2 lX' lY' cX' cY' hok'
  unfold fracV at C1 C2 ⊢
  unfold fr0 flt at C2 ⊢
  unfold frV at C1 C2 ⊢
  go_enter Tryd.func28, Tryd.ntmps28
  go_wp2_with fail
  rw [← hw0]
  refine Calls.mono C1.out ?_
  rintro e w1 ⟨rfl, b1⟩
  clear hw0 C1
  have K2 := boxc_keep k2 b1
  have K3 := boxc_keep k3 b1
  have K4 := boxc_keep k4 b1
  have B1 := B0.trans (b1.mono B0.size)
  have F : Hid _ := isFault_nil (w1.alloc (.cells #[.slice r X.length cr, .slice s Y.length cs, .bool b] 47))
  clear k1 k2 k3 k4 b1 B0
  go_wp2_with fail
  refine Calls.mono F.out ?_
  rintro e w2 ⟨rfl, b2⟩
  obtain ⟨g, hg⟩ : ∃ g, g = w1.heap.size := ⟨_, rfl⟩
  have K5 : BoxC w2 g 47 #[.slice r X.length cr, .slice s Y.length cs, .bool b] := by rw [hg]; exact boxc_keep (boxc_new _ _ _) b2
  have J2 := boxc_keep (boxc_alloc K2 _) b2
  have J3 := boxc_keep (boxc_alloc K3 _) b2
  have J4 := boxc_keep (boxc_alloc K4 _) b2
  have B2 : Below w.heap.size w w2 := (B1.alloc B1.size _).trans (b2.mono (by have := B1.size; simp; omega))
  have hgl : w.heap.size + 1 + 1 + 1 < g := by rw [hg]; exact boxc_lt K4
  rw [← hg]
  clear K2 K3 K4 b2 B1 F hg
  obtain ⟨c0, c1, c2, _, n2⟩ := boxc3 J2
  have sX' := hX'.keep B2
  have sY' := hY'.keep B2
  go_wp2_with fail
  refine Calls.mono (C2.out _ sX' sY') ?_
  rintro e w3 ⟨⟨t, rfl⟩, b3⟩
  have B3 := B2.trans (b3.mono B2.size)
  obtain ⟨d0, d1, d2, df, dn⟩ := boxc3 (boxc_keep J3 b3)
  obtain ⟨e0, e1, e2, ef, en⟩ := boxc3 (boxc_keep J4 b3)
  obtain ⟨g0, g1, g2, gf, gn⟩ := boxc3 (boxc_keep K5 b3)
  have HB : Hid _ := B3
  clear C2 J2 J3 J4 K5 b3 B2 B3 sX' sY' c0 c1 c2 hX hY hX' hY' n2 z0
  have v1 : ¬ g = w3.heap.size := by omega
  have v2 : ¬ w.heap.size + 1 + 1 = w3.heap.size := by omega
  have v3 : ¬ w.heap.size + 1 + 1 + 1 = w3.heap.size := by omega
  have v4 : ¬ w.heap.size + 1 + 1 = g := by omega
  have v5 : ¬ w.heap.size + 1 + 1 + 1 = g := by omega
  go_wp2_with fail
  go_region
  go_wp2
  have hB : Below w.heap.size w _ := ((below_set3 (below_set3 HB.out (by omega : w.heap.size ≤ w.heap.size + 1 + 1) (.slice r X.length cr) (.slice s Y.length cs) (.bool b)) (by omega : w.heap.size ≤ w.heap.size + 1 + 1 + 1) (.slice none 0 0) (.slice none 0 0) (.bool false)).alloc (by have := HB.out.size; simp; omega) (.cells #[.slice none 0 0, .slice none 0 0, .bool false] 47)).drew
  refine ⟨rfl, .tuple #[.agg #[.slice r X.length cr, .slice s Y.length cs, .bool b], .agg #[.slice none 0 0, .slice none 0 0, .bool false], .iface 65 (.string t)], ?_, ⟨t, rfl⟩, hB⟩
  clear hB
  simp [results, Tryd.f28, go_sem, d0, d1, d2, e0, e1, e2, dn, en]

set_option maxRecDepth 20000 in
theorem both_no1 (b : Bool) (r s : Option Addr) (cr cs : Nat) (X Y : List Int) (b' : Bool) (r' s' : Option Addr) (n' cr' m' cs' : Nat) (w : World) (hh : Hdl w) (hX : Sl w r X) (hY : Sl w s Y)
    (lX : X.length ≤ 1048576) (lY : Y.length ≤ 1048576) (cX : X.length ≤ cr) (cY : Y.length ≤ cs) (hok : fokB b X Y = false) :
    Calls Tryd.prog 28 #[fracV b r X.length cr s Y.length cs, fracV b' r' n' cr' s' m' cs'] w fun e w' => (∃ t, e = .returned (.tuple #[fr0, fr0, flt t])) ∧ Below w.heap.size w w' := by
  obtain ⟨w0, hw0, k1, k2, k3, k4, B0, z0⟩ := boxes4 w 27 27 47 47 #[.bool b, .slice r X.length cr, .slice s Y.length cs] #[.bool b', .slice r' n' cr', .slice s' m' cs'] #[.slice none 0 0, .slice none 0 0, .bool false] #[.slice none 0 0, .slice none 0 0, .bool false]
  have C1 : Hid _ := taken_no b r s cr cs X Y w0 (hX.keep B0) (hY.keep B0) lX lY cX cY hok
  have F : Hid (∀ t W, Hdl W → Calls Tryd.prog 29 #[flt t] W fun e w' => e = .returned (.bool true) ∧ Below W.heap.size W w') := fun t W h => isFault_hit t W h
  unfold fracV at C1 ⊢
  unfold fr0 flt at C1 ⊢
  unfold flt at F
  unfold frV at C1 ⊢
  go_enter Tryd.func28, Tryd.ntmps28
  go_wp2_with fail
  rw [← hw0]
  refine Calls.mono C1.out ?_
  rintro e w1 ⟨⟨t, rfl⟩, b1⟩
  clear hw0 C1
  have K3 := boxc_keep k3 b1
  have K4 := boxc_keep k4 b1
  have B1 := B0.trans (b1.mono B0.size)
  have hh1 : Hdl (w1.alloc (.cells #[.slice none 0 0, .slice none 0 0, .bool false] 47)) := (hh.keep B1 hh.pos).keep ((Below.refl _ w1).alloc (Nat.le_refl _) _) (hh.keep B1 hh.pos).pos
  clear k1 k2 k3 k4 b1 B0
  go_wp2_with fail
  refine Calls.mono (F.out t _ hh1) ?_
  rintro e w2 ⟨rfl, b2⟩
  have J3 := boxc_keep (boxc_alloc K3 _) b2
  have J4 := boxc_keep (boxc_alloc K4 _) b2
  have B2 : Below w.heap.size w w2 := (B1.alloc B1.size _).trans (b2.mono (by have := B1.size; simp; omega))
  obtain ⟨d0, d1, d2, df, dn⟩ := boxc3 J3
  obtain ⟨e0, e1, e2, ef, en⟩ := boxc3 J4
  have HB : Hid _ := B2
  clear K3 K4 b2 B1 F J3 J4 B2 hh hh1 hX hY z0
  go_wp2
  have hB : Below w.heap.size w _ := below_set3 (below_set3 HB.out (by omega : w.heap.size ≤ w.heap.size + 1 + 1) (.slice none 0 0) (.slice none 0 0) (.bool false)) (by omega : w.heap.size ≤ w.heap.size + 1 + 1 + 1) (.slice none 0 0) (.slice none 0 0) (.bool false)
  refine ⟨rfl, .tuple #[.agg #[.slice none 0 0, .slice none 0 0, .bool false], .agg #[.slice none 0 0, .slice none 0 0, .bool false], .iface 65 (.string t)], ?_, ⟨t, rfl⟩, hB⟩
  clear hB
  simp [results, Tryd.f28, go_sem, d0, d1, d2, e0, e1, e2]

end Go.Proofs.YthokphoojmpajafDoor
