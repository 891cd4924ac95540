/- Fractions as impl reckons with them: taken, bothTaken, told. Fractions as impl reckons with them: bothTaken. Fractions as impl reckons with them: lowest, settled. -/
import Derived.Test.YthokphoojmpajahDoorFr1
import Derived.Test.YthokphoojmpajahDoorAs
import Derived.Test.YthokphoojmpajahDoorFracOk
import Derived.Test.YthokphoojmpajahDoorCopied
import Derived.Deep.RegionHeld3
namespace Go.Proofs.YthokphoojmpajahDoor
open Go.RowKit Go.Proofs.Pin

/-- A fault, as an error. -/
def flt (s : ByteArray) : Value := .iface 66 (.string s)
def fr0 : Value := frV none 0 0 none 0 0 false

set_option maxRecDepth 20000 in
theorem taken_yes (b : Bool) (r s : Option Addr) (cr cs : Nat) (X Y : List Int) (w : World) (hX : Sl w r X) (hY : Sl w s Y) (lX : X.length ≤ 1048576) (lY : Y.length ≤ 1048576) (cX : X.length ≤ cr) (cY : Y.length ≤ cs) (hok : fokB b X Y = true) :
    Calls Tryd.prog 22 #[fracV b r X.length cr s Y.length cs] w fun e w' => e = .returned (.tuple #[frV r X.length cr s Y.length cs b, .nilIface]) ∧ Below w.heap.size w w' := by
  obtain ⟨w0, hw0⟩ : ∃ w0, w0 = (w.alloc (.cells #[.bool b, .slice r X.length cr, .slice s Y.length cs] 27)).alloc (.cells #[.slice none 0 0, .slice none 0 0, .bool false] 46) := ⟨_, rfl⟩
  have B0 : Below w.heap.size w w0 := by rw [hw0]; exact ((Below.refl _ w).alloc (Nat.le_refl _) _).alloc (by simp) _
  have fb : BoxC w0 w.heap.size 27 #[.bool b, .slice r X.length cr, .slice s Y.length cs] := by rw [hw0]; exact boxc_alloc (boxc_new _ _ _) _
  have fc : BoxC w0 (w.heap.size + 1) 46 #[.slice none 0 0, .slice none 0 0, .bool false] := by
    rw [hw0]
    have h := boxc_new (w.alloc (.cells #[.bool b, .slice r X.length cr, .slice s Y.length cs] 27)) 46 #[.slice none 0 0, .slice none 0 0, .bool false]
    rw [World.size_alloc] at h
    exact h
  have C : Hid _ := implFok_any b r s cr cs X Y w0 (hX.keep B0) (hY.keep B0) lX lY cX cY
  rw [hok] at C
  unfold fracV at C ⊢
  unfold frV
  clear hX hY lX lY cX cY hok
  go_enter Tryd.func22, Tryd.ntmps22
  go_wp2_with fail
  rw [← hw0]
  refine Calls.mono C.out ?_
  rintro e w1 ⟨rfl, b1⟩
  obtain ⟨c0, c1, c2, _, _⟩ := boxc3 (boxc_keep fb b1)
  obtain ⟨d0, d1, d2, f1, n1⟩ := boxc3 (boxc_keep fc b1)
  have HB : Hid (Below w.heap.size w w1) := B0.trans (b1.mono B0.size)
  clear b1 B0 fb fc C hw0
  go_wp2
  refine ⟨rfl, .tuple #[.agg #[.slice r X.length cr, .slice s Y.length cs, .bool b], .nilIface], ?_, rfl, below_set3 HB.out (by omega) _ _ _⟩
  simp [results, Tryd.f22, go_sem, d0, d1, d2]

set_option maxRecDepth 20000 in
theorem taken_no (b : Bool) (r s : Option Addr) (cr cs : Nat) (X Y : List Int) (w : World) (hX : Sl w r X) (hY : Sl w s Y) (lX : X.length ≤ 1048576) (lY : Y.length ≤ 1048576) (cX : X.length ≤ cr) (cY : Y.length ≤ cs) (hok : fokB b X Y = false) :
    Calls Tryd.prog 22 #[fracV b r X.length cr s Y.length cs] w fun e w' => (∃ t, e = .returned (.tuple #[fr0, flt t])) ∧ Below w.heap.size w w' := by
  obtain ⟨w0, hw0⟩ : ∃ w0, w0 = (w.alloc (.cells #[.bool b, .slice r X.length cr, .slice s Y.length cs] 27)).alloc (.cells #[.slice none 0 0, .slice none 0 0, .bool false] 46) := ⟨_, rfl⟩
  have B0 : Below w.heap.size w w0 := by rw [hw0]; exact ((Below.refl _ w).alloc (Nat.le_refl _) _).alloc (by simp) _
  have fb : BoxC w0 w.heap.size 27 #[.bool b, .slice r X.length cr, .slice s Y.length cs] := by rw [hw0]; exact boxc_alloc (boxc_new _ _ _) _
  have fc : BoxC w0 (w.heap.size + 1) 46 #[.slice none 0 0, .slice none 0 0, .bool false] := by
    rw [hw0]
    have h := boxc_new (w.alloc (.cells #[.bool b, .slice r X.length cr, .slice s Y.length cs] 27)) 46 #[.slice none 0 0, .slice none 0 0, .bool false]
    rw [World.size_alloc] at h
    exact h
  have C : Hid _ := implFok_any b r s cr cs X Y w0 (hX.keep B0) (hY.keep B0) lX lY cX cY
  rw [hok] at C
  unfold fracV at C ⊢
  unfold fr0 frV flt
  clear hX hY lX lY cX cY hok
  go_enter Tryd.func22, Tryd.ntmps22
  go_wp2_with fail
  rw [← hw0]
  refine Calls.mono C.out ?_
  rintro e w1 ⟨rfl, b1⟩
  obtain ⟨c0, c1, c2, _, _⟩ := boxc3 (boxc_keep fb b1)
  obtain ⟨d0, d1, d2, f1, n1⟩ := boxc3 (boxc_keep fc b1)
  have HB : Hid (Below w.heap.size w w1) := B0.trans (b1.mono B0.size)
  clear b1 B0 fb fc C hw0
  go_wp2
  refine ⟨rfl, .tuple #[.agg #[.slice none 0 0, .slice none 0 0, .bool false], .iface 66 (.string ⟨#[97, 32, 102, 114, 97, 99, 116, 105, 111, 110, 32, 105, 115, 32, 110, 111, 116, 32, 111, 107]⟩)], ?_, ⟨_, rfl⟩, below_set3 HB.out (by omega) _ _ _⟩
  simp [results, Tryd.f22, go_sem, d0, d1, d2]

set_option maxRecDepth 20000 in
theorem told_err (v : Value) (t : ByteArray) (r s : Option Addr) (n cr m cs : Nat) (b : Bool) (w : World) (hh : Hdl w) (hv : v = frV r n cr s m cs b) :
    Calls Tryd.prog 27 #[v, flt t] w fun e w' => e = .returned (.tuple #[fracV false none 0 0 none 0 0, .bool false]) ∧ Below w.heap.size w w' := by
  subst hv
  obtain ⟨w0, hw0⟩ : ∃ w0, w0 = (w.alloc (.cells #[.slice r n cr, .slice s m cs, .bool b] 46)).alloc (.cells #[.bool false, .slice none 0 0, .slice none 0 0] 27) := ⟨_, rfl⟩
  have B0 : Below w.heap.size w w0 := by rw [hw0]; exact ((Below.refl _ w).alloc (Nat.le_refl _) _).alloc (by simp) _
  have fc : BoxC w0 (w.heap.size + 1) 27 #[.bool false, .slice none 0 0, .slice none 0 0] := by
    rw [hw0]
    have h := boxc_new (w.alloc (.cells #[.slice r n cr, .slice s m cs, .bool b] 46)) 27 #[.bool false, .slice none 0 0, .slice none 0 0]
    rw [World.size_alloc] at h
    exact h
  have C : Hid _ := isFault_hit t w0 (hh.keep B0 hh.pos)
  clear hh
  unfold frV flt fracV
  go_enter Tryd.func27, Tryd.ntmps27
  go_wp2_with fail
  rw [← hw0]
  refine Calls.mono C.out ?_
  rintro e w1 ⟨rfl, b1⟩
  obtain ⟨d0, d1, d2, f1, n1⟩ := boxc3 (boxc_keep fc b1)
  have HB : Hid (Below w.heap.size w w1) := B0.trans (b1.mono B0.size)
  clear b1 B0 fc C hw0
  go_wp2
  refine ⟨rfl, .tuple #[.agg #[.bool false, .slice none 0 0, .slice none 0 0], .bool false], ?_, rfl, below_set3 HB.out (by omega) _ _ _⟩
  simp [results, Tryd.f27, go_sem, d0, d1, d2]

set_option maxRecDepth 20000 in
set_option maxHeartbeats 1000000 in
theorem told_ok (v : Value) (r s : Option Addr) (cr cs : Nat) (X Y : List Int) (b : Bool) (w : World) (hX : Sl w r X) (hY : Sl w s Y) (lX : X.length ≤ 1048576) (lY : Y.length ≤ 1048576) (hv : v = frV r X.length cr s Y.length cs b) :
    Calls Tryd.prog 27 #[v, .nilIface] w fun e w' => ∃ r' cr' s' cs', e = .returned (.tuple #[fracV b r' X.length cr' s' Y.length cs', .bool true]) ∧ OwnI w' w.heap.size r' cr' X ∧ OwnI w' w.heap.size s' cs' Y ∧ Ap r' s' ∧ Below w.heap.size w w' := by
  subst hv
  obtain ⟨w0, hw0⟩ : ∃ w0, w0 = (w.alloc (.cells #[.slice r X.length cr, .slice s Y.length cs, .bool b] 46)).alloc (.cells #[.bool false, .slice none 0 0, .slice none 0 0] 27) := ⟨_, rfl⟩
  have B0 : Below w.heap.size w w0 := by rw [hw0]; exact ((Below.refl _ w).alloc (Nat.le_refl _) _).alloc (by simp) _
  have fb : BoxC w0 w.heap.size 46 #[.slice r X.length cr, .slice s Y.length cs, .bool b] := by rw [hw0]; exact boxc_alloc (boxc_new _ _ _) _
  have fc : BoxC w0 (w.heap.size + 1) 27 #[.bool false, .slice none 0 0, .slice none 0 0] := by
    rw [hw0]
    have h := boxc_new (w.alloc (.cells #[.slice r X.length cr, .slice s Y.length cs, .bool b] 46)) 27 #[.bool false, .slice none 0 0, .slice none 0 0]
    rw [World.size_alloc] at h
    exact h
  have C : Hid _ := isFault_nil w0
  have CX : Hid (∀ W, Sl W r X → Calls Tryd.prog 48 #[.slice r X.length cr] W fun e w' => ∃ r' c', e = .returned (.slice r' X.length c') ∧ OwnI w' W.heap.size r' c' X ∧ Below W.heap.size W w') := fun W h => copied_any r cr X W h lX
  have CY : Hid (∀ W, Sl W s Y → Calls Tryd.prog 48 #[.slice s Y.length cs] W fun e w' => ∃ r' c', e = .returned (.slice r' Y.length c') ∧ OwnI w' W.heap.size r' c' Y ∧ Below W.heap.size W w') := fun W h => copied_any s cs Y W h lY
  unfold frV fracV
  go_enter Tryd.func27, Tryd.ntmps27
  go_wp2_with fail
  rw [← hw0]
  refine Calls.mono C.out ?_
  rintro e w1 ⟨rfl, b1⟩
  have K1 := boxc_keep fb b1
  have K2 := boxc_keep fc b1
  have HB : Hid (Below w.heap.size w w1) := B0.trans (b1.mono B0.size)
  have X1 : Hid (Sl w1 r X) := hX.keep HB.out
  have Y1 : Hid (Sl w1 s Y) := hY.keep HB.out
  obtain ⟨c0, c1, c2, _, n0⟩ := boxc3 K1
  have hK1 : Hid _ := K1
  have hK2 : Hid _ := K2
  have n2 := boxc_lt K2
  clear b1 B0 fb fc C hw0 hX hY lX lY K1 K2
  go_wp2_with fail
  go_region_held3 (fun w' => w'.cell? ⟨w.heap.size, 0, none⟩ = some (.slice r X.length cr) ∧ w'.cell? ⟨w.heap.size, 1, none⟩ = some (.slice s Y.length cs) ∧ w'.cell? ⟨w.heap.size, 2, none⟩ = some (.bool b))
    (first | go_keep | (refine ⟨?_, ?_, ?_⟩ <;> first | (rw [b3.cell (by simp; omega)]; first | assumption | (rw [b2.cell (by simp; omega)]; assumption)) | (rw [b2.cell (by simp; omega)]; assumption)))
    (first
      | (go_at_call_of 48 (Value.slice r X.length cr); refine Calls.mono (CX.out _ ?_) ?_; (exact X1.out); rintro e w2 ⟨r2, c2', rfl, o2, b2⟩; have z2 : w1.heap.size ≤ w2.heap.size := b2.size)
      | (go_at_call_of 48 (Value.slice s Y.length cs); refine Calls.mono (CY.out _ ?_) ?_; (exact Sl.keep (show Sl w1.drew s Y from Y1.out) b2); rintro e w3 ⟨r3, c3', rfl, o3, b3⟩; have z3 : w2.heap.size ≤ w3.heap.size := b3.size; obtain ⟨d0, d1, d2, f1, n1⟩ := boxc3 (boxc_keep (boxc_keep (W := w1.drew) hK2.out b2) b3)))
  go_wp2
  have hg := gr_set3 w3 (w.heap.size + 1) (.bool b) (.slice r2 X.length c2') (.slice r3 Y.length c3')
  have oX := own_far ((o2.keep b3).mono (base' := w1.heap.size) (Nat.le_refl _)) hg n2
  have oY := own_far o3 hg (by omega)
  have hB : Below w.heap.size w _ := below_set3 ((HB.out.trans ((below_un1 b2).mono (by exact HB.out.size))).trans (b3.mono (by have := HB.out.size; omega))) (Nat.le_succ w.heap.size) (.bool b) (.slice r2 X.length c2') (.slice r3 Y.length c3')
  refine ⟨rfl, .tuple #[.agg #[.bool b, .slice r2 X.length c2', .slice r3 Y.length c3'], .bool true], ?_, r2, c2', r3, c3', rfl, oX.mono (by have := HB.out.size; omega), oY.mono (by have := HB.out.size; omega), ap_seq o2 o3 (Nat.le_refl _), hB⟩
  clear hg oX oY hB o2 o3
  simp [results, Tryd.f27, go_sem, d0, d1, d2]
end Go.Proofs.YthokphoojmpajahDoor

namespace Go.Proofs.YthokphoojmpajahDoor
open Go.RowKit Go.Proofs.Pin

/-- Four boxes, laid one behind the other. -/
theorem boxes4 (w : World) (t1 t2 t3 t4 : TypeId) (c1 c2 c3 c4 : Array Value) : ∃ w0, w0 = (((w.alloc (.cells c1 t1)).alloc (.cells c2 t2)).alloc (.cells c3 t3)).alloc (.cells c4 t4) ∧ BoxC w0 w.heap.size t1 c1 ∧ BoxC w0 (w.heap.size + 1) t2 c2 ∧ BoxC w0 (w.heap.size + 1 + 1) t3 c3 ∧ BoxC w0 (w.heap.size + 1 + 1 + 1) t4 c4 ∧ Below w.heap.size w w0 ∧ w0.heap.size = w.heap.size + 4 := by
  refine ⟨_, rfl, boxc_alloc (boxc_alloc (boxc_alloc (boxc_new _ _ _) _) _) _, ?_, ?_, ?_, (((Below.refl _ w).alloc (Nat.le_refl _) _).alloc (by simp) _).alloc (by simp; omega) _ |>.alloc (by simp; omega) _, by simp⟩
  · have h := boxc_new (w.alloc (.cells c1 t1)) t2 c2
    rw [World.size_alloc] at h
    exact boxc_alloc (boxc_alloc h _) _
  · have h := boxc_new ((w.alloc (.cells c1 t1)).alloc (.cells c2 t2)) t3 c3
    rw [World.size_alloc, World.size_alloc] at h
    exact boxc_alloc h _
  · have h := boxc_new (((w.alloc (.cells c1 t1)).alloc (.cells c2 t2)).alloc (.cells c3 t3)) t4 c4
    rw [World.size_alloc, World.size_alloc, World.size_alloc] at h
    exact h

end Go.Proofs.YthokphoojmpajahDoor

namespace Go.Proofs.YthokphoojmpajahDoor
open Go.RowKit Go.Proofs.Pin

/-- In lowest terms. -/
def loX (x y : Nat) : List Int := dgs (x / Nat.gcd x y)
def loY (x y : Nat) : List Int := dgs (y / Nat.gcd x y)

end Go.Proofs.YthokphoojmpajahDoor
