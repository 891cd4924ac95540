/- The contracts of spec.l2Make and spec.l2Sum. The contract of spec.l2Sum. -/
import Derived.Test.YthokphoojmpajahDoorGFr8
import Derived.Test.YthokphoojmpajahDoorGFr6
import Derived.Test.YthokphoojmpajahDoorMul
import Derived.Test.YthokphoojmpajahDoorGSA
import Derived.Test.YthokphoojmpajahDoorCmp
import Derived.Test.YthokphoojmpajahDoorDivAll
import Derived.Test.YthokphoojmpajahDoorGGcd
namespace Go.Proofs.YthokphoojmpajahDoor
open Go.RowKit Go.Proofs.Pin

/-- What a function of the specification that answers with a fraction leaves. -/
def RetS (W : World) (e : Ending) (w' : World) (A : FAns) : Prop :=
  ∃ r cr s cs, e = .returned (.tuple #[fracV A.b r A.X.length cr s A.Y.length cs, .bool A.ok]) ∧ OwnI w' W.heap.size r cr A.X ∧ OwnI w' W.heap.size s cs A.Y ∧ Below W.heap.size W w'
theorem retS_no {W w' : World} (h : Below W.heap.size W w') : RetS W (.returned (.tuple #[fracV false none 0 0 none 0 0, .bool false])) w' noA :=
  ⟨none, 0, none, 0, rfl, own_nil _ _, own_nil _ _, h⟩
theorem retS_fin {w w5 : World} {A : FAns} {r s : Option Addr} {cr cs g p q : Nat} (o : OwnI w5 p r cr A.X) (o' : OwnI w5 q s cs A.Y) (hB : Below w.heap.size w w5) (hg : w.heap.size ≤ g) (hp : g < p) (hq : g < q) (x y z : Value) :
    RetS w (.returned (.tuple #[fracV A.b r A.X.length cr s A.Y.length cs, .bool A.ok])) (((w5.setCell ⟨g, 0, none⟩ x).setCell ⟨g, 1, none⟩ y).setCell ⟨g, 2, none⟩ z) A :=
  ⟨r, cr, s, cs, rfl, (own_far o (gr_set3 _ _ _ _ _) hp).mono (by omega), (own_far o' (gr_set3 _ _ _ _ _) hq).mono (by omega), below_set3 hB hg _ _ _⟩

theorem makeA_zero (b : Bool) {y : Nat} (hy : y ≠ 0) : makeA b 0 y = ⟨false, [], [1], true⟩ := by
  have h1 : loX 0 y = [] := by unfold loX; rw [Nat.zero_div]; rfl
  have h2 : loY 0 y = [1] := by unfold loY; rw [Nat.gcd_zero_left, Nat.div_self (by omega)]; rfl
  unfold makeA
  rw [h1, h2]
  simp
theorem makeA_yes {b : Bool} {x y : Nat} (hx : x ≠ 0) (h1 : (loX x y).length ≤ 256) (h2 : (loY x y).length ≤ 256) : makeA b x y = ⟨b, loX x y, loY x y, true⟩ := by
  have h0 : 0 < (loX x y).length := by
    unfold loX
    rw [dgs_pos_len]
    have hg : 0 < Nat.gcd x y := Nat.gcd_pos_of_pos_left _ (by omega)
    exact Nat.ne_of_gt (Nat.div_pos (Nat.le_of_dvd (by omega) (Nat.gcd_dvd_left x y)) hg)
  unfold makeA
  rw [if_pos ⟨h1, h2⟩]
  simp [h0]
theorem makeA_no {b : Bool} {x y : Nat} (h : ¬ ((loX x y).length ≤ 256 ∧ (loY x y).length ≤ 256)) : makeA b x y = noA := by
  unfold makeA; rw [if_neg h]

end Go.Proofs.YthokphoojmpajahDoor

namespace Go.Proofs.YthokphoojmpajahDoor
open Go.RowKit Go.Proofs.Pin

theorem own_dN {w : World} {base c : Nat} {r : Option Addr} {X : List Int} (o : OwnI w base r c X) (q : Nat) : OwnI (w.drewN q) base r c X := o.kept (row := none) ⟨rfl, rfl, rfl, Nat.le_refl _, fun _ _ _ => rfl⟩ (fun _ _ e => by cases e)
theorem boxc_dN {W : World} {B : Nat} {t : TypeId} {cs : Array Value} (h : BoxC W B t cs) (q : Nat) : BoxC (W.drewN q) B t cs := h

end Go.Proofs.YthokphoojmpajahDoor
