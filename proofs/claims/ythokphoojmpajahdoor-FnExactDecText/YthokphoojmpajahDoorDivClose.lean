/- The end of one round of spec.l1Div: the digit is stored, the product comes off the rest. -/
import Derived.Test.YthokphoojmpajahDoorGShl
import Derived.Test.YthokphoojmpajahDoorGNum
import Derived.Test.YthokphoojmpajahDoorGCmpN
import Derived.Test.YthokphoojmpajahDoorGSA
namespace Go.Proofs.YthokphoojmpajahDoor
open Go.RowKit Go.Proofs.Pin

theorem div_close {X Y R R1 xj j N gg bq c1 cp : Nat} {out : List Int} {w wc wy : World} {rx ry r1 rp : Option Addr}
    (hY : 0 < Y) (hXJ : xj = X / 65536 ^ j % 65536) (hR1 : R1 = R * 65536 + xj) (hj : j < N + 1) (hol : out.length = N + 1)
    (hV : ((X / 65536 ^ (j + 1) : Nat) : Int) = val (out.drop (j + 1)) * Y + R)
    (hge : R1 / Y ≤ gg) (hle : Y * gg ≤ R1) (hlen : (dgs R1).length ≤ 65536)
    (hBw : Below w.heap.size w wc) (hwb : w.heap.size ≤ bq)
    (hq : OwnI wc bq (some ⟨bq, 0, none⟩) (N + 1) out) (ho1 : OwnI wc (bq + 1) r1 c1 (dgs R1))
    (hsx : Sl wc rx (dgs X)) (hsy : Sl wc ry (dgs Y)) (ax : Apart rx (dgs X) bq) (ay : Apart ry (dgs Y) bq)
    (hby : Below wc.heap.size wc wy) (hop : OwnI wy wc.heap.size rp cp (dgs (Y * gg))) :
    Calls Tryd.prog 56 #[.slice r1 (dgs R1).length c1, .slice rp (dgs (Y * gg)).length cp] (wy.setCell ⟨bq, j, none⟩ (.int .i64 (gg : Int))) fun e w' => ∃ r6 c6, e = .returned (.slice r6 (dgs (R1 % Y)).length c6) ∧ ((X / 65536 ^ j : Nat) : Int) = val ((out.set j (gg : Int)).drop j) * Y + (R1 % Y : Nat) ∧ OwnI w' (bq + 1) r6 c6 (dgs (R1 % Y)) ∧ w'.ownsRow bq 3 1 (.slice (some ⟨bq, 0, none⟩) (N + 1) (N + 1)) (N + 1) ((out.set j (gg : Int)).map (Value.int .i64)) ∧ Sl w' rx (dgs X) ∧ Sl w' ry (dgs Y) ∧ Below w.heap.size w w' := by
  have hqy := hq.keep hby
  have hrow : wy.ownsRow bq 3 1 (.slice (some ⟨bq, 0, none⟩) (N + 1) (N + 1)) (N + 1) (out.map (Value.int .i64)) := by
    have h := hqy
    unfold OwnI at h
    rw [hol] at h
    exact h
  have hst := hrow.stored j (.int .i64 (gg : Int))
  have hlt : bq < wc.heap.size := own_lt hq
  obtain ⟨hg1, hg2⟩ := guess_end hY hge hle
  have s1 : Sl (wy.setCell ⟨bq, j, none⟩ (.int .i64 (gg : Int))) r1 (dgs R1) := (ho1.keep hby).sl.apart hst.2 (.inr fun x hx e => by
    have := own_ge (ho1.keep hby) x.block (by rw [hx]; rfl)
    omega)
  have s2 : Sl (wy.setCell ⟨bq, j, none⟩ (.int .i64 (gg : Int))) rp (dgs (Y * gg)) := hop.sl.apart hst.2 (.inr fun x hx e => by
    have := own_ge hop x.block (by rw [hx]; rfl)
    omega)
  have C := l1Sub_any r1 rp c1 cp R1 (Y * gg) _ s1 s2 hlen hle
  rw [hg2] at C
  refine C.mono ?_
  rintro e w' ⟨r6, c6, h1, h2, h3⟩
  have hz : (wy.setCell ⟨bq, j, none⟩ (.int .i64 (gg : Int))).heap.size = wy.heap.size := by simp
  have hrow2 : OwnI (wy.setCell ⟨bq, j, none⟩ (.int .i64 (gg : Int))) bq (some ⟨bq, 0, none⟩) (N + 1) (out.set j (gg : Int)) := by
    unfold OwnI
    rw [List.length_set, hol, List.map_set]
    exact hst.1
  have hsz := hby.size
  refine ⟨r6, c6, h1, ?_, h2.mono (by rw [hz]; omega), ?_, ((hsx.keep hby).apart hst.2 ax).keep h3, ((hsy.keep hby).apart hst.2 ay).keep h3, ?_⟩
  · rw [hg1, hR1, hXJ]
    exact long_step (by omega) hV
  · have h := hrow2.keep h3
    unfold OwnI at h
    rw [List.length_set, hol] at h
    exact h
  · have h1 : Below w.heap.size w wy := hBw.trans (hby.mono hBw.size)
    exact (h1.setCell hwb _).trans (h3.mono (by rw [hz]; have := h1.size; omega))
/-- What can be written: the cell of the digit. -/
theorem div_cell {j N bq : Nat} {out : List Int} {wy : World} (hj : j < N + 1) (hol : out.length = N + 1) (hq : OwnI wy bq (some ⟨bq, 0, none⟩) (N + 1) out) :
    wy.ownsRow bq 3 1 (.slice (some ⟨bq, 0, none⟩) (N + 1) (N + 1)) (N + 1) (out.map (Value.int .i64)) ∧ ∃ v, wy.cell? ⟨bq, j, none⟩ = some v := by
  have h := hq
  unfold OwnI at h
  rw [hol] at h
  refine ⟨h, ?_⟩
  rw [h.cellAt j (by omega)]
  have hl := h.1
  exact ⟨_, List.getElem?_eq_getElem (by omega)⟩
end Go.Proofs.YthokphoojmpajahDoor
