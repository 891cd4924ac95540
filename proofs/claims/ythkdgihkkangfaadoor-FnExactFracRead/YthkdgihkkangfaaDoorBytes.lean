/- Rows of bytes of the call's own, and the string that one comes to. -/
import Derived.Test.YthkdgihkkangfaaDoorProg
import Derived.Test.YthkdgihkkangfaaDoorBase
import Derived.Test.YthkdgihkkangfaaDoorGEq
import Derived.Test.YthkdgihkkangfaaDoorTxtNum
import Derived.Laws.IdiomStrings
import Derived.WalkKit
import Derived.WalkSpells
namespace Go.Proofs.YthkdgihkkangfaaDoor
open Go.RowKit Go.Proofs.Pin

theorem Tryd.info5 : (Tryd.prog.info? 5).map (fun i => (i.zero, i.size, i.bytes)) = some (some (.int .u8 0), 1, 1) := by kernel_rfl
theorem u8_small {z : Int} (h0 : 0 ≤ z) (h1 : z < 256) : IntKind.u8.wrap z = z := by
  simp [IntKind.wrap, IntKind.bits, IntKind.signed]
  omega
theorem ownBlock_lt {w : World} {base : Nat} {e : TypeId} {size : Nat} {v : Value} {n : Nat} {xs : List Value} (h : w.ownsRow base e size v n xs) : ∀ k, v.ownBlock = some k → k < w.heap.size := by
  intro k hk
  rcases h.2 with ⟨rfl, _⟩ | ⟨g, cap, cur, rfl, _, hg, _⟩
  · cases hk
  · cases hk; exact lt_of_block hg
/-- A row with something in it is a slice of a block of its own. -/
theorem row_some {w : World} {base n : Nat} {v : Value} {zs : List Int} (h : w.ownsRow base 5 1 v n (zs.map (Value.int .u8))) (h0 : 0 < n) : ∃ g cap, v = .slice (some ⟨g, 0, none⟩) n cap ∧ zs.length = n ∧ base ≤ g ∧ g < w.heap.size ∧ n ≤ cap ∧ (∀ i, i < n → w.cell? ⟨g, i, none⟩ = some (.int .u8 (zs.getD i 0))) := by
  have hn : zs.length = n := by have := h.1; simpa using this
  have h' := h
  rcases h.2 with ⟨_, h2⟩ | ⟨g, cap, cur, rfl, hb, hg, hc, _⟩
  · omega
  · refine ⟨g, cap, rfl, hn, hb, lt_of_block hg, ?_, fun i hi => ?_⟩
    · exact hc
    · rw [h'.cellAt i (by omega)]
      simp [List.getD_eq_getElem?_getD, List.getElem?_eq_getElem (show i < zs.length by omega)]
/-- 'string(b)' over a row of bytes. -/
theorem conv_row {W : World} {g n cap : Nat} {zs : List Int} (src : TypeId) (hs : Tryd.prog.underlying src = some (.slice 5)) (he : Tryd.prog.underlying 5 = some (.int .u8)) (hd : Tryd.prog.underlying 9 = some .string) (hl : zs.length = n) (hb : ∀ i, i < n → 0 ≤ zs.getD i 0 ∧ zs.getD i 0 < 256)
    (hc : ∀ i, i < n → W.cell? ⟨g, i, none⟩ = some (.int .u8 (zs.getD i 0))) : (convert src 9 (.slice (some ⟨g, 0, none⟩) n cap)).run Tryd.prog W = .ok (.string ⟨(zs.map bt).toArray⟩) W := by
  have h := run_convert_bytes_back (P := Tryd.prog) W src 9 5 ⟨g, 0, none⟩ cap (zs.map bt) hs he hd (fun j hj => by
    have hj' : j < n := by simpa [hl] using hj
    have e : (⟨g, 0, none⟩ : Addr).add j = ⟨g, j, none⟩ := by unfold Addr.add; split <;> simp_all
    rw [e, hc j hj']
    have hz : (zs.map bt)[j] = bt (zs.getD j 0) := by
      simp [List.getD_eq_getElem?_getD, List.getElem?_eq_getElem (show j < zs.length by omega)]
    rw [hz, bt_nat (hb j hj').1 (hb j hj').2])
  rw [List.length_map, hl] at h
  exact h
end Go.Proofs.YthkdgihkkangfaaDoor
