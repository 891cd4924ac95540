/- A fraction that came in as an argument, opened: a sign and two rows of ints. -/
import Derived.Test.YthokphoojmpajahDoorBase
import Derived.Test.YthokphoojmpajahDoorRows
import Derived.WalkKit
import Derived.ProofKit
import Derived.OpenShut
import Derived.ShutString
import Derived.ChangeOld
import Derived.Below
import Derived.Deep.Strs
namespace Go.Proofs.YthokphoojmpajahDoor
open Go.ChangeShapes Go.WideShapes Go.ChangeAt Go.RowKit Go.Proofs.Pin

theorem row_open {H : Type} {enc : TypeId × Value → H} {W : World} {n : Nat} {c : Value} {y : DataW H × List MemPlace} (hy : DataW.trod enc Tryd.prog W 0 (fun _ => true) true n 22 [c] = some y) :
    ∃ a len cap zs, c = .slice a len cap ∧ IsRow .i64 W a len cap zs ∧ len ≤ maxLen := by
  rcases open_ints Tryd.underlying22 Tryd.underlying3 (by kernel_rfl) hy with ⟨hc, _⟩ | ⟨x, l, cc, zs, hc, _, hl, hm, hz, _, hcell, hwz⟩
  · simp at hc
    subst hc
    exact ⟨none, 0, 0, [], rfl, .inl ⟨rfl, rfl, rfl, rfl⟩, Nat.zero_le _⟩
  · simp at hc
    subst hc
    exact ⟨some x, l, cc, zs, rfl, .inr ⟨_, rfl, hl, hm, by simpa using hz, hcell, hwz⟩, Nat.le_trans hl hm⟩

theorem frac_open {H : Type} {enc : TypeId × Value → H} {W : World} {cs : Array Value} {d : DataW H} {ps : List MemPlace} (hcs : cs.size = Tryd.prog.cellsOf 24)
    (h0 : DataW.Trod enc Tryd.prog W 0 (fun _ => true) true 24 (.agg cs) d ps) :
    ∃ b a0 len0 cap0 z0 a1 len1 cap1 z1, cs = #[.bool b, .slice a0 len0 cap0, .slice a1 len1 cap1] ∧ IsRow .i64 W a0 len0 cap0 z0 ∧ IsRow .i64 W a1 len1 cap1 z1 ∧ len0 ≤ maxLen ∧ len1 ≤ maxLen := by
  obtain ⟨fuel, hf⟩ := h0
  have hc3 : Tryd.prog.cellsOf 24 = 3 := by kernel_rfl
  rw [hc3] at hcs
  obtain ⟨c0, c1, c2, rfl⟩ : ∃ c0 c1 c2, cs = #[c0, c1, c2] := by
    obtain ⟨l⟩ := cs
    match l, hcs with
    | [c0, c1, c2], _ => exact ⟨c0, c1, c2, rfl⟩
  obtain ⟨y0, y1, y2, n, _, _, t0, t1, t2⟩ := Go.Deep.trod_struct3 Tryd.underlying24 hf
  have s1 : Tryd.prog.cellsOf 22 = 1 := by kernel_rfl
  have s0 : Tryd.prog.cellsOf 4 = 1 := by kernel_rfl
  have t0' : DataW.trod enc Tryd.prog W 0 (fun _ => true) true n 4 [c0] = some y0 := by rw [s0] at t0; exact t0
  have t1' : DataW.trod enc Tryd.prog W 0 (fun _ => true) true n 22 [c1] = some y1 := by rw [s1] at t1; exact t1
  have t2' : DataW.trod enc Tryd.prog W 0 (fun _ => true) true n 22 [c2] = some y2 := by rw [s1] at t2; exact t2
  clear t0 t1 t2 hf
  obtain ⟨b, e0, _⟩ := DataW.trod_bool Tryd.underlying4 t0'
  obtain ⟨a0, l0, k0', z0, rfl, r0, n0⟩ := row_open t1'
  obtain ⟨a1, l1, k1', z1, rfl, r1, n1⟩ := row_open t2'
  simp at e0
  subst e0
  exact ⟨b, a0, l0, k0', z0, a1, l1, k1', z1, rfl, r0, r1, n0, n1⟩
end Go.Proofs.YthokphoojmpajahDoor
