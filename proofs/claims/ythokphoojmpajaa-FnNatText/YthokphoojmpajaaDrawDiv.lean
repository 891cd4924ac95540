/- The contract of DrawNatDiv, and what a row's frame tells of a slice of bytes that came in. -/
import Derived.Test.YthokphoojmpajaaDrawTwo
import Derived.OpenShut
namespace Go.Proofs.Ythokphoojmpajaa
open Go.RowKit Go.Proofs.Pin

theorem isRow_u8 {w : World} {a : Option Addr} {len cap : Nat} {zs : List Int} (h : IsRow .u8 w a len cap zs) : SlU w a (zs.take len) ∧ ByteL (zs.take len) ∧ (zs.take len).length = len ∧ len ≤ cap := by
  rcases h with ⟨rfl, rfl, rfl, rfl⟩ | ⟨x, rfl, hl, _, hz, hc, hw⟩
  · exact ⟨.inl rfl, fun i => by simp, rfl, Nat.le_refl _⟩
  · have hlen : (zs.take len).length = len := by simp; omega
    refine ⟨?_, fun i => ?_, hlen, hl⟩
    · by_cases h0 : len = 0
      · subst h0; exact .inl rfl
      · obtain ⟨b, off, spot⟩ := x
        have hspot : spot = none := by simpa [Addr.add] using World.cell?_spot (hc 0 (by omega))
        subst hspot
        refine .inr ⟨b, off, rfl, ?_, fun i hi => ?_⟩
        · have h1 := hc 0 (by omega)
          rcases Nat.lt_or_ge b w.heap.size with h' | h'
          · exact h'
          · simp [World.cell?, Addr.add, Array.getElem?_eq_none h'] at h1
        · have h1 := hc i (by omega)
          have e : (⟨b, off, none⟩ : Addr).add i = ⟨b, off + i, none⟩ := by
            unfold Addr.add
            split
            · subst_vars; rfl
            · rfl
          rw [e] at h1
          rw [h1]
          simp [List.getD_eq_getElem?_getD, show i < len by omega]
    · by_cases hi : i < (zs.take len).length
      · have hm : (zs.take len).getD i 0 ∈ zs := by
          rw [List.getD_eq_getElem?_getD, List.getElem?_eq_getElem hi]
          exact List.mem_of_mem_take (List.getElem_mem hi)
        have := bounds_u8 (hw _ hm)
        omega
      · simp [List.getD_eq_getElem?_getD, List.getElem?_eq_none (Nat.le_of_not_lt hi)]

theorem drawDiv_any (a : Option Addr) (len cap : Nat) (bs : List Int) (w : World) (h : SlU w a bs) (hb : ByteL bs) (hl : bs.length = len) (hl2 : len ≤ 1048576) (hcap : len ≤ cap) :
    Calls Try.prog 7 #[.slice a len cap] w fun e w' => ∃ r cr zs s cs ys, e = .returned (.tuple #[.slice r zs.length cr, .slice s ys.length cs]) ∧ OwnI w' w.heap.size r cr zs ∧ OwnI w' w.heap.size s cs ys ∧ zs.length ≤ 257 ∧ ys.length ≤ 257 ∧ Below w.heap.size w w' := by
  have C0 : Hid _ := two_any a len cap bs w h hb hl hl2 hcap
  clear h hb hl
  go_enter Try.func7, Try.ntmps7
  go_wp2_with fail
  refine Calls.mono C0.out ?_
  rintro e w1 ⟨r, cr, zs, s, cs, ys, rfl, h1, h2, h3, h4, h5⟩
  go_wp2
  go_ret2
  exact ⟨r, cr, zs, s, cs, ys, rfl, h1, h2, h3, h4, h5⟩
end Go.Proofs.Ythokphoojmpajaa
