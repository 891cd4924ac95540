/- The contract of impl.runesOf. -/
import Derived.Test.YthokphoojmpajahLit1
namespace Go.Proofs.Ythokphoojmpajah
open Go.RowKit Go.Proofs.Pin

theorem runesOf_any (s : ByteArray) (hs : s.size ≤ 60) (w0 w : World) (Bl : Nat) (hl : BoxL w Bl 27 #[.slice none 0 0, .int .i64 0, .bool false, .int .i64 0]) (hw : Below Bl w0 w) :
    Calls Try.prog 11 #[.string s] w fun e w' => ∃ Bn A base, e = .returned (.func (.func 13) #[] #[.pointer (some ⟨Bn, 0, none⟩)]) ∧ St w0 w' Bl Bn A base (rn s 0) 0 0 := by
  have hrn : Conv.runesFrom s s.size 0 #[] = ((rn s 0).map (Value.int .i32)).toArray := by
    rw [runes_rn]
    simp [rn]
  have hsz : (Conv.runesFrom s s.size 0 #[]).size = (rn s 0).length := by rw [hrn]; simp
  have hlen := rn_len s 0
  have hconv : ∀ wx, (convert 9 37 (.string s)).run Try.prog wx = _ := fun wx => run_runes_of_string (P := Try.prog) wx 9 37 21 s Try.underlying9 Try.underlying37 Try.underlying21 (by rw [hsz]; omega)
  rw [hsz, hrn] at hconv
  obtain ⟨R, hR⟩ : ∃ R, R = rn s 0 := ⟨_, rfl⟩
  have hcap : ∀ wx, R.length ≤ grownCap wx R.length 0 21 := fun wx => grownCap_ge wx R.length 0 21
  rw [← hR] at hconv ⊢
  have hltl := boxl_lt hl
  have HW : Hid (∀ c (o : Obj) v, o = .cells v 21 → (∀ i, i < R.length → v[i]? = some (.int .i32 (R.getD i 0))) → R.length ≤ c → St w0 ((w.alloc o).alloc (.cells #[.slice (some ⟨w.heap.size, 0, none⟩) R.length c] 37)).drew Bl (w.heap.size + 1) w.heap.size (w.heap.size + 2) R 0 0) := by
    intro c o v ho hv hc
    have hb1 : BoxL (w.alloc o) w.heap.size 21 v := by rw [ho]; exact boxl_new w _ _
    have hb2 := boxl_alloc hb1 (.cells #[.slice (some ⟨w.heap.size, 0, none⟩) R.length c] 37)
    have hn := boxl_new (w.alloc o) 37 #[.slice (some ⟨w.heap.size, 0, none⟩) R.length c]
    simp only [World.size_alloc] at hn
    refine ⟨⟨_, c, hn, hc, .inr ⟨0, rfl, by simp; omega, fun i hi => ?_⟩⟩, ⟨.slice none 0 0, 0, 0, false, [], boxl_alloc (boxl_alloc hl _) _, ⟨rfl, .inl ⟨rfl, rfl⟩⟩, Nat.le_refl _, Nat.le_refl _⟩, ?_, by omega, by omega, by omega, by omega, by omega, by simp⟩
    · have h := boxl_cell (show BoxL _ _ _ _ from hb2) i
      rw [Nat.zero_add]
      exact h.trans (hv i hi)
    · have := ((hw.alloc (show Bl ≤ w.heap.size by omega) o).alloc (show Bl ≤ (w.alloc o).heap.size by simp; omega) (.cells #[.slice (some ⟨w.heap.size, 0, none⟩) R.length c] 37))
      exact ⟨this.os, this.tape, this.output, this.size, this.block⟩
  clear hl hw hR hrn hsz hlen
  go_enter Try.func11, Try.ntmps11
  go_wp2
  go_ret
  refine ⟨_, _, _, rfl, HW.out _ _ _ rfl (fun i hi => ?_) (hcap _)⟩
  rw [List.getD_eq_getElem?_getD, List.getElem?_eq_getElem hi, Array.getElem?_append_left (by simpa using hi)]
  simp [List.getElem?_eq_getElem hi]
end Go.Proofs.Ythokphoojmpajah
