/- The contracts of impl.literalOf and impl.DecOk at every text. -/
import Derived.Test.YthokphoojmpajahLit7
namespace Go.Proofs.Ythokphoojmpajah
open Go.RowKit Go.Proofs.Pin

def LitV (e : Ending) (b : Bool) : Prop := ∃ o n cap bh dn p, e = .returned (.tuple #[.agg #[.slice o n cap, .int .i64 bh, .bool dn, .int .i64 p], .bool b])
theorem lit_long {s : ByteArray} (h : ¬ s.size ≤ 60) : litB s = false := by simp [litB, h]

theorem literalOf_any (s : ByteArray) (hs : s.size ≤ 1048576) (w : World) :
    Calls Try.prog 7 #[.string s] w fun e w' => LitV e (litB s) ∧ Below w.heap.size w w' := by
  by_cases h60 : s.size ≤ 60
  · have hI : (s.size : Int) ≤ 60 := by omega
    have C : Hid (∀ w0 wx Bl, BoxL wx Bl 27 #[.slice none 0 0, .int .i64 0, .bool false, .int .i64 0] → Below Bl w0 wx → Calls Try.prog 9 #[.string s, .func (.func 10) #[] #[.pointer (some ⟨Bl, 0, none⟩)]] wx (ScanRet s w0 Bl)) := fun w0 wx Bl h1 h2 => scanned_any s h60 w0 wx Bl h1 h2
    clear hs h60
    go_enter Try.func7, Try.ntmps7
    go_wp2_with fail
    have hbox : BoxL ((w.alloc (.cells #[.slice none 0 0, .int .i64 0, .bool false, .int .i64 0] 27)).alloc (.cells #[.slice none 0 0, .int .i64 0, .bool false, .int .i64 0] 27)) (w.heap.size + 1) 27 #[.slice none 0 0, .int .i64 0, .bool false, .int .i64 0] := by
      have h := boxl_new (w.alloc (.cells #[.slice none 0 0, .int .i64 0, .bool false, .int .i64 0] 27)) 27 #[.slice none 0 0, .int .i64 0, .bool false, .int .i64 0]
      simpa using h
    refine Calls.mono (C.out _ _ _ hbox (Below.refl _ _)) ?_
    rintro e w1 ⟨bb, p, m, Bn, A, base, R, rfl, hiff, hp, hm, _, ⟨v, n, bh, dn, zs, hl, hown, _, _⟩, hbel, _⟩
    obtain ⟨o, n', cap, rfl⟩ : ∃ o n' cap, v = .slice o n' cap := by
      rcases hown.2 with ⟨rfl, _⟩ | ⟨g, cap, cur, rfl, _⟩
      · exact ⟨_, _, _, rfl⟩
      · exact ⟨_, _, _, rfl⟩
    have z1 : w.heap.size + 2 ≤ w1.heap.size := by have := hbel.size; simp at this; omega
    have z0 : w.heap.size < w1.heap.size := by omega
    have z2 : w.heap.size + 1 < w1.heap.size := by omega
    have d0 : w1.cell? ⟨w.heap.size, 0, none⟩ = some (.slice none 0 0) := by rw [hbel.cell (p := ⟨w.heap.size, 0, none⟩) (by simp)]; simp [go_sem]
    have d1 : w1.cell? ⟨w.heap.size, 1, none⟩ = some (.int .i64 0) := by rw [hbel.cell (p := ⟨w.heap.size, 1, none⟩) (by simp)]; simp [go_sem]
    have d2 : w1.cell? ⟨w.heap.size, 2, none⟩ = some (.bool false) := by rw [hbel.cell (p := ⟨w.heap.size, 2, none⟩) (by simp)]; simp [go_sem]
    have d3 : w1.cell? ⟨w.heap.size, 3, none⟩ = some (.int .i64 0) := by rw [hbel.cell (p := ⟨w.heap.size, 3, none⟩) (by simp)]; simp [go_sem]
    have f0 : ∀ j, w1.frozen? ⟨w.heap.size, j, none⟩ = false := by
      intro j
      rw [hbel.frozen (p := ⟨w.heap.size, j, none⟩) (by simp)]
      simp [go_sem]
    have e0 := boxl_cell hl 0
    have e1 := boxl_cell hl 1
    have e2 := boxl_cell hl 2
    have e3 := boxl_cell hl 3
    have f1 := boxl_frozen hl
    simp only [List.getElem?_toArray, List.getElem?_cons_zero, List.getElem?_cons_succ] at e0 e1 e2 e3
    have HB : Hid (Below w.heap.size w w1) := (((Below.refl _ w).alloc (Nat.le_refl _) _).alloc (by simp) _).trans (hbel.mono (by simp))
    have HS : Hid ((∀ a b c d, Below w.heap.size w ((((w1.setCell ⟨w.heap.size, 0, none⟩ a).setCell ⟨w.heap.size, 1, none⟩ b).setCell ⟨w.heap.size, 2, none⟩ c).setCell ⟨w.heap.size, 3, none⟩ d))) := fun a b c d => (((HB.out.setCell (p := ⟨w.heap.size, 0, none⟩) (Nat.le_refl _) a).setCell (p := ⟨w.heap.size, 1, none⟩) (Nat.le_refl _) b).setCell (p := ⟨w.heap.size, 2, none⟩) (Nat.le_refl _) c).setCell (p := ⟨w.heap.size, 3, none⟩) (Nat.le_refl _) d
    clear hbel hl hown hbox C HB z1
    cases bb with
    | false =>
      have hlit : Hid (litB s = false) := by
        show _ = _
        rw [← Bool.not_eq_true, ← hiff]
        simp
      clear hiff
      go_wp2
      refine ⟨rfl, .tuple #[.agg #[.slice none 0 0, .int .i64 0, .bool false, .int .i64 0], .bool false], ?_, ⟨_, _, _, _, _, _, by rw [hlit.out]⟩, HS.out _ _ _ _⟩
      clear HS
      simp [results, Try.f7, go_sem, d0, d1, d2, d3]
    | true =>
      by_cases hp4 : p ≤ 400
      · have hlit : Hid (litB s = true) := hiff.1 ⟨rfl, hp4⟩
        clear hiff
        have hpI : (p : Int) ≤ 400 := by omega
        go_wp2
        refine ⟨rfl, .tuple #[.agg #[.slice o n' cap, .int .i64 (bh : Int), .bool dn, .int .i64 (p : Int)], .bool true], ?_, ⟨_, _, _, _, _, _, by rw [hlit.out]⟩, HS.out _ _ _ _⟩
        clear HS
        simp [results, Try.f7, go_sem, d0, d1, d2, d3]
      · have hlit : Hid (litB s = false) := by
          show _ = _
          rw [← Bool.not_eq_true, ← hiff]
          exact fun h => hp4 h.2
        clear hiff
        have hpI : (400 : Int) < (p : Int) := by omega
        go_wp2
        refine ⟨rfl, .tuple #[.agg #[.slice none 0 0, .int .i64 0, .bool false, .int .i64 0], .bool false], ?_, ⟨_, _, _, _, _, _, by rw [hlit.out]⟩, HS.out _ _ _ _⟩
        clear HS
        simp [results, Try.f7, go_sem, d0, d1, d2, d3]
  · rw [lit_long h60]
    have hI : (60 : Int) < (s.size : Int) := by omega
    clear h60
    go_enter Try.func7, Try.ntmps7
    go_wp2
    refine ⟨rfl, .tuple #[.agg #[.slice none 0 0, .int .i64 0, .bool false, .int .i64 0], .bool false], ?_, ⟨_, _, _, _, _, _, rfl⟩, (Below.refl _ w).alloc (Nat.le_refl _) _⟩
    simp [results, Try.f7, go_sem]

theorem implDecOk_any (s : ByteArray) (hs : s.size ≤ 1048576) (w : World) :
    Calls Try.prog 5 #[.string s] w fun e w' => e = .returned (.bool (litB s)) ∧ Below w.heap.size w w' := by
  have C : Hid (∀ wx, Calls Try.prog 7 #[.string s] wx fun e w' => LitV e (litB s) ∧ Below wx.heap.size wx w') := fun wx => literalOf_any s hs wx
  go_enter Try.func5, Try.ntmps5
  go_wp2_with fail
  refine Calls.mono (C.out _) ?_
  rintro e w1 ⟨⟨o, n, cap, bh, dn, p, rfl⟩, hb⟩
  have HB : Hid (∀ cs, Below w.heap.size w (w1.alloc (.cells cs 27))) := fun cs => hb.alloc hb.size _
  clear hb C
  go_wp2
  go_ret
  exact ⟨rfl, HB.out _⟩
end Go.Proofs.Ythokphoojmpajah
