/- The contracts of l4Rd.raw and l4Open: some list of ints, in a row of the call's own; the reader goes on. -/
import Derived.Test.YthokphoojmpajabDoorDrawNat
import Derived.Deep.LoopGhost
namespace Go.Proofs.YthokphoojmpajabDoor
open Go.RowKit Go.Proofs.Pin

/-- What a drawn list holds. -/
def RawB (zs : List Int) : Prop := ∀ i, -1 ≤ zs.getD i 0 ∧ zs.getD i 0 ≤ 65536
theorem RawB.of {zs : List Int} (h : Dg zs) : RawB zs := fun i => by have := h.at i; omega
theorem RawB.snoc {zs : List Int} {v : Int} (h : RawB zs) (h0 : -1 ≤ v) (h1 : v ≤ 65536) : RawB (zs ++ [v]) := fun i => by
  have hi := h i
  rcases Nat.lt_trichotomy i zs.length with hl | hl | hl
  · simpa [List.getD_eq_getElem?_getD, List.getElem?_append_left hl] using hi
  · subst hl
    simp [List.getD_eq_getElem?_getD]
    omega
  · have : (zs ++ [v])[i]? = none := List.getElem?_eq_none (by simp; omega)
    simp [List.getD_eq_getElem?_getD, this]
theorem RawB.take {zs : List Int} (h : RawB zs) (k : Nat) : RawB (zs.take k) := fun i => by
  have hi := h i
  by_cases hk : i < k
  · simpa [List.getD_eq_getElem?_getD, List.getElem?_take, hk] using hi
  · simp [List.getD_eq_getElem?_getD, List.getElem?_take, hk]

set_option maxRecDepth 20000 in
set_option maxHeartbeats 2000000 in
theorem raw_any (g : Nat) (b : Option Addr) (lb cb : Nat) (bs : List Int) (p : Nat) (w : World) (h : Rd w g b lb cb bs p) (hp : p ≤ 800000) :
    Calls Tryd.prog 63 #[.pointer (some ⟨g, 0, none⟩)] w fun e w' => ∃ r cr zs p', e = .returned (.slice r zs.length cr) ∧ OwnI w' w.heap.size r cr zs ∧ zs.length ≤ 257 ∧ RawB zs ∧ Rd w' g b lb cb bs p' ∧ p' ≤ p + 700 ∧ w.grownBy w' (some g) := by
  obtain ⟨i0, hi, hz0, hz1, hz2⟩ := info_parts Tryd.info3
  obtain ⟨hgl, hbl⟩ := h.lt
  have HBL : Hid (∀ x, b = some x → bs ≠ [] → x.block < w.heap.size) := hbl
  have CN : Hid (Calls Tryd.prog 19 #[.pointer (some ⟨g, 0, none⟩)] w fun e w' => ∃ r cr zs p', e = .returned (.slice r zs.length cr) ∧ OwnI w' w.heap.size r cr zs ∧ zs.length ≤ 256 ∧ RawB zs ∧ Rd w' g b lb cb bs p' ∧ p' ≤ p + 600 ∧ w.grownBy w' (some g)) := (nat_any g b lb cb bs p w h (by omega)).mono fun e w' ⟨r, cr, x, p', h1, h2, h3, h4, h5, h6⟩ => ⟨r, cr, dgs x, p', h1, h2, h3, RawB.of (Dg_dgs x), h4, h5, h6⟩
  have CP : Hid (∀ (wr : World) (p' : Nat) (n : Int), Rd wr g b lb cb bs p' → p' ≤ 1000000 → 1 ≤ n → n ≤ 65536 → w.grownBy wr (some g) → Calls Tryd.prog 41 #[.pointer (some ⟨g, 0, none⟩), .int .i64 n] wr fun e w' => ∃ v : Nat, e = .returned (.int .i64 (v : Int)) ∧ (v : Int) < n ∧ Rd w' g b lb cb bs (p' + 1) ∧ w.grownBy w' (some g) ∧ wr.grownBy w' (some g)) := fun wr p' n hr hp hn1 hn2 hgr => (pick_any g b lb cb bs p' n wr hr hp hn1 hn2).mono fun e w' ⟨v, h1, h2, h3, h4, h5⟩ => ⟨v.toNat, by rw [h1]; congr 2; omega, by omega, h4, grown_two hgr h5, h5⟩
  clear h hbl
  go_enter Tryd.func63, Tryd.ntmps63
  go_wp2_with fail
  refine Calls.mono CN.out ?_
  rintro e w1 ⟨a, cap, zs, q, rfl, o1, hl1, hrb, r1, hq1, g1⟩
  go_wp2_with fail
  refine Calls.mono (CP.out w1 q 80 r1 (by omega) (by omega) (by omega) g1) ?_
  rintro e w2 ⟨v, rfl, hv, r2, g2, t2⟩
  have HR2 : Hid (Rd w2 g b lb cb bs (q + 1) ∧ w.grownBy w2 (some g)) := ⟨r2, g2⟩
  have hown : OwnI w2 w.heap.size a cap zs := o1.keptR t2 (fun k hk j hj e => by cases hk; have := own_ge o1 j hj; omega)
  clear o1 r1 g1 r2 g2 t2 CN
  have hcase : v = 0 ∨ v = 1 ∨ v = 2 ∨ v = 3 ∨ 4 ≤ v := by omega
  rcases hcase with rfl | rfl | rfl | rfl | hge
  · skip
    go_wp2_with (at_builtin; refine wpList_append_own _ rfl _ _ 23 rfl w.heap.size 3 i0 (.int .i64 0) 1 8 Tryd.underlying23 hi hz0 hz1 hz2 rfl (by decide) _ _ _ rfl (hown.alloc _) ⟨w2.heap.size, 0, none⟩ 1 1 [.int .i64 0] rfl rfl (cell_one_new _ _ _) (by simp [Value.oneCell']) ?c3 ?c4 ?c5 ?_)
    case c3 => unfold maxLen; omega
    case c4 => omega
    case c5 => have := HR2.out.2.size; simp; omega
    intro v' w8 hown' hgrow _
    obtain ⟨a8, c8, rfl, ho8⟩ := OwnI.of_row (zs := zs ++ [0]) (by rw [List.map_append]; exact hown')
    have hrow8 : ∀ j, (Value.slice a zs.length cap).ownBlock = some j → w.heap.size ≤ j := ownBlock_ge hown
    have hr8 : Rd w8 g b lb cb bs (q + 1) := (HR2.out.1.kept (World.grownBy_alloc w2 _ none) (by simp) (by simp)).kept hgrow (fun e => by have := hrow8 g e.symm; omega) (fun x hx hne e => by have := hrow8 _ e.symm; have := HBL.out x hx hne; omega)
    have hg8 : w.grownBy w8 (some g) := grown_new (grown_new HR2.out.2 (World.grownBy_alloc w2 _ none) (fun _ e => by cases e)) hgrow hrow8
    have H8 : Hid (OwnI w8 w.heap.size a8 c8 (zs ++ [0]) ∧ Rd w8 g b lb cb bs (q + 1) ∧ w.grownBy w8 (some g)) := ⟨ho8, hr8, hg8⟩
    clear hown' hgrow ho8 hrow8 hr8 hg8 hown
    go_wp2
    go_ret
    exact ⟨a8, c8, zs ++ [0], q + 1, rfl, H8.out.1, by simp; omega, hrb.snoc (by omega) (by omega), H8.out.2.1, by omega, H8.out.2.2⟩
  · skip
    go_wp2_with (at_builtin; refine wpList_append_own _ rfl _ _ 23 rfl w.heap.size 3 i0 (.int .i64 0) 1 8 Tryd.underlying23 hi hz0 hz1 hz2 rfl (by decide) _ _ _ rfl (hown.alloc _) ⟨w2.heap.size, 0, none⟩ 1 1 [.int .i64 65536] rfl rfl (cell_one_new _ _ _) (by simp [Value.oneCell']) ?c3 ?c4 ?c5 ?_)
    case c3 => unfold maxLen; omega
    case c4 => omega
    case c5 => have := HR2.out.2.size; simp; omega
    intro v' w8 hown' hgrow _
    obtain ⟨a8, c8, rfl, ho8⟩ := OwnI.of_row (zs := zs ++ [65536]) (by rw [List.map_append]; exact hown')
    have hrow8 : ∀ j, (Value.slice a zs.length cap).ownBlock = some j → w.heap.size ≤ j := ownBlock_ge hown
    have hr8 : Rd w8 g b lb cb bs (q + 1) := (HR2.out.1.kept (World.grownBy_alloc w2 _ none) (by simp) (by simp)).kept hgrow (fun e => by have := hrow8 g e.symm; omega) (fun x hx hne e => by have := hrow8 _ e.symm; have := HBL.out x hx hne; omega)
    have hg8 : w.grownBy w8 (some g) := grown_new (grown_new HR2.out.2 (World.grownBy_alloc w2 _ none) (fun _ e => by cases e)) hgrow hrow8
    have H8 : Hid (OwnI w8 w.heap.size a8 c8 (zs ++ [65536]) ∧ Rd w8 g b lb cb bs (q + 1) ∧ w.grownBy w8 (some g)) := ⟨ho8, hr8, hg8⟩
    clear hown' hgrow ho8 hrow8 hr8 hg8 hown
    go_wp2
    go_ret
    exact ⟨a8, c8, zs ++ [65536], q + 1, rfl, H8.out.1, by simp; omega, hrb.snoc (by omega) (by omega), H8.out.2.1, by omega, H8.out.2.2⟩
  · skip
    go_wp2_with (at_builtin; refine wpList_append_own _ rfl _ _ 23 rfl w.heap.size 3 i0 (.int .i64 0) 1 8 Tryd.underlying23 hi hz0 hz1 hz2 rfl (by decide) _ _ _ rfl (hown.alloc _) ⟨w2.heap.size, 0, none⟩ 1 1 [.int .i64 (-1)] rfl rfl (cell_one_new _ _ _) (by simp [Value.oneCell']) ?c3 ?c4 ?c5 ?_)
    case c3 => unfold maxLen; omega
    case c4 => omega
    case c5 => have := HR2.out.2.size; simp; omega
    intro v' w8 hown' hgrow _
    obtain ⟨a8, c8, rfl, ho8⟩ := OwnI.of_row (zs := zs ++ [(-1)]) (by rw [List.map_append]; exact hown')
    have hrow8 : ∀ j, (Value.slice a zs.length cap).ownBlock = some j → w.heap.size ≤ j := ownBlock_ge hown
    have hr8 : Rd w8 g b lb cb bs (q + 1) := (HR2.out.1.kept (World.grownBy_alloc w2 _ none) (by simp) (by simp)).kept hgrow (fun e => by have := hrow8 g e.symm; omega) (fun x hx hne e => by have := hrow8 _ e.symm; have := HBL.out x hx hne; omega)
    have hg8 : w.grownBy w8 (some g) := grown_new (grown_new HR2.out.2 (World.grownBy_alloc w2 _ none) (fun _ e => by cases e)) hgrow hrow8
    have H8 : Hid (OwnI w8 w.heap.size a8 c8 (zs ++ [(-1)]) ∧ Rd w8 g b lb cb bs (q + 1) ∧ w.grownBy w8 (some g)) := ⟨ho8, hr8, hg8⟩
    clear hown' hgrow ho8 hrow8 hr8 hg8 hown
    go_wp2
    go_ret
    exact ⟨a8, c8, zs ++ [(-1)], q + 1, rfl, H8.out.1, by simp; omega, hrb.snoc (by omega) (by omega), H8.out.2.1, by omega, H8.out.2.2⟩
  · have HO : Hid (OwnI w2 w.heap.size a cap zs) := hown
    clear hown
    go_wp2
    go_loopg [3] (257 - zs.length) (fun k v wr => ∃ (ls : List Int) (a' : Option Addr) (cap' : Nat), k = 257 - ls.length ∧ v = .slice a' ls.length cap' ∧ ls.length ≤ 257 ∧ RawB ls ∧ OwnI wr w.heap.size a' cap' ls ∧ Rd wr g b lb cb bs (q + 1) ∧ w.grownBy wr (some g))
    case atStart => exact ⟨zs, a, cap, rfl, rfl, by omega, hrb, HO.out, HR2.out.1, HR2.out.2⟩
    case round =>
      obtain ⟨ls, a', cap', hgk, rfl, hll, hlb, hown, hr, hg⟩ := hrel
      have HRr : Hid (Rd wr g b lb cb bs (q + 1) ∧ w.grownBy wr (some g)) := ⟨hr, hg⟩
      clear hr hg HO
      by_cases hlt : ls.length ≤ 256
      · have hltI : (ls.length : Int) ≤ 256 := by omega
        go_wp2_with (at_builtin; refine wpList_append_own _ rfl _ _ 23 rfl w.heap.size 3 i0 (.int .i64 0) 1 8 Tryd.underlying23 hi hz0 hz1 hz2 rfl (by decide) _ _ _ rfl (hown.alloc _) ⟨wr.heap.size, 0, none⟩ 1 1 [.int .i64 1] rfl rfl (cell_one_new _ _ _) (by simp [Value.oneCell']) ?c3 ?c4 ?c5 ?_)
        case c3 => unfold maxLen; omega
        case c4 => omega
        case c5 => have := HRr.out.2.size; simp; omega
        intro v' w8 hown' hgrow _
        obtain ⟨a8, c8, rfl, ho8⟩ := OwnI.of_row (zs := ls ++ [1]) (by rw [List.map_append]; exact hown')
        have hrow8 : ∀ j, (Value.slice a' ls.length cap').ownBlock = some j → w.heap.size ≤ j := ownBlock_ge hown
        have hr8 : Rd w8 g b lb cb bs (q + 1) := (HRr.out.1.kept (World.grownBy_alloc wr _ none) (by simp) (by simp)).kept hgrow (fun e => by have := hrow8 g e.symm; omega) (fun x hx hne e => by have := hrow8 _ e.symm; have := HBL.out x hx hne; omega)
        have hg8 : w.grownBy w8 (some g) := grown_new (grown_new HRr.out.2 (World.grownBy_alloc wr _ none) (fun _ e => by cases e)) hgrow hrow8
        have H8 : Hid (OwnI w8 w.heap.size a8 c8 (ls ++ [1]) ∧ Rd w8 g b lb cb bs (q + 1) ∧ w.grownBy w8 (some g)) := ⟨ho8, hr8, hg8⟩
        clear hown' hgrow ho8 hrow8 hr8 hg8 hown
        go_wp2
        go_roundg (257 - (ls ++ [1]).length)
        case measure => simp; omega
        case rel => exact ⟨ls ++ [1], a8, c8, rfl, rfl, by simp; omega, hlb.snoc (by omega) (by omega), H8.out.1, H8.out.2.1, H8.out.2.2⟩
      · have hltI : ¬ (ls.length : Int) ≤ 256 := by omega
        have HO2 : Hid (OwnI wr w.heap.size a' cap' ls) := hown
        clear hown
        go_wp2
        go_ret
        exact ⟨a', cap', ls, rfl, HO2.out, hll, hlb, q + 1, HRr.out.1, by omega, HRr.out.2⟩
  · have HO : Hid (OwnI w2 w.heap.size a cap zs) := hown
    have e0 : ((v : Int) == 0) = false := by simp; omega
    have e1 : ((v : Int) == 1) = false := by simp; omega
    have e2 : ((v : Int) == 2) = false := by simp; omega
    have e3 : ((v : Int) == 3) = false := by simp; omega
    clear hown
    go_wp2
    go_ret
    exact ⟨a, cap, zs, q + 1, rfl, HO.out, by omega, hrb, HR2.out.1, by omega, HR2.out.2⟩

set_option maxRecDepth 20000 in
/-- l4Open: a reader of at most 2000 bytes of the code, at its beginning. -/
theorem open_any (a : Option Addr) (len cap : Nat) (bs : List Int) (w : World) (h : SlU w a bs) (hb : ByteL bs) (hl : bs.length = len) (hl2 : len ≤ 1048576) (hcap : len ≤ cap) :
    Calls Tryd.prog 17 #[.slice a len cap] w fun e w' => ∃ g lb bs', e = .returned (.pointer (some ⟨g, 0, none⟩)) ∧ w.heap.size ≤ g ∧ Rd w' g a lb cap bs' 0 ∧ Below w.heap.size w w' := by
  by_cases hgt : 2000 < len
  · have hgI : (2000 : Int) < len := by omega
    have hR : ∀ w' g, w.heap.size ≤ g → Below w.heap.size w w' → w'.heap[g]? = some (.cells #[.slice a 2000 cap, .int .i64 0] 72 (0, 0)) → Rd w' g a 2000 cap (bs.take 2000) 0 := by
      intro w' g hg hB hbox
      refine ⟨hbox, by simp; omega, Nat.le_refl _, ?_, fun i => ?_, fun x hx hne e => ?_⟩
      · rcases h with h0 | ⟨b0, off, he, hlt, hc⟩
        · rw [h0] at hl; simp at hl; omega
        · refine .inr ⟨b0, off, he, Nat.lt_of_lt_of_le hlt hB.size, fun i hi => ?_⟩
          have hi2 : i < 2000 := by rw [List.length_take] at hi; omega
          have hi3 : i < bs.length := by rw [List.length_take] at hi; omega
          rw [hB.cell (p := ⟨b0, off + i, none⟩) hlt, hc i hi3]
          simp [List.getD_eq_getElem?_getD, hi2]
      · have := hb i
        by_cases hi : i < 2000
        · simpa [List.getD_eq_getElem?_getD, List.getElem?_take, hi] using this
        · simp [List.getD_eq_getElem?_getD, List.getElem?_take, hi]
      · rcases h with h0 | ⟨b0, off, he, hlt, hc⟩
        · rw [h0] at hl; simp at hl; omega
        · rw [hx] at he; cases he; simp at e; omega
    have HR : Hid _ := hR
    clear hR h hb
    go_enter Tryd.func17, Tryd.ntmps17
    go_wp2
    go_ret
    have hB : Below w.heap.size w (w.alloc (.cells #[.slice a 2000 cap, .int .i64 0] 72)) := (Below.refl _ w).alloc (Nat.le_refl _) _
    exact ⟨w.heap.size, 2000, bs.take 2000, rfl, Nat.le_refl _, HR.out _ _ (Nat.le_refl _) hB (World.alloc_heap_new _ _), hB⟩
  · have hgI : ¬ (2000 : Int) < len := by omega
    have hR : ∀ w' g, w.heap.size ≤ g → Below w.heap.size w w' → w'.heap[g]? = some (.cells #[.slice a len cap, .int .i64 0] 72 (0, 0)) → Rd w' g a len cap bs 0 := by
      intro w' g hg hB hbox
      refine ⟨hbox, hl, by omega, ?_, hb, fun x hx hne e => ?_⟩
      · rcases h with h0 | ⟨b0, off, he, hlt, hc⟩
        · exact .inl h0
        · exact .inr ⟨b0, off, he, Nat.lt_of_lt_of_le hlt hB.size, fun i hi => (hB.cell (p := ⟨b0, off + i, none⟩) hlt).trans (hc i hi)⟩
      · rcases h with h0 | ⟨b0, off, he, hlt, hc⟩
        · exact hne h0
        · rw [hx] at he; cases he; simp at e; omega
    have HR : Hid _ := hR
    clear hR h hb
    go_enter Tryd.func17, Tryd.ntmps17
    go_wp2
    go_ret
    have hB : Below w.heap.size w (w.alloc (.cells #[.slice a len cap, .int .i64 0] 72)) := (Below.refl _ w).alloc (Nat.le_refl _) _
    exact ⟨w.heap.size, rfl, Nat.le_refl _, ⟨len, bs, HR.out _ _ (Nat.le_refl _) hB (World.alloc_heap_new _ _)⟩, hB⟩
end Go.Proofs.YthokphoojmpajabDoor
