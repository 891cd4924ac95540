/- The contracts of DrawNatPow and DrawNatOf. -/
import Derived.Test.YthokphoojmpajabDrawRaw
import Derived.Deep.RegionWith
import Derived.RangeFuncBox
namespace Go.Proofs.Ythokphoojmpajab
open Go.RowKit Go.Proofs.Pin

def lit8 (v : Int) : Array Value := #[.int .i64 0, .int .i64 1, .int .i64 2, .int .i64 3, .int .i64 v, .int .i64 64, .int .i64 65, .int .i64 (-1)]
theorem lit_at (v : Int) (k : Nat) (hk : k < 8) (h0 : -1 ≤ v) (h1 : v ≤ 65) : ∃ n : Int, (lit8 v)[k]? = some (.int .i64 n) ∧ -1 ≤ n ∧ n ≤ 65 := by
  have hc : k = 0 ∨ k = 1 ∨ k = 2 ∨ k = 3 ∨ k = 4 ∨ k = 5 ∨ k = 6 ∨ k = 7 := by omega
  rcases hc with rfl | rfl | rfl | rfl | rfl | rfl | rfl | rfl
  · exact ⟨0, rfl, by omega, by omega⟩
  · exact ⟨1, rfl, by omega, by omega⟩
  · exact ⟨2, rfl, by omega, by omega⟩
  · exact ⟨3, rfl, by omega, by omega⟩
  · exact ⟨v, rfl, by omega, by omega⟩
  · exact ⟨64, rfl, by omega, by omega⟩
  · exact ⟨65, rfl, by omega, by omega⟩
  · exact ⟨-1, rfl, by omega, by omega⟩
theorem lit_cell {v : Int} {k : Nat} {n : Int} (h : (lit8 v)[k]? = some (.int .i64 n)) (W : World) : (W.alloc (.cells #[.int .i64 0, .int .i64 1, .int .i64 2, .int .i64 3, .int .i64 v, .int .i64 64, .int .i64 65, .int .i64 (-1)] 3)).cell? ⟨W.heap.size, k, none⟩ = some (.int .i64 n) := by
  have e := World.alloc_heap_new W (.cells #[.int .i64 0, .int .i64 1, .int .i64 2, .int .i64 3, .int .i64 v, .int .i64 64, .int .i64 65, .int .i64 (-1)] 3)
  unfold lit8 at h
  unfold World.cell?
  rw [e]
  simpa using h
theorem Rd.drew {w : World} {g : Nat} {b : Option Addr} {lb cb : Nat} {bs : List Int} {p : Nat} (h : Rd w g b lb cb bs p) : Rd w.drew g b lb cb bs p := ⟨h.box, h.len, h.le, h.sl, h.byt, h.ap⟩

set_option maxRecDepth 20000 in
set_option maxHeartbeats 4000000 in
theorem drawPow_any (a : Option Addr) (len cap : Nat) (bs : List Int) (w : World) (h : SlU w a bs) (hb : ByteL bs) (hl : bs.length = len) (hl2 : len ≤ 1048576) (hcap : len ≤ cap) :
    Calls Try.prog 5 #[.slice a len cap] w fun e w' => ∃ r cr zs n, e = .returned (.tuple #[.slice r zs.length cr, .int .i64 n]) ∧ OwnI w' w.heap.size r cr zs ∧ zs.length ≤ 257 ∧ -1 ≤ n ∧ n ≤ 65 ∧ Below w.heap.size w w' := by
  have C0 : Hid _ := open_any a len cap bs w h hb hl hl2 hcap
  clear h hb hl
  go_enter Try.func5, Try.ntmps5
  go_wp2_with fail
  refine Calls.mono C0.out ?_
  rintro e w1 ⟨g, lb, bs', rfl, hg, R1, B1⟩
  have C1 : Hid _ := raw_any g a lb cap bs' 0 w1 R1 (by omega)
  have hgl := R1.lt.1
  clear C0 R1
  go_wp2_with fail
  refine Calls.mono C1.out ?_
  rintro e w2 ⟨r, cr, zs, p2, rfl, o2, hz, _, R2, hp2, g2⟩
  have C2 : Hid _ := pick_any g a lb cap bs' p2 3 w2 R2 (by omega) (by omega) (by omega)
  have B2 : Below w.heap.size w w2 := B1.grown g2 B1.size (fun k hk => by cases hk; exact hg)
  have z2 := g2.size
  have zB := B1.size
  clear C1 R2 g2 B1
  go_wp2_with fail
  refine Calls.mono C2.out ?_
  rintro e w3 ⟨v, rfl, hv0, hv1, R3, g3⟩
  have B3 : Below w.heap.size w w3 := B2.grown g3 B2.size (fun k hk => by cases hk; exact hg)
  have o3 : OwnI w3 w1.heap.size r cr zs := o2.keptR g3 (fun k hk j hj e => by cases hk; have := own_ge o2 j hj; omega)
  have z3 := g3.size
  clear C2 o2 g3 B2
  have hgn0 : ∀ k, r.map (·.block) = some k → k ≠ g := fun k hk e => by have := own_ge o3 k hk; omega
  have H3 : Hid (OwnI w3 w.heap.size r cr zs ∧ Rd w3 g a lb cap bs' (p2 + 1) ∧ Below w.heap.size w w3) := ⟨o3.mono zB, R3, B3⟩
  have CP : Hid (∀ (wr : World) (p' : Nat) (n : Int), Rd wr g a lb cap bs' p' → p' ≤ 1000000 → 1 ≤ n → n ≤ 65536 → Below w.heap.size w wr → Calls Try.prog 20 #[.pointer (some ⟨g, 0, none⟩), .int .i64 n] wr fun e w' => ∃ v : Nat, e = .returned (.int .i64 (v : Int)) ∧ (v : Int) < n ∧ Rd w' g a lb cap bs' (p' + 1) ∧ Below w.heap.size w w' ∧ wr.grownBy w' (some g)) := fun wr p' n hr hp hn1 hn2 hB => (pick_any g a lb cap bs' p' n wr hr hp hn1 hn2).mono fun e w' ⟨v, h1, h2, h3, h4, h5⟩ => ⟨v.toNat, by rw [h1]; congr 2; omega, by omega, h4, hB.grown h5 hB.size (fun k hk => by cases hk; exact hg), h5⟩
  clear o3 R3 B3
  go_upto_if 12 with fail
  go_cut [5] from 12 (fun v wx => ∃ (r : Option Addr) (cr : Nat) (zs : List Int) (p' : Nat), v = .slice r zs.length cr ∧ zs.length ≤ 257 ∧ OwnI wx w.heap.size r cr zs ∧ (∀ k, r.map (·.block) = some k → k ≠ g) ∧ Rd wx g a lb cap bs' p' ∧ p' ≤ 1000 ∧ Below w.heap.size w wx)
  case first =>
    by_cases hv : 0 < v
    · go_wp2_with fail
      refine Calls.mono (CP.out w3 (p2 + 1) 30 H3.out.2.1 (by omega) (by omega) (by omega) H3.out.2.2) ?_
      rintro e w4 ⟨v4, rfl, hv4, R4, B4, g4⟩
      go_wp2_with fail
      refine (specOf_any v4 w4 (by omega)).mono ?_
      rintro e w5 ⟨a5, c5, rfl, o5, b5⟩
      have hl : (dgs v4).length ≤ 1 := (dgs_len_iff v4 1).2 (by omega)
      have R5 : Rd w5 g a lb cap bs' (p2 + 1 + 1) := R4.kept (row := none) ⟨b5.os, b5.tape, b5.output, b5.size, fun k hk _ => b5.block k hk⟩ (by simp) (by simp)
      have B5 : Below w.heap.size w w5 := B4.trans (b5.mono B4.size)
      have hgn : ∀ k, a5.map (·.block) = some k → k ≠ g := fun k hk e => by have := own_ge o5 k hk; have := R4.lt.1; omega
      have o5' := o5.mono B4.size
      obtain ⟨V, hV⟩ : ∃ V, V = dgs v4 := ⟨_, rfl⟩
      rw [← hV] at o5' hl ⊢
      clear hV o5 b5 R4 g4
      go_wp2_with fail
      go_meet
      exact ⟨a5, c5, V, _, rfl, by omega, o5', hgn, R5, by omega, B5⟩
    · have hgn := hgn0
      go_wp2_with fail
      go_meet
      exact ⟨r, cr, zs, _, rfl, hz, H3.out.1, hgn, H3.out.2.1, by omega, H3.out.2.2⟩
  case rest =>
    obtain ⟨r', cr', zs', p', rfl, hz', ho, hgn, R, hp', B⟩ := hcut
    have H4 : Hid (OwnI wc w.heap.size r' cr' zs' ∧ Rd wc g a lb cap bs' p' ∧ Below w.heap.size w wc) := ⟨ho, R, B⟩
    clear ho R B
    go_wp2_with fail
    go_region_with (first | (go_at_call_of 20 (Value.int IntKind.i64 30); refine Calls.mono (CP.out _ p' 30 (Rd.drew H4.out.2.1) (by omega) (by omega) (by omega) (below_dN H4.out.2.2 1)) ?_; rintro e w5 ⟨v5, rfl, hv5, R5, B5, g5⟩) | (go_at_call 20; refine Calls.mono (CP.out _ (p' + 1) 8 (by first | exact R5 | exact R5.kept (World.grownBy_alloc _ _ none) (by simp) (by simp)) (by omega) (by omega) (by omega) (by first | exact B5 | exact B5.alloc B5.size _)) ?_; rintro e w6 ⟨v6, rfl, hv6, R6, B6, g6⟩; obtain ⟨n, hn, hn0, hn1⟩ := lit_at (v5 : Int) v6 (by omega) (by omega) (by omega); have hlit := fun W => lit_cell hn W; have z6 := g6.size; have R5g := R5.lt.1; (try (have hc6 := World.grownBy.cell g6 (lit_cell hn w5) (fun e => by simp at e; omega))); have O6 : Hid (OwnI w6 w.heap.size r' cr' zs' ∧ Below w.heap.size w w6) := ⟨(by have o4 : OwnI wc.drew w.heap.size r' cr' zs' := H4.out.1; have o5 := o4.keptR g5 (fun k hk j hj e => by cases hk; exact hgn j hj e); first | exact o5.keptR g6 (fun k hk j hj e => by cases hk; exact hgn j hj e) | exact (o5.kept (World.grownBy_alloc _ _ none) (fun _ _ e => by cases e)).keptR g6 (fun k hk j hj e => by cases hk; exact hgn j hj e)), B6⟩))
    all_goals
      go_wp2
      go_ret2
      first | exact ⟨r', cr', zs', n, rfl, O6.out.1, hz', hn0, hn1, O6.out.2⟩ | exact ⟨r', cr', zs', n, rfl, O6.out.1.kept (World.grownBy_alloc _ _ none) (fun _ _ e => by cases e), hz', hn0, hn1, O6.out.2.alloc O6.out.2.size _⟩
end Go.Proofs.Ythokphoojmpajab
