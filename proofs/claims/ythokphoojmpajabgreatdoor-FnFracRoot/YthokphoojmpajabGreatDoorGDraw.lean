/- The reader of a drawn code: l4Rd.pick gives a number below its bound and turns its own place alone. The contract of l4Rd.nat: some number, in a row of the call's own; the reader goes on. The contracts of l4Rd.raw and l4Open: some list of ints, in a row of the call's own; the reader goes on. -/
import Derived.Test.YthokphoojmpajabGreatDoorGEq
import Derived.RangeFuncBox
import Derived.Deep.QuietTactic
import Derived.BigQuiet
import Derived.Test.YthokphoojmpajabGreatDoorGDivs
import Derived.Test.YthokphoojmpajabGreatDoorGNum
import Derived.Deep.CutRange
import Derived.Deep.LoopGhost
namespace Go.Proofs.YthokphoojmpajabGreatDoor
open Go.RowKit Go.Proofs.Pin

/-- A slice of bytes that can be read. -/
def SlU (w : World) (a : Option Addr) (bs : List Int) : Prop :=
  bs = [] ∨ ∃ b off, a = some ⟨b, off, none⟩ ∧ b < w.heap.size ∧ ∀ i, i < bs.length → w.cell? ⟨b, off + i, none⟩ = some (.int .u8 (bs.getD i 0))
def ByteL (bs : List Int) : Prop := ∀ i, 0 ≤ bs.getD i 0 ∧ bs.getD i 0 < 256
/-- The reader: its code and its place. -/
structure Rd (w : World) (g : Nat) (b : Option Addr) (lb cb : Nat) (bs : List Int) (p : Nat) : Prop where
  box : w.heap[g]? = some (.cells #[.slice b lb cb, .int .i64 (p : Int)] 74 (0, 0))
  len : bs.length = lb
  le : lb ≤ 2000
  sl : SlU w b bs
  byt : ByteL bs
  ap : ∀ x, b = some x → bs ≠ [] → x.block ≠ g

theorem Rd.cells {w : World} {g : Nat} {b : Option Addr} {lb cb : Nat} {bs : List Int} {p : Nat} (h : Rd w g b lb cb bs p) : w.cell? ⟨g, 0, none⟩ = some (.slice b lb cb) ∧ w.cell? ⟨g, 1, none⟩ = some (.int .i64 (p : Int)) ∧ (∀ j, w.frozen? ⟨g, j, none⟩ = false) ∧ g < w.heap.size := by
  have e := h.box
  refine ⟨by simp [World.cell?, e], by simp [World.cell?, e], fun j => by simp [World.frozen?, e], (Array.getElem?_eq_some_iff.1 e).1⟩

theorem Rd.set {w : World} {g : Nat} {b : Option Addr} {lb cb : Nat} {bs : List Int} {p : Nat} (h : Rd w g b lb cb bs p) (q : Nat) : Rd (w.setCell ⟨g, 1, none⟩ (.int .i64 (q : Int))) g b lb cb bs q ∧ w.grownBy (w.setCell ⟨g, 1, none⟩ (.int .i64 (q : Int))) (some g) := by
  have hg : w.grownBy (w.setCell ⟨g, 1, none⟩ (.int .i64 (q : Int))) (some g) := ⟨rfl, rfl, rfl, by simp, fun k _ hk => Below.heap_setCell _ _ _ _ (fun e => hk (by simp [e]))⟩
  refine ⟨⟨?_, h.len, h.le, ?_, h.byt, h.ap⟩, hg⟩
  · obtain ⟨hlt, hk⟩ := Array.getElem?_eq_some_iff.1 h.box
    show (w.heap.modify g _)[g]? = _
    rw [Array.getElem?_modify, if_pos rfl, h.box]
    rfl
  · rcases h.sl with h0 | ⟨b0, off, he, hlt, hc⟩
    · exact .inl h0
    · refine .inr ⟨b0, off, he, Nat.lt_of_lt_of_le hlt hg.size, fun i hi => hg.cell (hc i hi) (fun e => ?_)⟩
      have hne : bs ≠ [] := by intro e0; rw [e0] at hi; simp at hi
      exact h.ap _ he hne (by simpa using e)

theorem Rd.dN {w : World} {g : Nat} {b : Option Addr} {lb cb : Nat} {bs : List Int} {p : Nat} (h : Rd w g b lb cb bs p) (q : Nat) : Rd (w.drewN q) g b lb cb bs p := ⟨h.box, h.len, h.le, h.sl, h.byt, h.ap⟩
theorem gr_dN {w wr : World} {row : Option Nat} (h : w.grownBy wr row) (q : Nat) : w.grownBy (wr.drewN q) row := ⟨h.os, h.tape, h.output, h.size, h.block⟩
/-- '^' of two numbers that are not below 0 is not. -/
theorem xor_pos {x y : Int} (hx0 : 0 ≤ x) (hx1 : x < 4611686018427387904) (hy0 : 0 ≤ y) (hy1 : y < 4611686018427387904) : 0 ≤ bits .xor .i64 x y := by
  show 0 ≤ IntKind.i64.wrap ((BitVec.ofInt 64 x ^^^ BitVec.ofInt 64 y).toNat : Int)
  have ex : (BitVec.ofInt 64 x).toNat = x.toNat := by rw [BitVec.toNat_ofInt]; omega
  have ey : (BitVec.ofInt 64 y).toNat = y.toNat := by rw [BitVec.toNat_ofInt]; omega
  rw [BitVec.toNat_xor, ex, ey]
  have h : x.toNat ^^^ y.toNat < 2 ^ 62 := Nat.xor_lt_two_pow (by omega) (by omega)
  simp [IntKind.wrap, IntKind.bits, IntKind.signed]
  omega

set_option maxRecDepth 20000 in
theorem pick_any (g : Nat) (b : Option Addr) (lb cb : Nat) (bs : List Int) (p : Nat) (n : Int) (w : World) (h : Rd w g b lb cb bs p) (hp : p ≤ 1000000) (hn1 : 1 ≤ n) (hn2 : n ≤ 65536) :
    Calls Tryz.prog 25 #[.pointer (some ⟨g, 0, none⟩), .int .i64 n] w fun e w' => ∃ v : Int, e = .returned (.int .i64 v) ∧ 0 ≤ v ∧ v < n ∧ Rd w' g b lb cb bs (p + 1) ∧ w.grownBy w' (some g) := by
  obtain ⟨c0, c1, f, hg⟩ := h.cells
  have HS : Hid (Rd (w.setCell ⟨g, 1, none⟩ (.int .i64 ((p : Int) + 1))) g b lb cb bs (p + 1) ∧ w.grownBy (w.setCell ⟨g, 1, none⟩ (.int .i64 ((p : Int) + 1))) (some g)) := h.set (p + 1)
  have hle := h.le
  have hlen := h.len
  by_cases h0 : lb = 0
  · subst h0
    clear h
    go_enter Tryz.func25, Tryz.ntmps25
    go_wp2
    go_ret
    exact ⟨0, rfl, by omega, by omega, HS.out.1, HS.out.2⟩
  · obtain ⟨b0, off, he, hlt, hc⟩ : ∃ b0 off, b = some ⟨b0, off, none⟩ ∧ b0 < w.heap.size ∧ ∀ i, i < bs.length → w.cell? ⟨b0, off + i, none⟩ = some (.int .u8 (bs.getD i 0)) := by
      rcases h.sl with h1 | h1
      · rw [h1] at hlen; simp at hlen; omega
      · exact h1
    subst he
    have hne : ¬ b0 = g := h.ap _ rfl (by intro e; rw [e] at hlen; simp at hlen; omega)
    have hne' : ¬ g = b0 := fun e => hne e.symm
    have hbI : ((lb : Int) == 0) = false := by simp; omega
    by_cases hpl : p < lb
    · have hc1 := hc p (by omega)
      obtain ⟨z, hz⟩ : ∃ z, z = bs.getD p 0 := ⟨_, rfl⟩
      have hzb := h.byt p
      rw [← hz] at hc1 hzb
      clear h hc hz
      have hpI : (p : Int) < lb := by omega
      go_enter Tryz.func25, Tryz.ntmps25
      go_wp2
      go_ret
      exact ⟨_, rfl, Int.emod_nonneg _ (by omega), Int.emod_lt_of_pos _ (by omega), HS.out.1, HS.out.2⟩
    · obtain ⟨k1, hk1⟩ : ∃ k1, k1 = p % lb := ⟨_, rfl⟩
      obtain ⟨k2, hk2⟩ : ∃ k2, k2 = (p * 7 + 3) % lb := ⟨_, rfl⟩
      have hk1l : k1 < lb := by rw [hk1]; exact Nat.mod_lt _ (by omega)
      have hk2l : k2 < lb := by rw [hk2]; exact Nat.mod_lt _ (by omega)
      have hc1 := hc k1 (by omega)
      have hc2 := hc k2 (by omega)
      have hz1b := h.byt k1
      have hz2b := h.byt k2
      obtain ⟨z1, hz1⟩ : ∃ z, z = bs.getD k1 0 := ⟨_, rfl⟩
      obtain ⟨z2, hz2⟩ : ∃ z, z = bs.getD k2 0 := ⟨_, rfl⟩
      rw [← hz1] at hc1 hz1b
      rw [← hz2] at hc2 hz2b
      have hm1 : (p : Int) % lb = (k1 : Int) := by rw [hk1]; simp
      have hm2 : ((p : Int) * 7 + 3) % lb = (k2 : Int) := by rw [hk2]; simp
      obtain ⟨d, hd⟩ : ∃ d, d = p / lb := ⟨_, rfl⟩
      have hm3 : (p : Int) / lb = (d : Int) := by rw [hd]; simp
      have hd1 : (d : Int) ≤ 1000000 := by have := Nat.div_le_self p lb; omega
      have hk1I : (k1 : Int) < lb := by omega
      have hk2I : (k2 : Int) < lb := by omega
      have hpl' : (lb : Int) ≤ p := by omega
      clear h hc hz1 hz2 hk1 hk2 hd hk1l hk2l hpl
      go_enter Tryz.func25, Tryz.ntmps25
      go_wp2_with fail
      go_quiet (fail)
      obtain ⟨X, hX⟩ : ∃ X : Int, X = z1 * 131 + z2 * 1117 + (p : Int) * 29 + (d : Int) * 53 := ⟨_, rfl⟩
      have hX0 : 0 ≤ X := by omega
      have hX1 : X < 4611686018427387904 := by omega
      have hu := xor_pos hX0 hX1 (y := X / 64) (by omega) (by omega)
      rw [← hX]
      obtain ⟨u, hu2⟩ : ∃ u, u = bits .xor .i64 X (X / 64) := ⟨_, rfl⟩
      have hu3 : bits .xor .i64 X (X / 64) = u := hu2.symm
      rw [← hu2] at hu
      clear hX hu2 hc1 hc2 hm1 hm2 hm3
      go_wp2
      go_ret
      exact ⟨_, rfl, Int.emod_nonneg _ (by omega), Int.emod_lt_of_pos _ (by omega), HS.out.1.dN _, gr_dN HS.out.2 _⟩
end Go.Proofs.YthokphoojmpajabGreatDoor

namespace Go.Proofs.YthokphoojmpajabGreatDoor
open Go.RowKit Go.Proofs.Pin

theorem grown_new {w w1 w2 : World} {r row : Option Nat} (h : w.grownBy w1 r) (k : w1.grownBy w2 row) (hrow : ∀ j, row = some j → w.heap.size ≤ j) : w.grownBy w2 r :=
  ⟨k.os.trans h.os, k.tape.trans h.tape, k.output.trans h.output, Nat.le_trans h.size k.size, fun i hi hr => (k.block i (Nat.lt_of_lt_of_le hi h.size) (fun e => by have := hrow i e.symm; omega)).trans (h.block i hi hr)⟩
theorem Rd.kept {w w' : World} {g : Nat} {b : Option Addr} {lb cb : Nat} {bs : List Int} {p : Nat} {row : Option Nat} (h : Rd w g b lb cb bs p) (hg : w.grownBy w' row) (h1 : some g ≠ row) (h2 : ∀ x, b = some x → bs ≠ [] → some x.block ≠ row) : Rd w' g b lb cb bs p := by
  refine ⟨(hg.block g (Array.getElem?_eq_some_iff.1 h.box).1 h1).trans h.box, h.len, h.le, ?_, h.byt, h.ap⟩
  rcases h.sl with h0 | ⟨b0, off, he, hlt, hc⟩
  · exact .inl h0
  · refine .inr ⟨b0, off, he, Nat.lt_of_lt_of_le hlt hg.size, fun i hi => hg.cell (hc i hi) (h2 ⟨b0, off, none⟩ he ?_)⟩
    intro e0
    rw [e0] at hi
    simp at hi
/-- The reader's blocks lie below. -/
theorem Rd.lt {w : World} {g : Nat} {b : Option Addr} {lb cb : Nat} {bs : List Int} {p : Nat} (h : Rd w g b lb cb bs p) : g < w.heap.size ∧ ∀ x, b = some x → bs ≠ [] → x.block < w.heap.size := by
  refine ⟨(Array.getElem?_eq_some_iff.1 h.box).1, fun x hx hne => ?_⟩
  rcases h.sl with h0 | ⟨b0, off, he, hlt, _⟩
  · exact absurd h0 hne
  · rw [hx] at he; cases he; exact hlt

theorem shl_digit {v : Nat} (h : v < 16) : 1 ≤ wrap64 ((2 : Int) ^ v) ∧ wrap64 ((2 : Int) ^ v) < 65536 := by
  have e : (2 : Int) ^ v = ((2 ^ v : Nat) : Int) := by simp
  have h1 : 1 ≤ 2 ^ v := Nat.one_le_two_pow
  have h2 : 2 ^ v ≤ 2 ^ 15 := Nat.pow_le_pow_right (by decide) (by omega)
  rw [e]
  generalize 2 ^ v = n at h1 h2
  have h3 : (2 : Nat) ^ 15 = 32768 := by decide
  rw [h3] at h2
  unfold wrap64
  omega
theorem own_cell {w : World} {base g cap : Nat} {zs : List Int} (h : OwnI w base (some ⟨g, 0, none⟩) cap zs) {i : Nat} (hi : i < zs.length) : w.cell? ⟨g, i, none⟩ = some (.int .i64 (zs.getD i 0)) := by
  rcases h.sl with h0 | ⟨b, off, he, _, hc⟩
  · rw [h0] at hi; simp at hi
  · cases he
    simpa using hc i hi

set_option maxRecDepth 20000 in
set_option maxHeartbeats 2000000 in
theorem nat_any (g : Nat) (b : Option Addr) (lb cb : Nat) (bs : List Int) (p : Nat) (w : World) (h : Rd w g b lb cb bs p) (hp : p ≤ 900000) :
    Calls Tryz.prog 71 #[.pointer (some ⟨g, 0, none⟩)] w fun e w' => ∃ r cr x p', e = .returned (.slice r (dgs x).length cr) ∧ OwnI w' w.heap.size r cr (dgs x) ∧ (dgs x).length ≤ 256 ∧ Rd w' g b lb cb bs p' ∧ p' ≤ p + 600 ∧ w.grownBy w' (some g) := by
  obtain ⟨i0, hi, hz0, hz1, hz2⟩ := info_parts Tryz.info3
  obtain ⟨hgl, hbl⟩ := h.lt
  have HBL : Hid (∀ x, b = some x → bs ≠ [] → x.block < w.heap.size) := hbl
  have CP : Hid (∀ (wr : World) (p' : Nat) (n : Int), Rd wr g b lb cb bs p' → p' ≤ 1000000 → 1 ≤ n → n ≤ 65536 → w.grownBy wr (some g) → Calls Tryz.prog 25 #[.pointer (some ⟨g, 0, none⟩), .int .i64 n] wr fun e w' => ∃ v : Nat, e = .returned (.int .i64 (v : Int)) ∧ (v : Int) < n ∧ Rd w' g b lb cb bs (p' + 1) ∧ w.grownBy w' (some g) ∧ wr.grownBy w' (some g)) := fun wr p' n hr hp hn1 hn2 hgr => (pick_any g b lb cb bs p' n wr hr hp hn1 hn2).mono fun e w' ⟨v, h1, h2, h3, h4, h5⟩ => ⟨v.toNat, by rw [h1]; congr 2; omega, by omega, h4, grown_two hgr h5, h5⟩
  have H0 : Hid (Rd w g b lb cb bs p) := h
  clear h hbl
  go_enter Tryz.func71, Tryz.ntmps71
  go_wp2_with fail
  refine Calls.mono (CP.out w p 4 H0.out (by omega) (by omega) (by omega) (World.grownBy.refl _ _)) ?_
  rintro e w1 ⟨v1, rfl, hv1, r1, g1, t1⟩
  go_wp2_with fail
  refine Calls.mono (CP.out w1 (p + 1) 16 r1 (by omega) (by omega) (by omega) g1) ?_
  rintro e w2 ⟨v2, rfl, hv2, r2, g2, t2⟩
  dsimp only
  go_step
  go_step
  go_step
  go_step
  go_cut [3] from 8 (fun v wx => ∃ (m p' : Nat), v = .int .i64 (m : Int) ∧ m ≤ 256 ∧ Rd wx g b lb cb bs p' ∧ p' ≤ p + 5 ∧ w.grownBy wx (some g))
  case first =>
    have hcase : v2 = 0 ∨ v2 = 1 ∨ v2 = 2 ∨ 3 ≤ v2 := by omega
    rcases hcase with rfl | rfl | rfl | hge
    · go_wp2_with fail
      refine Calls.mono (CP.out w2 (p + 1 + 1) 24 r2 (by omega) (by omega) (by omega) g2) ?_
      rintro e w3 ⟨v3, rfl, hv3, r3, g3, t3⟩
      go_wp2_with fail
      go_meet
      exact ⟨v3, _, rfl, by omega, r3, by omega, g3⟩
    · go_wp2_with fail
      refine Calls.mono (CP.out w2 (p + 1 + 1) 6 r2 (by omega) (by omega) (by omega) g2) ?_
      rintro e w3 ⟨v3, rfl, hv3, r3, g3, t3⟩
      have hc3 : v3 = 0 ∨ 0 < v3 := by omega
      rcases hc3 with rfl | hv
      · go_wp2_with fail
        refine Calls.mono (CP.out w3 (p + 1 + 1 + 1) 3 r3 (by omega) (by omega) (by omega) g3) ?_
        rintro e w4 ⟨v4, rfl, hv4, r4, g4, t4⟩
        go_wp2_with fail
        go_meet
        exact ⟨256 - v4, _, by congr 1; omega, by omega, r4, by omega, g4⟩
      · have hvI : ((v3 : Int) == 0) = false := by simp; omega
        go_wp2_with fail
        go_meet
        exact ⟨v1, _, rfl, by omega, r3, by omega, g3⟩
    · go_wp2_with fail
      refine Calls.mono (CP.out w2 (p + 1 + 1) 12 r2 (by omega) (by omega) (by omega) g2) ?_
      rintro e w3 ⟨v3, rfl, hv3, r3, g3, t3⟩
      go_wp2_with fail
      refine (specOf_any v3 w3 (by omega)).mono ?_
      rintro e w4 ⟨a4, c4, rfl, o4, b4⟩
      have hl : (dgs v3).length ≤ 1 := (dgs_len_iff v3 1).2 (by omega)
      have hr4 : Rd w4 g b lb cb bs (p + 1 + 1 + 1) := r3.kept (row := none) ⟨b4.os, b4.tape, b4.output, b4.size, fun k hk _ => b4.block k hk⟩ (by simp) (by simp)
      have hg4 : w.grownBy w4 (some g) := grown_two g3 ⟨b4.os, b4.tape, b4.output, b4.size, fun k hk _ => b4.block k hk⟩
      have HX : Hid (OwnI w4 w.heap.size a4 c4 (dgs v3) ∧ (dgs v3).length ≤ 256) := ⟨o4.mono g3.size, by omega⟩
      obtain ⟨V, hV⟩ : ∃ V, V = dgs v3 := ⟨_, rfl⟩
      rw [← hV]
      have HV : Hid (dgs v3 = V) := hV.symm
      clear hV hl o4
      go_wp2
      go_ret
      exact ⟨a4, c4, v3, _, by rw [HV.out]; rfl, HX.out.1, HX.out.2, hr4, by omega, hg4⟩
    · have e0 : ((v2 : Int) == 0) = false := by simp; omega
      have e1 : ((v2 : Int) == 1) = false := by simp; omega
      have e2 : ((v2 : Int) == 2) = false := by simp; omega
      go_wp2_with fail
      go_meet
      exact ⟨v1, _, rfl, by omega, r2, by omega, g2⟩
  case rest =>
    obtain ⟨m, p', rfl, hm, hr, hpp, hgr⟩ := hcut
    go_wp2_with fail
    refine Calls.mono (CP.out wc p' 5 hr (by omega) (by omega) (by omega) hgr) ?_
    rintro e w5 ⟨kd, rfl, hkd, r5, g5, t5⟩
    have H5 : Hid (Rd w5 g b lb cb bs (p' + 1) ∧ w.grownBy w5 (some g)) := ⟨r5, g5⟩
    clear r5 g5 hr hgr r1 g1
    go_wp2
    go_loopw [5, 6] (fun v i wr => ∃ (k q : Nat) (pre : List Int) (a : Option Addr) (cap : Nat), i = .int .i64 (k : Int) ∧ k ≤ m ∧ pre.length = k ∧ v = .slice a pre.length cap ∧ Dg pre ∧ OwnI wr w.heap.size a cap pre ∧ Rd wr g b lb cb bs q ∧ q ≤ p + 6 + 2 * k ∧ w.grownBy wr (some g)) (fun _ i _ => m - (intOf i).toNat)
    case atStart => exact ⟨0, p' + 1, [], none, 0, rfl, Nat.zero_le _, rfl, rfl, Dg.nil, OwnI.nil _ _, H5.out.1, by omega, H5.out.2⟩
    case round =>
      obtain ⟨k, q, pre, a, cap, rfl, hk, hpl, rfl, hpd, hown, hrq, hq, hgq⟩ := hrel
      have HPD : Hid (Dg pre ∧ pre.length = k) := ⟨hpd, hpl⟩
      have hpl2 : pre.length ≤ 256 := by omega
      by_cases hlt : k < m
      · have hltI : (k : Int) < m := by omega
        have HR : Hid (Rd wr g b lb cb bs q ∧ w.grownBy wr (some g)) := ⟨hrq, hgq⟩
        have HO : Hid (OwnI wr w.heap.size a cap pre) := hown
        clear hrq hgq hown hpd hpl
        go_wp2_with fail
        refine Calls.mono (CP.out wr q 256 HR.out.1 (by omega) (by omega) (by omega) HR.out.2) ?_
        rintro e w6 ⟨d1, rfl, hd1, r6, g6, t6⟩
        go_wp2_with fail
        refine Calls.mono (CP.out w6 (q + 1) 256 r6 (by omega) (by omega) (by omega) g6) ?_
        rintro e w7 ⟨d2, rfl, hd2, r7, g7, t7⟩
        have HR7 : Hid (Rd w7 g b lb cb bs (q + 1 + 1) ∧ w.grownBy w7 (some g)) := ⟨r7, g7⟩
        have hown : OwnI w7 w.heap.size a cap pre := (HO.out.keptR t6 (fun k hk j hj e => by cases hk; have := own_ge HO.out j hj; omega)).keptR t7 (fun k hk j hj e => by cases hk; have := own_ge HO.out j hj; omega)
        clear r6 g6 r7 g7 t6 t7
        have hkc : kd = 0 ∨ kd = 1 ∨ 2 ≤ kd := by omega
        rcases hkc with hk0 | hk1 | hkd2
        · have e0 : ((kd : Int) == 0) = true := by simp; omega
          have e1 : ((kd : Int) == 1) = false := by simp; omega
          clear hk0
          have hdv0 : (0 : Int) ≤ 65535 := by omega
          have hdv1 : (65535 : Int) < 65536 := by omega
          go_wp2_with (at_builtin; refine wpList_append_own _ rfl _ _ 23 rfl w.heap.size 3 i0 (.int .i64 0) 1 8 Tryz.underlying23 hi hz0 hz1 hz2 rfl (by decide) _ _ _ rfl (hown.alloc _) ⟨w7.heap.size, 0, none⟩ 1 1 [.int .i64 65535] rfl rfl (cell_one_new _ _ _) (by simp [Value.oneCell']) ?c3 ?c4 ?c5 ?_)
          case c3 => unfold maxLen; omega
          case c4 => omega
          case c5 => have := HR7.out.2.size; simp; omega
          intro v' w8 hown' hgrow _
          obtain ⟨a8, c8, rfl, ho8⟩ := OwnI.of_row (zs := pre ++ [65535]) (by rw [List.map_append]; exact hown')
          have hrow8 : ∀ j, (Value.slice a pre.length cap).ownBlock = some j → w.heap.size ≤ j := ownBlock_ge hown
          have hr8 : Rd w8 g b lb cb bs (q + 1 + 1) := (HR7.out.1.kept (World.grownBy_alloc w7 _ none) (by simp) (by simp)).kept hgrow (fun e => by have := hrow8 g e.symm; omega) (fun x hx hne e => by have := hrow8 _ e.symm; have := HBL.out x hx hne; omega)
          have hg8 : w.grownBy w8 (some g) := grown_new (grown_new HR7.out.2 (World.grownBy_alloc w7 _ none) (fun _ e => by cases e)) hgrow hrow8
          have H8 : Hid (OwnI w8 w.heap.size a8 c8 (pre ++ [65535]) ∧ Rd w8 g b lb cb bs (q + 1 + 1) ∧ w.grownBy w8 (some g)) := ⟨ho8, hr8, hg8⟩
          clear hown' hgrow ho8 hrow8 hr8 hg8 hown
          go_wp2
          go_roundw
          case rel => exact ⟨k + 1, q + 1 + 1, pre ++ [65535], a8, c8, by go_num, by omega, by simp; exact HPD.out.2, rfl, HPD.out.1.snoc hdv0 hdv1, H8.out.1, H8.out.2.1, by omega, H8.out.2.2⟩
          case measure => simp [intOf]; omega
        · have e0 : ((kd : Int) == 0) = false := by simp; omega
          have e1 : ((kd : Int) == 1) = true := by simp; omega
          clear hk1
          have hdv0 : (0 : Int) ≤ 0 := by omega
          have hdv1 : (0 : Int) < 65536 := by omega
          go_wp2_with (at_builtin; refine wpList_append_own _ rfl _ _ 23 rfl w.heap.size 3 i0 (.int .i64 0) 1 8 Tryz.underlying23 hi hz0 hz1 hz2 rfl (by decide) _ _ _ rfl (hown.alloc _) ⟨w7.heap.size, 0, none⟩ 1 1 [.int .i64 0] rfl rfl (cell_one_new _ _ _) (by simp [Value.oneCell']) ?c3 ?c4 ?c5 ?_)
          case c3 => unfold maxLen; omega
          case c4 => omega
          case c5 => have := HR7.out.2.size; simp; omega
          intro v' w8 hown' hgrow _
          obtain ⟨a8, c8, rfl, ho8⟩ := OwnI.of_row (zs := pre ++ [0]) (by rw [List.map_append]; exact hown')
          have hrow8 : ∀ j, (Value.slice a pre.length cap).ownBlock = some j → w.heap.size ≤ j := ownBlock_ge hown
          have hr8 : Rd w8 g b lb cb bs (q + 1 + 1) := (HR7.out.1.kept (World.grownBy_alloc w7 _ none) (by simp) (by simp)).kept hgrow (fun e => by have := hrow8 g e.symm; omega) (fun x hx hne e => by have := hrow8 _ e.symm; have := HBL.out x hx hne; omega)
          have hg8 : w.grownBy w8 (some g) := grown_new (grown_new HR7.out.2 (World.grownBy_alloc w7 _ none) (fun _ e => by cases e)) hgrow hrow8
          have H8 : Hid (OwnI w8 w.heap.size a8 c8 (pre ++ [0]) ∧ Rd w8 g b lb cb bs (q + 1 + 1) ∧ w.grownBy w8 (some g)) := ⟨ho8, hr8, hg8⟩
          clear hown' hgrow ho8 hrow8 hr8 hg8 hown
          go_wp2
          go_roundw
          case rel => exact ⟨k + 1, q + 1 + 1, pre ++ [0], a8, c8, by go_num, by omega, by simp; exact HPD.out.2, rfl, HPD.out.1.snoc hdv0 hdv1, H8.out.1, H8.out.2.1, by omega, H8.out.2.2⟩
          case measure => simp [intOf]; omega
        · have e0 : ((kd : Int) == 0) = false := by simp; omega
          have e1 : ((kd : Int) == 1) = false := by simp; omega
          have hdv0 : (0 : Int) ≤ ((d1 : Int) * 256 + (d2 : Int)) := by omega
          have hdv1 : (((d1 : Int) * 256 + (d2 : Int)) : Int) < 65536 := by omega
          go_wp2_with (at_builtin; refine wpList_append_own _ rfl _ _ 23 rfl w.heap.size 3 i0 (.int .i64 0) 1 8 Tryz.underlying23 hi hz0 hz1 hz2 rfl (by decide) _ _ _ rfl (hown.alloc _) ⟨w7.heap.size, 0, none⟩ 1 1 [.int .i64 ((d1 : Int) * 256 + (d2 : Int))] rfl rfl (cell_one_new _ _ _) (by simp [Value.oneCell']) ?c3 ?c4 ?c5 ?_)
          case c3 => unfold maxLen; omega
          case c4 => omega
          case c5 => have := HR7.out.2.size; simp; omega
          intro v' w8 hown' hgrow _
          obtain ⟨a8, c8, rfl, ho8⟩ := OwnI.of_row (zs := pre ++ [((d1 : Int) * 256 + (d2 : Int))]) (by rw [List.map_append]; exact hown')
          have hrow8 : ∀ j, (Value.slice a pre.length cap).ownBlock = some j → w.heap.size ≤ j := ownBlock_ge hown
          have hr8 : Rd w8 g b lb cb bs (q + 1 + 1) := (HR7.out.1.kept (World.grownBy_alloc w7 _ none) (by simp) (by simp)).kept hgrow (fun e => by have := hrow8 g e.symm; omega) (fun x hx hne e => by have := hrow8 _ e.symm; have := HBL.out x hx hne; omega)
          have hg8 : w.grownBy w8 (some g) := grown_new (grown_new HR7.out.2 (World.grownBy_alloc w7 _ none) (fun _ e => by cases e)) hgrow hrow8
          have H8 : Hid (OwnI w8 w.heap.size a8 c8 (pre ++ [((d1 : Int) * 256 + (d2 : Int))]) ∧ Rd w8 g b lb cb bs (q + 1 + 1) ∧ w.grownBy w8 (some g)) := ⟨ho8, hr8, hg8⟩
          clear hown' hgrow ho8 hrow8 hr8 hg8 hown
          go_wp2
          go_roundw
          case rel => exact ⟨k + 1, q + 1 + 1, pre ++ [((d1 : Int) * 256 + (d2 : Int))], a8, c8, by go_num, by omega, by simp; exact HPD.out.2, rfl, HPD.out.1.snoc hdv0 hdv1, H8.out.1, H8.out.2.1, by omega, H8.out.2.2⟩
          case measure => simp [intOf]; omega
      · have hkm : k = m := by omega
        have hge : ¬ (k : Int) < m := by omega
        subst hkm
        by_cases hk0 : k = 0
        · subst hk0
          have hp0 : pre = [] := List.eq_nil_of_length_eq_zero hpl
          subst hp0
          have H9 : Hid (OwnI wr w.heap.size a cap (dgs 0) ∧ Rd wr g b lb cb bs q ∧ w.grownBy wr (some g)) := ⟨by rw [dgs_zero]; exact hown, hrq, hgq⟩
          clear hown hrq hgq hpd hpl hge
          go_wp2
          go_ret
          exact ⟨a, cap, 0, q, by rw [dgs_zero]; rfl, H9.out.1, by rw [dgs_zero]; simp, H9.out.2.1, by omega, H9.out.2.2⟩
        · obtain ⟨j, rfl⟩ : ∃ j, k = j + 1 := ⟨k - 1, by omega⟩
          have hcell : ∃ ga, a = some ⟨ga, 0, none⟩ ∧ w.heap.size ≤ ga ∧ wr.cell? ⟨ga, j, none⟩ = some (.int .i64 (pre.getD j 0)) ∧ wr.frozen? ⟨ga, j, none⟩ = false := by
            rcases hown.parts with ⟨h1, _, h3⟩ | ⟨ga, rfl, hba, _⟩
            · rw [h3] at hpl; simp at hpl
            · exact ⟨ga, rfl, hba, own_cell hown (by omega), World.ownsRow.frozenAt hown j⟩
          obtain ⟨ga, rfl, hba, hcj, hfj⟩ := hcell
          have hdj := hpd.at j
          have HO9 : Hid (OwnI wr w.heap.size (some ⟨ga, 0, none⟩) cap pre ∧ Rd wr g b lb cb bs q ∧ w.grownBy wr (some g)) := ⟨hown, hrq, hgq⟩
          obtain ⟨z, hz⟩ : ∃ z, z = pre.getD j 0 := ⟨_, rfl⟩
          rw [← hz] at hcj hdj
          have HZ : Hid (z = pre.getD j 0) := hz
          rw [hpl]
          clear hown hrq hgq hz hpd
          by_cases hz0' : z = 0
          · subst hz0'
            go_wp2_with fail
            refine Calls.mono (CP.out wr q 16 HO9.out.2.1 (by omega) (by omega) (by omega) HO9.out.2.2) ?_
            rintro e w9 ⟨v9, rfl, hv9, r9, g9, t9⟩
            have ho9 : OwnI w9 w.heap.size (some ⟨ga, 0, none⟩) cap pre := HO9.out.1.keptR t9 (fun k hk i hi e => by cases hk; cases hi; simp at e; omega)
            have hrow : w9.ownsRow w.heap.size 3 1 (.slice (some ⟨ga, 0, none⟩) (j + 1) cap) (j + 1) (pre.map (Value.int .i64)) := by
              have h := ho9
              unfold OwnI at h
              rw [HPD.out.2] at h
              exact h
            have hf9 := hrow.frozenAt j
            have hc9 := own_cell ho9 (i := j) (by have := HPD.out.2; omega)
            have H9 : Hid (Rd w9 g b lb cb bs (q + 1) ∧ w.grownBy w9 (some g) ∧ w9.ownsRow w.heap.size 3 1 (.slice (some ⟨ga, 0, none⟩) (j + 1) cap) (j + 1) (pre.map (Value.int .i64))) := ⟨r9, g9, hrow⟩
            obtain ⟨o9, ho9'⟩ : ∃ o9, o9 = pre.getD j 0 := ⟨_, rfl⟩
            rw [← ho9'] at hc9
            clear r9 g9 t9 ho9 hrow ho9' hcj hfj
            have HU : Hid (1 ≤ wrap64 ((2 : Int) ^ v9) ∧ wrap64 ((2 : Int) ^ v9) < 65536) := shl_digit (by omega)
            go_wp2
            obtain ⟨u, hu2⟩ : ∃ u, u = wrap64 ((2 : Int) ^ v9) := ⟨_, rfl⟩
            have hu := HU.out
            rw [← hu2] at hu ⊢
            clear hu2 HU
            have hst := H9.out.2.2.stored j (.int .i64 u)
            have ho10 : OwnI (w9.setCell ⟨ga, j, none⟩ (.int .i64 u)) w.heap.size (some ⟨ga, 0, none⟩) cap (pre.set j u) := by
              unfold OwnI
              rw [List.length_set, HPD.out.2, List.map_set]
              exact hst.1
            have hr10 : Rd (w9.setCell ⟨ga, j, none⟩ (.int .i64 u)) g b lb cb bs (q + 1) := H9.out.1.kept hst.2 (fun e => by simp at e; omega) (fun x hx hne e => by have := HBL.out x hx hne; simp at e; omega)
            have hg10 : w.grownBy (w9.setCell ⟨ga, j, none⟩ (.int .i64 u)) (some g) := grown_new H9.out.2.1 hst.2 (fun k hk => by cases hk; exact hba)
            have hjl : j < pre.length := by have := HPD.out.2; omega
            have hl10 : (pre.set j u).length = j + 1 := by rw [List.length_set]; exact HPD.out.2
            have e10 : dgs (val (pre.set j u)).toNat = pre.set j u := dgs_val (HPD.out.1.set (by omega) (by omega)) (.inr (by
              rw [hl10]
              show (pre.set j u).getD j 0 ≠ 0
              rw [List.getD_eq_getElem?_getD, List.getElem?_set_self hjl]
              show u ≠ 0
              omega))
            go_ret
            refine ⟨some ⟨ga, 0, none⟩, cap, (val (pre.set j u)).toNat, q + 1, ?_, ?_, ?_, hr10, by omega, hg10⟩
            · rw [e10, hl10]
              rfl
            · rw [e10]
              exact ho10
            · rw [e10, hl10]
              omega
          · have hzb : (z == 0) = false := by simp [hz0']
            have e9 : dgs (val pre).toNat = pre := dgs_val HPD.out.1 (.inr (by rw [HPD.out.2]; show pre.getD j 0 ≠ 0; rw [← HZ.out]; exact hz0'))
            have H9 : Hid (OwnI wr w.heap.size (some ⟨ga, 0, none⟩) cap pre ∧ Rd wr g b lb cb bs q ∧ w.grownBy wr (some g) ∧ dgs (val pre).toNat = pre) := ⟨HO9.out.1, HO9.out.2.1, HO9.out.2.2, e9⟩
            clear e9
            go_wp2
            go_ret
            refine ⟨some ⟨ga, 0, none⟩, cap, (val pre).toNat, ?_, ?_, ?_, q, H9.out.2.1, by omega, H9.out.2.2.1⟩
            · rw [H9.out.2.2.2, HPD.out.2]
              rfl
            · rw [H9.out.2.2.2]
              exact H9.out.1
            · rw [H9.out.2.2.2, HPD.out.2]
              omega
end Go.Proofs.YthokphoojmpajabGreatDoor

namespace Go.Proofs.YthokphoojmpajabGreatDoor
open Go.RowKit Go.Proofs.Pin

/-- What a drawn list holds. -/
def RawB (zs : List Int) : Prop := ∀ i, -1 ≤ zs.getD i 0 ∧ zs.getD i 0 ≤ 65536
theorem RawB.of {zs : List Int} (h : Dg zs) : RawB zs := fun i => by have := h.at i; omega
theorem RawB.snoc {zs : List Int} {v : Int} (h : RawB zs) (h0 : -1 ≤ v) (h1 : v ≤ 65536) : RawB (zs ++ [v]) := fun i => by
  have hi := h i
  rcases Nat.lt_trichotomy i zs.length with hl | hl | hl
  · simpa [List.getD_eq_getElem?_getD, List.getElem?_append_left hl] using hi
  · subst hl
    simp [List.getD_eq_getElem?_getD]
    omega
  · have : (zs ++ [v])[i]? = none := List.getElem?_eq_none (by simp; omega)
    simp [List.getD_eq_getElem?_getD, this]
theorem RawB.take {zs : List Int} (h : RawB zs) (k : Nat) : RawB (zs.take k) := fun i => by
  have hi := h i
  by_cases hk : i < k
  · simpa [List.getD_eq_getElem?_getD, List.getElem?_take, hk] using hi
  · simp [List.getD_eq_getElem?_getD, List.getElem?_take, hk]

set_option maxRecDepth 20000 in
set_option maxHeartbeats 2000000 in
theorem raw_any (g : Nat) (b : Option Addr) (lb cb : Nat) (bs : List Int) (p : Nat) (w : World) (h : Rd w g b lb cb bs p) (hp : p ≤ 800000) :
    Calls Tryz.prog 48 #[.pointer (some ⟨g, 0, none⟩)] w fun e w' => ∃ r cr zs p', e = .returned (.slice r zs.length cr) ∧ OwnI w' w.heap.size r cr zs ∧ zs.length ≤ 257 ∧ RawB zs ∧ Rd w' g b lb cb bs p' ∧ p' ≤ p + 700 ∧ w.grownBy w' (some g) := by
  obtain ⟨i0, hi, hz0, hz1, hz2⟩ := info_parts Tryz.info3
  obtain ⟨hgl, hbl⟩ := h.lt
  have HBL : Hid (∀ x, b = some x → bs ≠ [] → x.block < w.heap.size) := hbl
  have CN : Hid (Calls Tryz.prog 71 #[.pointer (some ⟨g, 0, none⟩)] w fun e w' => ∃ r cr zs p', e = .returned (.slice r zs.length cr) ∧ OwnI w' w.heap.size r cr zs ∧ zs.length ≤ 256 ∧ RawB zs ∧ Rd w' g b lb cb bs p' ∧ p' ≤ p + 600 ∧ w.grownBy w' (some g)) := (nat_any g b lb cb bs p w h (by omega)).mono fun e w' ⟨r, cr, x, p', h1, h2, h3, h4, h5, h6⟩ => ⟨r, cr, dgs x, p', h1, h2, h3, RawB.of (Dg_dgs x), h4, h5, h6⟩
  have CP : Hid (∀ (wr : World) (p' : Nat) (n : Int), Rd wr g b lb cb bs p' → p' ≤ 1000000 → 1 ≤ n → n ≤ 65536 → w.grownBy wr (some g) → Calls Tryz.prog 25 #[.pointer (some ⟨g, 0, none⟩), .int .i64 n] wr fun e w' => ∃ v : Nat, e = .returned (.int .i64 (v : Int)) ∧ (v : Int) < n ∧ Rd w' g b lb cb bs (p' + 1) ∧ w.grownBy w' (some g) ∧ wr.grownBy w' (some g)) := fun wr p' n hr hp hn1 hn2 hgr => (pick_any g b lb cb bs p' n wr hr hp hn1 hn2).mono fun e w' ⟨v, h1, h2, h3, h4, h5⟩ => ⟨v.toNat, by rw [h1]; congr 2; omega, by omega, h4, grown_two hgr h5, h5⟩
  clear h hbl
  go_enter Tryz.func48, Tryz.ntmps48
  go_wp2_with fail
  refine Calls.mono CN.out ?_
  rintro e w1 ⟨a, cap, zs, q, rfl, o1, hl1, hrb, r1, hq1, g1⟩
  go_wp2_with fail
  refine Calls.mono (CP.out w1 q 80 r1 (by omega) (by omega) (by omega) g1) ?_
  rintro e w2 ⟨v, rfl, hv, r2, g2, t2⟩
  have HR2 : Hid (Rd w2 g b lb cb bs (q + 1) ∧ w.grownBy w2 (some g)) := ⟨r2, g2⟩
  have hown : OwnI w2 w.heap.size a cap zs := o1.keptR t2 (fun k hk j hj e => by cases hk; have := own_ge o1 j hj; omega)
  clear o1 r1 g1 r2 g2 t2 CN
  have hcase : v = 0 ∨ v = 1 ∨ v = 2 ∨ v = 3 ∨ 4 ≤ v := by omega
  rcases hcase with rfl | rfl | rfl | rfl | hge
  · skip
    go_wp2_with (at_builtin; refine wpList_append_own _ rfl _ _ 23 rfl w.heap.size 3 i0 (.int .i64 0) 1 8 Tryz.underlying23 hi hz0 hz1 hz2 rfl (by decide) _ _ _ rfl (hown.alloc _) ⟨w2.heap.size, 0, none⟩ 1 1 [.int .i64 0] rfl rfl (cell_one_new _ _ _) (by simp [Value.oneCell']) ?c3 ?c4 ?c5 ?_)
    case c3 => unfold maxLen; omega
    case c4 => omega
    case c5 => have := HR2.out.2.size; simp; omega
    intro v' w8 hown' hgrow _
    obtain ⟨a8, c8, rfl, ho8⟩ := OwnI.of_row (zs := zs ++ [0]) (by rw [List.map_append]; exact hown')
    have hrow8 : ∀ j, (Value.slice a zs.length cap).ownBlock = some j → w.heap.size ≤ j := ownBlock_ge hown
    have hr8 : Rd w8 g b lb cb bs (q + 1) := (HR2.out.1.kept (World.grownBy_alloc w2 _ none) (by simp) (by simp)).kept hgrow (fun e => by have := hrow8 g e.symm; omega) (fun x hx hne e => by have := hrow8 _ e.symm; have := HBL.out x hx hne; omega)
    have hg8 : w.grownBy w8 (some g) := grown_new (grown_new HR2.out.2 (World.grownBy_alloc w2 _ none) (fun _ e => by cases e)) hgrow hrow8
    have H8 : Hid (OwnI w8 w.heap.size a8 c8 (zs ++ [0]) ∧ Rd w8 g b lb cb bs (q + 1) ∧ w.grownBy w8 (some g)) := ⟨ho8, hr8, hg8⟩
    clear hown' hgrow ho8 hrow8 hr8 hg8 hown
    go_wp2
    go_ret
    exact ⟨a8, c8, zs ++ [0], q + 1, rfl, H8.out.1, by simp; omega, hrb.snoc (by omega) (by omega), H8.out.2.1, by omega, H8.out.2.2⟩
  · skip
    go_wp2_with (at_builtin; refine wpList_append_own _ rfl _ _ 23 rfl w.heap.size 3 i0 (.int .i64 0) 1 8 Tryz.underlying23 hi hz0 hz1 hz2 rfl (by decide) _ _ _ rfl (hown.alloc _) ⟨w2.heap.size, 0, none⟩ 1 1 [.int .i64 65536] rfl rfl (cell_one_new _ _ _) (by simp [Value.oneCell']) ?c3 ?c4 ?c5 ?_)
    case c3 => unfold maxLen; omega
    case c4 => omega
    case c5 => have := HR2.out.2.size; simp; omega
    intro v' w8 hown' hgrow _
    obtain ⟨a8, c8, rfl, ho8⟩ := OwnI.of_row (zs := zs ++ [65536]) (by rw [List.map_append]; exact hown')
    have hrow8 : ∀ j, (Value.slice a zs.length cap).ownBlock = some j → w.heap.size ≤ j := ownBlock_ge hown
    have hr8 : Rd w8 g b lb cb bs (q + 1) := (HR2.out.1.kept (World.grownBy_alloc w2 _ none) (by simp) (by simp)).kept hgrow (fun e => by have := hrow8 g e.symm; omega) (fun x hx hne e => by have := hrow8 _ e.symm; have := HBL.out x hx hne; omega)
    have hg8 : w.grownBy w8 (some g) := grown_new (grown_new HR2.out.2 (World.grownBy_alloc w2 _ none) (fun _ e => by cases e)) hgrow hrow8
    have H8 : Hid (OwnI w8 w.heap.size a8 c8 (zs ++ [65536]) ∧ Rd w8 g b lb cb bs (q + 1) ∧ w.grownBy w8 (some g)) := ⟨ho8, hr8, hg8⟩
    clear hown' hgrow ho8 hrow8 hr8 hg8 hown
    go_wp2
    go_ret
    exact ⟨a8, c8, zs ++ [65536], q + 1, rfl, H8.out.1, by simp; omega, hrb.snoc (by omega) (by omega), H8.out.2.1, by omega, H8.out.2.2⟩
  · skip
    go_wp2_with (at_builtin; refine wpList_append_own _ rfl _ _ 23 rfl w.heap.size 3 i0 (.int .i64 0) 1 8 Tryz.underlying23 hi hz0 hz1 hz2 rfl (by decide) _ _ _ rfl (hown.alloc _) ⟨w2.heap.size, 0, none⟩ 1 1 [.int .i64 (-1)] rfl rfl (cell_one_new _ _ _) (by simp [Value.oneCell']) ?c3 ?c4 ?c5 ?_)
    case c3 => unfold maxLen; omega
    case c4 => omega
    case c5 => have := HR2.out.2.size; simp; omega
    intro v' w8 hown' hgrow _
    obtain ⟨a8, c8, rfl, ho8⟩ := OwnI.of_row (zs := zs ++ [(-1)]) (by rw [List.map_append]; exact hown')
    have hrow8 : ∀ j, (Value.slice a zs.length cap).ownBlock = some j → w.heap.size ≤ j := ownBlock_ge hown
    have hr8 : Rd w8 g b lb cb bs (q + 1) := (HR2.out.1.kept (World.grownBy_alloc w2 _ none) (by simp) (by simp)).kept hgrow (fun e => by have := hrow8 g e.symm; omega) (fun x hx hne e => by have := hrow8 _ e.symm; have := HBL.out x hx hne; omega)
    have hg8 : w.grownBy w8 (some g) := grown_new (grown_new HR2.out.2 (World.grownBy_alloc w2 _ none) (fun _ e => by cases e)) hgrow hrow8
    have H8 : Hid (OwnI w8 w.heap.size a8 c8 (zs ++ [(-1)]) ∧ Rd w8 g b lb cb bs (q + 1) ∧ w.grownBy w8 (some g)) := ⟨ho8, hr8, hg8⟩
    clear hown' hgrow ho8 hrow8 hr8 hg8 hown
    go_wp2
    go_ret
    exact ⟨a8, c8, zs ++ [(-1)], q + 1, rfl, H8.out.1, by simp; omega, hrb.snoc (by omega) (by omega), H8.out.2.1, by omega, H8.out.2.2⟩
  · have HO : Hid (OwnI w2 w.heap.size a cap zs) := hown
    clear hown
    go_wp2
    go_loopg [3] (257 - zs.length) (fun k v wr => ∃ (ls : List Int) (a' : Option Addr) (cap' : Nat), k = 257 - ls.length ∧ v = .slice a' ls.length cap' ∧ ls.length ≤ 257 ∧ RawB ls ∧ OwnI wr w.heap.size a' cap' ls ∧ Rd wr g b lb cb bs (q + 1) ∧ w.grownBy wr (some g))
    case atStart => exact ⟨zs, a, cap, rfl, rfl, by omega, hrb, HO.out, HR2.out.1, HR2.out.2⟩
    case round =>
      obtain ⟨ls, a', cap', hgk, rfl, hll, hlb, hown, hr, hg⟩ := hrel
      have HRr : Hid (Rd wr g b lb cb bs (q + 1) ∧ w.grownBy wr (some g)) := ⟨hr, hg⟩
      clear hr hg HO
      by_cases hlt : ls.length ≤ 256
      · have hltI : (ls.length : Int) ≤ 256 := by omega
        go_wp2_with (at_builtin; refine wpList_append_own _ rfl _ _ 23 rfl w.heap.size 3 i0 (.int .i64 0) 1 8 Tryz.underlying23 hi hz0 hz1 hz2 rfl (by decide) _ _ _ rfl (hown.alloc _) ⟨wr.heap.size, 0, none⟩ 1 1 [.int .i64 1] rfl rfl (cell_one_new _ _ _) (by simp [Value.oneCell']) ?c3 ?c4 ?c5 ?_)
        case c3 => unfold maxLen; omega
        case c4 => omega
        case c5 => have := HRr.out.2.size; simp; omega
        intro v' w8 hown' hgrow _
        obtain ⟨a8, c8, rfl, ho8⟩ := OwnI.of_row (zs := ls ++ [1]) (by rw [List.map_append]; exact hown')
        have hrow8 : ∀ j, (Value.slice a' ls.length cap').ownBlock = some j → w.heap.size ≤ j := ownBlock_ge hown
        have hr8 : Rd w8 g b lb cb bs (q + 1) := (HRr.out.1.kept (World.grownBy_alloc wr _ none) (by simp) (by simp)).kept hgrow (fun e => by have := hrow8 g e.symm; omega) (fun x hx hne e => by have := hrow8 _ e.symm; have := HBL.out x hx hne; omega)
        have hg8 : w.grownBy w8 (some g) := grown_new (grown_new HRr.out.2 (World.grownBy_alloc wr _ none) (fun _ e => by cases e)) hgrow hrow8
        have H8 : Hid (OwnI w8 w.heap.size a8 c8 (ls ++ [1]) ∧ Rd w8 g b lb cb bs (q + 1) ∧ w.grownBy w8 (some g)) := ⟨ho8, hr8, hg8⟩
        clear hown' hgrow ho8 hrow8 hr8 hg8 hown
        go_wp2
        go_roundg (257 - (ls ++ [1]).length)
        case measure => simp; omega
        case rel => exact ⟨ls ++ [1], a8, c8, rfl, rfl, by simp; omega, hlb.snoc (by omega) (by omega), H8.out.1, H8.out.2.1, H8.out.2.2⟩
      · have hltI : ¬ (ls.length : Int) ≤ 256 := by omega
        have HO2 : Hid (OwnI wr w.heap.size a' cap' ls) := hown
        clear hown
        go_wp2
        go_ret
        exact ⟨a', cap', ls, rfl, HO2.out, hll, hlb, q + 1, HRr.out.1, by omega, HRr.out.2⟩
  · have HO : Hid (OwnI w2 w.heap.size a cap zs) := hown
    have e0 : ((v : Int) == 0) = false := by simp; omega
    have e1 : ((v : Int) == 1) = false := by simp; omega
    have e2 : ((v : Int) == 2) = false := by simp; omega
    have e3 : ((v : Int) == 3) = false := by simp; omega
    clear hown
    go_wp2
    go_ret
    exact ⟨a, cap, zs, q + 1, rfl, HO.out, by omega, hrb, HR2.out.1, by omega, HR2.out.2⟩

set_option maxRecDepth 20000 in
/-- l4Open: a reader of at most 2000 bytes of the code, at its beginning. -/
theorem open_any (a : Option Addr) (len cap : Nat) (bs : List Int) (w : World) (h : SlU w a bs) (hb : ByteL bs) (hl : bs.length = len) (hl2 : len ≤ 1048576) (hcap : len ≤ cap) :
    Calls Tryz.prog 23 #[.slice a len cap] w fun e w' => ∃ g lb bs', e = .returned (.pointer (some ⟨g, 0, none⟩)) ∧ w.heap.size ≤ g ∧ Rd w' g a lb cap bs' 0 ∧ Below w.heap.size w w' := by
  by_cases hgt : 2000 < len
  · have hgI : (2000 : Int) < len := by omega
    have hR : ∀ w' g, w.heap.size ≤ g → Below w.heap.size w w' → w'.heap[g]? = some (.cells #[.slice a 2000 cap, .int .i64 0] 74 (0, 0)) → Rd w' g a 2000 cap (bs.take 2000) 0 := by
      intro w' g hg hB hbox
      refine ⟨hbox, by simp; omega, Nat.le_refl _, ?_, fun i => ?_, fun x hx hne e => ?_⟩
      · rcases h with h0 | ⟨b0, off, he, hlt, hc⟩
        · rw [h0] at hl; simp at hl; omega
        · refine .inr ⟨b0, off, he, Nat.lt_of_lt_of_le hlt hB.size, fun i hi => ?_⟩
          have hi2 : i < 2000 := by rw [List.length_take] at hi; omega
          have hi3 : i < bs.length := by rw [List.length_take] at hi; omega
          rw [hB.cell (p := ⟨b0, off + i, none⟩) hlt, hc i hi3]
          simp [List.getD_eq_getElem?_getD, hi2]
      · have := hb i
        by_cases hi : i < 2000
        · simpa [List.getD_eq_getElem?_getD, List.getElem?_take, hi] using this
        · simp [List.getD_eq_getElem?_getD, List.getElem?_take, hi]
      · rcases h with h0 | ⟨b0, off, he, hlt, hc⟩
        · rw [h0] at hl; simp at hl; omega
        · rw [hx] at he; cases he; simp at e; omega
    have HR : Hid _ := hR
    clear hR h hb
    go_enter Tryz.func23, Tryz.ntmps23
    go_wp2
    go_ret
    have hB : Below w.heap.size w (w.alloc (.cells #[.slice a 2000 cap, .int .i64 0] 74)) := (Below.refl _ w).alloc (Nat.le_refl _) _
    exact ⟨w.heap.size, 2000, bs.take 2000, rfl, Nat.le_refl _, HR.out _ _ (Nat.le_refl _) hB (World.alloc_heap_new _ _), hB⟩
  · have hgI : ¬ (2000 : Int) < len := by omega
    have hR : ∀ w' g, w.heap.size ≤ g → Below w.heap.size w w' → w'.heap[g]? = some (.cells #[.slice a len cap, .int .i64 0] 74 (0, 0)) → Rd w' g a len cap bs 0 := by
      intro w' g hg hB hbox
      refine ⟨hbox, hl, by omega, ?_, hb, fun x hx hne e => ?_⟩
      · rcases h with h0 | ⟨b0, off, he, hlt, hc⟩
        · exact .inl h0
        · exact .inr ⟨b0, off, he, Nat.lt_of_lt_of_le hlt hB.size, fun i hi => (hB.cell (p := ⟨b0, off + i, none⟩) hlt).trans (hc i hi)⟩
      · rcases h with h0 | ⟨b0, off, he, hlt, hc⟩
        · exact hne h0
        · rw [hx] at he; cases he; simp at e; omega
    have HR : Hid _ := hR
    clear hR h hb
    go_enter Tryz.func23, Tryz.ntmps23
    go_wp2
    go_ret
    have hB : Below w.heap.size w (w.alloc (.cells #[.slice a len cap, .int .i64 0] 74)) := (Below.refl _ w).alloc (Nat.le_refl _) _
    exact ⟨w.heap.size, rfl, Nat.le_refl _, ⟨len, bs, HR.out _ _ (Nat.le_refl _) hB (World.alloc_heap_new _ _)⟩, hB⟩
end Go.Proofs.YthokphoojmpajabGreatDoor
