/- The contract of l4Two: two lists of ints, in rows of the call's own. -/
import Derived.Test.YthokphoojmpajaaDrawRaw
import Derived.Test.YthokphoojmpajaaArith
namespace Go.Proofs.Ythokphoojmpajaa
open Go.RowKit Go.Proofs.Pin

theorem own_blk {w : World} {base cap : Nat} {a : Option Addr} {zs : List Int} (h : OwnI w base a cap zs) : ∀ k, a.map (·.block) = some k → k < w.heap.size := by
  intro k hk
  rcases h.parts with ⟨rfl, _⟩ | ⟨g', rfl, _, hl⟩
  · cases hk
  · cases hk; exact hl
theorem trim_len (zs : List Int) : (zs.take (trimN zs zs.length)).length ≤ zs.length := by simp; omega

set_option maxHeartbeats 1000000 in
theorem two_any (a : Option Addr) (len cap : Nat) (bs : List Int) (w : World) (h : SlU w a bs) (hb : ByteL bs) (hl : bs.length = len) (hl2 : len ≤ 1048576) (hcap : len ≤ cap) :
    Calls Try.prog 27 #[.slice a len cap] w fun e w' => ∃ r cr zs s cs ys, e = .returned (.tuple #[.slice r zs.length cr, .slice s ys.length cs]) ∧ OwnI w' w.heap.size r cr zs ∧ OwnI w' w.heap.size s cs ys ∧ zs.length ≤ 257 ∧ ys.length ≤ 257 ∧ Below w.heap.size w w' := by
  have C0 : Hid _ := open_any a len cap bs w h hb hl hl2 hcap
  clear h hb hl
  go_enter Try.func27, Try.ntmps27
  go_wp2_with fail
  refine Calls.mono C0.out ?_
  rintro e w1 ⟨g, lb, bs', rfl, hg, R1, B1⟩
  have C1 : Hid _ := raw_any g a lb cap bs' 0 w1 R1 (by omega)
  have hgl := R1.lt.1
  clear C0 R1
  go_wp2_with fail
  refine Calls.mono C1.out ?_
  rintro e w2 ⟨r, cr, zs, p2, rfl, o2, hz, hzb, R2, hp2, g2⟩
  have C2 : Hid _ := raw_any g a lb cap bs' p2 w2 R2 (by omega)
  clear C1 R2
  go_wp2_with fail
  refine Calls.mono C2.out ?_
  rintro e w3 ⟨s, cs, ys, p3, rfl, o3, hy, _, R3, hp3, g3⟩
  have o3a : OwnI w3 w1.heap.size r cr zs := o2.keptR g3 (fun k hk j hj e => by cases hk; have := own_ge o2 j hj; omega)
  have C3 : Hid _ := pick_any g a lb cap bs' p3 6 w3 R3 (by omega) (by omega) (by omega)
  have z2 := g2.size
  have z3 := g3.size
  have B3 : Below w.heap.size w w3 := (B1.grown g2 B1.size (fun k hk => by cases hk; exact hg)).grown g3 (Nat.le_trans B1.size z2) (fun k hk => by cases hk; exact hg)
  clear C2 R3 o2 g2 g3
  go_wp2_with fail
  refine Calls.mono C3.out ?_
  rintro e w4 ⟨v, rfl, hv0, hv1, R4, g4⟩
  have B4 : Below w.heap.size w w4 := B3.grown g4 B3.size (fun k hk => by cases hk; exact hg)
  have o4a : OwnI w4 w1.heap.size r cr zs := o3a.keptR g4 (fun k hk j hj e => by cases hk; have := own_ge o3a j hj; omega)
  have o4b : OwnI w4 w2.heap.size s cs ys := o3.keptR g4 (fun k hk j hj e => by cases hk; have := own_ge o3 j hj; omega)
  have z4 := g4.size
  have zB := B1.size
  clear C3 o3a o3 B3 g4 B1
  by_cases hv : v = 0
  · subst hv
    have C4 : Hid _ := l1Trim_any r cr zs w4 o4a.sl (by omega)
    have htl := trim_len zs
    have htb := hzb.take (trimN zs zs.length)
    have la := own_blk o4a
    obtain ⟨ts, hts⟩ : ∃ ts, ts = zs.take (trimN zs zs.length) := ⟨_, rfl⟩
    rw [← hts] at C4 htl htb
    clear hts
    go_wp2_with fail
    refine Calls.mono C4.out ?_
    rintro e w5 ⟨t, ct, rfl, o5, b5⟩
    have B5 : Below w.heap.size w w5 := B4.trans (b5.mono B4.size)
    have R5 : Rd w5 g a lb cap bs' (p3 + 1) := R4.kept (row := none) ⟨b5.os, b5.tape, b5.output, b5.size, fun k hk _ => b5.block k hk⟩ (by simp) (by simp)
    have o5a := o4a.keep b5
    have z5 := b5.size
    clear C4 b5 o4a o4b R4
    rcases o5.parts with ⟨ht, hct, hts0⟩ | ⟨gt, rfl, hgt, hgtl⟩
    · subst hts0 ht hct
      have H9 : Hid (OwnI w5 w.heap.size r cr zs ∧ OwnI w5 w.heap.size none 0 [] ∧ Below w.heap.size w w5) := ⟨o5a.mono zB, o5.mono (by omega), B5⟩
      clear o5 o5a B5
      go_wp2
      go_ret2
      exact ⟨r, cr, zs, none, 0, [], rfl, H9.out.1, H9.out.2.1, hz, by simp, H9.out.2.2⟩
    · by_cases hne : ts.length = 0
      · have hnI : ((ts.length : Nat) : Int) = 0 := by omega
        have H9 : Hid (OwnI w5 w.heap.size r cr zs ∧ OwnI w5 w.heap.size (some ⟨gt, 0, none⟩) ct ts ∧ Below w.heap.size w w5) := ⟨o5a.mono zB, o5.mono (by omega), B5⟩
        have hts0 : ts = [] := List.eq_nil_of_length_eq_zero hne
        subst hts0
        clear o5 o5a B5
        go_wp2
        go_ret2
        exact ⟨r, cr, zs, some ⟨gt, 0, none⟩, ct, [], rfl, H9.out.1, H9.out.2.1, hz, by simp, H9.out.2.2⟩
      · have hnI : (0 : Int) < (ts.length : Int) := by omega
        have C5 : Hid _ := pick_any g a lb cap bs' (p3 + 1) 2 w5 R5 (by omega) (by omega) (by omega)
        clear R5
        go_wp2_with fail
        refine Calls.mono C5.out ?_
        rintro e w6 ⟨v6, rfl, hv60, hv61, R6, g6⟩
        have B6 : Below w.heap.size w w6 := B5.grown g6 B5.size (fun k hk => by cases hk; exact hg)
        have o6a : OwnI w6 w1.heap.size r cr zs := o5a.keptR g6 (fun k hk j hj e => by cases hk; have := own_ge o5a j hj; omega)
        have o6 : OwnI w6 w4.heap.size (some ⟨gt, 0, none⟩) ct ts := o5.keptR g6 (fun k hk j hj e => by cases hk; have := own_ge o5 j hj; omega)
        have z6 := g6.size
        have H9 : Hid (OwnI w6 w.heap.size r cr zs ∧ OwnI w6 w.heap.size (some ⟨gt, 0, none⟩) ct ts ∧ Below w.heap.size w w6) := ⟨o6a.mono zB, o6.mono (by omega), B6⟩
        have hc6 := own_cell o6 (i := 0) (by omega)
        obtain ⟨z, hzz⟩ : ∃ z, z = ts.getD 0 0 := ⟨_, rfl⟩
        rw [← hzz] at hc6
        by_cases hv6 : v6 = 0
        · subst hv6
          by_cases hzp : 0 < z
          · have hrow : w6.ownsRow w.heap.size 3 1 (.slice (some ⟨gt, 0, none⟩) ts.length ct) ts.length (ts.map (Value.int .i64)) := H9.out.2.1
            have hf6 := hrow.frozenAt 0
            have hst := hrow.stored 0 (.int .i64 (z - 1))
            have o7 : OwnI (w6.setCell ⟨gt, 0, none⟩ (.int .i64 (z - 1))) w.heap.size (some ⟨gt, 0, none⟩) ct (ts.set 0 (z - 1)) := by
              unfold OwnI
              rw [List.length_set, List.map_set]
              exact hst.1
            have o7a : OwnI (w6.setCell ⟨gt, 0, none⟩ (.int .i64 (z - 1))) w1.heap.size r cr zs := o6a.keptR hst.2 (fun k hk j hj e => by cases hk; have := la j hj; omega)
            have B7 : Below w.heap.size w (w6.setCell ⟨gt, 0, none⟩ (.int .i64 (z - 1))) := B6.grown hst.2 B6.size (fun k hk => by cases hk; omega)
            have C7 : Hid _ := l1Trim_any (some ⟨gt, 0, none⟩) ct (ts.set 0 (z - 1)) _ o7.sl (by rw [List.length_set]; omega)
            have htl2 := trim_len (ts.set 0 (z - 1))
            rw [List.length_set] at C7 htl2
            obtain ⟨us, hus⟩ : ∃ us, us = (ts.set 0 (z - 1)).take (trimN (ts.set 0 (z - 1)) ts.length) := ⟨_, rfl⟩
            rw [← hus] at C7 htl2
            have H7 : Hid (OwnI (w6.setCell ⟨gt, 0, none⟩ (.int .i64 (z - 1))) w1.heap.size r cr zs ∧ Below w.heap.size w (w6.setCell ⟨gt, 0, none⟩ (.int .i64 (z - 1)))) := ⟨o7a, B7⟩
            have hzM : z ≤ 65536 := by rw [hzz]; exact (htb 0).2
            clear hus hrow hst o7 o7a B7 o6 o6a B6 o5 o5a B5 C5 R6 g6 hzz
            go_wp2_with fail
            refine Calls.mono C7.out ?_
            rintro e w8 ⟨t8, c8, rfl, o8, b8⟩
            have H8 : Hid (OwnI w8 w.heap.size r cr zs ∧ OwnI w8 w.heap.size t8 c8 us ∧ Below w.heap.size w w8) := ⟨(H7.out.1.keep b8).mono zB, o8.mono H7.out.2.size, H7.out.2.trans (b8.mono H7.out.2.size)⟩
            clear o8 b8
            go_wp2
            go_ret2
            exact ⟨r, cr, zs, t8, c8, us, rfl, H8.out.1, H8.out.2.1, hz, by omega, H8.out.2.2⟩
          · clear o6 o6a B6 o5 o5a B5 C5 R6 g6 hzz
            go_wp2
            go_ret2
            exact ⟨r, cr, zs, some ⟨gt, 0, none⟩, ct, ts, rfl, H9.out.1, H9.out.2.1, hz, by omega, H9.out.2.2⟩
        · have e6 : (v6 == 0) = false := by simp [hv6]
          clear o6 o6a B6 o5 o5a B5 C5 R6 g6 hzz
          go_wp2
          go_ret2
          exact ⟨r, cr, zs, some ⟨gt, 0, none⟩, ct, ts, rfl, H9.out.1, H9.out.2.1, hz, by omega, H9.out.2.2⟩
  · have e0 : (v == 0) = false := by simp [hv]
    have H9 : Hid (OwnI w4 w.heap.size r cr zs ∧ OwnI w4 w.heap.size s cs ys ∧ Below w.heap.size w w4) := ⟨o4a.mono zB, o4b.mono (by omega), B4⟩
    clear o4a o4b B4 R4
    go_wp2
    go_ret2
    exact ⟨r, cr, zs, s, cs, ys, rfl, H9.out.1, H9.out.2.1, hz, hy, H9.out.2.2⟩
end Go.Proofs.Ythokphoojmpajaa
