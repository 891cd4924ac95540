/- The contract of DrawNatGcd: two lists of ints, in rows of the call's own. -/
import Derived.Test.YthokphoojmpajaaDrawDiv
import Derived.Test.YthokphoojmpajaaOk
import Derived.Test.YthokphoojmpajaaMul
namespace Go.Proofs.Ythokphoojmpajaa
open Go.RowKit Go.Proofs.Pin

theorem dgs_mul_len {x y : Nat} : (dgs (x * y)).length ≤ (dgs x).length + (dgs y).length := by
  rw [dgs_len_iff, Nat.pow_add]
  exact Nat.mul_lt_mul'' ((dgs_len_iff x _).1 (Nat.le_refl _)) ((dgs_len_iff y _).1 (Nat.le_refl _))

set_option maxRecDepth 20000 in
set_option maxHeartbeats 3000000 in
theorem drawGcd_any (a : Option Addr) (len cap : Nat) (bs : List Int) (w : World) (h : SlU w a bs) (hb : ByteL bs) (hl : bs.length = len) (hl2 : len ≤ 1048576) (hcap : len ≤ cap) :
    Calls Try.prog 24 #[.slice a len cap] w fun e w' => ∃ r cr zs s cs ys, e = .returned (.tuple #[.slice r zs.length cr, .slice s ys.length cs]) ∧ OwnI w' w.heap.size r cr zs ∧ OwnI w' w.heap.size s cs ys ∧ zs.length ≤ 600 ∧ ys.length ≤ 600 ∧ Below w.heap.size w w' := by
  have C0 : Hid _ := open_any a len cap bs w h hb hl hl2 hcap
  clear h hb hl
  go_enter Try.func24, Try.ntmps24
  go_wp2_with fail
  refine Calls.mono C0.out ?_
  rintro e w1 ⟨g, lb, bs', rfl, hg, R1, B1⟩
  have C1 : Hid _ := raw_any g a lb cap bs' 0 w1 R1 (by omega)
  have hgl := R1.lt.1
  clear C0 R1
  go_wp2_with fail
  refine Calls.mono C1.out ?_
  rintro e w2 ⟨r, cr, zs, p2, rfl, o2, hz, _, R2, hp2, g2⟩
  have C2 : Hid _ := raw_any g a lb cap bs' p2 w2 R2 (by omega)
  clear C1 R2
  go_wp2_with fail
  refine Calls.mono C2.out ?_
  rintro e w3 ⟨s, cs, ys, p3, rfl, o3, hy, _, R3, hp3, g3⟩
  have o3a : OwnI w3 w1.heap.size r cr zs := o2.keptR g3 (fun k hk j hj e => by cases hk; have := own_ge o2 j hj; omega)
  have C3 : Hid _ := nat_any g a lb cap bs' p3 w3 R3 (by omega)
  have z2 := g2.size
  have z3 := g3.size
  have B3 : Below w.heap.size w w3 := (B1.grown g2 B1.size (fun k hk => by cases hk; exact hg)).grown g3 (Nat.le_trans B1.size z2) (fun k hk => by cases hk; exact hg)
  clear C2 R3 o2 g2 g3
  go_wp2_with fail
  refine Calls.mono C3.out ?_
  rintro e w4 ⟨t, ct, c, p4, rfl, o4, hc, R4, hp4, g4⟩
  have B4 : Below w.heap.size w w4 := B3.grown g4 B3.size (fun k hk => by cases hk; exact hg)
  have o4a : OwnI w4 w1.heap.size r cr zs := o3a.keptR g4 (fun k hk j hj e => by cases hk; have := own_ge o3a j hj; omega)
  have o4b : OwnI w4 w2.heap.size s cs ys := o3.keptR g4 (fun k hk j hj e => by cases hk; have := own_ge o3 j hj; omega)
  have zB := B1.size
  have z4 := g4.size
  clear C3 o3a o3 B3 g4 B1
  have H4 : Hid (OwnI w4 w.heap.size r cr zs ∧ OwnI w4 w.heap.size s cs ys ∧ Below w.heap.size w w4) := ⟨o4a.mono zB, o4b.mono (by omega), B4⟩
  have K1 : Hid _ := (specOk_any r cr zs w4 o4a.sl (by omega)).mono (R' := fun e w' => e = .returned (.bool (okB zs)) ∧ w4 = w') fun e w' h => ⟨h.1, h.2.symm⟩
  have K2 : Hid _ := (specOk_any s cs ys w4 o4b.sl (by omega)).mono (R' := fun e w' => e = .returned (.bool (okB ys)) ∧ w4 = w') fun e w' h => ⟨h.1, h.2.symm⟩
  cases h1 : okB zs with
  | false =>
    rw [h1] at K1
    clear h1 o4 o4a o4b
    go_wp2_with fail
    refine Calls.mono K1.out ?_
    rintro e w' ⟨rfl, rfl⟩
    go_wp2
    go_ret2
    exact ⟨r, cr, zs, s, cs, ys, rfl, H4.out.1, H4.out.2.1, by omega, by omega, H4.out.2.2⟩
  | true =>
    cases h2 : okB ys with
    | false =>
      rw [h1] at K1
      rw [h2] at K2
      clear h1 h2 o4 o4a o4b
      go_wp2_with fail
      refine Calls.mono K1.out ?_
      rintro e w' ⟨rfl, rfl⟩
      go_wp2_with fail
      refine Calls.mono K2.out ?_
      rintro e w' ⟨rfl, rfl⟩
      go_wp2
      go_ret2
      exact ⟨r, cr, zs, s, cs, ys, rfl, H4.out.1, H4.out.2.1, by omega, by omega, H4.out.2.2⟩
    | true =>
      rw [h1] at K1
      rw [h2] at K2
      obtain ⟨x, hxe, hx'⟩ := ok_dgs h1
      obtain ⟨y, hye, hy'⟩ := ok_dgs h2
      have CP : Hid _ := pick_any g a lb cap bs' p4 3 w4 R4 (by omega) (by omega) (by omega)
      have lx := own_blk (o4a)
      have ly := own_blk (o4b)
      have lt' := own_blk o4
      obtain ⟨C, hC⟩ : ∃ C, C = dgs c := ⟨_, rfl⟩
      rw [← hC] at hc o4 ⊢
      have HE : Hid (zs = dgs x ∧ ys = dgs y ∧ C = dgs c ∧ (dgs x).length ≤ 256 ∧ (dgs y).length ≤ 256) := ⟨hxe, hye, hC, hx', hy'⟩
      clear hxe hye hC hx' hy' h1 h2
      by_cases hl1 : (zs.length : Int) + (C.length : Int) < 200
      · by_cases hl2' : (ys.length : Int) + (C.length : Int) < 200
        · go_wp2_with fail
          refine Calls.mono K1.out ?_
          rintro e w' ⟨rfl, rfl⟩
          go_wp2_with fail
          refine Calls.mono K2.out ?_
          rintro e w' ⟨rfl, rfl⟩
          go_wp2_with fail
          refine Calls.mono CP.out ?_
          rintro e w5 ⟨v, rfl, hv0, hv1, R5, g5⟩
          have B5 : Below w.heap.size w w5 := B4.grown g5 B4.size (fun k hk => by cases hk; exact hg)
          have o5a : OwnI w5 w1.heap.size r cr zs := o4a.keptR g5 (fun k hk j hj e => by cases hk; have := own_ge o4a j hj; omega)
          have o5b : OwnI w5 w2.heap.size s cs ys := o4b.keptR g5 (fun k hk j hj e => by cases hk; have := own_ge o4b j hj; omega)
          have o5c : OwnI w5 w3.heap.size t ct C := o4.keptR g5 (fun k hk j hj e => by cases hk; have := own_ge o4 j hj; omega)
          have z5 := g5.size
          by_cases hv : 0 < v
          · obtain ⟨hxe, hye, hC, hx', hy'⟩ := HE.out
            have m1 : Hid (Calls Try.prog 50 #[.slice r zs.length cr, .slice t C.length ct] w5 fun e w' => ∃ r6 c6, e = .returned (.slice r6 (dgs (x * c)).length c6) ∧ OwnI w' w5.heap.size r6 c6 (dgs (x * c)) ∧ Below w5.heap.size w5 w') := by
              have h := l1Mul_any r t cr ct x c w5 (by rw [← hxe]; exact o5a.sl) (by rw [← hC]; exact o5c.sl) (by omega) (by rw [← hC]; omega)
              rw [← hxe, ← hC] at h
              exact h
            have m2 : Hid (∀ w6, Below w5.heap.size w5 w6 → Calls Try.prog 50 #[.slice s ys.length cs, .slice t C.length ct] w6 fun e w' => ∃ r6 c6, e = .returned (.slice r6 (dgs (y * c)).length c6) ∧ OwnI w' w6.heap.size r6 c6 (dgs (y * c)) ∧ Below w6.heap.size w6 w') := by
              intro w6 b6
              have h := l1Mul_any s t cs ct y c w6 (by rw [← hye]; exact (o5b.keep b6).sl) (by rw [← hC]; exact (o5c.keep b6).sl) (by omega) (by rw [← hC]; omega)
              rw [← hye, ← hC] at h
              exact h
            have n1 := dgs_mul_len (x := x) (y := c)
            have n2 := dgs_mul_len (x := y) (y := c)
            rw [← hC, ← hxe] at n1
            rw [← hC, ← hye] at n2
            obtain ⟨U, hU⟩ : ∃ U, U = dgs (x * c) := ⟨_, rfl⟩
            obtain ⟨V, hV⟩ : ∃ V, V = dgs (y * c) := ⟨_, rfl⟩
            rw [← hU] at m1 n1
            rw [← hV] at m2 n2
            clear hU hV hxe hye hC o5a o5b o5c o4 o4a o4b CP R5 g5 K1 K2
            go_wp2_with fail
            refine Calls.mono m1.out ?_
            rintro e w6 ⟨r6, c6, rfl, o6, b6⟩
            have M2 : Hid _ := m2.out w6 b6
            clear m1 m2
            go_wp2_with fail
            refine Calls.mono M2.out ?_
            rintro e w7 ⟨r7, c7, rfl, o7, b7⟩
            have B7 : Below w.heap.size w w7 := (B5.trans (b6.mono B5.size)).trans (b7.mono (Nat.le_trans B5.size b6.size))
            have H7 : Hid (OwnI w7 w.heap.size r6 c6 U ∧ OwnI w7 w.heap.size r7 c7 V ∧ Below w.heap.size w w7) := ⟨(o6.keep b7).mono B5.size, o7.mono (Nat.le_trans B5.size b6.size), B7⟩
            clear o6 o7 b6 b7 B7
            go_wp2
            go_ret2
            exact ⟨r6, c6, U, r7, c7, V, rfl, H7.out.1, H7.out.2.1, by omega, by omega, H7.out.2.2⟩
          · have H5 : Hid (OwnI w5 w.heap.size r cr zs ∧ OwnI w5 w.heap.size s cs ys ∧ Below w.heap.size w w5) := ⟨o5a.mono zB, o5b.mono (by omega), B5⟩
            clear o5a o5b o5c o4 o4a o4b CP R5 g5 K1 K2
            go_wp2
            go_ret2
            exact ⟨r, cr, zs, s, cs, ys, rfl, H5.out.1, H5.out.2.1, by omega, by omega, H5.out.2.2⟩
        · have hge2 : (200 : Int) ≤ (ys.length : Int) + (C.length : Int) := by omega
          have hdec2 : decide ((ys.length : Int) + (C.length : Int) < 200) = false := by simp; omega
          clear o4 o4a o4b CP hl2'
          go_wp2_with fail
          refine Calls.mono K1.out ?_
          rintro e w' ⟨rfl, rfl⟩
          go_wp2_with fail
          refine Calls.mono K2.out ?_
          rintro e w' ⟨rfl, rfl⟩
          go_wp2_with fail
          go_ret2
          exact ⟨r, cr, zs, s, cs, ys, rfl, H4.out.1, H4.out.2.1, by omega, by omega, H4.out.2.2⟩
      · have hge1 : (200 : Int) ≤ (zs.length : Int) + (C.length : Int) := by omega
        have hdec1 : decide ((zs.length : Int) + (C.length : Int) < 200) = false := by simp; omega
        clear o4 o4a o4b CP hl1
        go_wp2_with fail
        refine Calls.mono K1.out ?_
        rintro e w' ⟨rfl, rfl⟩
        go_wp2_with fail
        refine Calls.mono K2.out ?_
        rintro e w' ⟨rfl, rfl⟩
        go_wp2_with fail
        go_ret2
        exact ⟨r, cr, zs, s, cs, ys, rfl, H4.out.1, H4.out.2.1, by omega, by omega, H4.out.2.2⟩
end Go.Proofs.Ythokphoojmpajaa
