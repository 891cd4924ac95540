/- The contract of DrawNatRoot: a list of ints, in a row of the call's own. -/
import Derived.Test.YthokphoojmpajaaDrawDiv
import Derived.Test.YthokphoojmpajaaOk
import Derived.Test.YthokphoojmpajaaMul
import Derived.Test.YthokphoojmpajaaAdd
import Derived.Test.YthokphoojmpajaaRootNum
namespace Go.Proofs.Ythokphoojmpajaa
open Go.RowKit Go.Proofs.Pin

theorem Rd.below {w w' : World} {g : Nat} {b : Option Addr} {lb cb : Nat} {bs : List Int} {p : Nat} (h : Rd w g b lb cb bs p) (hb : Below w.heap.size w w') : Rd w' g b lb cb bs p :=
  h.kept (row := none) ⟨hb.os, hb.tape, hb.output, hb.size, fun k hk _ => hb.block k hk⟩ (by simp) (by simp)

set_option maxRecDepth 20000 in
set_option maxHeartbeats 3000000 in
theorem drawRoot_any (a : Option Addr) (len cap : Nat) (bs : List Int) (w : World) (h : SlU w a bs) (hb : ByteL bs) (hl : bs.length = len) (hl2 : len ≤ 1048576) (hcap : len ≤ cap) :
    Calls Try.prog 22 #[.slice a len cap] w fun e w' => ∃ r cr zs, e = .returned (.slice r zs.length cr) ∧ OwnI w' w.heap.size r cr zs ∧ zs.length ≤ 600 ∧ Below w.heap.size w w' := by
  have C0 : Hid _ := open_any a len cap bs w h hb hl hl2 hcap
  clear h hb hl
  go_enter Try.func22, Try.ntmps22
  go_wp2_with fail
  refine Calls.mono C0.out ?_
  rintro e w1 ⟨g, lb, bs', rfl, hg, R1, B1⟩
  have C1 : Hid _ := raw_any g a lb cap bs' 0 w1 R1 (by omega)
  have hgl := R1.lt.1
  clear C0 R1
  go_wp2_with fail
  refine Calls.mono C1.out ?_
  rintro e w2 ⟨r, cr, zs, p2, rfl, o2, hz, _, R2, hp2, g2⟩
  have B2 : Below w.heap.size w w2 := B1.grown g2 B1.size (fun k hk => by cases hk; exact hg)
  have z2 := g2.size
  have zB := B1.size
  clear C1 g2 B1
  have H2 : Hid (OwnI w2 w.heap.size r cr zs ∧ Below w.heap.size w w2) := ⟨o2.mono zB, B2⟩
  have K1 : Hid _ := (specOk_any r cr zs w2 o2.sl (by omega)).mono (R' := fun e w' => e = .returned (.bool (okB zs)) ∧ w2 = w') fun e w' h => ⟨h.1, h.2.symm⟩
  cases h1 : okB zs with
  | false =>
    rw [h1] at K1
    clear h1 o2 R2
    go_wp2_with fail
    refine Calls.mono K1.out ?_
    rintro e w' ⟨rfl, rfl⟩
    go_wp2
    go_ret
    exact ⟨r, cr, zs, rfl, H2.out.1, by omega, H2.out.2⟩
  | true =>
    rw [h1] at K1
    by_cases hl1 : (zs.length : Int) < 100
    · obtain ⟨x, hxe, hx'⟩ := ok_dgs h1
      have CP : Hid _ := pick_any g a lb cap bs' p2 3 w2 R2 (by omega) (by omega) (by omega)
      have HE : Hid (zs = dgs x) := hxe
      clear h1 hxe hx' R2
      go_wp2_with fail
      refine Calls.mono K1.out ?_
      rintro e w' ⟨rfl, rfl⟩
      go_wp2_with fail
      refine Calls.mono CP.out ?_
      rintro e w3 ⟨v, rfl, hv0, hv1, R3, g3⟩
      have B3 : Below w.heap.size w w3 := B2.grown g3 B2.size (fun k hk => by cases hk; exact hg)
      have o3 : OwnI w3 w1.heap.size r cr zs := o2.keptR g3 (fun k hk j hj e => by cases hk; have := own_ge o2 j hj; omega)
      clear o2 g3 K1 CP B2
      by_cases hv : 0 < v
      · have hxe := HE.out
        have m1 : Hid (Calls Try.prog 50 #[.slice r zs.length cr, .slice r zs.length cr] w3 fun e w' => ∃ r6 c6, e = .returned (.slice r6 (dgs (x * x)).length c6) ∧ OwnI w' w3.heap.size r6 c6 (dgs (x * x)) ∧ Below w3.heap.size w3 w') := by
          have h := l1Mul_any r r cr cr x x w3 (by rw [← hxe]; exact o3.sl) (by rw [← hxe]; exact o3.sl) (by rw [← hxe]; omega) (by rw [← hxe]; omega)
          rw [← hxe] at h
          exact h
        have n1 : (dgs (x * x)).length ≤ 256 + 256 := mul_len (by rw [← hxe]; omega) (by rw [← hxe]; omega)
        have d1 : dgs 1 = [1] := dgs_one (by decide) (by decide)
        have m2 : Hid (∀ (W : World) (s t : Option Addr) (cs : Nat), Sl W s (dgs (x * x)) → Sl W t [1] → Calls Try.prog 36 #[.slice s (dgs (x * x)).length cs, .slice t 1 1] W fun e w' => ∃ r6 c6, e = .returned (.slice r6 (dgs (x * x + 1)).length c6) ∧ OwnI w' W.heap.size r6 c6 (dgs (x * x + 1)) ∧ Below W.heap.size W w') := fun W s t cs h1 h2 => by
          have h := l1Add_any s t cs 1 (x * x) 1 W h1 (by rw [d1]; exact h2) (by omega) (by rw [d1]; decide)
          rw [d1] at h
          exact h
        have n2 : (dgs (x * x + 1)).length ≤ 513 := sum_len (K := 512) n1 (by rw [d1]; decide)
        obtain ⟨U, hU⟩ : ∃ U, U = dgs (x * x) := ⟨_, rfl⟩
        obtain ⟨V, hV⟩ : ∃ V, V = dgs (x * x + 1) := ⟨_, rfl⟩
        rw [← hU] at m1 m2 n1
        rw [← hV] at m2 n2
        have CP2 : Hid (∀ W, Below w3.heap.size w3 W → Calls Try.prog 45 #[.pointer (some ⟨g, 0, none⟩), .int .i64 3] W fun e w' => ∃ v : Int, e = .returned (.int .i64 v) ∧ 0 ≤ v ∧ W.grownBy w' (some g)) := fun W hb => (pick_any g a lb cap bs' (p2 + 1) 3 W (R3.below hb) (by omega) (by omega) (by omega)).mono fun e w' ⟨v, h1, h2, h3, h4, h5⟩ => ⟨v, h1, h2, h5⟩
        have hg3 : g < w3.heap.size := R3.lt.1
        clear hU hV hxe o3 R3 d1
        go_wp2_with fail
        refine Calls.mono m1.out ?_
        rintro e w4 ⟨r4, c4, rfl, o4, b4⟩
        have P4 : Hid _ := CP2.out w4 b4
        have B4 : Below w.heap.size w w4 := B3.trans (b4.mono B3.size)
        clear m1 CP2 b4
        go_wp2_with fail
        refine Calls.mono P4.out ?_
        rintro e w5 ⟨u, rfl, hu0, g5⟩
        have B5 : Below w.heap.size w w5 := B4.grown g5 B4.size (fun k hk => by cases hk; exact hg)
        have o5 : OwnI w5 w3.heap.size r4 c4 U := o4.keptR g5 (fun k hk j hj e => by cases hk; have := own_ge o4 j hj; omega)
        clear P4 o4 g5 B4
        by_cases hu : (u == 0) = true
        · obtain ⟨W, hW⟩ : ∃ W, W = w5.alloc (.cells #[.int .i64 1] 3) := ⟨_, rfl⟩
          have bW : Below w5.heap.size w5 W := by rw [hW]; exact (Below.refl _ _).alloc (Nat.le_refl _) _
          have sA : Sl W (some ⟨w5.heap.size, 0, none⟩) [1] := by
            rw [hW]
            exact (own_of_block (base := w5.heap.size) (zs := [(1 : Int)]) (World.alloc_heap_new w5 _) (Nat.le_refl _) (by simp [maxLen])).sl
          have M2 : Hid _ := m2.out W r4 (some ⟨w5.heap.size, 0, none⟩) c4 (o5.keep bW).sl sA
          have BW : Below w.heap.size w W := B5.trans (bW.mono B5.size)
          clear m2 sA bW o5
          go_wp2_with fail
          rw [← hW]
          clear hW
          refine Calls.mono M2.out ?_
          rintro e w6 ⟨r6, c6, rfl, o6, b6⟩
          have H6 : Hid (OwnI w6 w.heap.size r6 c6 V ∧ Below w.heap.size w w6) := ⟨o6.mono BW.size, BW.trans (b6.mono BW.size)⟩
          clear o6 b6 M2
          go_wp2
          go_ret
          exact ⟨r6, c6, V, rfl, H6.out.1, by omega, H6.out.2⟩
        · have hu' : (u == 0) = false := by simpa using hu
          have H5 : Hid (OwnI w5 w.heap.size r4 c4 U ∧ Below w.heap.size w w5) := ⟨o5.mono B3.size, B5⟩
          clear o5 hu m2
          go_wp2
          go_ret
          exact ⟨r4, c4, U, rfl, H5.out.1, by omega, H5.out.2⟩
      · have H3 : Hid (OwnI w3 w.heap.size r cr zs ∧ Below w.heap.size w w3) := ⟨o3.mono zB, B3⟩
        clear o3 R3
        go_wp2
        go_ret
        exact ⟨r, cr, zs, rfl, H3.out.1, by omega, H3.out.2⟩
    · have hge1 : (100 : Int) ≤ (zs.length : Int) := by omega
      have hdec1 : decide ((zs.length : Int) < 100) = false := by simp; omega
      clear o2 R2 hl1 h1
      go_wp2_with fail
      refine Calls.mono K1.out ?_
      rintro e w' ⟨rfl, rfl⟩
      go_wp2_with fail
      go_ret
      exact ⟨r, cr, zs, rfl, H2.out.1, by omega, H2.out.2⟩
end Go.Proofs.Ythokphoojmpajaa
