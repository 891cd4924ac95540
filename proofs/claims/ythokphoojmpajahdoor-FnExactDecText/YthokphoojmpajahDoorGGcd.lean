/- The contracts of digits.gcd and spec.l1Gcd: the digits of the greatest common divisor. The contract of spec.l1Gcd: the digits of the greatest common divisor. -/
import Derived.Test.YthokphoojmpajahDoorDivAll
import Derived.Test.YthokphoojmpajahDoorDivBy
import Derived.Deep.LoopGhost
namespace Go.Proofs.YthokphoojmpajahDoor
open Go.RowKit Go.Proofs.Pin

theorem gcd_step (u v : Nat) : Nat.gcd v (u % v) = Nat.gcd u v := by rw [Nat.gcd_comm v (u % v), ← Nat.gcd_rec, Nat.gcd_comm]
theorem len_pos {v : Nat} (h : v ≠ 0) : 0 < (dgs v).length := by
  rcases Nat.eq_zero_or_pos (dgs v).length with h1 | h1
  · exfalso
    have hv := val_dgs v
    rw [List.length_eq_zero_iff.mp h1] at hv
    simp [val] at hv
    omega
  · exact h1

set_option maxRecDepth 20000 in
set_option maxHeartbeats 800000 in
theorem gcd_any (a b : Option Addr) (ca cb : Nat) (x y : Nat) (w : World) (ha : Sl w a (dgs x)) (hb : Sl w b (dgs y)) (hx : (dgs x).length ≤ 2000) (hy : (dgs y).length ≤ 2000) (hca : (dgs x).length ≤ ca) (hcb : (dgs y).length ≤ cb) :
    Calls Tryd.prog 62 #[.slice a (dgs x).length ca, .slice b (dgs y).length cb] w fun e w' => ∃ r cr, e = .returned (.slice r (dgs (Nat.gcd x y)).length cr) ∧ OwnI w' w.heap.size r cr (dgs (Nat.gcd x y)) ∧ Below w.heap.size w w' := by
  obtain ⟨z, hz⟩ : ∃ z, z = Nat.gcd x y := ⟨_, rfl⟩
  rw [← hz]
  have HZ : Hid (z = Nat.gcd x y) := hz
  clear hz
  have H0 : Hid (∃ (u v : Nat) (a' : Option Addr) (ca' : Nat) (b' : Option Addr) (cb' : Nat), y = v ∧ Value.slice a (dgs x).length ca = .slice a' (dgs u).length ca' ∧ Value.slice b (dgs y).length cb = .slice b' (dgs v).length cb' ∧ Sl w a' (dgs u) ∧ Sl w b' (dgs v) ∧ (dgs u).length ≤ ca' ∧ (dgs v).length ≤ cb' ∧ (dgs u).length ≤ 2000 ∧ (dgs v).length ≤ 2000 ∧ Nat.gcd u v = z ∧ Below w.heap.size w w) := ⟨x, y, a, ca, b, cb, rfl, rfl, rfl, ha, hb, hca, hcb, hx, hy, HZ.out.symm, Below.refl _ _⟩
  obtain ⟨lx, hlx⟩ : ∃ lx, lx = (dgs x).length := ⟨_, rfl⟩
  obtain ⟨ly, hly⟩ : ∃ ly, ly = (dgs y).length := ⟨_, rfl⟩
  rw [← hlx, ← hly] at H0 ⊢
  clear hlx hly hx hy hca hcb ha hb
  go_enter Tryd.func62, Tryd.ntmps62
  go_wp2
  go_loopg [0, 1] y (fun k d e wr => ∃ (u v : Nat) (a' : Option Addr) (ca' : Nat) (b' : Option Addr) (cb' : Nat), k = v ∧ d = .slice a' (dgs u).length ca' ∧ e = .slice b' (dgs v).length cb' ∧ Sl wr a' (dgs u) ∧ Sl wr b' (dgs v) ∧ (dgs u).length ≤ ca' ∧ (dgs v).length ≤ cb' ∧ (dgs u).length ≤ 2000 ∧ (dgs v).length ≤ 2000 ∧ Nat.gcd u v = z ∧ Below w.heap.size w wr)
  case atStart => exact H0.out
  case round =>
    obtain ⟨u, v, a', ca', b', cb', rfl, rfl, rfl, hu, hv, hcu, hcv, hlu, hlv, hg, hB⟩ := hrel
    by_cases h0 : gk = 0
    · subst h0
      rw [Nat.gcd_zero_right] at hg
      subst hg
      have C : Hid (Calls Tryd.prog 48 #[.slice a' (dgs u).length ca'] wr fun e w' => ∃ r cr, e = .returned (.slice r (dgs u).length cr) ∧ OwnI w' w.heap.size r cr (dgs u) ∧ Below w.heap.size w w') := (copied_any a' ca' (dgs u) wr hu (by omega)).mono fun e w' ⟨r, cr, h1, h2, h3⟩ => ⟨r, cr, h1, h2.mono hB.size, hB.trans (h3.mono hB.size)⟩
      obtain ⟨U, hU⟩ : ∃ U, U = dgs u := ⟨_, rfl⟩
      rw [← hU] at C ⊢
      rw [dgs_zero]
      have HU : Hid (U = dgs u) := hU
      clear hU hu hv hcu hcv hlu hlv hB
      go_wp2_with fail
      refine Calls.mono C.out ?_
      rintro e w2 ⟨r, cr, rfl, ho, hb2⟩
      go_wp2
      go_ret
      rw [← HU.out]
      exact ⟨r, cr, rfl, ho, hb2⟩
    · have hvp := len_pos h0
      have C : Hid (Calls Tryd.prog 58 #[.slice a' (dgs u).length ca', .slice b' (dgs gk).length cb'] wr fun e w' => ∃ r cr s cs, e = .returned (.tuple #[.slice r (dgs (u / gk)).length cr, .slice s (dgs (u % gk)).length cs]) ∧ OwnI w' w.heap.size s cs (dgs (u % gk)) ∧ Sl w' b' (dgs gk) ∧ Below w.heap.size w w') := (divBy_any a' b' ca' cb' u gk wr hu hv hlu hlv h0 hcu).mono fun e w' ⟨r, cr, s, cs, h1, _, h2, _, h3⟩ => ⟨r, cr, s, cs, h1, h2.mono hB.size, hv.keep h3, hB.trans (h3.mono hB.size)⟩
      have hlm : (dgs (u % gk)).length ≤ 2000 := Nat.le_trans (dgs_len_le (Nat.mod_le u gk)) hlu
      have hms : u % gk < gk := Nat.mod_lt _ (by omega)
      have hg2 : Nat.gcd gk (u % gk) = z := by rw [gcd_step]; exact hg
      obtain ⟨U, hU⟩ : ∃ U, U = dgs u := ⟨_, rfl⟩
      obtain ⟨V, hV⟩ : ∃ V, V = dgs gk := ⟨_, rfl⟩
      obtain ⟨q, hq⟩ : ∃ q, q = dgs (u / gk) := ⟨_, rfl⟩
      obtain ⟨m, hm⟩ : ∃ m, m = u % gk := ⟨_, rfl⟩
      rw [← hm] at C hlm hms hg2
      rw [← hU] at C ⊢
      rw [← hV] at C hvp hcv hlv ⊢
      rw [← hq] at C
      obtain ⟨M, hM⟩ : ∃ M, M = dgs m := ⟨_, rfl⟩
      rw [← hM] at C hlm
      have HV : Hid (V = dgs gk) := hV
      have HM : Hid (M = dgs m) := hM
      have HR : Hid (V.length ≤ cb' ∧ V.length ≤ 2000 ∧ M.length ≤ 2000 ∧ m < gk ∧ Nat.gcd gk m = z) := ⟨hcv, hlv, hlm, hms, hg2⟩
      have hvI : (0 : Int) < (V.length : Int) := by omega
      clear hU hV hq hm hM hu hv hcu hcv hlu hlv hg hB hlm hms hg2 H0 HZ h0 hvp
      go_wp2_with fail
      refine Calls.mono C.out ?_
      rintro e w2 ⟨r, cr, s, cs, rfl, ho, hs, hb2⟩
      have HO : Hid (OwnI w2 w.heap.size s cs M ∧ Sl w2 b' V ∧ Below w.heap.size w w2) := ⟨ho, hs, hb2⟩
      clear ho hs hb2 C
      go_wp2
      go_roundg m
      case measure => exact HR.out.2.2.2.1
      case rel =>
        have h1 := HV.out
        have h2 := HM.out
        refine ⟨gk, m, b', cb', s, cs, rfl, by rw [h1], by rw [h2], by rw [← h1]; exact HO.out.2.1, by rw [← h2]; exact HO.out.1.sl, by rw [← h1]; exact HR.out.1, by rw [← h2]; exact own_cap HO.out.1, by rw [← h1]; exact HR.out.2.1, by rw [← h2]; exact HR.out.2.2.1, HR.out.2.2.2.2, HO.out.2.2⟩
end Go.Proofs.YthokphoojmpajahDoor

namespace Go.Proofs.YthokphoojmpajahDoor
open Go.RowKit Go.Proofs.Pin

set_option maxRecDepth 20000 in
set_option maxHeartbeats 800000 in
theorem l1Gcd_any (a b : Option Addr) (ca cb : Nat) (x y : Nat) (w : World) (ha : Sl w a (dgs x)) (hb : Sl w b (dgs y)) (hx : (dgs x).length ≤ 2000) (hy : (dgs y).length ≤ 2000) :
    Calls Tryd.prog 37 #[.slice a (dgs x).length ca, .slice b (dgs y).length cb] w fun e w' => ∃ r cr, e = .returned (.slice r (dgs (Nat.gcd x y)).length cr) ∧ OwnI w' w.heap.size r cr (dgs (Nat.gcd x y)) ∧ Below w.heap.size w w' := by
  obtain ⟨z, hz⟩ : ∃ z, z = Nat.gcd x y := ⟨_, rfl⟩
  rw [← hz]
  have HZ : Hid (z = Nat.gcd x y) := hz
  clear hz
  have C1 : Hid (Calls Tryd.prog 43 #[.slice a (dgs x).length ca] w fun e w' => ∃ r6 c6, e = .returned (.slice r6 (dgs x).length c6) ∧ OwnI w' w.heap.size r6 c6 (dgs x) ∧ Below w.heap.size w w') := trim_same a ca x w ha (by omega)
  have C2 : Hid (∀ w1, Below w.heap.size w w1 → Calls Tryd.prog 43 #[.slice b (dgs y).length cb] w1 fun e w' => ∃ r6 c6, e = .returned (.slice r6 (dgs y).length c6) ∧ OwnI w' w1.heap.size r6 c6 (dgs y) ∧ Below w1.heap.size w1 w') := fun w1 h1 => trim_same b cb y w1 (hb.keep h1) (by omega)
  have H0 : Hid (∀ (a' : Option Addr) (ca' : Nat) (b' : Option Addr) (cb' : Nat) w2, OwnI w2 w.heap.size a' ca' (dgs x) → OwnI w2 w.heap.size b' cb' (dgs y) → Below w.heap.size w w2 → ∃ (u v : Nat) (a2 : Option Addr) (ca2 : Nat) (b2 : Option Addr) (cb2 : Nat), y = v ∧ Value.slice a' (dgs x).length ca' = .slice a2 (dgs u).length ca2 ∧ Value.slice b' (dgs y).length cb' = .slice b2 (dgs v).length cb2 ∧ OwnI w2 w.heap.size a2 ca2 (dgs u) ∧ OwnI w2 w.heap.size b2 cb2 (dgs v) ∧ (dgs u).length ≤ 2000 ∧ (dgs v).length ≤ 2000 ∧ Nat.gcd u v = z ∧ Below w.heap.size w w2) := fun a' ca' b' cb' w2 h1 h2 h3 => ⟨x, y, a', ca', b', cb', rfl, rfl, rfl, h1, h2, hx, hy, HZ.out.symm, h3⟩
  obtain ⟨X, hX⟩ : ∃ X, X = dgs x := ⟨_, rfl⟩
  obtain ⟨Y, hY⟩ : ∃ Y, Y = dgs y := ⟨_, rfl⟩
  rw [← hX] at C1 H0 ⊢
  rw [← hY] at C2 H0 ⊢
  clear hX hY hx hy ha hb
  go_enter Tryd.func37, Tryd.ntmps37
  go_wp2_with fail
  refine Calls.mono C1.out ?_
  rintro e w1 ⟨r1, c1, rfl, o1, b1⟩
  go_wp2_with fail
  refine Calls.mono (C2.out _ b1) ?_
  rintro e w2 ⟨r2, c2, rfl, o2, b2⟩
  have H1 : Hid _ := H0.out r1 c1 r2 c2 w2 (o1.keep b2) (o2.mono b1.size) (b1.trans (b2.mono b1.size))
  clear o1 b1 o2 b2 C1 C2 H0
  go_wp2
  go_loopg [5, 6] y (fun k d e wr => ∃ (u v : Nat) (a' : Option Addr) (ca' : Nat) (b' : Option Addr) (cb' : Nat), k = v ∧ d = .slice a' (dgs u).length ca' ∧ e = .slice b' (dgs v).length cb' ∧ OwnI wr w.heap.size a' ca' (dgs u) ∧ OwnI wr w.heap.size b' cb' (dgs v) ∧ (dgs u).length ≤ 2000 ∧ (dgs v).length ≤ 2000 ∧ Nat.gcd u v = z ∧ Below w.heap.size w wr)
  case atStart => exact H1.out
  case round =>
    obtain ⟨u, v, a', ca', b', cb', rfl, rfl, rfl, hu, hv, hlu, hlv, hg, hB⟩ := hrel
    by_cases h0 : gk = 0
    · subst h0
      rw [Nat.gcd_zero_right] at hg
      subst hg
      have HO : Hid (OwnI wr w.heap.size a' ca' (dgs u) ∧ Below w.heap.size w wr) := ⟨hu, hB⟩
      obtain ⟨U, hU⟩ : ∃ U, U = dgs u := ⟨_, rfl⟩
      rw [← hU] at HO ⊢
      rw [dgs_zero]
      have HU : Hid (U = dgs u) := hU
      clear hU hu hv hlu hlv hB
      go_wp2
      go_ret
      rw [← HU.out]
      exact ⟨a', ca', rfl, HO.out.1, HO.out.2⟩
    · have hvp := len_pos h0
      have C : Hid (Calls Tryd.prog 31 #[.slice a' (dgs u).length ca', .slice b' (dgs gk).length cb'] wr fun e w' => ∃ r cr s cs, e = .returned (.tuple #[.slice r (dgs (u / gk)).length cr, .slice s (dgs (u % gk)).length cs]) ∧ OwnI w' w.heap.size s cs (dgs (u % gk)) ∧ OwnI w' w.heap.size b' cb' (dgs gk) ∧ Below w.heap.size w w') := (l1Div_any a' b' ca' cb' u gk wr hu.sl hv.sl hlu hlv h0).mono fun e w' ⟨r, cr, s, cs, h1, _, h2, h3⟩ => ⟨r, cr, s, cs, h1, h2.mono hB.size, hv.keep h3, hB.trans (h3.mono hB.size)⟩
      have hlm : (dgs (u % gk)).length ≤ 2000 := Nat.le_trans (dgs_len_le (Nat.mod_le u gk)) hlu
      have hms : u % gk < gk := Nat.mod_lt _ (by omega)
      have hg2 : Nat.gcd gk (u % gk) = z := by rw [gcd_step]; exact hg
      obtain ⟨U, hU⟩ : ∃ U, U = dgs u := ⟨_, rfl⟩
      obtain ⟨V, hV⟩ : ∃ V, V = dgs gk := ⟨_, rfl⟩
      obtain ⟨q, hq⟩ : ∃ q, q = dgs (u / gk) := ⟨_, rfl⟩
      obtain ⟨m, hm⟩ : ∃ m, m = u % gk := ⟨_, rfl⟩
      rw [← hm] at C hlm hms hg2
      rw [← hU] at C ⊢
      rw [← hV] at C hvp hlv ⊢
      rw [← hq] at C
      obtain ⟨M, hM⟩ : ∃ M, M = dgs m := ⟨_, rfl⟩
      rw [← hM] at C hlm
      have HV : Hid (V = dgs gk) := hV
      have HM : Hid (M = dgs m) := hM
      have HR : Hid (V.length ≤ 2000 ∧ M.length ≤ 2000 ∧ m < gk ∧ Nat.gcd gk m = z) := ⟨hlv, hlm, hms, hg2⟩
      have hvI : (0 : Int) < (V.length : Int) := by omega
      clear hU hV hq hm hM hu hv hlu hlv hg hB hlm hms hg2 H1 HZ h0 hvp
      go_wp2_with fail
      refine Calls.mono C.out ?_
      rintro e w2 ⟨r, cr, s, cs, rfl, ho, hs, hb2⟩
      have HO : Hid (OwnI w2 w.heap.size s cs M ∧ OwnI w2 w.heap.size b' cb' V ∧ Below w.heap.size w w2) := ⟨ho, hs, hb2⟩
      clear ho hs hb2 C
      go_wp2
      go_roundg m
      case measure => exact HR.out.2.2.1
      case rel =>
        have h1 := HV.out
        have h2 := HM.out
        refine ⟨gk, m, b', cb', s, cs, rfl, by rw [h1], by rw [h2], by rw [← h1]; exact HO.out.2.1, by rw [← h2]; exact HO.out.1, by rw [← h1]; exact HR.out.1, by rw [← h2]; exact HR.out.2.1, HR.out.2.2.2, HO.out.2.2⟩
end Go.Proofs.YthokphoojmpajahDoor
