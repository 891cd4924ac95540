/- The contracts of DrawNatText, l4Many and DrawNatRead. -/
import Derived.Test.YthokphoojmpajaaDrawRaw
import Derived.Test.YthokphoojmpajaaNatText
import Derived.Test.YthokphoojmpajaaTxtBack
namespace Go.Proofs.Ythokphoojmpajaa
open Go.RowKit Go.Proofs.Pin

theorem Rd.below' {w w' : World} {g : Nat} {b : Option Addr} {lb cb : Nat} {bs : List Int} {p : Nat} (h : Rd w g b lb cb bs p) (hb : Below w.heap.size w w') : Rd w' g b lb cb bs p :=
  h.kept (row := none) ⟨hb.os, hb.tape, hb.output, hb.size, fun k hk _ => hb.block k hk⟩ (by simp) (by simp)

theorem SlU.keep {w w' : World} {a : Option Addr} {zs : List Int} (h : SlU w a zs) (hb : Below w.heap.size w w') : SlU w' a zs := by
  rcases h with h | ⟨b, off, rfl, hlt, hc⟩
  · exact .inl h
  · refine .inr ⟨b, off, rfl, Nat.lt_of_lt_of_le hlt hb.size, fun i hi => ?_⟩
    rw [hb.cell (p := ⟨b, off + i, none⟩) hlt]
    exact hc i hi
theorem slU_dN {w : World} {a : Option Addr} {zs : List Int} (h : SlU w a zs) (q : Nat) : SlU (w.drewN q) a zs := h

theorem drawNatText_any (a : Option Addr) (len cap : Nat) (bs : List Int) (w : World) (h : SlU w a bs) (hb : ByteL bs) (hl : bs.length = len) (hl2 : len ≤ 1048576) (hcap : len ≤ cap) :
    Calls Try.prog 16 #[.slice a len cap] w fun e w' => ∃ r cr zs, e = .returned (.slice r zs.length cr) ∧ OwnI w' w.heap.size r cr zs ∧ zs.length ≤ 257 ∧ Below w.heap.size w w' := by
  have C0 : Hid _ := open_any a len cap bs w h hb hl hl2 hcap
  clear h hb hl
  go_enter Try.func16, Try.ntmps16
  go_wp2_with fail
  refine Calls.mono C0.out ?_
  rintro e w1 ⟨g, lb, bs', rfl, hg, R1, B1⟩
  have C1 : Hid _ := raw_any g a lb cap bs' 0 w1 R1 (by omega)
  clear C0 R1
  go_wp2_with fail
  refine Calls.mono C1.out ?_
  rintro e w2 ⟨r, cr, zs, p2, rfl, o2, hz, _, R2, hp2, g2⟩
  have B2 : Below w.heap.size w w2 := B1.grown g2 B1.size (fun k hk => by cases hk; exact hg)
  have H2 : Hid (OwnI w2 w.heap.size r cr zs ∧ Below w.heap.size w w2) := ⟨o2.mono B1.size, B2⟩
  clear C1 g2 B1 o2 R2 B2
  go_wp2
  go_ret
  exact ⟨r, cr, zs, rfl, H2.out.1, hz, H2.out.2⟩

set_option maxHeartbeats 1000000 in
theorem many_any (s : ByteArray) (n : Nat) (w : World) (hs : s.size = 1) (hn : n ≤ 2000) :
    Calls Try.prog 46 #[.string s, .int .i64 (n : Int)] w fun e w' => ∃ o : ByteArray, e = .returned (.string o) ∧ o.size ≤ 2000 ∧ w = w' := by
  go_enter Try.func46, Try.ntmps46
  go_wp2
  go_loop [0, 1, 5] (fun t k o => ∃ (T O : ByteArray) (m : Nat), t = .string T ∧ k = .int .i64 (m : Int) ∧ o = .string O ∧ O.size + T.size * m = n ∧ T.size ≤ 4000 ∧ m ≤ 2000) (fun _ k _ => (intOf k).toNat)
  case atStart => exact ⟨s, ⟨#[]⟩, n, rfl, rfl, rfl, by rw [hs]; show 0 + 1 * n = n; omega, by omega, hn⟩
  case round =>
    obtain ⟨T, O, m, rfl, rfl, rfl, hsum, hT, hm2⟩ := hrel
    by_cases h0 : 0 < m
    · have h0I : (0 : Int) < (m : Int) := by omega
      have hT2 : T.size ≤ 2000 := by
        have := Nat.le_mul_of_pos_right T.size h0
        omega
      have hO2 : O.size ≤ 2000 := by omega
      by_cases h1 : m % 2 = 1
      · have h1b : (((m : Int) % 2) == 1) = true := by rw [beq_iff_eq]; omega
        have HS : Hid ((O ++ T).size + (T ++ T).size * (m / 2) = n ∧ (T ++ T).size ≤ 4000) := ⟨by
          rw [ByteArray.size_append, ByteArray.size_append]
          have e : m = 2 * (m / 2) + 1 := by omega
          have e2 : T.size * m = T.size * (2 * (m / 2)) + T.size := by
            conv => lhs; rw [e]
            rw [Nat.mul_add, Nat.mul_one]
          have e3 : (T.size + T.size) * (m / 2) = T.size * (2 * (m / 2)) := by
            rw [Nat.add_mul, Nat.mul_left_comm, Nat.two_mul]
          omega, by rw [ByteArray.size_append]; omega⟩
        clear hsum h1
        go_wp2
        go_round
        case rel => exact ⟨T ++ T, O ++ T, m / 2, rfl, by simp, rfl, HS.out.1, HS.out.2, by omega⟩
        case measure => simp [intOf]; omega
      · have h1b : (((m : Int) % 2) == 1) = false := by rw [beq_eq_false_iff_ne]; omega
        have HS : Hid (O.size + (T ++ T).size * (m / 2) = n ∧ (T ++ T).size ≤ 4000) := ⟨by
          rw [ByteArray.size_append]
          have e : m = 2 * (m / 2) := by omega
          have e2 : T.size * m = T.size * (2 * (m / 2)) := by
            conv => lhs; rw [e]
          have e3 : (T.size + T.size) * (m / 2) = T.size * (2 * (m / 2)) := by
            rw [Nat.add_mul, Nat.mul_left_comm, Nat.two_mul]
          omega, by rw [ByteArray.size_append]; omega⟩
        clear hsum h1
        go_wp2
        go_round
        case rel => exact ⟨T ++ T, O, m / 2, rfl, by simp, rfl, HS.out.1, HS.out.2, by omega⟩
        case measure => simp [intOf]; omega
    · have hm0 : m = 0 := by omega
      subst hm0
      have hO : O.size ≤ 2000 := by omega
      clear hsum h0
      go_wp2
      go_ret
      exact ⟨O, rfl, hO, rfl⟩

set_option maxHeartbeats 3000000 in
theorem drawNatRead_any (a : Option Addr) (len cap : Nat) (bs : List Int) (w : World) (h : SlU w a bs) (hb : ByteL bs) (hl : bs.length = len) (hl2 : len ≤ 1048576) (hcap : len ≤ cap) :
    Calls Try.prog 20 #[.slice a len cap] w fun e w' => ∃ t : ByteArray, e = .returned (.string t) ∧ t.size ≤ 4000 ∧ Below w.heap.size w w' := by
  have C0 : Hid _ := open_any a len cap bs w h hb hl hl2 hcap
  clear h hb hl
  go_enter Try.func20, Try.ntmps20
  go_wp2_with fail
  refine Calls.mono C0.out ?_
  rintro e w1 ⟨g, lb, bs', rfl, hg, R1, B1⟩
  have C1 : Hid _ := nat_any g a lb cap bs' 0 w1 R1 (by omega)
  clear C0 R1
  go_wp2_with fail
  refine Calls.mono C1.out ?_
  rintro e w2 ⟨r, cr, x, p2, rfl, o2, hz, R2, hp2, g2⟩
  have B2 : Below w.heap.size w w2 := B1.grown g2 B1.size (fun k hk => by cases hk; exact hg)
  have hsz := txt_len hz
  have C2 : Hid (Calls Try.prog 43 #[.slice r (dgs x).length cr] w2 fun e w' => e = .returned (.string (txt x)) ∧ Below w2.heap.size w2 w') := by
    have h := specText_any r cr (dgs x) w2 o2.sl (by omega)
    rw [textA_yes hz] at h
    exact h
  obtain ⟨T, hT⟩ : ∃ T, T = txt x := ⟨_, rfl⟩
  rw [← hT] at C2 hsz
  obtain ⟨X, hX⟩ : ∃ X, X = dgs x := ⟨_, rfl⟩
  rw [← hX] at C2 ⊢
  clear C1 g2 B1 o2 hT hX hz
  go_wp2_with fail
  refine Calls.mono C2.out ?_
  rintro e w3 ⟨rfl, b3⟩
  have B3 : Below w.heap.size w w3 := B2.trans (b3.mono B2.size)
  have R3 := R2.below' b3
  have C3 : Hid _ := pick_any g a lb cap bs' p2 12 w3 R3 (by omega) (by omega) (by omega)
  clear C2 b3 B2 R2 R3
  go_wp2_with fail
  refine Calls.mono C3.out ?_
  rintro e w4 ⟨v, rfl, hv0, hv1, R4, g4⟩
  have B4 : Below w.heap.size w w4 := B3.grown g4 B3.size (fun k hk => by cases hk; exact hg)
  clear C3 g4 B3
  have hvv : v = 0 ∨ v = 1 ∨ v = 2 ∨ v = 3 ∨ v = 4 ∨ 4 < v := by omega
  rcases hvv with rfl | rfl | rfl | rfl | rfl | h4
  · go_wp2
    go_ret
    exact ⟨_, rfl, by rw [ByteArray.size_append]; show 1 + _ ≤ 4000; omega, B4⟩
  · go_wp2
    go_ret
    exact ⟨_, rfl, by rw [ByteArray.size_append]; show _ + 1 ≤ 4000; omega, B4⟩
  · go_wp2
    go_ret
    exact ⟨_, rfl, by decide, B4⟩
  · go_wp2
    go_ret
    exact ⟨_, rfl, by rw [ByteArray.size_append]; show 1 + _ ≤ 4000; omega, B4⟩
  · have C5 : Hid _ := pick_any g a lb cap bs' (p2 + 1) 6 w4 R4 (by omega) (by omega) (by omega)
    clear R4
    go_wp2_with fail
    refine Calls.mono C5.out ?_
    rintro e w5 ⟨u, rfl, hu0, hu1, R5, g5⟩
    have B5 : Below w.heap.size w w5 := B4.grown g5 B4.size (fun k hk => by cases hk; exact hg)
    clear C5 g5 B4
    by_cases hu : u = 0
    · subst hu
      have C6 : Hid _ := pick_any g a lb cap bs' (p2 + 1 + 1) 75 w5 R5 (by omega) (by omega) (by omega)
      clear R5
      go_wp2_with fail
      refine Calls.mono C6.out ?_
      rintro e w6 ⟨y, rfl, hy0, hy1, R6, g6⟩
      have B6 : Below w.heap.size w w6 := B5.grown g6 B5.size (fun k hk => by cases hk; exact hg)
      clear C6 g6 B5 R6
      obtain ⟨m, rfl⟩ : ∃ m : Nat, y = (m : Int) := ⟨y.toNat, by omega⟩
      have C7 : Hid (Calls Try.prog 46 #[.string ⟨#[48]⟩, .int .i64 (1228 + (m : Int))] w6 fun e w' => ∃ o : ByteArray, e = .returned (.string o) ∧ o.size ≤ 2000 ∧ w6 = w') := by
        have h := many_any ⟨#[48]⟩ (1228 + m) w6 rfl (by omega)
        rw [show (((1228 + m : Nat)) : Int) = 1228 + (m : Int) by omega] at h
        exact h
      go_wp2_with fail
      refine Calls.mono C7.out ?_
      rintro e w7 ⟨o, rfl, ho, rfl⟩
      clear C7
      go_wp2
      go_ret
      exact ⟨_, rfl, by rw [ByteArray.size_append]; show 1 + _ ≤ 4000; omega, B6⟩
    · have hub : (u == 0) = false := by rw [beq_eq_false_iff_ne]; exact hu
      clear hu R5
      go_wp2
      go_ret
      exact ⟨_, rfl, by omega, B5⟩
  · have e0 : (v == 0) = false := by rw [beq_eq_false_iff_ne]; omega
    have e1 : (v == 1) = false := by rw [beq_eq_false_iff_ne]; omega
    have e2 : (v == 2) = false := by rw [beq_eq_false_iff_ne]; omega
    have e3 : (v == 3) = false := by rw [beq_eq_false_iff_ne]; omega
    have e4 : (v == 4) = false := by rw [beq_eq_false_iff_ne]; omega
    clear R4
    go_wp2
    go_ret
    exact ⟨_, rfl, by omega, B4⟩
end Go.Proofs.Ythokphoojmpajaa
