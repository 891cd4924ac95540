/- The contracts of ratio.decimals and impl.DecText. -/
import Derived.Test.YthokphoojmpajahDoorDecImp
import Derived.Test.YthokphoojmpajahDoorGFr8
import Derived.Test.YthokphoojmpajahDoorGDT
import Derived.Test.YthokphoojmpajahDoorGRd
namespace Go.Proofs.YthokphoojmpajahDoor
open Go.RowKit Go.Proofs.Pin

/-- How few decimals behind the point are enough. -/
def decO (x y : Nat) : Option Nat := (List.range 59).find? fun k => decide (x * 10 ^ k % y = 0)
theorem decO_some {x y k : Nat} (hk : k < 59) (h : x * 10 ^ k % y = 0) (hj : ∀ j, j < k → x * 10 ^ j % y ≠ 0) : decO x y = some k := by
  unfold decO
  rw [List.find?_range_eq_some]
  exact ⟨by simpa using h, List.mem_range.2 hk, fun j hj' => by simpa using hj j hj'⟩
theorem decO_none {x y : Nat} (hj : ∀ j, j < 59 → x * 10 ^ j % y ≠ 0) : decO x y = none := by
  unfold decO
  rw [List.find?_eq_none]
  intro k hk
  have := hj k (List.mem_range.1 hk)
  simpa using this
def decT (x y : Nat) : ByteArray := match decO x y with | some k => pointT (txt (x * 10 ^ k / y)) k | none => ⟨#[]⟩
theorem ten_len (x k : Nat) (hx : (dgs x).length ≤ 256) : (dgs (x * 10 ^ k)).length ≤ 256 + k := by
  rw [dgs_len_iff] at hx ⊢
  rw [Nat.pow_add]
  have h1 : 10 ^ k ≤ 65536 ^ k := Nat.pow_le_pow_left (by decide) k
  have h2 : 0 < 10 ^ k := Nat.pow_pos (by decide)
  calc x * 10 ^ k < 65536 ^ 256 * 10 ^ k := Nat.mul_lt_mul_of_pos_right hx h2
    _ ≤ 65536 ^ 256 * 65536 ^ k := Nat.mul_le_mul_left _ h1
theorem txt_size_le {n K : Nat} (h : (dgs n).length ≤ K) (hK : 1 ≤ K) : (txt n).size ≤ 5 * K := by
  by_cases hn : n = 0
  · subst hn
    rw [txt_zero]
    show 1 ≤ 5 * K
    omega
  · rw [txt_size hn]
    exact nd_len h

set_option maxRecDepth 20000 in
set_option maxHeartbeats 4000000 in
theorem decimals_any (r s : Option Addr) (cr cs x y : Nat) (w : World) (hx : Sl w r (dgs x)) (hy : Sl w s (dgs y)) (lx : (dgs x).length ≤ 256) (ly : (dgs y).length ≤ 256) (kx : (dgs x).length ≤ cr) (hy0 : y ≠ 0) :
    Calls Tryd.prog 35 #[.agg #[.slice r (dgs x).length cr, .slice s (dgs y).length cs]] w fun e w' => e = .returned (.tuple #[.string (decT x y), .bool (decO x y).isSome]) ∧ Below w.heap.size w w' := by
  obtain ⟨w0, hw0⟩ : ∃ w0, w0 = w.alloc (.cells #[.slice r (dgs x).length cr, .slice s (dgs y).length cs] 44) := ⟨_, rfl⟩
  have B0 : Below w.heap.size w w0 := by rw [hw0]; exact (Below.refl _ w).alloc (Nat.le_refl _) _
  have k0 : BoxC w0 w.heap.size 44 #[.slice r (dgs x).length cr, .slice s (dgs y).length cs] := by rw [hw0]; exact boxc_new _ _ _
  have DV : Hid (∀ (W : World) (k : Nat) (a : Option Addr) (c : Nat), k < 59 → Sl W a (dgs (x * 10 ^ k)) → Sl W s (dgs y) → (dgs (x * 10 ^ k)).length ≤ c → Calls Tryd.prog 58 #[.slice a (dgs (x * 10 ^ k)).length c, .slice s (dgs y).length cs] W fun e w' => ∃ r1 c1 s1 d1, e = .returned (.tuple #[.slice r1 (dgs (x * 10 ^ k / y)).length c1, .slice s1 (dgs (x * 10 ^ k % y)).length d1]) ∧ OwnI w' W.heap.size r1 c1 (dgs (x * 10 ^ k / y)) ∧ Below W.heap.size W w') := fun W k a c hk h1 h2 h3 => (divBy_any a s c cs (x * 10 ^ k) y W h1 h2 (by have := ten_len x k lx; omega) (by omega) hy0 h3).mono fun e w' ⟨r1, c1, s1, d1, h1, h2, _, _, h4⟩ => ⟨r1, c1, s1, d1, h1, h2, h4⟩
  have TX : Hid (∀ (W : World) (k : Nat) (a : Option Addr) (c : Nat), k < 59 → Sl W a (dgs (x * 10 ^ k / y)) → Calls Tryd.prog 41 #[.slice a (dgs (x * 10 ^ k / y)).length c] W fun e w' => e = .returned (.string (txt (x * 10 ^ k / y))) ∧ Below W.heap.size W w') := fun W k a c hk h1 => dText_any a c _ W h1 (by have := ten_len x k lx; have := dgs_len_le (Nat.div_le_self (x * 10 ^ k) y); omega)
  have PT : Hid (∀ (W : World) (k : Nat), k < 59 → Calls Tryd.prog 59 #[.string (txt (x * 10 ^ k / y)), .int .i64 (k : Int)] W fun e w' => e = .returned (.string (pointT (txt (x * 10 ^ k / y)) k)) ∧ ∃ n, W.drewN n = w') := fun W k hk => pointed_any _ k W (by omega) (by have h1 := ten_len x k lx; have h2 := dgs_len_le (Nat.div_le_self (x * 10 ^ k) y); have := txt_size_le (n := x * 10 ^ k / y) (K := 315) (by omega) (by decide); omega)
  have SC : Hid (∀ (W : World) (k : Nat) (a : Option Addr) (c : Nat), k < 59 → Sl W a (dgs (x * 10 ^ k)) → Calls Tryd.prog 60 #[.slice a (dgs (x * 10 ^ k)).length c, .int .i64 10, .int .i64 0] W fun e w' => ∃ r1 c1, e = .returned (.slice r1 (dgs (x * 10 ^ (k + 1))).length c1) ∧ OwnI w' W.heap.size r1 c1 (dgs (x * 10 ^ (k + 1))) ∧ Below W.heap.size W w') := fun W k a c hk h1 => by
    have h := scaled_any a c (x * 10 ^ k) 10 0 W h1 (by have := ten_len x k lx; omega) (by decide) (by decide) (by decide) (by decide)
    have e : x * 10 ^ k * (10 : Int).toNat + (0 : Int).toNat = x * 10 ^ (k + 1) := by
      rw [Nat.pow_succ, ← Nat.mul_assoc]; rfl
    rw [e] at h
    exact h
  have HS : Hid (∀ k, k < 59 → x * 10 ^ k % y = 0 → (∀ j, j < k → x * 10 ^ j % y ≠ 0) → decT x y = pointT (txt (x * 10 ^ k / y)) k ∧ (decO x y).isSome = true) := fun k hk h hj => by
    have e := decO_some hk h hj
    unfold decT
    rw [e]
    exact ⟨rfl, rfl⟩
  have HN : Hid ((∀ j, j < 59 → x * 10 ^ j % y ≠ 0) → decT x y = ⟨#[]⟩ ∧ (decO x y).isSome = false) := fun hj => by
    have e := decO_none hj
    unfold decT
    rw [e]
    exact ⟨rfl, rfl⟩
  have H0 : Hid (Sl w0 r (dgs (x * 10 ^ 0)) ∧ (dgs (x * 10 ^ 0)).length ≤ cr ∧ dgs x = dgs (x * 10 ^ 0)) := ⟨by rw [Nat.pow_zero, Nat.mul_one]; exact hx.keep B0, by rw [Nat.pow_zero, Nat.mul_one]; exact kx, by rw [Nat.pow_zero, Nat.mul_one]⟩
  have HY : Hid (Sl w s (dgs y)) := hy
  obtain ⟨DT, hDT⟩ : ∃ DT, DT = decT x y := ⟨_, rfl⟩
  obtain ⟨DO, hDO⟩ : ∃ DO, DO = (decO x y).isSome := ⟨_, rfl⟩
  rw [← hDT, ← hDO] at HS HN ⊢
  obtain ⟨X0, hX0⟩ : ∃ X0, X0 = dgs x := ⟨_, rfl⟩
  obtain ⟨Y, hY⟩ : ∃ Y, Y = dgs y := ⟨_, rfl⟩
  rw [← hX0, ← hY] at hw0 k0 ⊢
  rw [← hX0] at H0
  rw [← hY] at DV HY
  clear hx hy lx ly kx hy0 hDT hDO hX0 hY
  obtain ⟨p0, p1, pf, pn⟩ := boxc2 k0
  go_enter Tryd.func35, Tryd.ntmps35
  go_wp2
  rw [← hw0]
  clear hw0 p0 p1 pf pn
  go_loopw [4, 10] (fun v i wr => ∃ (k : Nat) (a : Option Addr) (c : Nat), i = .int .i64 (k : Int) ∧ k ≤ 59 ∧ v = .slice a (dgs (x * 10 ^ k)).length c ∧ Sl wr a (dgs (x * 10 ^ k)) ∧ (dgs (x * 10 ^ k)).length ≤ c ∧ (∀ j, j < k → x * 10 ^ j % y ≠ 0) ∧ Below w0.heap.size w0 wr) (fun _ i _ => 59 - (intOf i).toNat)
  case atStart => exact ⟨0, r, cr, rfl, by omega, by rw [← H0.out.2.2], H0.out.1, H0.out.2.1, fun j hj => by omega, Below.refl _ _⟩
  case round =>
    obtain ⟨k, a, c, rfl, hk, rfl, ha, hc, hj, hb⟩ := hrel
    have k1 := boxc_keep k0 hb
    have HB : Hid (Below w.heap.size w wr) := B0.trans (hb.mono B0.size)
    by_cases hlt : k < 59
    · have hltI : (k : Int) < 59 := by omega
      have D1 : Hid _ := DV.out wr k a c hlt ha (Sl.keep HY.out HB.out) hc
      have S1 : Hid (∀ W, Sl W a (dgs (x * 10 ^ k)) → Calls Tryd.prog 60 #[.slice a (dgs (x * 10 ^ k)).length c, .int .i64 10, .int .i64 0] W fun e w' => ∃ r1 c1, e = .returned (.slice r1 (dgs (x * 10 ^ (k + 1))).length c1) ∧ OwnI w' W.heap.size r1 c1 (dgs (x * 10 ^ (k + 1))) ∧ Below W.heap.size W w') := fun W h => SC.out W k a c hlt h
      have T1 : Hid (∀ W q cq, Sl W q (dgs (x * 10 ^ k / y)) → Calls Tryd.prog 41 #[.slice q (dgs (x * 10 ^ k / y)).length cq] W fun e w' => e = .returned (.string (txt (x * 10 ^ k / y))) ∧ Below W.heap.size W w') := fun W q cq h => TX.out W k q cq hlt h
      have P1 : Hid _ := fun W => PT.out W k hlt
      have HJ : Hid (∀ j, j < k → x * 10 ^ j % y ≠ 0) := hj
      have HM : Hid (((dgs (x * 10 ^ k % y)).length : Int) = 0 ↔ x * 10 ^ k % y = 0) := by
        have := dgs_pos_len (x * 10 ^ k % y)
        show _ ↔ _
        omega
      obtain ⟨Q, hQ⟩ : ∃ Q, Q = dgs (x * 10 ^ k / y) := ⟨_, rfl⟩
      obtain ⟨M, hM⟩ : ∃ M, M = dgs (x * 10 ^ k % y) := ⟨_, rfl⟩
      obtain ⟨Z, hZ⟩ : ∃ Z, Z = dgs (x * 10 ^ k) := ⟨_, rfl⟩
      obtain ⟨T, hT⟩ : ∃ T, T = txt (x * 10 ^ k / y) := ⟨_, rfl⟩
      rw [← hQ, ← hM, ← hZ] at D1
      rw [← hQ, ← hT] at T1
      rw [← hT] at P1
      rw [← hZ] at S1 ha ⊢
      rw [← hM] at HM
      obtain ⟨V, hV⟩ : ∃ V, V = dgs (x * 10 ^ (k + 1)) := ⟨_, rfl⟩
      rw [← hV] at S1
      have HV : Hid (V = dgs (x * 10 ^ (k + 1))) := hV
      have HT : Hid (T = txt (x * 10 ^ k / y)) := hT
      obtain ⟨p0, p1, pf, pn⟩ := boxc2 k1
      clear hQ hM hZ hT hV hj hc DV SC TX PT
      go_wp2_with fail
      refine Calls.mono D1.out ?_
      rintro e w1 ⟨r1, c1, s1, d1, rfl, o1, b1⟩
      clear D1 p0 p1 pf pn
      by_cases hz : x * 10 ^ k % y = 0
      · have hz0 : ((M.length : Int) == 0) = true := by rw [beq_iff_eq]; exact HM.out.2 hz
        obtain ⟨eT, eO⟩ := HS.out k hlt hz HJ.out
        have HB1 : Hid (Below w.heap.size w w1) := HB.out.trans (b1.mono HB.out.size)
        have o1' := o1.sl
        clear S1 HM hz b1 hb k1 k0 B0 ha HV
        go_wp2_with fail
        refine Calls.mono (T1.out _ _ _ o1') ?_
        rintro e w2 ⟨rfl, b2⟩
        have HB2 : Hid (Below w.heap.size w w2) := HB1.out.trans (b2.mono HB1.out.size)
        clear T1 b2 o1 o1'
        go_wp2_with fail
        refine Calls.mono (P1.out _) ?_
        rintro e w3 ⟨rfl, n3, rfl⟩
        clear P1
        go_wp2
        go_ret2
        exact ⟨by rw [eT, eO, ← HT.out]; rfl, below_dN HB2.out n3⟩
      · have hz0 : ((M.length : Int) == 0) = false := by
          rw [beq_eq_false_iff_ne]
          exact fun h => hz (HM.out.1 h)
        have HNZ : Hid (x * 10 ^ k % y ≠ 0) := hz
        have hb1 : Below w0.heap.size w0 w1 := hb.trans (b1.mono hb.size)
        have ha1 := ha.keep b1
        clear HM hz o1 b1 T1 P1 HT hb k1 ha HB
        go_wp2_with fail
        refine Calls.mono (S1.out _ ha1) ?_
        rintro e w2 ⟨r2, c2, rfl, o2, b2⟩
        have HF : Hid (Sl w2 r2 V ∧ V.length ≤ c2 ∧ Below w0.heap.size w0 w2) := ⟨o2.sl, own_cap o2, hb1.trans (b2.mono hb1.size)⟩
        clear S1 o2 b2 hb1 ha1
        go_wp2
        go_roundw
        case rel => exact ⟨k + 1, r2, c2, by go_num, by omega, by rw [HV.out], by rw [← HV.out]; exact HF.out.1, by rw [← HV.out]; exact HF.out.2.1, fun j hj => by
          by_cases e : j = k
          · subst e; exact HNZ.out
          · exact HJ.out j (by omega), HF.out.2.2⟩
        case measure => simp [intOf]; omega
    · have hge : ¬ (k : Int) < 59 := by omega
      obtain ⟨eT, eO⟩ := HN.out (fun j hj' => hj j (by omega))
      obtain ⟨Z, hZ⟩ : ∃ Z, Z = dgs (x * 10 ^ k) := ⟨_, rfl⟩
      rw [← hZ]
      clear hZ ha hc hj hb k1 hk hlt DV SC TX PT HS HN
      go_wp2
      go_ret2
      exact ⟨rfl, HB.out⟩

/-- What DecText answers. -/
def dcB (b : Bool) (X Y : List Int) : Bool := fokB b X Y && (!b && ((decO (val X).toNat (val Y).toNat).isSome && decide ((decT (val X).toNat (val Y).toNat).size ≤ 60)))
def dcT (b : Bool) (X Y : List Int) : ByteArray := if dcB b X Y = true then decT (val X).toNat (val Y).toNat else ⟨#[]⟩
theorem dc_cases (b : Bool) (X Y : List Int) : (fokB b X Y = false ∧ dcB b X Y = false ∧ dcT b X Y = ⟨#[]⟩) ∨ (fokB b X Y = true ∧ b = true ∧ dcB b X Y = false ∧ dcT b X Y = ⟨#[]⟩) ∨
    (fokB b X Y = true ∧ b = false ∧ ∃ x y : Nat, X = dgs x ∧ Y = dgs y ∧ (dgs x).length ≤ 256 ∧ (dgs y).length ≤ 256 ∧ y ≠ 0 ∧ ((decO x y).isSome = false ∧ dcB b X Y = false ∧ dcT b X Y = ⟨#[]⟩ ∨ (decO x y).isSome = true ∧ 60 < (decT x y).size ∧ dcB b X Y = false ∧ dcT b X Y = ⟨#[]⟩ ∨ (decO x y).isSome = true ∧ (decT x y).size ≤ 60 ∧ dcB b X Y = true ∧ dcT b X Y = decT x y)) := by
  cases h : fokB b X Y with
  | false => exact .inl ⟨rfl, by simp [dcB, h], by simp [dcT, dcB, h]⟩
  | true =>
    cases b with
    | true => exact .inr (.inl ⟨rfl, rfl, by simp [dcB], by simp [dcT, dcB]⟩)
    | false =>
      right; right
      obtain ⟨x, y, e1, e2, lx, ly, hy, _⟩ := fok_parts h
      subst e1
      subst e2
      refine ⟨rfl, rfl, x, y, rfl, rfl, lx, ly, hy, ?_⟩
      have eB : dcB false (dgs x) (dgs y) = ((decO x y).isSome && decide ((decT x y).size ≤ 60)) := by
        unfold dcB
        rw [h, val_dgs, val_dgs, Int.toNat_natCast, Int.toNat_natCast]
        simp
      have eT : dcT false (dgs x) (dgs y) = if dcB false (dgs x) (dgs y) = true then decT x y else ⟨#[]⟩ := by
        unfold dcT
        rw [val_dgs, val_dgs, Int.toNat_natCast, Int.toNat_natCast]
      cases ho : (decO x y).isSome with
      | false => exact .inl ⟨rfl, by rw [eB, ho]; rfl, by rw [eT, eB, ho]; simp⟩
      | true =>
        by_cases hs : (decT x y).size ≤ 60
        · exact .inr (.inr ⟨rfl, hs, by rw [eB, ho]; simpa using hs, by rw [eT, eB, ho]; simp [hs]⟩)
        · exact .inr (.inl ⟨rfl, by omega, by rw [eB, ho]; simpa using hs, by rw [eT, eB, ho]; simp [hs]⟩)

set_option maxRecDepth 20000 in
set_option maxHeartbeats 2000000 in
theorem implDec_any (b : Bool) (r s : Option Addr) (cr cs : Nat) (X Y : List Int) (w : World) (hh : Hdl w) (hX : Sl w r X) (hY : Sl w s Y) (lX : X.length ≤ 1048576) (lY : Y.length ≤ 1048576) (cX : X.length ≤ cr) (cY : Y.length ≤ cs) :
    Calls Tryd.prog 16 #[fracV b r X.length cr s Y.length cs] w fun e w' => e = .returned (.tuple #[.string (dcT b X Y), .bool (dcB b X Y)]) ∧ Below w.heap.size w w' := by
  obtain ⟨w0, hw0⟩ : ∃ w0, w0 = w.alloc (.cells #[.bool b, .slice r X.length cr, .slice s Y.length cs] 27) := ⟨_, rfl⟩
  have B0 : Below w.heap.size w w0 := by rw [hw0]; exact (Below.refl _ w).alloc (Nat.le_refl _) _
  rcases dc_cases b X Y with ⟨h, eB, eT⟩ | ⟨h, rfl, eB, eT⟩ | ⟨h, rfl, x, y, rfl, rfl, lx, ly, hy0, hc⟩
  · rw [eB, eT]
    have C1 : Hid _ := taken_no b r s cr cs X Y w0 (hX.keep B0) (hY.keep B0) lX lY cX cY h
    have CF : Hid (∀ t W, Hdl W → Calls Tryd.prog 23 #[flt t] W fun e w' => e = .returned (.bool true) ∧ Below W.heap.size W w') := fun t W h => isFault_hit t W h
    unfold fracV fr0 flt at C1
    unfold flt at CF
    unfold frV at C1
    unfold fracV
    clear h lX lY cX cY hX hY eB eT
    go_enter Tryd.func16, Tryd.ntmps16
    go_wp2_with fail
    rw [← hw0]
    refine Calls.mono C1.out ?_
    rintro e w1 ⟨⟨t, rfl⟩, b1⟩
    have B1 := B0.trans (b1.mono B0.size)
    have B2 : Below w.heap.size w (w1.alloc (.cells #[.slice none 0 0, .slice none 0 0, .bool false] 46)) := B1.alloc B1.size _
    have h2 := hh.keep B2 hh.pos
    clear hw0 b1 B0 C1
    go_wp2_with fail
    refine Calls.mono (CF.out t _ h2) ?_
    rintro e w2 ⟨rfl, b2⟩
    have HB : Hid (Below w.heap.size w w2) := B2.trans (b2.mono B2.size)
    clear CF h2 b2 B1 B2 hh
    go_wp2
    go_ret2
    exact ⟨rfl, HB.out⟩
  · rw [eB, eT]
    have C1 : Hid _ := taken_yes true r s cr cs X Y w0 (hX.keep B0) (hY.keep B0) lX lY cX cY h
    have CF : Hid (∀ W, Calls Tryd.prog 23 #[.nilIface] W fun e w' => e = .returned (.bool false) ∧ Below W.heap.size W w') := fun W => isFault_nil W
    unfold fracV frV at C1
    unfold fracV
    clear h lX lY cX cY hX hY hh eB eT
    go_enter Tryd.func16, Tryd.ntmps16
    go_wp2_with fail
    rw [← hw0]
    refine Calls.mono C1.out ?_
    rintro e w1 ⟨rfl, b1⟩
    have B1 := B0.trans (b1.mono B0.size)
    have B2 : Below w.heap.size w (w1.alloc (.cells #[.slice r X.length cr, .slice s Y.length cs, .bool true] 46)) := B1.alloc B1.size _
    have k2 := boxc_new w1 46 #[.slice r X.length cr, .slice s Y.length cs, .bool true]
    clear hw0 b1 B0 C1
    go_wp2_with fail
    refine Calls.mono (CF.out _) ?_
    rintro e w2 ⟨rfl, b2⟩
    obtain ⟨c0, c1, c2, _, _⟩ := boxc3 (boxc_keep k2 b2)
    have HB : Hid (Below w.heap.size w w2) := B2.trans (b2.mono B2.size)
    clear CF b2 B1 B2 k2
    go_wp2
    go_ret2
    exact ⟨rfl, HB.out⟩
  · have C1 : Hid _ := taken_yes false r s cr cs (dgs x) (dgs y) w0 (hX.keep B0) (hY.keep B0) lX lY cX cY h
    have CF : Hid (∀ W, Calls Tryd.prog 23 #[.nilIface] W fun e w' => e = .returned (.bool false) ∧ Below W.heap.size W w') := fun W => isFault_nil W
    have CD : Hid (∀ W, Sl W r (dgs x) → Sl W s (dgs y) → Calls Tryd.prog 35 #[.agg #[.slice r (dgs x).length cr, .slice s (dgs y).length cs]] W fun e w' => e = .returned (.tuple #[.string (decT x y), .bool (decO x y).isSome]) ∧ Below W.heap.size W w') := fun W h1 h2 => decimals_any r s cr cs x y W h1 h2 lx ly cX hy0
    obtain ⟨T, hT⟩ : ∃ T, T = decT x y := ⟨_, rfl⟩
    obtain ⟨o, ho⟩ : ∃ o, o = (decO x y).isSome := ⟨_, rfl⟩
    obtain ⟨rT, hrT⟩ : ∃ rT, rT = dcT false (dgs x) (dgs y) := ⟨_, rfl⟩
    obtain ⟨rB, hrB⟩ : ∃ rB, rB = dcB false (dgs x) (dgs y) := ⟨_, rfl⟩
    rw [← hT, ← ho] at CD hc
    rw [← hrT, ← hrB] at hc ⊢
    obtain ⟨X, hXe⟩ : ∃ X, X = dgs x := ⟨_, rfl⟩
    obtain ⟨Y, hYe⟩ : ∃ Y, Y = dgs y := ⟨_, rfl⟩
    rw [← hXe, ← hYe] at C1 CD hw0
    rw [← hXe] at hX
    rw [← hYe] at hY
    rw [← hXe, ← hYe]
    unfold fracV frV at C1
    unfold fracV
    have HC : Hid _ := hc
    clear h lX lY cX cY hh hXe hYe lx ly hT ho hrT hrB hc hy0
    go_enter Tryd.func16, Tryd.ntmps16
    go_wp2_with fail
    rw [← hw0]
    refine Calls.mono C1.out ?_
    rintro e w1 ⟨rfl, b1⟩
    have B1 := B0.trans (b1.mono B0.size)
    have B2 : Below w.heap.size w (w1.alloc (.cells #[.slice r X.length cr, .slice s Y.length cs, .bool false] 46)) := B1.alloc B1.size _
    have k2 := boxc_new w1 46 #[.slice r X.length cr, .slice s Y.length cs, .bool false]
    clear hw0 b1 B0 C1
    go_wp2_with fail
    refine Calls.mono (CF.out _) ?_
    rintro e w2 ⟨rfl, b2⟩
    obtain ⟨c0, c1, c2, _, _⟩ := boxc3 (boxc_keep k2 b2)
    have B3 : Below w.heap.size w w2 := B2.trans (b2.mono B2.size)
    clear CF b2 B1 B2 k2
    go_wp2_with fail
    refine Calls.mono (CD.out _ (hX.keep B3) (hY.keep B3)) ?_
    rintro e w3 ⟨rfl, b3⟩
    have HB : Hid (Below w.heap.size w w3) := B3.trans (b3.mono B3.size)
    clear CD b3 B3 c0 c1 c2 hX hY
    rcases HC.out with ⟨rfl, rfl, rfl⟩ | ⟨rfl, hs, rfl, rfl⟩ | ⟨rfl, hs, rfl, rfl⟩
    · clear HC
      go_wp2
      go_ret2
      exact ⟨rfl, HB.out⟩
    · have hsI : (60 : Int) < (T.size : Int) := by omega
      clear HC
      go_wp2
      go_ret2
      exact ⟨rfl, HB.out⟩
    · have hsI : ¬ (60 : Int) < (rT.size : Int) := by omega
      clear HC
      go_wp2
      go_ret2
      exact ⟨rfl, HB.out⟩
end Go.Proofs.YthokphoojmpajahDoor
