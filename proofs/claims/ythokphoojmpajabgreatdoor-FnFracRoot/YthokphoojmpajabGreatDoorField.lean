/- Fractions as a field: what addA, mulA and the others come to, by cross products. -/
import Derived.Test.YthokphoojmpajabGreatDoorGFr6
import Derived.Test.YthokphoojmpajabGreatDoorGSp
namespace Go.Proofs.YthokphoojmpajabGreatDoor
open Go.RowKit Go.Proofs.Pin

/-- A number with a sign. -/
def sZ (b : Bool) (m : Nat) : Int := if b = true then -(m : Int) else (m : Int)
theorem sZ_abs (b : Bool) (m : Nat) : (sZ b m).natAbs = m := by cases b <;> simp [sZ]
theorem sZ_mul (b : Bool) (m n : Nat) : sZ b (m * n) = sZ b m * (n : Int) := by cases b <;> simp [sZ, Int.neg_mul]
/-- The same number, as two fractions say it. -/
def Req (n : Int) (d : Nat) (n' : Int) (d' : Nat) : Prop := n * (d' : Int) = n' * (d : Int)
theorem Req.refl (n : Int) (d : Nat) : Req n d n d := rfl
theorem Req.symm {n n' : Int} {d d' : Nat} (h : Req n d n' d') : Req n' d' n d := Eq.symm h
theorem Req.trans {n n' n'' : Int} {d d' d'' : Nat} (h0 : d' ≠ 0) (h : Req n d n' d') (h' : Req n' d' n'' d'') : Req n d n'' d'' := by
  unfold Req at *
  have h1 : (d' : Int) ≠ 0 := by omega
  apply Int.eq_of_mul_eq_mul_right h1
  grind
theorem Req.add {n n' m m' : Int} {d d' e e' : Nat} (h : Req n d n' d') (k : Req m e m' e') : Req (n * (e : Int) + m * (d : Int)) (d * e) (n' * (e' : Int) + m' * (d' : Int)) (d' * e') := by
  unfold Req at *
  push_cast
  grind
theorem Req.mul {n n' m m' : Int} {d d' e e' : Nat} (h : Req n d n' d') (k : Req m e m' e') : Req (n * m) (d * e) (n' * m') (d' * e') := by
  unfold Req at *
  push_cast
  grind
/-- Two pairs that are the same number come to the same in lowest terms. -/
theorem make_eq {b b' : Bool} {t t' u u' : Nat} (hu : u ≠ 0) (hu' : u' ≠ 0) (h : Req (sZ b t) u (sZ b' t') u') : makeA b t u = makeA b' t' u' := by
  have h1 : t * u' = t' * u := by
    have := congrArg Int.natAbs h
    rw [Int.natAbs_mul, Int.natAbs_mul, sZ_abs, sZ_abs, Int.natAbs_natCast, Int.natAbs_natCast] at this
    exact this
  have hg : 0 < Nat.gcd t u := Nat.gcd_pos_of_pos_right _ (by omega)
  have hg' : 0 < Nat.gcd t' u' := Nat.gcd_pos_of_pos_right _ (by omega)
  -- lowest terms are the same
  obtain ⟨a, ha⟩ := Nat.gcd_dvd_left t u
  obtain ⟨c, hc⟩ := Nat.gcd_dvd_right t u
  obtain ⟨a', ha'⟩ := Nat.gcd_dvd_left t' u'
  obtain ⟨c', hc'⟩ := Nat.gcd_dvd_right t' u'
  have eA : t / Nat.gcd t u = a := by conv => lhs; lhs; rw [ha]
                                      exact Nat.mul_div_cancel_left _ hg
  have eC : u / Nat.gcd t u = c := by conv => lhs; lhs; rw [hc]
                                      exact Nat.mul_div_cancel_left _ hg
  have eA' : t' / Nat.gcd t' u' = a' := by conv => lhs; lhs; rw [ha']
                                           exact Nat.mul_div_cancel_left _ hg'
  have eC' : u' / Nat.gcd t' u' = c' := by conv => lhs; lhs; rw [hc']
                                           exact Nat.mul_div_cancel_left _ hg'
  have co : Nat.gcd a c = 1 := by
    have := Nat.gcd_div (Nat.gcd_dvd_left t u) (Nat.gcd_dvd_right t u)
    rw [eA, eC, Nat.div_self hg] at this
    exact this
  have co' : Nat.gcd a' c' = 1 := by
    have := Nat.gcd_div (Nat.gcd_dvd_left t' u') (Nat.gcd_dvd_right t' u')
    rw [eA', eC', Nat.div_self hg'] at this
    exact this
  have hx : a * c' = a' * c := by
    have h2 : (Nat.gcd t u * a) * (Nat.gcd t' u' * c') = (Nat.gcd t' u' * a') * (Nat.gcd t u * c) := by rw [← ha, ← hc', ← ha', ← hc]; exact h1
    have h3 : (Nat.gcd t u * Nat.gcd t' u') * (a * c') = (Nat.gcd t u * Nat.gcd t' u') * (a' * c) := by
      have e1 : (Nat.gcd t u * Nat.gcd t' u') * (a * c') = (Nat.gcd t u * a) * (Nat.gcd t' u' * c') := by grind
      have e2 : (Nat.gcd t u * Nat.gcd t' u') * (a' * c) = (Nat.gcd t' u' * a') * (Nat.gcd t u * c) := by grind
      rw [e1, e2]; exact h2
    exact Nat.eq_of_mul_eq_mul_left (Nat.mul_pos hg hg') h3
  have hc0 : c ≠ 0 := by intro e; rw [e, Nat.mul_zero] at hc; exact hu hc
  have hc0' : c' ≠ 0 := by intro e; rw [e, Nat.mul_zero] at hc'; exact hu' hc'
  have d1 : c ∣ c' := Nat.Coprime.dvd_of_dvd_mul_left (k := c) (m := a) (n := c') (by rw [Nat.Coprime, Nat.gcd_comm]; exact co) (by rw [hx]; exact Nat.dvd_mul_left _ _)
  have d2 : c' ∣ c := Nat.Coprime.dvd_of_dvd_mul_left (k := c') (m := a') (n := c) (by rw [Nat.Coprime, Nat.gcd_comm]; exact co') (by rw [← hx]; exact Nat.dvd_mul_left _ _)
  have ec : c = c' := Nat.dvd_antisymm d1 d2
  subst ec
  have ea : a = a' := Nat.eq_of_mul_eq_mul_right (by omega) hx
  subst ea
  have l1 : loX t u = loX t' u' := by unfold loX; rw [eA, eA']
  have l2 : loY t u = loY t' u' := by unfold loY; rw [eC, eC']
  have l3 : (b && decide (0 < (loX t u).length)) = (b' && decide (0 < (loX t' u').length)) := by
    rw [← l1]
    by_cases hz : 0 < (loX t u).length
    · rw [decide_eq_true hz, Bool.and_true, Bool.and_true]
      have ht : t ≠ 0 := by
        intro e
        unfold loX at hz
        rw [e, Nat.zero_div] at hz
        simp [dgs_zero] at hz
      have ht' : t' ≠ 0 := by
        intro e
        rw [e, Nat.zero_mul] at h1
        rcases Nat.mul_eq_zero.1 h1 with h2 | h2
        · exact ht h2
        · exact hu' h2
      have p1 : (0 : Int) < (t : Int) * (u' : Int) := Int.mul_pos (by omega) (by omega)
      have p2 : (0 : Int) < (t' : Int) * (u : Int) := Int.mul_pos (by omega) (by omega)
      unfold Req sZ at h
      cases b <;> cases b' <;> simp [Int.neg_mul] at h ⊢ <;> omega
    · rw [decide_eq_false hz, Bool.and_false, Bool.and_false]
  unfold makeA
  rw [l1, l2] at *
  rw [l3]
/-- What a fraction in lowest terms is worth. -/
theorem make_worth {b : Bool} {t u : Nat} (hu : u ≠ 0) (h : (makeA b t u).ok = true) : ∃ x y, (makeA b t u).X = dgs x ∧ (makeA b t u).Y = dgs y ∧ (dgs x).length ≤ 256 ∧ (dgs y).length ≤ 256 ∧ y ≠ 0 ∧ fokB (makeA b t u).b (dgs x) (dgs y) = true ∧ Req (sZ (makeA b t u).b x) y (sZ b t) u := by
  have hg : 0 < Nat.gcd t u := Nat.gcd_pos_of_pos_right _ (by omega)
  obtain ⟨a, ha⟩ := Nat.gcd_dvd_left t u
  obtain ⟨c, hc⟩ := Nat.gcd_dvd_right t u
  have eA : t / Nat.gcd t u = a := by conv => lhs; lhs; rw [ha]
                                      exact Nat.mul_div_cancel_left _ hg
  have eC : u / Nat.gcd t u = c := by conv => lhs; lhs; rw [hc]
                                      exact Nat.mul_div_cancel_left _ hg
  have co : Nat.gcd a c = 1 := by
    have := Nat.gcd_div (Nat.gcd_dvd_left t u) (Nat.gcd_dvd_right t u)
    rw [eA, eC, Nat.div_self hg] at this
    exact this
  have hc0 : c ≠ 0 := by intro e; rw [e, Nat.mul_zero] at hc; exact hu hc
  have e1 : loX t u = dgs a := by unfold loX; rw [eA]
  have e2 : loY t u = dgs c := by unfold loY; rw [eC]
  unfold makeA at h ⊢
  rw [e1, e2] at h ⊢
  split at h
  · rename_i hl
    rw [if_pos hl]
    refine ⟨a, c, rfl, rfl, hl.1, hl.2, hc0, ?_, ?_⟩
    · refine fok_mk hl.1 hl.2 hc0 ?_ co
      intro hb
      simp only [Bool.and_eq_true, decide_eq_true_eq] at hb
      exact (dgs_pos_len _).1 hb.2
    · show sZ (b && decide (0 < (dgs a).length)) a * (u : Int) = sZ b t * (c : Int)
      have hs : sZ (b && decide (0 < (dgs a).length)) a = sZ b a := by
        by_cases hz : a = 0
        · subst hz; cases b <;> simp [sZ, dgs_zero]
        · rw [decide_eq_true ((dgs_pos_len a).2 hz), Bool.and_true]
      rw [hs]
      have h5 : t * c = a * u := by
        have q1 : t * c = (Nat.gcd t u * a) * c := by rw [← ha]
        have q2 : a * u = a * (Nat.gcd t u * c) := by rw [← hc]
        rw [q1, q2]; grind
      rw [← sZ_mul, ← sZ_mul, h5]
  · cases h
/-- The sum, the product, by their worth. -/
theorem add_worth (b c : Bool) (m o : Nat) : sZ (smB b c m o) (smT b c m o) = sZ b m + sZ c o := by
  unfold smB smT sZ
  by_cases h : m < o
  · cases b <;> cases c <;> simp [h] <;> omega
  · cases b <;> cases c <;> simp [h] <;> omega
theorem addA_eq (b : Bool) (x y : Nat) (b' : Bool) (x' y' : Nat) : addA b x y b' x' y' = makeA (smB b b' (x * y') (x' * y)) (smT b b' (x * y') (x' * y)) (y * y') := rfl
theorem addA_worth (b : Bool) (x y : Nat) (b' : Bool) (x' y' : Nat) : sZ (smB b b' (x * y') (x' * y)) (smT b b' (x * y') (x' * y)) = sZ b x * (y' : Int) + sZ b' x' * (y : Int) := by rw [add_worth, sZ_mul, sZ_mul]
theorem mulA_worth (b : Bool) (x : Nat) (b' : Bool) (x' : Nat) : sZ (b != b') (x * x') = sZ b x * sZ b' x' := by
  cases b <;> cases b' <;> simp [sZ, Int.neg_mul, Int.mul_neg]
theorem neg_worth (b : Bool) (x : Nat) : sZ (ngB b x) x = - sZ b x := by
  unfold ngB sZ
  by_cases hx : x = 0
  · subst hx; simp
  · cases b <;> simp [hx]
/-- The fraction in lowest terms of a number. -/
def nfz (n : Int) (d : Nat) : FAns := makeA (decide (n < 0)) n.natAbs d
theorem sZ_nf (n : Int) : sZ (decide (n < 0)) n.natAbs = n := by
  unfold sZ
  by_cases h : n < 0
  · rw [decide_eq_true h, if_pos rfl]; omega
  · rw [decide_eq_false h]; simp; omega
theorem make_nf (b : Bool) (t : Nat) {u : Nat} (hu : u ≠ 0) : makeA b t u = nfz (sZ b t) u := make_eq hu hu (by rw [sZ_nf]; exact Req.refl _ _)
theorem nf_eq {n n' : Int} {d d' : Nat} (hd : d ≠ 0) (hd' : d' ≠ 0) (h : Req n d n' d') : nfz n d = nfz n' d' := make_eq hd hd' (by rw [sZ_nf, sZ_nf]; exact h)
/-- What a fraction that is ok is worth. -/
def Wr (F : FAns) (n : Int) (d : Nat) : Prop := ∃ x y, F.X = dgs x ∧ F.Y = dgs y ∧ (dgs x).length ≤ 256 ∧ (dgs y).length ≤ 256 ∧ y ≠ 0 ∧ fokB F.b (dgs x) (dgs y) = true ∧ d ≠ 0 ∧ Req (sZ F.b x) y n d
theorem nf_wr {n : Int} {d : Nat} (hd : d ≠ 0) (h : (nfz n d).ok = true) : Wr (nfz n d) n d := by
  obtain ⟨x, y, h1, h2, h3, h4, h5, h6, h7⟩ := make_worth hd h
  rw [sZ_nf] at h7
  exact ⟨x, y, h1, h2, h3, h4, h5, h6, hd, h7⟩
theorem make_self {b : Bool} {x y : Nat} (h : fokB b (dgs x) (dgs y) = true) : makeA b x y = ⟨b, dgs x, dgs y, true⟩ := by
  obtain ⟨x', y', e1, e2, lx, ly, hy, hb, hg⟩ := fok_parts h
  have ex : x' = x := by have := val_dgs x; rw [e1, val_dgs] at this; omega
  have ey : y' = y := by have := val_dgs y; rw [e2, val_dgs] at this; omega
  subst ex
  subst ey
  have h1 : loX x' y' = dgs x' := by unfold loX; rw [hg, Nat.div_one]
  have h2 : loY x' y' = dgs y' := by unfold loY; rw [hg, Nat.div_one]
  unfold makeA
  rw [h1, h2, if_pos ⟨lx, ly⟩]
  cases b with
  | false => simp
  | true => have := (dgs_pos_len x').2 (hb rfl); simp [this]
theorem nf_self {F : FAns} {n : Int} {d : Nat} (h : Wr F n d) (hok : F.ok = true) : nfz n d = F := by
  obtain ⟨x, y, h1, h2, h3, h4, h5, h6, h7, h8⟩ := h
  rw [nf_eq h7 h5 h8.symm, ← make_nf _ _ h5, make_self h6]
  cases F
  simp_all
def opF (f : Bool → Nat → Nat → Bool → Nat → Nat → FAns) (F G : FAns) : FAns := op2A f F.b F.X F.Y G.b G.X G.Y
theorem opF_wr {f : Bool → Nat → Nat → Bool → Nat → Nat → FAns} {F G : FAns} (h : (opF f F G).ok = true) : (∃ n d, Wr F n d) ∧ (∃ n d, Wr G n d) := by
  unfold opF op2A at h
  split at h
  · rename_i hk
    obtain ⟨x, y, e1, e2, lx, ly, hy, _⟩ := fok_parts hk.1
    obtain ⟨x', y', e1', e2', lx', ly', hy', _⟩ := fok_parts hk.2
    rw [e1, e2, e1', e2'] at hk
    exact ⟨⟨_, y, x, y, e1, e2, lx, ly, hy, hk.1, hy, Req.refl _ _⟩, ⟨_, y', x', y', e1', e2', lx', ly', hy', hk.2, hy', Req.refl _ _⟩⟩
  · cases h
theorem add_wr {F G : FAns} {n n' : Int} {d d' : Nat} (h : Wr F n d) (h' : Wr G n' d') : opF addA F G = nfz (n * (d' : Int) + n' * (d : Int)) (d * d') := by
  obtain ⟨x, y, h1, h2, _, _, h5, h6, h7, h8⟩ := h
  obtain ⟨x', y', h1', h2', _, _, h5', h6', h7', h8'⟩ := h'
  unfold opF
  rw [h1, h2, h1', h2', op2A_yes h6 h6', addA_eq, make_nf _ _ (Nat.mul_ne_zero h5 h5'), addA_worth]
  exact nf_eq (Nat.mul_ne_zero h5 h5') (Nat.mul_ne_zero h7 h7') (Req.add h8 h8')
theorem mul_wr {F G : FAns} {n n' : Int} {d d' : Nat} (h : Wr F n d) (h' : Wr G n' d') : opF mulA F G = nfz (n * n') (d * d') := by
  obtain ⟨x, y, h1, h2, _, _, h5, h6, h7, h8⟩ := h
  obtain ⟨x', y', h1', h2', _, _, h5', h6', h7', h8'⟩ := h'
  unfold opF
  rw [h1, h2, h1', h2', op2A_yes h6 h6']
  unfold mulA
  rw [make_nf _ _ (Nat.mul_ne_zero h5 h5'), mulA_worth]
  exact nf_eq (Nat.mul_ne_zero h5 h5') (Nat.mul_ne_zero h7 h7') (Req.mul h8 h8')
theorem sub_wr {F G : FAns} {n n' : Int} {d d' : Nat} (h : Wr F n d) (h' : Wr G n' d') : opF subA F G = nfz (n * (d' : Int) + -n' * (d : Int)) (d * d') := by
  obtain ⟨x, y, h1, h2, _, _, h5, h6, h7, h8⟩ := h
  obtain ⟨x', y', h1', h2', _, _, h5', h6', h7', h8'⟩ := h'
  unfold opF
  rw [h1, h2, h1', h2', op2A_yes h6 h6']
  unfold subA
  rw [addA_eq, make_nf _ _ (Nat.mul_ne_zero h5 h5'), addA_worth, neg_worth]
  refine nf_eq (Nat.mul_ne_zero h5 h5') (Nat.mul_ne_zero h7 h7') (Req.add h8 ?_)
  unfold Req at h8' ⊢
  grind
theorem top_add {A B : FAns} (h : (opF addA A B).ok = true) : opF addA B A = opF addA A B := by
  obtain ⟨⟨n, d, hA⟩, ⟨n', d', hB⟩⟩ := opF_wr h
  have z : d ≠ 0 ∧ d' ≠ 0 := ⟨by obtain ⟨_, _, _, _, _, _, _, _, q, _⟩ := hA; exact q, by obtain ⟨_, _, _, _, _, _, _, _, q, _⟩ := hB; exact q⟩
  rw [add_wr hA hB, add_wr hB hA]
  refine nf_eq (Nat.mul_ne_zero z.2 z.1) (Nat.mul_ne_zero z.1 z.2) ?_
  unfold Req
  push_cast
  grind
theorem top_mul {A B : FAns} (h : (opF mulA A B).ok = true) : opF mulA B A = opF mulA A B := by
  obtain ⟨⟨n, d, hA⟩, ⟨n', d', hB⟩⟩ := opF_wr h
  have z : d ≠ 0 ∧ d' ≠ 0 := ⟨by obtain ⟨_, _, _, _, _, _, _, _, q, _⟩ := hA; exact q, by obtain ⟨_, _, _, _, _, _, _, _, q, _⟩ := hB; exact q⟩
  rw [mul_wr hA hB, mul_wr hB hA]
  refine nf_eq (Nat.mul_ne_zero z.2 z.1) (Nat.mul_ne_zero z.1 z.2) ?_
  unfold Req
  push_cast
  grind
theorem Wr.pos {F : FAns} {n : Int} {d : Nat} (h : Wr F n d) : d ≠ 0 := by obtain ⟨_, _, _, _, _, _, _, _, q, _⟩ := h; exact q
theorem top_sub {A B : FAns} (hA : A.ok = true) (h : (opF addA A B).ok = true) : opF subA (opF addA A B) B = A := by
  obtain ⟨⟨n, d, wA⟩, ⟨n', d', wB⟩⟩ := opF_wr h
  have z := wA.pos
  have z' := wB.pos
  have wS := h
  rw [add_wr wA wB] at wS
  have wS := nf_wr (Nat.mul_ne_zero z z') wS
  rw [add_wr wA wB, sub_wr wS wB, ← nf_self wA hA]
  refine nf_eq (Nat.mul_ne_zero (Nat.mul_ne_zero z z') z') z ?_
  unfold Req
  push_cast
  grind
theorem top_assoc {A B C : FAns} (h : (opF addA A B).ok = true) (h' : (opF addA B C).ok = true) : opF addA (opF addA A B) C = opF addA A (opF addA B C) := by
  obtain ⟨⟨n, d, wA⟩, ⟨n', d', wB⟩⟩ := opF_wr h
  obtain ⟨_, ⟨m, e, wC⟩⟩ := opF_wr h'
  have z := wA.pos
  have z' := wB.pos
  have y := wC.pos
  rw [add_wr wA wB] at h
  rw [add_wr wB wC] at h'
  have wS := nf_wr (Nat.mul_ne_zero z z') h
  have wT := nf_wr (Nat.mul_ne_zero z' y) h'
  rw [add_wr wA wB, add_wr wB wC, add_wr wS wC, add_wr wA wT]
  refine nf_eq (Nat.mul_ne_zero (Nat.mul_ne_zero z z') y) (Nat.mul_ne_zero z (Nat.mul_ne_zero z' y)) ?_
  unfold Req
  push_cast
  grind
theorem top_massoc {A B C : FAns} (h : (opF mulA A B).ok = true) (h' : (opF mulA B C).ok = true) : opF mulA (opF mulA A B) C = opF mulA A (opF mulA B C) := by
  obtain ⟨⟨n, d, wA⟩, ⟨n', d', wB⟩⟩ := opF_wr h
  obtain ⟨_, ⟨m, e, wC⟩⟩ := opF_wr h'
  have z := wA.pos
  have z' := wB.pos
  have y := wC.pos
  rw [mul_wr wA wB] at h
  rw [mul_wr wB wC] at h'
  have wS := nf_wr (Nat.mul_ne_zero z z') h
  have wT := nf_wr (Nat.mul_ne_zero z' y) h'
  rw [mul_wr wA wB, mul_wr wB wC, mul_wr wS wC, mul_wr wA wT]
  refine nf_eq (Nat.mul_ne_zero (Nat.mul_ne_zero z z') y) (Nat.mul_ne_zero z (Nat.mul_ne_zero z' y)) ?_
  unfold Req
  push_cast
  grind
theorem top_dist {A B C : FAns} (h : (opF addA B C).ok = true) (h1 : (opF mulA A B).ok = true) (h2 : (opF mulA A C).ok = true) : opF mulA A (opF addA B C) = opF addA (opF mulA A B) (opF mulA A C) := by
  obtain ⟨⟨n, d, wA⟩, ⟨n', d', wB⟩⟩ := opF_wr h1
  obtain ⟨_, ⟨m, e, wC⟩⟩ := opF_wr h
  have z := wA.pos
  have z' := wB.pos
  have y := wC.pos
  rw [add_wr wB wC] at h
  rw [mul_wr wA wB] at h1
  rw [mul_wr wA wC] at h2
  have wS := nf_wr (Nat.mul_ne_zero z' y) h
  have w1 := nf_wr (Nat.mul_ne_zero z z') h1
  have w2 := nf_wr (Nat.mul_ne_zero z y) h2
  rw [add_wr wB wC, mul_wr wA wB, mul_wr wA wC, mul_wr wA wS, add_wr w1 w2]
  refine nf_eq (Nat.mul_ne_zero z (Nat.mul_ne_zero z' y)) (Nat.mul_ne_zero (Nat.mul_ne_zero z z') (Nat.mul_ne_zero z y)) ?_
  unfold Req
  push_cast
  grind
theorem top_div {A B : FAns} (hA : A.ok = true) (h : (opF mulA A B).ok = true) (hz : B.X ≠ []) : opF divA (opF mulA A B) B = A := by
  obtain ⟨⟨n, d, wA⟩, ⟨_, _, wB⟩⟩ := opF_wr h
  obtain ⟨x', y', b1, b2, b3, b4, b5, b6, _, _⟩ := wB
  have wB : Wr B (sZ B.b x') y' := ⟨x', y', b1, b2, b3, b4, b5, b6, b5, Req.refl _ _⟩
  have z := wA.pos
  have hx' : x' ≠ 0 := by intro e; rw [e] at b1; exact hz b1
  rw [mul_wr wA wB] at h ⊢
  obtain ⟨x, y, p1, p2, p3, p4, p5, p6, _, p8⟩ := nf_wr (Nat.mul_ne_zero z b5) h
  rw [← nf_self wA hA]
  obtain ⟨P, hP⟩ : ∃ P, P = nfz (n * sZ B.b x') (d * y') := ⟨_, rfl⟩
  rw [← hP] at p1 p2 p6 p8 ⊢
  unfold opF
  rw [p1, p2, b1, b2, op2A_yes p6 b6]
  unfold divA
  rw [if_neg hx', make_nf _ _ (Nat.mul_ne_zero p5 hx'), mulA_worth]
  refine nf_eq (Nat.mul_ne_zero p5 hx') z ?_
  unfold Req at p8 ⊢
  push_cast at p8 ⊢
  have hy0 : (y' : Int) ≠ 0 := by omega
  cases hb : B.b
  · rw [hb] at p8
    simp only [sZ, Bool.false_eq_true, if_false] at p8 ⊢
    grind
  · rw [hb] at p8
    simp only [sZ, if_true] at p8 ⊢
    grind
end Go.Proofs.YthokphoojmpajabGreatDoor
