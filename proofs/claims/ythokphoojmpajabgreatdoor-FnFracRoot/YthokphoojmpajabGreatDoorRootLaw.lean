/- Exact roots and the whole number below, as numbers. -/
import Derived.Test.YthokphoojmpajabGreatDoorGRoot
import Derived.Test.YthokphoojmpajabGreatDoorGCmp
import Derived.Test.YthokphoojmpajabGreatDoorOrdNum
import Derived.Test.YthokphoojmpajabGreatDoorField
namespace Go.Proofs.YthokphoojmpajabGreatDoor
open Go.RowKit Go.Proofs.Pin

def op1F (f : Bool → Nat → Nat → FAns) (F : FAns) : FAns := op1A f F.b F.X F.Y
theorem sq_inj {a b : Nat} (h : a * a = b * b) : a = b := by
  rcases Nat.lt_trichotomy a b with h1 | h1 | h1
  · have := Nat.mul_self_lt_mul_self h1; omega
  · exact h1
  · have := Nat.mul_self_lt_mul_self h1; omega
theorem rt_sq (x : Nat) : rt (x * x) = x := (rt_eq (Nat.le_refl _) (by have : (x + 1) * (x + 1) = x * x + x + x + 1 := by grind
                                                                       omega)).symm
theorem gcd_sq {p q : Nat} (h : Nat.gcd (p * p) (q * q) = 1) : Nat.gcd p q = 1 := by
  have h1 : Nat.gcd p q ∣ Nat.gcd (p * p) (q * q) := Nat.dvd_gcd (Nat.dvd_trans (Nat.gcd_dvd_left p q) (Nat.dvd_mul_right p p)) (Nat.dvd_trans (Nat.gcd_dvd_right p q) (Nat.dvd_mul_right q q))
  rw [h] at h1
  exact Nat.dvd_one.1 h1
theorem sq_gcd {p q : Nat} (h : Nat.gcd p q = 1) : Nat.gcd (p * p) (q * q) = 1 := by
  have h1 : Nat.Coprime p q := h
  exact Nat.Coprime.mul_left (Nat.Coprime.mul_right h1 h1) (Nat.Coprime.mul_right h1 h1)
theorem op1_ok {f : Bool → Nat → Nat → FAns} {F : FAns} (h : (op1F f F).ok = true) : ∃ x y, F.X = dgs x ∧ F.Y = dgs y ∧ (dgs x).length ≤ 256 ∧ (dgs y).length ≤ 256 ∧ y ≠ 0 ∧ (F.b = true → x ≠ 0) ∧ Nat.gcd x y = 1 ∧ fokB F.b (dgs x) (dgs y) = true ∧ op1F f F = f F.b x y := by
  unfold op1F at *
  cases hk : fokB F.b F.X F.Y with
  | false => rw [op1A_no hk] at h; cases h
  | true =>
    obtain ⟨x, y, e1, e2, lx, ly, hy, hb, hg⟩ := fok_parts hk
    rw [e1, e2] at hk ⊢
    exact ⟨x, y, rfl, rfl, lx, ly, hy, hb, hg, hk, op1A_yes hk⟩
theorem fans_ext {F : FAns} {b : Bool} {X Y : List Int} (h1 : F.b = b) (h2 : F.X = X) (h3 : F.Y = Y) (h4 : F.ok = true) : F = ⟨b, X, Y, true⟩ := by
  cases F
  simp_all
theorem root_one {F : FAns} (hF : F.ok = true) (h : (op1F rootA F).ok = true) : opF mulA (op1F rootA F) (op1F rootA F) = F ∧ 0 ≤ sgA (op1F rootA F).b (op1F rootA F).X (op1F rootA F).Y := by
  obtain ⟨x, y, e1, e2, lx, ly, hy, hb, hg, hk, e3⟩ := op1_ok h
  rw [e3] at h ⊢
  obtain ⟨b, hbe⟩ : ∃ b, b = F.b := ⟨_, rfl⟩
  rw [← hbe] at h hk hb ⊢
  unfold rootA at h ⊢
  split at h
  · rename_i hc
    rw [if_pos hc]
    obtain ⟨c1, c2, c3⟩ := hc
    rw [(rt_yes lx).2] at c2
    rw [(rt_yes ly).2] at c3
    have q1 := of_decide_eq_true c2
    have q2 := of_decide_eq_true c3
    rw [(rt_yes lx).1, (rt_yes ly).1]
    have l1 : (dgs (rt x)).length ≤ 256 := by have := rtL_len (dgs x); rw [(rt_yes lx).1] at this; exact this
    have l2 : (dgs (rt y)).length ≤ 256 := by have := rtL_len (dgs y); rw [(rt_yes ly).1] at this; exact this
    have hq0 : rt y ≠ 0 := by intro e; rw [e] at q2; omega
    have hgg : Nat.gcd (rt x) (rt y) = 1 := gcd_sq (by rw [q1, q2]; exact hg)
    have hk2 : fokB false (dgs (rt x)) (dgs (rt y)) = true := fok_mk l1 l2 hq0 (fun h => by cases h) hgg
    constructor
    · unfold opF
      show op2A mulA false (dgs (rt x)) (dgs (rt y)) false (dgs (rt x)) (dgs (rt y)) = F
      rw [op2A_yes hk2 hk2]
      unfold mulA
      rw [q1, q2]
      have hf : (false != false) = b := by rw [c1]; rfl
      rw [hf, make_self hk]
      exact (fans_ext hbe.symm e1 e2 hF).symm
    · show 0 ≤ sgA false (dgs (rt x)) (dgs (rt y))
      unfold sgA
      rw [if_pos hk2]
      unfold sgnF
      split <;> simp
  · cases h
theorem root_two {F : FAns} (h : (opF mulA F F).ok = true) : op1F rootA (opF mulA F F) = op1F absA F ∧ (op1F absA F).ok = true := by
  have hk : fokB F.b F.X F.Y = true := by
    cases hk : fokB F.b F.X F.Y with
    | true => rfl
    | false => unfold opF at h; rw [op2A_no1 hk] at h; cases h
  obtain ⟨x, y, e1, e2, lx, ly, hy, hb, hg⟩ := fok_parts hk
  obtain ⟨b, hbe⟩ : ∃ b, b = F.b := ⟨_, rfl⟩
  unfold opF op1F at *
  rw [e1, e2, ← hbe] at hk h ⊢
  rw [op2A_yes hk hk] at h ⊢
  rw [op1A_yes hk]
  unfold mulA at h ⊢
  have hbb : (b != b) = false := by simp
  rw [hbb] at h ⊢
  have hgg := sq_gcd hg
  have h1 : loX (x * x) (y * y) = dgs (x * x) := by unfold loX; rw [hgg, Nat.div_one]
  have h2 : loY (x * x) (y * y) = dgs (y * y) := by unfold loY; rw [hgg, Nat.div_one]
  have hl : (dgs (x * x)).length ≤ 256 ∧ (dgs (y * y)).length ≤ 256 := by
    unfold makeA at h
    rw [h1, h2] at h
    split at h
    · assumption
    · cases h
  have hk2 : fokB false (dgs (x * x)) (dgs (y * y)) = true := fok_mk hl.1 hl.2 (Nat.mul_ne_zero hy hy) (fun h => by cases h) hgg
  rw [make_self hk2]
  refine ⟨?_, rfl⟩
  show op1A rootA false (dgs (x * x)) (dgs (y * y)) = _
  rw [op1A_yes hk2]
  unfold rootA absA
  rw [(rt_yes hl.1).1, (rt_yes hl.1).2, (rt_yes hl.2).1, (rt_yes hl.2).2, rt_sq, rt_sq, if_pos ⟨rfl, decide_eq_true rfl, decide_eq_true rfl⟩]
theorem floor_no {F : FAns} (h : fokB F.b F.X F.Y = false) : (op1F floorA F).ok = false ∧ (opF mulA F F).ok = false := by
  unfold op1F opF
  rw [op1A_no h, op2A_no1 h]
  exact ⟨rfl, rfl⟩
theorem flQ_low {b : Bool} {x y : Nat} (hy : y ≠ 0) : sI b (flQ b x y * y) ≤ sI b x := by
  have h1 := Nat.div_add_mod x y
  have h2 := Nat.mod_lt x (Nat.pos_of_ne_zero hy)
  unfold flQ sI
  obtain ⟨q, hq⟩ : ∃ q, q = x / y := ⟨_, rfl⟩
  obtain ⟨m, hm'⟩ : ∃ m, m = x % y := ⟨_, rfl⟩
  rw [← hq, ← hm'] at h1
  rw [← hm'] at h2
  rw [← hq, ← hm']
  clear hq hm'
  have h3 : q * y = y * q := Nat.mul_comm _ _
  cases b with
  | false =>
    simp only [Bool.false_eq_true, false_and, if_false]
    omega
  | true =>
    by_cases hm : m = 0
    · simp only [hm, ne_eq, not_true_eq_false, and_false, if_false, if_true]
      omega
    · have e : (q + 1) * y = q * y + y := Nat.succ_mul _ _
      simp only [true_and, hm, ne_eq, not_false_eq_true, if_true]
      omega
theorem flQ_high {b : Bool} {x y : Nat} (hy : y ≠ 0) : sI b x < (sI b (flQ b x y) + 1) * (y : Int) := by
  have h1 := Nat.div_add_mod x y
  have h2 := Nat.mod_lt x (Nat.pos_of_ne_zero hy)
  have h3 : ((x / y : Nat) : Int) * (y : Int) = ((y * (x / y) : Nat) : Int) := by rw [Nat.mul_comm]; push_cast; rfl
  have e : ∀ q : Int, (q + 1) * (y : Int) = q * (y : Int) + (y : Int) := fun q => by grind
  rw [e]
  unfold flQ sI
  cases b with
  | false => simp only [Bool.false_eq_true, false_and, if_false]; omega
  | true =>
    by_cases hm : x % y = 0
    · simp only [hm, ne_eq, not_true_eq_false, and_false, if_false, if_true]
      have e2 : (-((x / y : Nat) : Int)) * (y : Int) = -(((x / y : Nat) : Int) * (y : Int)) := Int.neg_mul _ _
      rw [e2]
      omega
    · simp only [true_and, hm, ne_eq, not_false_eq_true, if_true]
      have e2 : (-((x / y + 1 : Nat) : Int)) * (y : Int) = -(((x / y : Nat) : Int) * (y : Int)) - (y : Int) := by push_cast; grind
      rw [e2]
      omega
def oneA : FAns := ⟨false, dgs 1, [1], true⟩
theorem floor_yes {F : FAns} (h : fokB F.b F.X F.Y = true) : (op1F floorA F).ok = true ∧ (op1F floorA F).Y = [1] ∧ cmA (op1F floorA F).b (op1F floorA F).X (op1F floorA F).Y F.b F.X F.Y ≤ 0 ∧
    ((opF addA (op1F floorA F) oneA).ok = true → cmA F.b F.X F.Y (opF addA (op1F floorA F) oneA).b (opF addA (op1F floorA F) oneA).X (opF addA (op1F floorA F) oneA).Y = -1) := by
  obtain ⟨x, y, e1, e2, lx, ly, hy, hb, hg⟩ := fok_parts h
  obtain ⟨b, hbe⟩ : ∃ b, b = F.b := ⟨_, rfl⟩
  have eN : op1F floorA F = ⟨b, dgs (flQ b x y), [1], true⟩ := by
    unfold op1F
    rw [e1, e2] at h ⊢
    rw [op1A_yes h, ← hbe]
    rfl
  rw [eN, e1, e2, ← hbe]
  rw [e1, e2, ← hbe] at h
  rw [← hbe] at hb
  have lq : (dgs (flQ b x y)).length ≤ 256 := Nat.le_trans (dgs_len_le (flQ_le hy)) lx
  have one : ([1] : List Int) = dgs 1 := rfl
  have hkN : fokB b (dgs (flQ b x y)) (dgs 1) = true := fok_mk lq (by decide) (by decide) (fun hb' => flQ_pos hb hb') (Nat.gcd_one_right _)
  refine ⟨rfl, rfl, ?_, ?_⟩
  · show cmA b (dgs (flQ b x y)) [1] b (dgs x) (dgs y) ≤ 0
    rw [one, cmA_yes hkN h, cmN_sign, Nat.mul_one]
    have := flQ_low (b := b) (x := x) hy
    rcases Int.lt_or_eq_of_le this with h1 | h1
    · rw [Int.sign_eq_neg_one_of_neg (by omega)]; decide
    · rw [h1, Int.sub_self]; decide
  · intro hok
    have wN : Wr ⟨b, dgs (flQ b x y), [1], true⟩ (sZ b (flQ b x y)) 1 := ⟨_, 1, rfl, rfl, lq, by decide, by decide, hkN, by decide, Req.refl _ _⟩
    have w1 : Wr oneA 1 1 := ⟨1, 1, rfl, rfl, by decide, by decide, by decide, fok_mk (by decide) (by decide) (by decide) (fun h => by cases h) rfl, by decide, Req.refl _ _⟩
    rw [add_wr wN w1] at hok ⊢
    obtain ⟨xu, yu, u1, u2, _, _, u5, u6, _, u8⟩ := nf_wr (by decide) hok
    rw [u1, u2, cmA_yes h u6, cmN_sign]
    have hlt := flQ_high (b := b) (x := x) hy
    have e3 : sI b (x * yu) - sI (nfz (sZ b (flQ b x y) * ((1 : Nat) : Int) + 1 * ((1 : Nat) : Int)) (1 * 1)).b (xu * y) = (sI b x - (sI b (flQ b x y) + 1) * (y : Int)) * (yu : Int) := by
      rw [sI_mul, sI_mul]
      have e4 : sI (nfz (sZ b (flQ b x y) * ((1 : Nat) : Int) + 1 * ((1 : Nat) : Int)) (1 * 1)).b xu = (sI b (flQ b x y) + 1) * (yu : Int) := by
        have h7 : sZ (nfz (sZ b (flQ b x y) * ((1 : Nat) : Int) + 1 * ((1 : Nat) : Int)) (1 * 1)).b xu * ((1 * 1 : Nat) : Int) = (sZ b (flQ b x y) * ((1 : Nat) : Int) + 1 * ((1 : Nat) : Int)) * (yu : Int) := u8
        have h8 : sI (nfz (sZ b (flQ b x y) * ((1 : Nat) : Int) + 1 * ((1 : Nat) : Int)) (1 * 1)).b xu = sZ (nfz (sZ b (flQ b x y) * ((1 : Nat) : Int) + 1 * ((1 : Nat) : Int)) (1 * 1)).b xu := rfl
        have h9 : sI b (flQ b x y) = sZ b (flQ b x y) := rfl
        rw [h8, h9]
        simpa using h7
      rw [e4]
      grind
    rw [e3, sign_scale (by omega)]
    exact Int.sign_eq_neg_one_of_neg (by omega)
end Go.Proofs.YthokphoojmpajabGreatDoor
