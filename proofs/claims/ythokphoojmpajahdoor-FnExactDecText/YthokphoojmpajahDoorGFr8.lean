/- Fractions as impl reckons with them: times. Fractions as impl reckons with them: what settled, dividedBy and told come to. What an operation on fractions answers, as numbers say it; what a fraction that is ok is. -/
import Derived.Test.YthokphoojmpajahDoorTimes
import Derived.Test.YthokphoojmpajahDoorGFr2
import Derived.Test.YthokphoojmpajahDoorGCmpN
namespace Go.Proofs.YthokphoojmpajahDoor
open Go.RowKit Go.Proofs.Pin

/-- Three boxes, laid one behind the other. -/
theorem boxes3 (w : World) (t1 t2 t3 : TypeId) (c1 c2 c3 : Array Value) : ∃ w0, w0 = ((w.alloc (.cells c1 t1)).alloc (.cells c2 t2)).alloc (.cells c3 t3) ∧ BoxC w0 w.heap.size t1 c1 ∧ BoxC w0 (w.heap.size + 1) t2 c2 ∧ BoxC w0 (w.heap.size + 1 + 1) t3 c3 ∧ Below w.heap.size w w0 ∧ w0.heap.size = w.heap.size + 3 := by
  refine ⟨_, rfl, boxc_alloc (boxc_alloc (boxc_new _ _ _) _) _, ?_, ?_, (((Below.refl _ w).alloc (Nat.le_refl _) _).alloc (by simp) _).alloc (by simp; omega) _, by simp⟩
  · have h := boxc_new (w.alloc (.cells c1 t1)) t2 c2
    rw [World.size_alloc] at h
    exact boxc_alloc h _
  · have h := boxc_new ((w.alloc (.cells c1 t1)).alloc (.cells c2 t2)) t3 c3
    rw [World.size_alloc, World.size_alloc] at h
    exact h

end Go.Proofs.YthokphoojmpajahDoor

namespace Go.Proofs.YthokphoojmpajahDoor
open Go.RowKit Go.Proofs.Pin

/-- An answer: a fraction and whether there is one. -/
structure FAns where
  b : Bool
  X : List Int
  Y : List Int
  ok : Bool
def noA : FAns := ⟨false, [], [], false⟩
/-- What a function that answers with a fraction leaves: the answer lies in memory of its own. -/
def RetF (W : World) (e : Ending) (w' : World) (A : FAns) : Prop :=
  ∃ r cr s cs, e = .returned (.tuple #[fracV A.b r A.X.length cr s A.Y.length cs, .bool A.ok]) ∧ OwnI w' W.heap.size r cr A.X ∧ OwnI w' W.heap.size s cs A.Y ∧ Ap r s ∧ Below W.heap.size W w'
/-- What told makes of a fraction and an error. -/
def Tell (W : World) (v ev : Value) (A : FAns) : Prop :=
  (∃ r cr s cs, v = frV r A.X.length cr s A.Y.length cs A.b ∧ ev = .nilIface ∧ Sl W r A.X ∧ Sl W s A.Y ∧ A.ok = true ∧ A.X.length ≤ 1048576 ∧ A.Y.length ≤ 1048576) ∨ (∃ t, v = fr0 ∧ ev = flt t ∧ A = noA)
/-- The same, where the fraction lies in memory of the call's own. -/
def TellO (W : World) (base : Nat) (v ev : Value) (A : FAns) : Prop :=
  (∃ r cr s cs, v = frV r A.X.length cr s A.Y.length cs A.b ∧ ev = .nilIface ∧ OwnI W base r cr A.X ∧ OwnI W base s cs A.Y ∧ A.ok = true ∧ A.X.length ≤ 1048576 ∧ A.Y.length ≤ 1048576) ∨ (∃ t, v = fr0 ∧ ev = flt t ∧ A = noA)
theorem TellO.tell {W : World} {base : Nat} {v ev : Value} {A : FAns} (h : TellO W base v ev A) : Tell W v ev A := by
  rcases h with ⟨r, cr, s, cs, h1, h2, h3, h4, h5⟩ | h
  · exact .inl ⟨r, cr, s, cs, h1, h2, h3.sl, h4.sl, h5⟩
  · exact .inr h
theorem TellO.far {W W' : World} {base g : Nat} {v ev : Value} {A : FAns} (h : TellO W base v ev A) (hg : W.grownBy W' (some g)) (hl : g < base) : TellO W' base v ev A := by
  rcases h with ⟨r, cr, s, cs, h1, h2, h3, h4, h5⟩ | h
  · exact .inl ⟨r, cr, s, cs, h1, h2, own_far h3 hg hl, own_far h4 hg hl, h5⟩
  · exact .inr h
theorem TellO.keep {W W' : World} {base : Nat} {v ev : Value} {A : FAns} (h : TellO W base v ev A) (hb : Below W.heap.size W W') : TellO W' base v ev A := by
  rcases h with ⟨r, cr, s, cs, h1, h2, h3, h4, h5⟩ | h
  · exact .inl ⟨r, cr, s, cs, h1, h2, h3.keep hb, h4.keep hb, h5⟩
  · exact .inr h
theorem TellO.mono {W : World} {base base' : Nat} {v ev : Value} {A : FAns} (h : TellO W base v ev A) (hb : base' ≤ base) : TellO W base' v ev A := by
  rcases h with ⟨r, cr, s, cs, h1, h2, h3, h4, h5⟩ | h
  · exact .inl ⟨r, cr, s, cs, h1, h2, h3.mono hb, h4.mono hb, h5⟩
  · exact .inr h
theorem TellO.frV {W : World} {base : Nat} {v ev : Value} {A : FAns} (h : TellO W base v ev A) : ∃ r n cr s m cs b, v = .agg #[.slice r n cr, .slice s m cs, .bool b] := by
  rcases h with ⟨r, cr, s, cs, h1, h2, h3, h4, h5⟩ | ⟨t, h1, _⟩
  · exact ⟨_, _, _, _, _, _, _, h1⟩
  · exact ⟨_, _, _, _, _, _, _, h1⟩
def makeA (b : Bool) (x y : Nat) : FAns := if (loX x y).length ≤ 256 ∧ (loY x y).length ≤ 256 then ⟨b && decide (0 < (loX x y).length), loX x y, loY x y, true⟩ else noA

theorem own_nil (w : World) (base : Nat) : OwnI w base none 0 [] := OwnI.nil w base
theorem retF_no {W w' : World} (h : Below W.heap.size W w') : RetF W (.returned (.tuple #[fracV false none 0 0 none 0 0, .bool false])) w' noA :=
  ⟨none, 0, none, 0, rfl, own_nil _ _, own_nil _ _, (fun x y h => by cases h), h⟩

/-- The answer is stored into the result's box, and handed back. -/
theorem retF_fin {w w4 w5 : World} {A : FAns} {r s : Option Addr} {cr cs g : Nat} (o : OwnI w5 w4.heap.size r cr A.X) (p : OwnI w5 w4.heap.size s cs A.Y) (ap : Ap r s) (hB : Below w.heap.size w w5) (hg : w.heap.size ≤ g) (h4 : g < w4.heap.size) (x y z : Value) :
    RetF w (.returned (.tuple #[fracV A.b r A.X.length cr s A.Y.length cs, .bool A.ok])) (((w5.setCell ⟨g, 0, none⟩ x).setCell ⟨g, 1, none⟩ y).setCell ⟨g, 2, none⟩ z) A :=
  ⟨r, cr, s, cs, rfl, (own_far o (gr_set3 _ _ _ _ _) h4).mono (by omega), (own_far p (gr_set3 _ _ _ _ _) h4).mono (by omega), ap, below_set3 hB hg _ _ _⟩

theorem told_tell (v ev : Value) (A : FAns) (w : World) (hh : Hdl w) (T : Tell w v ev A) : Calls Tryd.prog 27 #[v, ev] w fun e w' => RetF w e w' A := by
  rcases T with ⟨r, cr, s, cs, hv, he, hX, hY, hok, lX, lY⟩ | ⟨t, hv, he, hA⟩
  · subst he
    refine (told_ok v r s cr cs A.X A.Y A.b w hX hY lX lY hv).mono ?_
    rintro e w' ⟨r', c', s', d', h1, h2, h3, h4, h5⟩
    exact ⟨r', c', s', d', by rw [hok]; exact h1, h2, h3, h4, h5⟩
  · subst he
    subst hA
    refine (told_err v t none none 0 0 0 0 false w hh hv).mono ?_
    rintro e w' ⟨rfl, h⟩
    exact retF_no h

end Go.Proofs.YthokphoojmpajahDoor

namespace Go.Proofs.YthokphoojmpajahDoor
open Go.RowKit Go.Proofs.Pin

/-- What FracOk has found. -/
theorem fok_parts {b : Bool} {X Y : List Int} (h : fokB b X Y = true) : ∃ x y : Nat, X = dgs x ∧ Y = dgs y ∧ (dgs x).length ≤ 256 ∧ (dgs y).length ≤ 256 ∧ y ≠ 0 ∧ (b = true → x ≠ 0) ∧ Nat.gcd x y = 1 := by
  unfold fokB at h
  simp only [Bool.and_eq_true, decide_eq_true_eq, Bool.not_eq_true'] at h
  obtain ⟨h1, h2, h3, h4, h5⟩ := h
  obtain ⟨x, rfl, lx⟩ := ok_dgs h1
  obtain ⟨y, rfl, ly⟩ := ok_dgs h2
  refine ⟨x, y, rfl, rfl, lx, ly, ?_, ?_, ?_⟩
  · intro h; exact h3 ((dgs_nil_iff y).2 h)
  · intro hb h
    subst hb
    simp [(dgs_nil_iff x).2 h] at h4
  · simpa [val_dgs] using h5
theorem fok_mk {b : Bool} {x y : Nat} (lx : (dgs x).length ≤ 256) (ly : (dgs y).length ≤ 256) (hy : y ≠ 0) (hb : b = true → x ≠ 0) (hg : Nat.gcd x y = 1) : fokB b (dgs x) (dgs y) = true := by
  rw [fok_yes lx ly (fun h => hy ((dgs_nil_iff y).1 h)) (by
    cases b with
    | false => rfl
    | true => simp [(dgs_nil_iff x), hb rfl])]
  simpa using hg

def op1A (f : Bool → Nat → Nat → FAns) (b : Bool) (X Y : List Int) : FAns := if fokB b X Y = true then f b (val X).toNat (val Y).toNat else noA
def op2A (f : Bool → Nat → Nat → Bool → Nat → Nat → FAns) (b : Bool) (X Y : List Int) (b' : Bool) (X' Y' : List Int) : FAns := if fokB b X Y = true ∧ fokB b' X' Y' = true then f b (val X).toNat (val Y).toNat b' (val X').toNat (val Y').toNat else noA
theorem op1A_yes {f : Bool → Nat → Nat → FAns} {b : Bool} {x y : Nat} (h : fokB b (dgs x) (dgs y) = true) : op1A f b (dgs x) (dgs y) = f b x y := by
  unfold op1A; rw [if_pos h, val_dgs, val_dgs, Int.toNat_natCast, Int.toNat_natCast]
theorem op1A_no {f : Bool → Nat → Nat → FAns} {b : Bool} {X Y : List Int} (h : fokB b X Y = false) : op1A f b X Y = noA := by
  unfold op1A; rw [if_neg (by simp [h])]
theorem op2A_yes {f : Bool → Nat → Nat → Bool → Nat → Nat → FAns} {b : Bool} {x y : Nat} {b' : Bool} {x' y' : Nat} (h : fokB b (dgs x) (dgs y) = true) (h' : fokB b' (dgs x') (dgs y') = true) : op2A f b (dgs x) (dgs y) b' (dgs x') (dgs y') = f b x y b' x' y' := by
  unfold op2A; rw [if_pos ⟨h, h'⟩, val_dgs, val_dgs, val_dgs, val_dgs, Int.toNat_natCast, Int.toNat_natCast, Int.toNat_natCast, Int.toNat_natCast]
theorem op2A_no1 {f : Bool → Nat → Nat → Bool → Nat → Nat → FAns} {b : Bool} {X Y : List Int} {b' : Bool} {X' Y' : List Int} (h : fokB b X Y = false) : op2A f b X Y b' X' Y' = noA := by
  unfold op2A; rw [if_neg (by simp [h])]
theorem op2A_no2 {f : Bool → Nat → Nat → Bool → Nat → Nat → FAns} {b : Bool} {X Y : List Int} {b' : Bool} {X' Y' : List Int} (h : fokB b' X' Y' = false) : op2A f b X Y b' X' Y' = noA := by
  unfold op2A; rw [if_neg (by simp [h])]
theorem makeA_len (b : Bool) (x y : Nat) : (makeA b x y).X.length ≤ 256 ∧ (makeA b x y).Y.length ≤ 256 := by
  unfold makeA
  split
  · rename_i h; exact h
  · exact ⟨Nat.zero_le _, Nat.zero_le _⟩

/-- The sign that FracNeg leaves. -/
def ngB (b : Bool) (x : Nat) : Bool := !b && decide (x ≠ 0)
theorem negB_dgs (b : Bool) (x : Nat) : negB b (dgs x).length = ngB b x := by
  unfold negB ngB
  congr 1
  exact decide_eq_decide.2 (dgs_pos_len x)
/-- The sum, the difference, the product, the quotient, in lowest terms. -/
def mulA (b : Bool) (x y : Nat) (b' : Bool) (x' y' : Nat) : FAns := makeA (b != b') (x * x') (y * y')
def divA (b : Bool) (x y : Nat) (b' : Bool) (x' y' : Nat) : FAns := if x' = 0 then noA else makeA (b != b') (x * y') (y * x')
end Go.Proofs.YthokphoojmpajahDoor
