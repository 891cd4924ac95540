/- Fractions as impl reckons with them: what settled, dividedBy and told come to. -/
import Derived.Test.YthokphoojmpajafDoorFr3
import Derived.Test.YthokphoojmpajafDoorFr4
import Derived.Test.YthokphoojmpajafDoorFr5
import Derived.Test.YthokphoojmpajafDoorNumFr
namespace Go.Proofs.YthokphoojmpajafDoor
open Go.RowKit Go.Proofs.Pin

/-- An answer: a fraction and whether there is one. -/
structure FAns where
  b : Bool
  X : List Int
  Y : List Int
  ok : Bool
def noA : FAns := ⟨false, [], [], false⟩
/-- What a function that answers with a fraction leaves: the answer lies in memory of its own. -/
def RetF (W : World) (e : Ending) (w' : World) (A : FAns) : Prop :=
  ∃ r cr s cs, e = .returned (.tuple #[fracV A.b r A.X.length cr s A.Y.length cs, .bool A.ok]) ∧ OwnI w' W.heap.size r cr A.X ∧ OwnI w' W.heap.size s cs A.Y ∧ Ap r s ∧ Below W.heap.size W w'
/-- What told makes of a fraction and an error. -/
def Tell (W : World) (v ev : Value) (A : FAns) : Prop :=
  (∃ r cr s cs, v = frV r A.X.length cr s A.Y.length cs A.b ∧ ev = .nilIface ∧ Sl W r A.X ∧ Sl W s A.Y ∧ A.ok = true ∧ A.X.length ≤ 1048576 ∧ A.Y.length ≤ 1048576) ∨ (∃ t, v = fr0 ∧ ev = flt t ∧ A = noA)
/-- The same, where the fraction lies in memory of the call's own. -/
def TellO (W : World) (base : Nat) (v ev : Value) (A : FAns) : Prop :=
  (∃ r cr s cs, v = frV r A.X.length cr s A.Y.length cs A.b ∧ ev = .nilIface ∧ OwnI W base r cr A.X ∧ OwnI W base s cs A.Y ∧ A.ok = true ∧ A.X.length ≤ 1048576 ∧ A.Y.length ≤ 1048576) ∨ (∃ t, v = fr0 ∧ ev = flt t ∧ A = noA)
theorem TellO.tell {W : World} {base : Nat} {v ev : Value} {A : FAns} (h : TellO W base v ev A) : Tell W v ev A := by
  rcases h with ⟨r, cr, s, cs, h1, h2, h3, h4, h5⟩ | h
  · exact .inl ⟨r, cr, s, cs, h1, h2, h3.sl, h4.sl, h5⟩
  · exact .inr h
theorem TellO.far {W W' : World} {base g : Nat} {v ev : Value} {A : FAns} (h : TellO W base v ev A) (hg : W.grownBy W' (some g)) (hl : g < base) : TellO W' base v ev A := by
  rcases h with ⟨r, cr, s, cs, h1, h2, h3, h4, h5⟩ | h
  · exact .inl ⟨r, cr, s, cs, h1, h2, own_far h3 hg hl, own_far h4 hg hl, h5⟩
  · exact .inr h
theorem TellO.keep {W W' : World} {base : Nat} {v ev : Value} {A : FAns} (h : TellO W base v ev A) (hb : Below W.heap.size W W') : TellO W' base v ev A := by
  rcases h with ⟨r, cr, s, cs, h1, h2, h3, h4, h5⟩ | h
  · exact .inl ⟨r, cr, s, cs, h1, h2, h3.keep hb, h4.keep hb, h5⟩
  · exact .inr h
theorem TellO.mono {W : World} {base base' : Nat} {v ev : Value} {A : FAns} (h : TellO W base v ev A) (hb : base' ≤ base) : TellO W base' v ev A := by
  rcases h with ⟨r, cr, s, cs, h1, h2, h3, h4, h5⟩ | h
  · exact .inl ⟨r, cr, s, cs, h1, h2, h3.mono hb, h4.mono hb, h5⟩
  · exact .inr h
theorem TellO.frV {W : World} {base : Nat} {v ev : Value} {A : FAns} (h : TellO W base v ev A) : ∃ r n cr s m cs b, v = .agg #[.slice r n cr, .slice s m cs, .bool b] := by
  rcases h with ⟨r, cr, s, cs, h1, h2, h3, h4, h5⟩ | ⟨t, h1, _⟩
  · exact ⟨_, _, _, _, _, _, _, h1⟩
  · exact ⟨_, _, _, _, _, _, _, h1⟩
def makeA (b : Bool) (x y : Nat) : FAns := if (loX x y).length ≤ 256 ∧ (loY x y).length ≤ 256 then ⟨b && decide (0 < (loX x y).length), loX x y, loY x y, true⟩ else noA

theorem own_nil (w : World) (base : Nat) : OwnI w base none 0 [] := OwnI.nil w base
theorem retF_no {W w' : World} (h : Below W.heap.size W w') : RetF W (.returned (.tuple #[fracV false none 0 0 none 0 0, .bool false])) w' noA :=
  ⟨none, 0, none, 0, rfl, own_nil _ _, own_nil _ _, (fun x y h => by cases h), h⟩

/-- The answer is stored into the result's box, and handed back. -/
theorem retF_fin {w w4 w5 : World} {A : FAns} {r s : Option Addr} {cr cs g : Nat} (o : OwnI w5 w4.heap.size r cr A.X) (p : OwnI w5 w4.heap.size s cs A.Y) (ap : Ap r s) (hB : Below w.heap.size w w5) (hg : w.heap.size ≤ g) (h4 : g < w4.heap.size) (x y z : Value) :
    RetF w (.returned (.tuple #[fracV A.b r A.X.length cr s A.Y.length cs, .bool A.ok])) (((w5.setCell ⟨g, 0, none⟩ x).setCell ⟨g, 1, none⟩ y).setCell ⟨g, 2, none⟩ z) A :=
  ⟨r, cr, s, cs, rfl, (own_far o (gr_set3 _ _ _ _ _) h4).mono (by omega), (own_far p (gr_set3 _ _ _ _ _) h4).mono (by omega), ap, below_set3 hB hg _ _ _⟩

theorem told_tell (v ev : Value) (A : FAns) (w : World) (hh : Hdl w) (T : Tell w v ev A) : Calls Tryd.prog 35 #[v, ev] w fun e w' => RetF w e w' A := by
  rcases T with ⟨r, cr, s, cs, hv, he, hX, hY, hok, lX, lY⟩ | ⟨t, hv, he, hA⟩
  · subst he
    refine (told_ok v r s cr cs A.X A.Y A.b w hX hY lX lY hv).mono ?_
    rintro e w' ⟨r', c', s', d', h1, h2, h3, h4, h5⟩
    exact ⟨r', c', s', d', by rw [hok]; exact h1, h2, h3, h4, h5⟩
  · subst he
    subst hA
    refine (told_err v t none none 0 0 0 0 false w hh hv).mono ?_
    rintro e w' ⟨rfl, h⟩
    exact retF_no h

theorem settled_tell (r s : Option Addr) (cr cs x y : Nat) (b : Bool) (w : World) (hx : Sl w r (dgs x)) (hy : Sl w s (dgs y)) (lx : (dgs x).length ≤ 2000) (ly : (dgs y).length ≤ 2000) (kx : (dgs x).length ≤ cr) (ky : (dgs y).length ≤ cs) (hy0 : y ≠ 0) :
    Calls Tryd.prog 40 #[frV r (dgs x).length cr s (dgs y).length cs b] w fun e w' => ∃ v ev, e = .returned (.tuple #[v, ev]) ∧ TellO w' w.heap.size v ev (makeA b x y) ∧ Below w.heap.size w w' := by
  refine (settled_any r s cr cs x y b w hx hy lx ly kx ky hy0).mono ?_
  rintro e w' (⟨l1, l2, r', c', s', d', h1, h2, h3, h4⟩ | ⟨hn, ⟨t, h1⟩, h4⟩)
  · refine ⟨_, _, h1, .inl ⟨r', c', s', d', ?_, rfl, ?_, ?_, ?_, ?_, ?_⟩, h4⟩ <;> (unfold makeA; rw [if_pos ⟨l1, l2⟩])
    · exact h2
    · exact h3
    · show (loX x y).length ≤ 1048576; omega
    · show (loY x y).length ≤ 1048576; omega
  · exact ⟨_, _, h1, .inr ⟨t, rfl, rfl, by unfold makeA; rw [if_neg hn]⟩, h4⟩

end Go.Proofs.YthokphoojmpajafDoor
