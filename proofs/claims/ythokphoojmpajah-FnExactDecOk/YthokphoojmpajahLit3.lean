/- A scope with several labels; the contract of impl.scanned. -/
import Derived.Test.YthokphoojmpajahLit2
import Derived.Scope
import Derived.WalkMore
namespace Go.Proofs.Ythokphoojmpajah
open Go.RowKit Go.Proofs.Pin

/-- By a goto: what holds at its label; else as Q. -/
def Jumps (J : Nat → Act → World → Prop) (Q : Exit → Act → World → Prop) : Exit → Act → World → Prop
  | .goto l, a, w => J l a w
  | e, a, w => Q e a w

theorem wp_skip_seq {P : Program} {t : Code} {Q : Exit → Act → World → Prop} {a : Act} {w : World} (h : t.wp P Q a w) : (Code.skip.seq t).wp P Q a w := wp_seq (wp_skip h)

/-- A pass from each label, each with what is had of the passes from a place of a smaller measure, be it by a goto or by falling into the label. -/
theorem jumps_all {P : Program} {Q : Exit → Act → World → Prop} {J : Nat → Nat → Act → World → Prop} {tl : Nat → Code}
    (pass : ∀ l n, (∀ l' n', n' < n → ∀ a w, J l' n' a w → (tl l').wp P (Jumps (fun l'' a w => ∃ n'', n'' < n ∧ J l'' n'' a w) Q) a w) → ∀ a w, J l n a w → (tl l).wp P (Jumps (fun l' a w => ∃ n', n' < n ∧ J l' n' a w) Q) a w) :
    ∀ n l a w, J l n a w → (tl l).wp P (Jumps (fun l' a w => ∃ n', n' < n ∧ J l' n' a w) Q) a w := by
  intro n
  induction n using Nat.strongRecOn with
  | _ n ih =>
    intro l a w hJ
    refine pass l n (fun l' n' hn a w hJ' => wp_mono (ih n' hn l' a w hJ') ?_) a w hJ
    intro e a w h
    cases e with
    | goto l'' => obtain ⟨n'', h1, h2⟩ := h; exact ⟨n'', by omega, h2⟩
    | normal => exact h
    | exit id => exact h
    | ret => exact h
    | panic ch => exact h
    | outgrown => exact h

/-- A run inside a scope ends outside of it, if each jump that it may take does. -/
theorem leaves_scope {P : Program} {Q : Exit → Act → World → Prop} {J : Nat → Act → World → Prop} {dest : Nat → List Item} {c : Code} {b : Frame} {k : List Item} {cs : List Frame} {X : Machine}
    (finds : ∀ l a w, J l a w → gotoIn l (.inScope c :: k) = some (dest l)) (onward : ∀ l a w, J l a w → ∃ e a' w', Q e a' w' ∧ Arrives P (lone (b.at a (dest l)) cs w) b k cs e a' w')
    (run : ∃ e a w, Jumps J Q e a w ∧ Arrives P X b (.inScope c :: k) cs e a w) : ∃ e a w, Q e a w ∧ Arrives P X b k cs e a w := by
  obtain ⟨e, a, w, hq, har⟩ := run
  match e, hq, har with
  | .goto l, hj, har =>
    obtain ⟨e', a', w', hq', h⟩ := onward l a w hj
    exact ⟨e', a', w', hq', Arrives.of_steps (har _ (finds l a w hj)) h⟩
  | .normal, hq, har => exact ⟨_, a, w, hq, Steps.trans har (.one step_inScope)⟩
  | .exit id, hq, har => exact ⟨.exit id, a, w, hq, fun _ hk => har _ (by simp [exitTo, hk])⟩
  | .ret, hq, har => exact ⟨_, a, w, hq, har⟩
  | .panic ch, hq, har => exact ⟨_, a, w, hq, har⟩
  | .outgrown, hq, har => exact ⟨_, a, w, hq, har⟩

theorem wp_scope_many {P : Program} {Q : Exit → Act → World → Prop} {J : Nat → Nat → Act → World → Prop} {tl : Nat → Code} {c : Code} {a : Act} {w : World}
    (hf : ∀ l n a w, J l n a w → findLabel c l = some (Code.skip.seq (tl l)))
    (all : ∀ n l a w, J l n a w → (tl l).wp P (Jumps (fun l' a w => ∃ n', n' < n ∧ J l' n' a w) Q) a w)
    (first : c.wp P (Jumps (fun l a w => ∃ n, J l n a w) Q) a w) : (Code.scope c).wp P Q a w := by
  intro b k cs
  have finds : ∀ l n a w, J l n a w → gotoIn l (.inScope c :: k) = some (.code (Code.skip.seq (tl l)) :: .inScope c :: k) := fun l n a w hJ => by simp [gotoIn, hf l n a w hJ]
  have below : ∀ n m, m < n → ∀ l a w, J l m a w → ∃ e a' w', Q e a' w' ∧ Arrives P (lone (b.at a (.code (Code.skip.seq (tl l)) :: .inScope c :: k)) cs w) b k cs e a' w' := by
    intro n
    induction n with
    | zero => intro m hm; omega
    | succ n ih =>
      intro m hm l a w hJ
      exact leaves_scope (dest := fun l => .code (Code.skip.seq (tl l)) :: .inScope c :: k) (fun l a w ⟨m', _, hj⟩ => finds l m' a w hj) (fun l a w ⟨m', hlt, hj⟩ => ih m' (by omega) l a w hj) (wp_skip_seq (all m l a w hJ) b _ cs)
  obtain ⟨e, a', w', hq, har⟩ := leaves_scope (dest := fun l => .code (Code.skip.seq (tl l)) :: .inScope c :: k) (fun l a w ⟨n, hj⟩ => finds l n a w hj) (fun l a w ⟨n, hj⟩ => below (n + 1) n (by omega) l a w hj) (first b _ cs)
  exact ⟨e, a', w', hq, .of_steps (.one step_scope) har⟩

/-- What is known at a label, at a place of the text, with a power gathered. -/
def Inv (s : ByteArray) (i p : Nat) : Nat → Prop
  | 0 => litB s = frB s i ∧ p = 0
  | 1 => Dgs s 0 i ∧ dAt s i = true ∧ ch s 0 ≠ 48 ∧ p = 0
  | 2 => litB s = tlB s i ∧ p = 0
  | 3 => ∃ n, ch s n = 46 ∧ n + 1 ≤ i ∧ Dgs s (n + 1) i ∧ dAt s i = true ∧ litB s = frB s n ∧ p = 0
  | 4 => ∃ a mm b, ExAt s a mm b ∧ b ≤ i ∧ ch s b ≠ 48 ∧ Dgs s b i ∧ dAt s i = true ∧ litB s = tlB s a ∧ p = cp (seg s b (i - b))
  | _ => False
def rk : Nat → Nat
  | 0 => 1
  | _ => 0
def Frm (s : ByteArray) (Bl Bn i : Nat) (a : Act) : Prop := ∃ u7 u8 u9 u10 u11 u12 u13 u14 u15 u16 u17 u18 u19 u20 u21 u22 u23 u24 u25 u26 u27 u28 u29 u30 u31 u32 u33 u34 u35 u36 u37 u38 u39 u40 u41 u42 u43 u44 u45 u46 u47 u48 u49 u50 u51 u52 u53 u54 u55 u56 u57 u58 u59 u60 u61 u62 u63 u64 u65 u66 u67 u68 u69 u70 u71 u72 u73 u74 u75 : Value, a = { tmps := #[.string s, .func (.func 10) #[] #[.pointer (some ⟨Bl, 0, none⟩)], undef, undef, .bool false, .func (.func 13) #[] #[.pointer (some ⟨Bn, 0, none⟩)], .int .i32 (rd s i), u7, u8, u9, u10, u11, u12, u13, u14, u15, u16, u17, u18, u19, u20, u21, u22, u23, u24, u25, u26, u27, u28, u29, u30, u31, u32, u33, u34, u35, u36, u37, u38, u39, u40, u41, u42, u43, u44, u45, u46, u47, u48, u49, u50, u51, u52, u53, u54, u55, u56, u57, u58, u59, u60, u61, u62, u63, u64, u65, u66, u67, u68, u69, u70, u71, u72, u73, u74, u75], defers := [] }
def Jn (s : ByteArray) (w0 : World) (Bl l n : Nat) (a : Act) (w : World) : Prop :=
  ∃ i p m Bn A base, n = (61 - i) * 2 + rk l ∧ i ≤ s.size ∧ m ≤ i ∧ Inv s i p l ∧ St w0 w Bl Bn A base (rn s i).tail p m ∧ Frm s Bl Bn i a
/-- What a scan answers, and what it leaves behind. -/
def ScanRet (s : ByteArray) (w0 : World) (Bl : Nat) (e : Ending) (w' : World) : Prop :=
  ∃ bb p m Bn A base R, e = .returned (.bool bb) ∧ ((bb = true ∧ p ≤ 400) ↔ litB s = true) ∧ p ≤ 401 ∧ m ≤ 1000 ∧ St w0 w' Bl Bn A base R p m

theorem next_at {s : ByteArray} {i : Nat} (hs : s.size ≤ 60) (h0 : ch s i ≠ 0) (h1 : ch s i < 128) {w0 w : World} {Bl Bn A base p m : Nat} (h : St w0 w Bl Bn A base (rn s i).tail p m) :
    Calls Try.prog 13 #[.pointer (some ⟨Bn, 0, none⟩)] w fun e w' => e = .returned (.int .i32 (rd s (i + 1))) ∧ St w0 w' Bl Bn A base (rn s (i + 1)).tail p m := by
  rw [rn_tail h0 h1] at h
  exact next_any h (by have := rn_len s (i + 1); omega)
theorem isDec_yes {s : ByteArray} {i : Nat} (h : dAt s i = true) (w : World) : Calls Try.prog 12 #[.int .i32 (rd s i)] w fun e w' => e = .returned (.bool true) ∧ w = w' := by
  have h1 := rd_dig.1 h
  have h2 := isDec_any (rd s i) (by omega) (by omega) w
  have e : (decide (48 ≤ rd s i) && decide (rd s i ≤ 57)) = true := by simp [h1]
  rw [e] at h2
  exact h2
theorem isDec_no {s : ByteArray} {i : Nat} (h : dAt s i = false) (w : World) : Calls Try.prog 12 #[.int .i32 (rd s i)] w fun e w' => e = .returned (.bool false) ∧ w = w' := by
  have h1 := rd_wide s i
  have h2 := isDec_any (rd s i) (by omega) (by omega) w
  have e : (decide (48 ≤ rd s i) && decide (rd s i ≤ 57)) = false := by
    have h3 : ¬ (48 ≤ rd s i ∧ rd s i ≤ 57) := fun hh => by rw [rd_dig.2 hh] at h; cases h
    rw [Bool.and_eq_false_iff]
    simp only [decide_eq_false_iff_not]
    omega
  rw [e] at h2
  exact h2

theorem jn_lt {s : ByteArray} {w0 : World} {Bl : Nat} (l n : Nat) (a : Act) (w : World) (h : Jn s w0 Bl l n a w) : l < 5 := by
  obtain ⟨i, p, m, Bn, A, base, _, _, _, h, _⟩ := h
  match l, h with
  | 0, _ => decide
  | 1, _ => decide
  | 2, _ => decide
  | 3, _ => decide
  | 4, _ => decide
  | n + 5, h => exact False.elim h

theorem dig_at {s : ByteArray} {i : Nat} (h : dAt s i = true) : ch s i ≠ 0 ∧ ch s i < 128 ∧ rd s i = (ch s i : Int) ∧ 48 ≤ ch s i ∧ ch s i ≤ 57 ∧ i < s.size := by
  have h1 := dAt_iff.1 h
  exact ⟨by omega, by omega, (rd_is (by omega) (by omega)).2 rfl, h1.1, h1.2, dAt_lt h⟩
theorem hand3_at {s : ByteArray} {i : Nat} (h : dAt s i = true) {w0 w : World} {Bl Bn A base p m : Nat} {R : List Int} (hst : St w0 w Bl Bn A base R p m) (hp : p ≤ 401) :
    Calls Try.prog 10 #[.int .i64 3, .int .i32 (rd s i), .pointer (some ⟨Bl, 0, none⟩)] w fun e w' => e = .returned (.tuple #[]) ∧ St w0 w' Bl Bn A base R (min (p * 10 + (ch s i - 48)) 401) m := by
  obtain ⟨_, _, e, h1, h2, _⟩ := dig_at h
  have e1 : rd s i = ((ch s i - 48 : Nat) : Int) + 48 := by omega
  rw [e1]
  exact hand3_any hst hp _ (by omega)
theorem cp_next {s : ByteArray} {b i p : Nat} (hb : b ≤ i) (hp : p = cp (seg s b (i - b))) : min (p * 10 + (ch s i - 48)) 401 = cp (seg s b (i + 1 - b)) := by
  have e : i + 1 - b = (i - b) + 1 := by omega
  have e2 : b + (i - b) = i := by omega
  rw [e, cp_seg, e2, hp]
theorem end_b {s : ByteArray} {i : Nat} (hi : i ≤ s.size) : (rd s i == -1) = decide (i = s.size) := by
  have h := rd_end hi
  by_cases e : i = s.size
  · rw [h.2 e]
    simp [e]
  · have h2 : rd s i ≠ -1 := fun hh => e (h.1 hh)
    simp [e, h2]

theorem is_yes {s : ByteArray} {i c : Nat} (h0 : 0 < c) (h1 : c < 128) (h : ch s i = c) : (rd s i == (c : Int)) = true := by rw [(rd_is h0 h1).2 h]; simp
theorem is_no {s : ByteArray} {i c : Nat} (h0 : 0 < c) (h1 : c < 128) (h : ch s i ≠ c) : (rd s i == (c : Int)) = false := by
  rw [beq_eq_false_iff_ne]
  exact fun e => h ((rd_is h0 h1).1 e)
theorem hand0_at {s : ByteArray} {i : Nat} (h : dAt s i = true) {w0 w : World} {Bl Bn A base p m : Nat} {R : List Int} (hst : St w0 w Bl Bn A base R p m) (hm : m ≤ 1000) :
    Calls Try.prog 10 #[.int .i64 0, .int .i32 (rd s i), .pointer (some ⟨Bl, 0, none⟩)] w fun e w' => e = .returned (.tuple #[]) ∧ St w0 w' Bl Bn A base R p (m + 1) := by
  obtain ⟨_, _, e, h1, h2, _⟩ := dig_at h
  exact hand0_any hst hm _ (by omega) (by omega)
theorem hand1_at {s : ByteArray} {i : Nat} (h : dAt s i = true) {w0 w : World} {Bl Bn A base p m : Nat} {R : List Int} (hst : St w0 w Bl Bn A base R p m) (hm : m ≤ 1000) :
    Calls Try.prog 10 #[.int .i64 1, .int .i32 (rd s i), .pointer (some ⟨Bl, 0, none⟩)] w fun e w' => e = .returned (.tuple #[]) ∧ St w0 w' Bl Bn A base R p (m + 1) := by
  obtain ⟨_, _, e, h1, h2, _⟩ := dig_at h
  exact hand1_any hst hm _ (by omega) (by omega)
theorem next_first {s : ByteArray} (hs : s.size ≤ 60) {w0 w : World} {Bl Bn A base p m : Nat} (h : St w0 w Bl Bn A base (rn s 0) p m) :
    Calls Try.prog 13 #[.pointer (some ⟨Bn, 0, none⟩)] w fun e w' => e = .returned (.int .i32 (rd s 0)) ∧ St w0 w' Bl Bn A base (rn s 0).tail p m :=
  next_any h (by have := rn_len s 0; omega)
theorem cp_none (s : ByteArray) (b : Nat) : (0 : Nat) = cp (seg s b (b - b)) := by simp [seg, cp]

/-- A function's scope, and what stands behind a label of it. -/
def scIn (f : Func) : Code := match f.body with | some (.seq _ (.scope c)) => c | _ => .skip
def tlIn (f : Func) (l : Nat) : Code := match findLabel (scIn f) l with | some (.seq _ t) => t | _ => .skip
theorem tl_is {s : ByteArray} {w0 : World} {Bl : Nat} (l n : Nat) (a : Act) (w : World) (h : Jn s w0 Bl l n a w) : findLabel (scIn Try.f9) l = some (Code.skip.seq (tlIn Try.f9 l)) := by
  have hl := jn_lt l n a w h
  match l, hl with
  | 0, _ => rfl
  | 1, _ => rfl
  | 2, _ => rfl
  | 3, _ => rfl
  | 4, _ => rfl
/-- What a walk from a label, or a jump below the measure n, has to come to. -/
def Goes (s : ByteArray) (w0 : World) (Bl n : Nat) : Exit → Act → World → Prop := Jumps (fun l' a w => ∃ n', n' < n ∧ Jn s w0 Bl l' n' a w) (bodyPost Try.prog Try.f9 (ScanRet s w0 Bl))
def Falls (s : ByteArray) (w0 : World) (Bl n l : Nat) : Prop := ∀ n', n' < n → ∀ a w, Jn s w0 Bl l n' a w → (tlIn Try.f9 l).wp Try.prog (Goes s w0 Bl n) a w
end Go.Proofs.Ythokphoojmpajah
