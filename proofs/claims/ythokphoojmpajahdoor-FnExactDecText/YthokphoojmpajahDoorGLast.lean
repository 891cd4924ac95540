/- Regions inside a round of a range over a function: what is walked outside of a round serves inside of one, so long as nothing is deferred; a copy as one step; no Go text in sight. Regions that draw their order, in which all operations but the last read alone, and the last comes last in every order: the reads are walked once, in the order of the text; no Go text in sight. -/
import Derived.Lib.QuietBelowIn
import Derived.Sort.BigQuietIn
import Derived.OwnWalkIn
import Derived.Laws.CopyOwn
namespace Go.Proofs.Pin
open Go.RowKit Go.Sort

/-- No operation of a region is a deferred call. -/
def noDefer (ops : Array Oper) : Bool := ops.all fun o => match o.op with | .defer _ => false | _ => true
theorem noDefer_at {ops : Array Oper} (h : noDefer ops = true) {i : Nat} {o : Oper} (ho : ops[i]? = some o) : ∀ c, o.op ≠ .defer c := by
  intro c hc
  unfold noDefer at h
  rw [Array.all_eq_true] at h
  obtain ⟨hi, he⟩ := Array.getElem?_eq_some_iff.1 ho
  have := h i hi
  rw [he, hc] at this
  cases this

theorem oper_round {F : Fence} {n : Nat} {P : Program} {o : Oper} {a : Act} {w : World} {K : Act → World → Prop} {Q : Exit → Act → World → Prop} (l : Nat) (hd : ∀ c, o.op ≠ .defer c) (h : o.wpIn F n P a w K Q) : o.wpIn (F.inRound l) n P a w K Q := by
  refine ⟨h.1, ?_⟩
  have h2 := h.2
  rw [Oper.semAt_eq _ _ _ hd] at h2 ⊢
  generalize (execOp a.eval o).run P w = r at h2 ⊢
  exact h2

theorem any_round {F : Fence} {n : Nat} {P : Program} {md : Region.Mode} {ops : Array Oper} {Q : Exit → Act → World → Prop} (l : Nat) (hd : noDefer ops = true) : ∀ (fuel : Nat) (listed : Array Bool) (a : Act) (w : World), wpAnyIn F n P md ops Q fuel listed a w → wpAnyIn (F.inRound l) n P md ops Q fuel listed a w
  | 0, _, _, _, h => h
  | fuel + 1, listed, a, w, h => ⟨h.1, fun i hi => by
      have h1 := h.2 i hi
      unfold wpOpIn at h1 ⊢
      cases ho : ops[i]? with
      | none =>
        simp only [ho] at h1 ⊢
        exact any_round l hd fuel _ _ _ h1
      | some o =>
        simp only [ho] at h1 ⊢
        by_cases hw : Region.wanted o (yielded ops a.tmps) = true
        · rw [if_pos hw] at h1 ⊢
          exact oper_round l (noDefer_at hd ho) (Oper.wpIn_mono (fun a w => any_round l hd fuel _ a w) h1)
        · rw [if_neg hw] at h1 ⊢
          exact ⟨h1.1, any_round l hd fuel _ _ _ h1.2⟩⟩

/-- A region that draws, in a round. -/
theorem region_round {F : Fence} {n : Nat} {P : Program} {id l : Nat} {ops : Array Oper} {Q : Exit → Act → World → Prop} {a : Act} {w : World} (hd : noDefer ops = true) (hm : P.follows .mixedOrders = true)
    (h : wpAnyIn F n P .any ops Q ops.size (Array.replicate ops.size false) a w.drew) : (Code.region id ops true).wpIn (F.inRound l) n P Q a w :=
  wpIn_region_any hm (any_round l hd _ _ _ _ h)

/-- A region that draws, in a round, whose operations read alone, over whatever class of worlds. -/
theorem quiet_round {F : Fence} {n : Nat} {P : Program} {id l : Nat} {C : World → Prop} {ops : List Oper} {Q : Exit → Act → World → Prop} {a : Act} {w : World} (hro : F.round = none) (hd : noDefer ops.toArray = true) (hm : P.follows .mixedOrders = true) (hB : Region.lexB .any ops.toArray = true) (hC : C w.drew)
    (h : wpQuietIn F n P ops.toArray C (fun a' => ∀ w', C w' → Q .normal a' w') ops a) : (Code.region id ops.toArray true).wpIn (F.inRound l) n P Q a w := by
  simp only [Region.lexB, Bool.and_eq_true] at hB
  refine region_round hd hm (wpAnyIn_of_quiet (Q := fun a' => ∀ w', C w' → Q .normal a' w') hro (fun _ w' hw' h => h w' hw') _ _ _ _ hC ?_)
  have := wpAnyQIn_lex (F := F) (n := n) (C := C) (md := .any) hB.1 ops 0 (Array.replicate ops.toArray.size false) a (by simp) (by simpa using hB.2) h
  simpa using this

theorem quiet_round_below {F : Fence} {n : Nat} {P : Program} {id l : Nat} {ops : List Oper} {Q : Exit → Act → World → Prop} {a : Act} {w : World} (hro : F.round = none) (hd : noDefer ops.toArray = true) (hm : P.follows .mixedOrders = true) (hB : Region.lexB .any ops.toArray = true)
    (h : wpQuietIn F n P ops.toArray (fun w' => ∃ p : Regrown, w' = grow (redrawn w p.d) p.os) (fun a' => ∀ w', (∃ p : Regrown, w' = grow (redrawn w p.d) p.os) → Q .normal a' w') ops a) : (Code.region id ops.toArray true).wpIn (F.inRound l) n P Q a w :=
  quiet_round (C := fun w' => ∃ p : Regrown, w' = grow (redrawn w p.d) p.os) hro hd hm hB ⟨⟨w.drawn + 1, #[]⟩, by rw [grow_empty]; rfl⟩ h

/-- A copy into a row of the call's own, as one step of a region that draws, behind a fence. -/
theorem step_copy_in {F : Fence} {n : Nat} {P : Program} {o : Oper} {a : Act} {w : World} {K : Act → World → Prop} {Q : Exit → Act → World → Prop} (d s : Operand) (dT sT : TypeId)
    (ho : o.op = .call { callee := .builtin .copy, args := #[d, s], argTypes := #[dT, sT] }) (elem : TypeId) (hu : P.underlying dT = some (.slice elem)) (hsz : (P.info? elem).map (·.size) = some 1)
    (dp sp : Option Addr) (dLen dCap sLen sCap : Nat) (hd : a.eval d = .slice dp dLen dCap) (hs : a.eval s = .slice sp sLen sCap)
    (g off : Nat) (cur : List Value) (t : TypeId) (hg : w.heap[g]? = some (.cells cur.toArray t (0, 0))) (cs : List Value) (hn : cs.length = Nat.min sLen dLen)
    (hpos : 0 < cs.length → dp = some ⟨g, off, none⟩ ∧ ∃ ad, sp = some ad ∧ ∀ j v, cs[j]? = some v → w.cell? (ad.add j) = some v)
    (hfit : off + cs.length ≤ cur.length) (h1 : ∀ v ∈ cs, v.oneCell' = true)
    (h : ∀ w', w'.heap[g]? = some (.cells (splice cur off cs).toArray t (0, 0)) → w.grownBy w' (some g) → w'.heap.size = w.heap.size → K (a.put o.dst (goInt cs.length)) w') :
    o.wpIn F n P a w K Q := by
  refine ⟨?_, ?_⟩
  · intro f hf
    simp [Oper.about, ho, resolve] at hf
    cases hf
  · rw [Oper.semAt_eq _ _ _ (by rw [ho]; intro c hc'; cases hc')]
    by_cases h0 : cs.length = 0
    · obtain rfl : cs = [] := List.eq_nil_of_length_eq_zero h0
      have hrun := run_copy_none (P := P) w dT sT o.type elem dp sp dLen dCap sLen sCap hu hsz (by simpa using hn.symm)
      simp [execOp, ho, resolve, invoke, builtin, hd, hs, hrun, Oper.uponIn]
      exact h w (show _ = _ by simpa [splice] using hg) (World.grownBy.refl _ _) rfl
    · obtain ⟨rfl, ad, rfl, hsrc⟩ := hpos (by omega)
      have hrun := run_copy_row (P := P) w dT sT o.type elem g off dLen dCap ad sLen sCap cur.toArray t cs hu hsz hg hn hsrc (by simpa using hfit) h1
      simp [execOp, ho, resolve, invoke, builtin, hd, hs, hrun, Oper.uponIn]
      refine h _ (show _ = _ by simpa [splice] using setRow_heap w g _ _ t _ hg) ⟨rfl, rfl, rfl, by simp [World.setRow], fun k hk hne => setRow_other w g k _ (fun e => hne (by rw [e]))⟩ (by simp [World.setRow])
end Go.Proofs.Pin

namespace Go.Proofs.Pin
open Go.RowKit Go.Sort

/-- In the last one's place: an operation that does nothing. -/
def nopOf (o : Oper) : Oper := { o with op := .move (.tmp 0), dst := none }
/-- What each operation waits for stands ahead of it. -/
def ordered (md : Region.Mode) (ops : List Oper) : Bool := (List.range ops.length).all fun i => ((ops[i]?).map (·.after.all fun e => !Region.binds md e || decide (e.on < i))).getD true
/-- A later operation waits for each but the last. -/
def heirs (md : Region.Mode) (ops : List Oper) : Bool := (List.range (ops.length - 1)).all fun i => (List.range ops.length).any fun j => decide (i < j) && ((ops[j]?).map (·.after.any fun e => Region.binds md e && e.on == i)).getD false
def noGuard (ops : List Oper) : Bool := ops.all fun o => o.guard.isNone

theorem ready_nop {pre : List Oper} {o : Oper} {listed : Array Bool} {md : Region.Mode} : Region.ready md (pre ++ [nopOf o]).toArray listed = Region.ready md (pre ++ [o]).toArray listed := by
  unfold Region.ready
  simp only [List.size_toArray, List.length_append, List.length_cons, List.length_nil]
  apply List.filter_congr
  intro i hi
  congr 1
  rcases Nat.lt_or_ge i pre.length with h | h
  · simp [List.getElem?_append_left h]
  · have e : i = pre.length := by simp at hi; omega
    subst e
    simp [nopOf]

section
variable {F : Fence} {n : Nat} {P : Program} {md : Region.Mode} {pre : List Oper} {o : Oper} {Q : Exit → Act → World → Prop}

theorem all_listed (ho : ordered md (pre ++ [o]) = true) {listed : Array Bool} (hs : listed.size = pre.length + 1) (hr : Region.ready md (pre ++ [o]).toArray listed = []) : ∀ i, i ≤ pre.length → listed.getD i true = true := by
  intro i
  induction i using Nat.strongRecOn with
  | ind i ih =>
    intro hi
    cases hg : listed.getD i true with
    | true => rfl
    | false =>
      exfalso
      have hlt : i < (pre ++ [o]).length := by simp; omega
      have hm : i ∈ Region.ready md (pre ++ [o]).toArray listed := by
        rw [mem_ready]
        refine ⟨hg, (pre ++ [o])[i], by simp [List.getElem?_eq_getElem hlt], fun e he hb => ?_⟩
        unfold ordered at ho
        rw [List.all_eq_true] at ho
        have h1 := ho i (by simpa using hlt)
        rw [List.getElem?_eq_getElem hlt] at h1
        simp only [Option.map_some, Option.getD_some, Array.all_eq_true_iff_forall_mem] at h1
        have h2 := h1 e he
        rw [hb] at h2
        have h3 : e.on < i := by simpa using h2
        have h4 := ih e.on h3 (by omega)
        have h5 : e.on < listed.size := by omega
        simpa [h5] using h4
      rw [hr] at hm
      cases hm

/-- Once the last one may come up all others have. -/
theorem last_ready (hh : heirs md (pre ++ [o]) = true) {listed : Array Bool}
    (hdc : ∀ i o', listed.getD i false = true → (pre ++ [o])[i]? = some o' → ∀ e ∈ o'.after, Region.binds md e = true → listed.getD e.on false = true)
    (hr : pre.length ∈ Region.ready md (pre ++ [o]).toArray listed) : ∀ d i, i < pre.length → pre.length - i ≤ d → listed.getD i false = true := by
  intro d
  induction d with
  | zero => intro i hi hd; omega
  | succ d ih =>
    intro i hi hd
    unfold heirs at hh
    rw [List.all_eq_true] at hh
    have h1 := hh i (by simp; omega)
    rw [List.any_eq_true] at h1
    obtain ⟨j, hj, h2⟩ := h1
    simp only [Bool.and_eq_true, decide_eq_true_eq] at h2
    obtain ⟨hij, h3⟩ := h2
    have hj' : j < (pre ++ [o]).length := by simpa using hj
    rw [List.getElem?_eq_getElem hj'] at h3
    simp only [Option.map_some, Option.getD_some, ← Array.any_toList, List.any_eq_true, Bool.and_eq_true, beq_iff_eq] at h3
    obtain ⟨e, he, hb, hon⟩ := h3
    have he := Array.mem_toList_iff.1 he
    by_cases hjk : j = pre.length
    · rw [mem_ready] at hr
      obtain ⟨_, o', ho', hall⟩ := hr
      have e1 : (pre ++ [o])[j] = o' := by
        have : (pre ++ [o]).toArray[pre.length]? = some (pre ++ [o])[j] := by subst hjk; simp
        rw [ho'] at this
        exact (Option.some.inj this).symm
      rw [e1] at he
      have := hall e he hb
      rw [hon] at this
      exact this
    · have hl := ih j (by simp at hj'; omega) (by omega)
      have := hdc j _ hl (List.getElem?_eq_getElem hj') e he hb
      rw [hon] at this
      exact this

/-- What is asked behind the reads: the last operation, and then what stands behind the region. -/
def lastQ (F : Fence) (n : Nat) (P : Program) (o : Oper) (Q : Exit → Act → World → Prop) : Exit → Act → World → Prop
  | .normal, a, w => o.wpIn F n P a w (fun a w => Q .normal a w) Q
  | e, a, w => Q e a w

theorem oper_Q {o' : Oper} {a : Act} {w : World} {K : Act → World → Prop} (h : o'.wpIn F n P a w K (lastQ F n P o Q)) : o'.wpIn F n P a w K Q := by
  refine ⟨h.1, ?_⟩
  have h2 := h.2
  generalize (o'.semAt F.round a.eval).run P w = r at h2 ⊢
  exact h2

theorem last_any (ho : ordered md (pre ++ [o]) = true) (hh : heirs md (pre ++ [o]) = true) (hG : noGuard (pre ++ [o]) = true) : ∀ (fuel : Nat) (listed : Array Bool) (a : Act) (w : World), listed.size = pre.length + 1 → listed.getD pre.length true = false →
    (∀ i o', listed.getD i false = true → (pre ++ [o])[i]? = some o' → ∀ e ∈ o'.after, Region.binds md e = true → listed.getD e.on false = true) →
    wpAnyIn F n P md (pre ++ [nopOf o]).toArray (lastQ F n P o Q) fuel listed a w → wpAnyIn F n P md (pre ++ [o]).toArray Q fuel listed a w := by
  intro fuel
  induction fuel with
  | zero =>
    intro listed a w hs hk hdc h
    have hr := h.1
    rw [ready_nop] at hr
    have := all_listed ho hs hr pre.length (Nat.le_refl _)
    rw [hk] at this
    cases this
  | succ fuel ih =>
    intro listed a w hs hk hdc h
    refine ⟨fun hr => ?_, fun i hi => ?_⟩
    · have := all_listed ho hs hr pre.length (Nat.le_refl _)
      rw [hk] at this
      cases this
    · have h1 := h.2 i (by rw [ready_nop]; exact hi)
      have hi2 := hi
      rw [mem_ready] at hi2
      obtain ⟨hun, o', ho', hall⟩ := hi2
      have hg : o'.guard = none := by
        unfold noGuard at hG
        rw [List.all_eq_true] at hG
        have : o' ∈ pre ++ [o] := by
          have h := List.mem_of_getElem? (l := pre ++ [o]) (i := i) (a := o') (by simpa using ho')
          exact h
        simpa using hG o' this
      have hil : i < pre.length + 1 := by
        have h := (Array.getElem?_eq_some_iff.1 ho').1
        simpa using h
      by_cases hik : i = pre.length
      · subst hik
        have e0 : o' = o := by simpa using ho'.symm
        subst e0
        have hl := last_ready hh hdc hi
        unfold wpOpIn at h1 ⊢
        simp only [ho']
        have hn : (pre ++ [nopOf o']).toArray[pre.length]? = some (nopOf o') := by simp
        simp only [hn] at h1
        have hw1 : Region.wanted (nopOf o') (yielded (pre ++ [nopOf o']).toArray a.tmps) = true := by
          have : (nopOf o').guard = none := hg
          simp [Region.wanted, this]
        have hw2 : Region.wanted o' (yielded (pre ++ [o']).toArray a.tmps) = true := by simp [Region.wanted, hg]
        rw [if_pos hw1] at h1
        rw [if_pos hw2]
        have hrun : ((nopOf o').semAt F.round a.eval).run P w = .ok (.value (a.eval (.tmp 0))) w := by
          rw [Oper.semAt_eq _ _ _ (by intro c hc; cases hc)]
          rfl
        have h2 := h1.2
        rw [hrun] at h2
        have h3 : wpAnyIn F n P md (pre ++ [nopOf o']).toArray (lastQ F n P o' Q) fuel (listed.setIfInBounds pre.length true) a w := h2
        have hall2 : Region.ready md (pre ++ [o']).toArray (listed.setIfInBounds pre.length true) = [] := by
          apply List.eq_nil_iff_forall_not_mem.2
          intro j hj
          rw [mem_ready] at hj
          obtain ⟨hj1, oj, hoj, _⟩ := hj
          have hjl : j < pre.length + 1 := by
            have h := (Array.getElem?_eq_some_iff.1 hoj).1
            simpa using h
          by_cases e : pre.length = j
          · subst e
            simp [hs] at hj1
          · rw [getD_set_ne true e] at hj1
            have h4 := hl pre.length j (by omega) (by omega)
            have h5 : j < listed.size := by omega
            simp [h5] at h4 hj1
            rw [h4] at hj1
            cases hj1
        have h6 : o'.wpIn F n P a w (fun a w => Q .normal a w) Q := by
          cases fuel with
          | zero => exact h3.2
          | succ f => exact h3.1 (by rw [ready_nop]; exact hall2)
        exact Oper.wpIn_mono (fun a w hq => wpAnyIn_done hall2 hq fuel) h6
      · have hn : (pre ++ [nopOf o]).toArray[i]? = some o' := by
          have hlt : i < pre.length := by omega
          simp [List.getElem?_append_left hlt] at ho' ⊢
          exact ho'
        unfold wpOpIn at h1 ⊢
        simp only [ho']
        simp only [hn] at h1
        have hw1 : Region.wanted o' (yielded (pre ++ [nopOf o]).toArray a.tmps) = true := by simp [Region.wanted, hg]
        have hw2 : Region.wanted o' (yielded (pre ++ [o]).toArray a.tmps) = true := by simp [Region.wanted, hg]
        rw [if_pos hw1] at h1
        rw [if_pos hw2]
        refine oper_Q (Oper.wpIn_mono (fun a w hq => ih _ a w (by simpa using hs) (by rw [getD_set_ne true hik]; exact hk) (fun j oj hj hoj e he hb => ?_) hq) h1)
        by_cases hji : j = i
        · subst hji
          have e1 : oj = o' := by
            have : (pre ++ [o]).toArray[j]? = some oj := by simpa using hoj
            rw [ho'] at this
            exact (Option.some.inj this).symm
          subst e1
          exact getD_set_true (hall e he hb)
        · rw [getD_set_ne false (Ne.symm hji)] at hj
          exact getD_set_true (hdc j oj hj hoj e he hb)

theorem last_start (k : Nat) : ∀ i, (Array.replicate (k + 1) false).getD i false = true → False := by
  intro i h
  simp [Array.getElem?_replicate] at h
  split at h <;> cases h

/-- A region that draws, behind a fence, outside of a round. -/
theorem quiet_last {id : Nat} {C : World → Prop} {a : Act} {w : World} (hro : F.round = none) (hm : P.follows .mixedOrders = true) (hB : Region.lexB .any (pre ++ [nopOf o]).toArray = true) (ho : ordered .any (pre ++ [o]) = true) (hh : heirs .any (pre ++ [o]) = true) (hG : noGuard (pre ++ [o]) = true) (hC : C w.drew)
    (h : wpQuietIn F n P (pre ++ [nopOf o]).toArray C (fun a' => ∀ w', C w' → o.wpIn F n P a' w' (fun a w => Q .normal a w) Q) (pre ++ [nopOf o]) a) : (Code.region id (pre ++ [o]).toArray true).wpIn F n P Q a w := by
  simp only [Region.lexB, Bool.and_eq_true] at hB
  refine wpIn_region_any hm ?_
  have hz : (pre ++ [o]).toArray.size = pre.length + 1 := by simp
  rw [hz]
  refine last_any ho hh hG _ _ _ _ (by simp) (by simp) (fun i _ hi => (last_start _ i hi).elim) ?_
  refine wpAnyIn_of_quiet (Q := fun a' => ∀ w', C w' → o.wpIn F n P a' w' (fun a w => Q .normal a w) Q) hro (fun _ w' hw' h => h w' hw') _ _ _ _ hC ?_
  have := wpAnyQIn_lex (F := F) (n := n) (C := C) (md := .any) hB.1 (pre ++ [nopOf o]) 0 (Array.replicate (pre.length + 1) false) a (by simp) (by simpa using hB.2) h
  simpa using this

/-- The same inside of a round. -/
theorem quiet_last_round {id l : Nat} {C : World → Prop} {a : Act} {w : World} (hro : F.round = none) (hd : noDefer (pre ++ [o]).toArray = true) (hm : P.follows .mixedOrders = true) (hB : Region.lexB .any (pre ++ [nopOf o]).toArray = true) (ho : ordered .any (pre ++ [o]) = true) (hh : heirs .any (pre ++ [o]) = true) (hG : noGuard (pre ++ [o]) = true) (hC : C w.drew)
    (h : wpQuietIn F n P (pre ++ [nopOf o]).toArray C (fun a' => ∀ w', C w' → o.wpIn F n P a' w' (fun a w => Q .normal a w) Q) (pre ++ [nopOf o]) a) : (Code.region id (pre ++ [o]).toArray true).wpIn (F.inRound l) n P Q a w := by
  simp only [Region.lexB, Bool.and_eq_true] at hB
  refine region_round hd hm ?_
  have hz : (pre ++ [o]).toArray.size = pre.length + 1 := by simp
  rw [hz]
  refine last_any ho hh hG _ _ _ _ (by simp) (by simp) (fun i _ hi => (last_start _ i hi).elim) ?_
  refine wpAnyIn_of_quiet (Q := fun a' => ∀ w', C w' → o.wpIn F n P a' w' (fun a w => Q .normal a w) Q) hro (fun _ w' hw' h => h w' hw') _ _ _ _ hC ?_
  have := wpAnyQIn_lex (F := F) (n := n) (C := C) (md := .any) hB.1 (pre ++ [nopOf o]) 0 (Array.replicate (pre.length + 1) false) a (by simp) (by simpa using hB.2) h
  simpa using this

/-- The same for a region that is written out, at the worlds 'w after some draws'. -/
theorem quiet_last_lit {id : Nat} {l l' : List Oper} {a : Act} {w : World} (hl : l.getLast? = some o) (hl' : l.dropLast ++ [nopOf o] = l') (hro : F.round = none) (hm : P.follows .mixedOrders = true) (hB : Region.lexB .any l'.toArray = true) (ho : ordered .any l = true) (hh : heirs .any l = true) (hG : noGuard l = true)
    (h : wpQuietIn F n P l'.toArray (fun w' => ∃ n, w' = w.drewN n) (fun a' => ∀ w', (∃ n, w' = w.drewN n) → o.wpIn F n P a' w' (fun a w => Q .normal a w) Q) l' a) : (Code.region id l.toArray true).wpIn F n P Q a w := by
  obtain ⟨ys, rfl⟩ := List.getLast?_eq_some_iff.1 hl
  rw [List.dropLast_concat] at hl'
  subst hl'
  exact quiet_last (C := fun w' => ∃ n, w' = w.drewN n) hro hm hB ho hh hG ⟨1, rfl⟩ h
theorem quiet_last_round_lit {id r : Nat} {l l' : List Oper} {a : Act} {w : World} (hl : l.getLast? = some o) (hl' : l.dropLast ++ [nopOf o] = l') (hro : F.round = none) (hd : noDefer l.toArray = true) (hm : P.follows .mixedOrders = true) (hB : Region.lexB .any l'.toArray = true) (ho : ordered .any l = true) (hh : heirs .any l = true) (hG : noGuard l = true)
    (h : wpQuietIn F n P l'.toArray (fun w' => ∃ n, w' = w.drewN n) (fun a' => ∀ w', (∃ n, w' = w.drewN n) → o.wpIn F n P a' w' (fun a w => Q .normal a w) Q) l' a) : (Code.region id l.toArray true).wpIn (F.inRound r) n P Q a w := by
  obtain ⟨ys, rfl⟩ := List.getLast?_eq_some_iff.1 hl
  rw [List.dropLast_concat] at hl'
  subst hl'
  exact quiet_last_round (C := fun w' => ∃ n, w' = w.drewN n) hro hd hm hB ho hh hG ⟨1, rfl⟩ h
end
end Go.Proofs.Pin
