/- The contracts of spec.NatSmall and impl.NatSmall: the value of a number of at most four digits. -/
import Derived.Test.YthokphoojmpajabCompare
import Derived.Test.YthokphoojmpajabBits
import Derived.Test.YthokphoojmpajabVal
namespace Go.Proofs.Ythokphoojmpajab
open Go.RowKit Go.Shelf Go.Proofs.Pin

def isSmall (zs : List Int) : Bool := okB zs && decide (zs.length ≤ 4)
def smallVal (zs : List Int) : Int := if isSmall zs = true then val zs else 0
theorem small_yes {zs : List Int} (h : isSmall zs = true) : okB zs = true ∧ zs.length ≤ 4 ∧ Dg zs ∧ smallVal zs = val zs := by
  have h' := h
  simp only [isSmall, Bool.and_eq_true, decide_eq_true_eq] at h'
  exact ⟨h'.1, h'.2, Dg.of (ok_dig h'.1), by simp [smallVal, h]⟩

theorem ok_last {zs : List Int} (h : okB zs = true) (h0 : 0 < zs.length) : zs.getD (zs.length - 1) 0 ≠ 0 := by
  simp only [okB, Bool.and_eq_true, Bool.or_eq_true, decide_eq_true_eq, bne_iff_ne] at h
  rcases h.2 with h | h
  · omega
  · exact h
theorem bits_small {zs : List Int} (h : okB zs = true) (h4 : zs.length ≤ 4) : bitsOf zs ≤ 64 := by
  by_cases h0 : zs.length = 0
  · rw [bitsOf_nil h0]; omega
  · rw [bitsOf_some rfl h0 rfl]
    have hd := Dg.of (ok_dig h) (zs.length - 1) (by omega)
    have := bitLen_dig (z := zs.getD (zs.length - 1) 0) (by omega)
    omega
theorem bits_great {zs : List Int} (h : okB zs = true) (h4 : 4 < zs.length) : 64 < bitsOf zs := by
  rw [bitsOf_some rfl (by omega) rfl]
  have hd := Dg.of (ok_dig h) (zs.length - 1) (by omega)
  have hl := ok_last h (by omega)
  have e := Lib.bitLen_half (zs.getD (zs.length - 1) 0).toNat (by omega) (by omega)
  omega

attribute [local go_sem] Oper.semAt_some

/-- What a round of NatSmall has behind it: as long as the places have come from the top, the value of the digits that came. -/
def smallI (zs : List Int) (m : Nat) (pre : List (Pl m)) (n : Int) : Prop := pre.map (·.1) = tp m pre.length → n = val (zs.drop (m - pre.length))
theorem smallI_nil {zs : List Int} {m : Nat} (h : m = zs.length) : smallI zs m [] 0 := by
  intro _
  simp only [List.length_nil, Nat.sub_zero]
  rw [h, val_end]
theorem tp_snoc {m : Nat} {pre : List (Pl m)} {x : Pl m} (h : (pre ++ [x]).map (·.1) = tp m (pre ++ [x]).length) : pre.map (·.1) = tp m pre.length ∧ x.1 = m - 1 - pre.length := by
  rw [List.length_append, List.length_singleton, tp_succ, List.map_append] at h
  have h2 := List.append_inj' h rfl
  exact ⟨h2.1, by simpa using h2.2⟩
theorem smallI_step {zs : List Int} {m : Nat} {pre : List (Pl m)} {x : Pl m} {n : Int} (hm : m = zs.length) (hpl : pre.length < m) (h : smallI zs m pre n) : smallI zs m (pre ++ [x]) (n * 65536 + zs.getD x.1 0) := by
  intro hp
  obtain ⟨h1, h2⟩ := tp_snoc hp
  have hx := x.2
  rw [h h1, List.length_append, List.length_singleton]
  have e : m - (pre.length + 1) = x.1 := by omega
  have e2 := val_drop (zs := zs) (j := x.1) (by omega)
  rw [show x.1 + 1 = m - pre.length by omega] at e2
  rw [e, e2]
  omega
theorem smallI_bound {zs : List Int} {m : Nat} {pre : List (Pl m)} {x : Pl m} {n : Int} (hm : m = zs.length) (hpl : pre.length < m) (hd : Dg zs) (h4 : m ≤ 4) (h : smallI zs m pre n) (hp : (pre ++ [x]).map (·.1) = tp m (pre ++ [x]).length) : 0 ≤ n ∧ n ≤ 281474976710655 := by
  obtain ⟨h1, h2⟩ := tp_snoc hp
  have hx := x.2
  rw [h h1]
  exact val_top hd (by omega) (by omega)

set_option maxRecDepth 100000 in
set_option maxHeartbeats 2000000 in
theorem implSmall_yes (a : Option Addr) (cap : Nat) (zs : List Int) (w : World) (h : Sl w a zs) (hs : isSmall zs = true) :
    Calls Try.prog 12 #[.slice a zs.length cap] w fun e w' => e = .returned (.tuple #[.int .u64 (val zs), .bool true]) ∧ Below w.heap.size w w' := by
  obtain ⟨hok, h4, hd, _⟩ := small_yes hs
  have hbits := bits_small hok h4
  obtain ⟨bt, hbt⟩ : ∃ bt, bt = bitsOf zs := ⟨_, rfl⟩
  rw [← hbt] at hbits
  have HO : Hid (Calls Try.prog 13 #[.slice a zs.length cap] w fun e w' => e = .returned (.bool true) ∧ w = w') := by
    show Calls _ _ _ _ _
    rw [← hok]
    exact (implOk_any a cap zs w h (by omega)).mono fun e w' h => ⟨h.1, h.2.symm⟩
  have HC : Hid (Calls Try.prog 26 #[.slice a zs.length cap] w fun e w' => e = .returned (.int .i64 bt) ∧ w = w') := by
    show Calls _ _ _ _ _
    rw [hbt]
    exact (bitCount_any a cap zs w h (by omega) (ok_dig hok)).mono fun e w' h => ⟨h.1, h.2.symm⟩
  have hI0 := SlB.of h
  obtain ⟨m, hm⟩ : ∃ m, m = zs.length := ⟨_, rfl⟩
  have HX : Hid (m = zs.length) := hm
  have HD : Hid (Dg zs) := hd
  have hm2 : m ≤ 1048576 := by omega
  have hm4 : m ≤ 4 := by omega
  rw [← hm] at HO HC ⊢
  clear hm hd hbt hs h hok h4
  refine (callsIn_wide (n := 4)).1 ?_
  refine callsIn_of_wp_marks Try.func12 rfl trivial ?_ rfl
  simp only [Try.ntmps12, List.size_toArray, List.length_cons, List.length_nil, Nat.reduceAdd, Nat.reduceSub, Array.replicate_succ, Array.replicate_zero, List.push_toArray, List.append_toArray, List.nil_append, List.cons_append]
  gi_wp2_with (first | (refine ⟨trivial, ?_⟩; gi_at_call 13; refine (callsIn_wide.2 HO.out).mono ?_; rintro e w' ⟨rfl, rfl⟩) | (refine ⟨trivial, ?_⟩; gi_at_call 26; refine (callsIn_wide.2 HC.out).mono ?_; rintro e w' ⟨rfl, rfl⟩) | (refine ⟨trivial, ?_⟩; gi_at_call 27; refine (fromTop_in Fence.wide (4 - 1) trivial rfl _ _ _ _).mono ?_; rintro e w' ⟨rfl, rfl⟩))
  have bR := Boxed.new w 31 (.int .u64 0)
  have bN := Boxed.new (w.alloc (.cells #[.int .u64 0] 31)) 44 (.slice a m cap)
  rw [World.size_alloc] at bN
  have hB0 : Below w.heap.size w ((w.alloc (.cells #[.int .u64 0] 31)).alloc (.cells #[.slice a m cap] 44)) := ((Below.refl _ w).alloc (Nat.le_refl _) _).alloc (by simp) _
  have bR' := bR.alloc (.cells #[.slice a m cap] 44)
  refine wpIn_rangeFunc_ownG rfl (by omega) (gf := 36) (lb := #[.pointer (some ⟨w.heap.size + 1, 0, none⟩)]) rfl trivial (enters_of Try.func36 (by kernel_rfl) rfl)
    (top_stops Fence.wide (4 - 1) trivial rfl (by omega) (w.heap.size + 1) w.heap.size a cap zs m HX hm2 _ (by simp) (by simp; omega) bN.cell (hI0.below hB0)) KpB.t (KpB.b (by simp; omega) (by simp)) (Below.refl _ _) (fun _ => rfl)
    (fun pre W => (∃ n, smallI zs m pre n ∧ Boxed W w.heap.size 31 (.int .u64 n)) ∧ Below w.heap.size w W)
    (fun _ _ _ => False)
    (OwnFrom.and (Own.from (fun s A B row hs hg hr => by obtain ⟨n, h1, h2⟩ := hs; exact ⟨n, h1, boxOwn h2 hg hr⟩) _) (ownFrom_below (Nat.le_refl _) (by simp; omega)))
    (fun _ _ _ _ _ hs _ _ => hs)
    ⟨⟨0, smallI_nil HX.out, bR'⟩, hB0⟩
    (fun x => { tmps := #[.slice a m cap, undef, .int .u64 0, .bool false, .pointer (some ⟨w.heap.size, 0, none⟩), undef, .int .i64 (zs.getD x.1 0), .slice a m cap, .bool true, .bool false, .bool false, .slice a m cap, .int .i64 bt, .bool (decide (64 < bt)), .bool (decide (64 < bt)), .slice a m cap, .func (.func 36) #[] #[.pointer (some ⟨w.heap.size + 1, 0, none⟩)], .int .i64 (x.1 : Int), .int .i64 (zs.getD x.1 0), undef, undef, undef, undef, undef, undef], defers := [] }) ?assign ?body ?done ?stop
  case assign =>
    intro l x W K hK
    simp only [plEnc]
    gi_wp2
    exact hK
  case body =>
    rintro l pre x W ⟨⟨n, hn, bR1⟩, hB⟩ hpl
    have hcR := bR1.cell
    have hfR := bR1.frozen
    have hdz := HD.out x.1 (by rw [← HX.out]; exact x.2)
    have HP : Hid (Boxed W w.heap.size 31 (.int .u64 n) ∧ Below w.heap.size w W) := ⟨bR1, hB⟩
    have HS := smallI_step (x := x) HX.out hpl hn
    by_cases hP : (pre ++ [x]).map (·.1) = tp m (pre ++ [x]).length
    · have hbd := smallI_bound HX.out hpl HD.out hm4 hn hP
      obtain ⟨z, hz⟩ : ∃ z, z = zs.getD x.1 0 := ⟨_, rfl⟩
      rw [← hz] at hdz HS
      have HS' : Hid (smallI zs m (pre ++ [x]) (n * 65536 + z)) := HS
      rw [← hz]
      clear hP HS hz hn bR1 hB bR bN bR' hB0 hI0
      gi_wp2
      exact ⟨(KeepsOthers.setCell _ _ _).from _, ⟨(Below.refl _ W).setCell (p := ⟨w.heap.size, 0, none⟩) (Nat.le_refl _) _, Below.heap_setCell _ _ _ _ (by simp)⟩, ⟨_, HS'.out, HP.out.1.set _⟩, HP.out.2.setCell (p := ⟨w.heap.size, 0, none⟩) (Nat.le_refl _) _⟩
    · obtain ⟨z, hz⟩ : ∃ z, z = zs.getD x.1 0 := ⟨_, rfl⟩
      rw [← hz] at hdz
      have HV : Hid (∀ n, smallI zs m (pre ++ [x]) n) := fun n hp => absurd hp hP
      rw [← hz]
      clear hP HS hz hn bR1 hB bR bN bR' hB0 hI0
      gi_wp2
      exact ⟨(KeepsOthers.setCell _ _ _).from _, ⟨(Below.refl _ W).setCell (p := ⟨w.heap.size, 0, none⟩) (Nat.le_refl _) _, Below.heap_setCell _ _ _ _ (by simp)⟩, ⟨_, HV.out _, HP.out.1.set _⟩, HP.out.2.setCell (p := ⟨w.heap.size, 0, none⟩) (Nat.le_refl _) _⟩
  case done =>
    rintro D ys W hD hys ⟨⟨n, hn, bR1⟩, hB⟩ hK
    have hlen := congrArg List.length hys
    rw [List.length_map, tp_length] at hlen
    have hv : n = val zs := by
      rw [hn (by rw [hlen]; exact hys), hlen, Nat.sub_self]
      rfl
    subst hv
    have hcR := bR1.cell
    clear hn hys hlen bR bN bR' hB0 hI0
    gi_wp2
    refine ⟨by simp, .inl ⟨_, _, rfl, run_takeDeferred hK, ?_⟩⟩
    exact ⟨_, results_tmp2 rfl _ _ _, rfl, hB.trans (belowK_b (w := w) (Nat.le_refl _) W D _ _ (by simp at hD; omega) hK rfl rfl)⟩
  case stop =>
    rintro D c pre W _ _ h _
    exact h.elim

theorem implSmall_any (a : Option Addr) (cap : Nat) (zs : List Int) (w : World) (h : Sl w a zs) (hl : zs.length ≤ 1048576) :
    Calls Try.prog 12 #[.slice a zs.length cap] w fun e w' => e = .returned (.tuple #[.int .u64 (smallVal zs), .bool (isSmall zs)]) ∧ Below w.heap.size w w' := by
  cases hs : isSmall zs with
  | true =>
    obtain ⟨_, _, _, e⟩ := small_yes hs
    rw [e]
    exact implSmall_yes a cap zs w h hs
  | false =>
    have e : smallVal zs = 0 := by simp [smallVal, hs]
    rw [e]
    cases hok : okB zs with
    | false =>
      go_enter Try.func12, Try.ntmps12
      go_wp2_with (go_at_call 13; refine (implOk_any _ _ zs _ h hl).mono ?_; rintro e w' ⟨rfl, rfl⟩)
      go_ret2
      exact ⟨rfl, Below.refl _ _⟩
    | true =>
      have h4 : 4 < zs.length := by
        simp only [isSmall, hok, Bool.true_and, decide_eq_false_iff_not] at hs
        omega
      have hb := bits_great hok h4
      go_enter Try.func12, Try.ntmps12
      go_wp2_with (first | (go_at_call 13; refine (implOk_any _ _ zs _ h hl).mono ?_; rintro e w' ⟨rfl, rfl⟩) | (go_at_call 26; refine (bitCount_any _ _ zs _ h (ok_len hok) (ok_dig hok)).mono ?_; rintro e w' ⟨rfl, rfl⟩))
      go_ret2
      exact ⟨rfl, Below.refl _ _⟩
end Go.Proofs.Ythokphoojmpajab
