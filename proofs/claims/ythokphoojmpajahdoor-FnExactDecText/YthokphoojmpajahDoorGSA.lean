/- The contract of spec.l1Sub: the digits of the difference, in a row of the call's own. The contract of spec.l1Add: the digits of the sum, in a row of the call's own. -/
import Derived.Test.YthokphoojmpajahDoorGAr
import Derived.Test.YthokphoojmpajahDoorGCmpN
import Derived.Deep.QuietTactic
import Derived.BigQuiet
import Derived.Test.YthokphoojmpajahDoorGNum
namespace Go.Proofs.YthokphoojmpajahDoor
open Go.RowKit Go.Proofs.Pin

theorem sub_end {x y : Nat} {out : List Int} {c : Int} (hxy : y ≤ x) (hl : out.length = (dgs x).length) (hd : Dg out) (hc : c = 0 ∨ c = 1) (h : val out - c * pw (dgs x).length = pv (dgs x) (dgs x).length - pv (dgs y) (dgs x).length) : val out = ((x - y : Nat) : Int) := by
  rw [pv_val, val_dgs, pv_all (dgs_len_le hxy), val_dgs] at h
  have h1 := val_lt' hd
  rw [hl] at h1
  have h2 := val_nonneg hd
  rcases hc with rfl | rfl
  · simp at h; omega
  · omega

set_option maxRecDepth 20000 in
set_option maxHeartbeats 1600000 in
theorem l1Sub_any (a b : Option Addr) (ca cb : Nat) (x y : Nat) (w : World) (ha : Sl w a (dgs x)) (hb : Sl w b (dgs y)) (hx : (dgs x).length ≤ 65536) (hxy : y ≤ x) :
    Calls Tryd.prog 56 #[.slice a (dgs x).length ca, .slice b (dgs y).length cb] w fun e w' => ∃ r cr, e = .returned (.slice r (dgs (x - y)).length cr) ∧ OwnI w' w.heap.size r cr (dgs (x - y)) ∧ Below w.heap.size w w' := by
  obtain ⟨i0, hi, hz0, hz1, hz2⟩ := info_parts Tryd.info3
  obtain ⟨A, hA⟩ : ∃ A, A = dgs x := ⟨_, rfl⟩
  obtain ⟨B, hB⟩ : ∃ B, B = dgs y := ⟨_, rfl⟩
  have DA : Hid (Dg A) := by rw [hA]; exact Dg_dgs x
  have DB : Hid (Dg B) := by rw [hB]; exact Dg_dgs y
  obtain ⟨la, hla⟩ : ∃ la, la = A.length := ⟨_, rfl⟩
  have HE : Hid (∀ (out : List Int) (c : Int), out.length = la → Dg out → (c = 0 ∨ c = 1) → val out - c * pw la = pv A la - pv B la → val out = ((x - y : Nat) : Int)) := by
    intro out c h1 h2 h3 h4
    rw [hla, hA] at h1
    rw [hla, hA, hB] at h4
    exact sub_end hxy h1 h2 h3 h4
  rw [← hA] at ha hx ⊢
  rw [← hB] at hb ⊢
  have HSA : Hid (Sl w a A) := ha
  have HLA : Hid (la = A.length) := hla
  have HBB : Hid (∀ (k q : Nat) (wr : World), Below w.heap.size w wr → Calls Tryd.prog 55 #[.slice b B.length cb, .int .i64 (k : Int)] (wr.drewN q) fun e w' => e = .returned (.int .i64 (B.getD k 0)) ∧ w' = wr.drewN q) := fun k q wr hw => (l1At_any b cb B k (wr.drewN q) (hb.keep (below_dN hw q))).mono fun e w' h => ⟨h.1, h.2.symm⟩
  obtain ⟨lb, hlb⟩ : ∃ lb, lb = B.length := ⟨_, rfl⟩
  rw [← hla] at hx ⊢
  rw [← hlb] at HBB ⊢
  clear hA hB hla hlb ha hb hxy
  go_enter Tryd.func56, Tryd.ntmps56
  go_wp2
  go_loopw [5, 6, 7] (fun v c i wr => ∃ (k : Nat) (out : List Int) (cc : Int), k ≤ la ∧ i = .int .i64 k ∧ c = .int .i64 cc ∧ (cc = 0 ∨ cc = 1) ∧ out.length = k ∧ Dg out ∧ val out - cc * pw k = pv A k - pv B k ∧ wr.ownsRow w.heap.size 3 1 v out.length (out.map (Value.int .i64)) ∧ Below w.heap.size w wr) (fun _ _ i _ => la - (intOf i).toNat)
  case atStart => exact ⟨0, [], 0, Nat.zero_le _, rfl, rfl, .inl rfl, rfl, Dg.nil, rfl, World.ownsRow_nil _ _ _ _, Below.refl _ _⟩
  case round =>
    obtain ⟨k, out, cc, hk, rfl, rfl, hcc, hol, hdo, hval, hown, hb⟩ := hrel
    have HB : Hid (Below w.heap.size w wr) := hb
    have HV : Hid (val out - cc * pw k = pv A k - pv B k) := hval
    have HD : Hid (Dg out) := hdo
    have hc0 : 0 ≤ cc := by omega
    have hc1 : cc ≤ 1 := by omega
    have HC : Hid (cc = 0 ∨ cc = 1) := hcc
    have HL : Hid (out.length = k) := hol
    clear hval hdo hcc hol
    by_cases hlt : k < la
    · have hda := DA.out.at k
      have hdb := DB.out.at k
      have cB := fun m => HBB.out k m wr HB.out
      have hstep := sub_step (s := A.getD k 0 - B.getD k 0 - cc) HL.out HV.out rfl
      obtain ⟨ba, offa, rfl, hba, hc1'⟩ := Sl.cells HSA.out (k := k) (by rw [← HLA.out]; exact hlt)
      have hca : wr.cell? ⟨ba, offa + k, none⟩ = some (.int .i64 (A.getD k 0)) := (hb.cell (p := ⟨ba, offa + k, none⟩) hba).trans hc1'
      obtain ⟨p, hp⟩ : ∃ p, p = A.getD k 0 := ⟨_, rfl⟩
      obtain ⟨q, hq⟩ : ∃ q, q = B.getD k 0 := ⟨_, rfl⟩
      rw [← hp] at hda hca hstep
      rw [← hq] at hdb cB hstep
      have HY1 : Hid (∀ m, Calls Tryd.prog 55 #[.slice b lb cb, .int .i64 (k : Int)] (wr.drewN m) fun e w' => e = .returned (.int .i64 q) ∧ w' = wr.drewN m) := cB
      have HS : Hid ((0 ≤ p - q - cc → val (out ++ [p - q - cc]) - 0 * pw (k + 1) = pv A (k + 1) - pv B (k + 1)) ∧ (p - q - cc < 0 → val (out ++ [p - q - cc + 65536]) - 1 * pw (k + 1) = pv A (k + 1) - pv B (k + 1))) := hstep
      have hlo : out.length ≤ 65536 := by have := HL.out; omega
      have hltI : (k : Int) < la := by omega
      clear hstep cB hp hq hc1' hb
      by_cases hneg : p - q - cc < 0
      · go_wp2_with fail
        go_quiet ((go_at_call 55; exact Calls.quiet_of_same (HY1.out _)))
        go_wp2_with (at_builtin; refine wpList_append_own _ rfl _ _ 22 rfl w.heap.size 3 i0 (.int .i64 0) 1 8 Tryd.underlying22 hi hz0 hz1 hz2 rfl (by decide) _ _ _ rfl (hown.alloc _) ⟨wr.heap.size, 0, none⟩ 1 1 [.int .i64 (p - q - cc + 65536)] rfl rfl (cell_one_new _ _ _) (by simp [Value.oneCell']) ?_ ?_ ?_ ?_)
        rotate_left 3
        · intro v' w1 hown' hgrow _
          have HO : Hid (w1.ownsRow w.heap.size 3 1 v' (out ++ [p - q - cc + 65536]).length ((out ++ [p - q - cc + 65536]).map (Value.int .i64))) := by
            simp only [List.map_append, List.map_cons, List.map_nil, List.length_append, List.length_cons, List.length_nil]
            exact hown'
          have HB2 : Hid (Below w.heap.size w w1) := below_append (wr := wr.drewN nq) (below_dN HB.out _) (Nat.le_refl _) hown hgrow
          clear hown' hgrow hown
          go_wp2
          go_roundw
          case rel => exact ⟨k + 1, out ++ [p - q - cc + 65536], 1, by omega, by go_num, rfl, .inr rfl, by have := HL.out; simp; omega, HD.out.snoc (by omega) (by omega), HS.out.2 hneg, HO.out, HB2.out⟩
          case measure => simp [intOf]; omega
        · unfold maxLen; omega
        · omega
        · have := HB.out.size; simp; omega
      · go_wp2_with fail
        go_quiet ((go_at_call 55; exact Calls.quiet_of_same (HY1.out _)))
        go_wp2_with (at_builtin; refine wpList_append_own _ rfl _ _ 22 rfl w.heap.size 3 i0 (.int .i64 0) 1 8 Tryd.underlying22 hi hz0 hz1 hz2 rfl (by decide) _ _ _ rfl (hown.alloc _) ⟨wr.heap.size, 0, none⟩ 1 1 [.int .i64 (p - q - cc)] rfl rfl (cell_one_new _ _ _) (by simp [Value.oneCell']) ?_ ?_ ?_ ?_)
        rotate_left 3
        · intro v' w1 hown' hgrow _
          have HO : Hid (w1.ownsRow w.heap.size 3 1 v' (out ++ [p - q - cc]).length ((out ++ [p - q - cc]).map (Value.int .i64))) := by
            simp only [List.map_append, List.map_cons, List.map_nil, List.length_append, List.length_cons, List.length_nil]
            exact hown'
          have HB2 : Hid (Below w.heap.size w w1) := below_append (wr := wr.drewN nq) (below_dN HB.out _) (Nat.le_refl _) hown hgrow
          clear hown' hgrow hown
          go_wp2
          go_roundw
          case rel => exact ⟨k + 1, out ++ [p - q - cc], 0, by omega, by go_num, rfl, .inl rfl, by have := HL.out; simp; omega, HD.out.snoc (by omega) (by omega), HS.out.1 (by omega), HO.out, HB2.out⟩
          case measure => simp [intOf]; omega
        · unfold maxLen; omega
        · omega
        · have := HB.out.size; simp; omega
    · have hkl : k = la := by omega
      subst hkl
      have hv := HE.out out cc HL.out HD.out HC.out HV.out
      obtain ⟨r, cr, hvv, ho⟩ := OwnI.of_row hown
      have T := l1Trim_any r cr out wr ho.sl (by have := HL.out; omega)
      rw [trim_dgs HD.out, hv] at T
      simp only [Int.toNat_natCast] at T
      have HT : Hid _ := T
      subst hvv
      clear T hv hown ho hb
      go_wp2_with fail
      refine Calls.mono HT.out ?_
      rintro e w4 ⟨r2, cr2, rfl, ho, hb4⟩
      have ho2 := ho.mono HB.out.size
      have hb5 := HB.out.trans (hb4.mono HB.out.size)
      clear ho hb4
      go_wp2
      go_ret
      exact ⟨r2, cr2, rfl, ho2, hb5⟩
end Go.Proofs.YthokphoojmpajahDoor

namespace Go.Proofs.YthokphoojmpajahDoor
open Go.RowKit Go.Proofs.Pin

set_option maxRecDepth 20000 in
set_option maxHeartbeats 800000 in
theorem l1Add_any (a b : Option Addr) (ca cb : Nat) (x y : Nat) (w : World) (ha : Sl w a (dgs x)) (hb : Sl w b (dgs y)) (hx : (dgs x).length ≤ 65536) (hy : (dgs y).length ≤ 65536) :
    Calls Tryd.prog 44 #[.slice a (dgs x).length ca, .slice b (dgs y).length cb] w fun e w' => ∃ r cr, e = .returned (.slice r (dgs (x + y)).length cr) ∧ OwnI w' w.heap.size r cr (dgs (x + y)) ∧ Below w.heap.size w w' := by
  obtain ⟨i0, hi, hz0, hz1, hz2⟩ := info_parts Tryd.info3
  obtain ⟨A, hA⟩ : ∃ A, A = dgs x := ⟨_, rfl⟩
  obtain ⟨B, hB⟩ : ∃ B, B = dgs y := ⟨_, rfl⟩
  have DA : Hid (Dg A) := by rw [hA]; exact Dg_dgs x
  have DB : Hid (Dg B) := by rw [hB]; exact Dg_dgs y
  obtain ⟨n, hn⟩ : ∃ n, n = max (dgs x).length (dgs y).length := ⟨_, rfl⟩
  have HE : Hid (∀ (out : List Int) (c : Int), out.length = n → Dg out → (c = 0 ∨ c = 1) → val out + c * pw n = pv A n + pv B n → (c = 0 → out = dgs (x + y)) ∧ (c = 1 → out ++ [c] = dgs (x + y))) := by
    intro out c h1 h2 h3 h4
    rw [hA, hB] at h4
    exact add_end hn h1 h2 h3 h4
  rw [← hA] at ha hx ⊢
  rw [← hB] at hb hy ⊢
  rw [← hA, ← hB] at hn
  have HAB : Hid (∀ k wr, Below w.heap.size w wr → Calls Tryd.prog 55 #[.slice a A.length ca, .int .i64 ((k : Nat) : Int)] wr fun e w' => e = .returned (.int .i64 (A.getD k 0)) ∧ wr = w') := fun k wr hw => l1At_any a ca A k wr (ha.keep hw)
  have HBB : Hid (∀ k wr, Below w.heap.size w wr → Calls Tryd.prog 55 #[.slice b B.length cb, .int .i64 ((k : Nat) : Int)] wr fun e w' => e = .returned (.int .i64 (B.getD k 0)) ∧ wr = w') := fun k wr hw => l1At_any b cb B k wr (hb.keep hw)
  obtain ⟨la, hla⟩ : ∃ la, la = A.length := ⟨_, rfl⟩
  obtain ⟨lb, hlb⟩ : ∃ lb, lb = B.length := ⟨_, rfl⟩
  rw [← hla, ← hlb] at hn
  rw [← hla] at HAB hx ⊢
  rw [← hlb] at HBB hy ⊢
  have hn2 : n ≤ 65536 := by omega
  have HM : Hid (n = max la lb) := hn
  have hcase : (lb ≤ la ∧ decide (la < lb) = false ∧ n = la) ∨ (la < lb ∧ decide (la < lb) = true ∧ n = lb) := by
    by_cases h : la < lb
    · exact .inr ⟨h, by simp [h], by omega⟩
    · exact .inl ⟨by omega, by simp [h], by omega⟩
  clear hA hB ha hb hla hlb hn
  rcases hcase with ⟨hlt, hdec, hnn⟩ | ⟨hlt, hdec, hnn⟩
  all_goals
    subst hnn
    go_enter Tryd.func44, Tryd.ntmps44
    go_wp2
    go_loopw [6, 7, 8] (fun v c i wr => ∃ (k : Nat) (out : List Int) (cc : Int), k ≤ n ∧ i = .int .i64 k ∧ c = .int .i64 cc ∧ (cc = 0 ∨ cc = 1) ∧ out.length = k ∧ Dg out ∧ val out + cc * pw k = pv A k + pv B k ∧ wr.ownsRow w.heap.size 3 1 v out.length (out.map (Value.int .i64)) ∧ Below w.heap.size w wr) (fun _ _ i _ => n - (intOf i).toNat)
    case atStart => exact ⟨0, [], 0, Nat.zero_le _, rfl, rfl, .inl rfl, rfl, Dg.nil, rfl, World.ownsRow_nil _ _ _ _, Below.refl _ _⟩
    case round =>
      obtain ⟨k, out, cc, hk, rfl, rfl, hcc, hol, hdo, hval, hown, hb⟩ := hrel
      have HB : Hid (Below w.heap.size w wr) := hb
      have HV : Hid (val out + cc * pw k = pv A k + pv B k) := hval
      have HD : Hid (Dg out) := hdo
      have hc0 : 0 ≤ cc := by omega
      have hc1 : cc ≤ 1 := by omega
      have HC : Hid (cc = 0 ∨ cc = 1) := hcc
      have HL : Hid (out.length = k) := hol
      clear hb hval hdo hcc hol
      by_cases hlt2 : k < n
      · have hda := DA.out.at k
        have hdb := DB.out.at k
        have cA := HAB.out k wr HB.out
        have cB := HBB.out k wr HB.out
        have hstep := add_step HL.out HV.out
        obtain ⟨p, hp⟩ : ∃ p, p = A.getD k 0 := ⟨_, rfl⟩
        obtain ⟨q, hq⟩ : ∃ q, q = B.getD k 0 := ⟨_, rfl⟩
        rw [← hp] at hda cA hstep
        rw [← hq] at hdb cB hstep
        have HS : Hid (val (out ++ [(p + q + cc) % 65536]) + (p + q + cc) / 65536 * pw (k + 1) = pv A (k + 1) + pv B (k + 1)) := hstep
        have HA1 : Hid (Calls Tryd.prog 55 #[.slice a _ ca, .int .i64 (k : Int)] wr fun e w' => e = .returned (.int .i64 p) ∧ wr = w') := cA
        have HB1 : Hid (Calls Tryd.prog 55 #[.slice b _ cb, .int .i64 (k : Int)] wr fun e w' => e = .returned (.int .i64 q) ∧ wr = w') := cB
        have hlo : out.length ≤ 65536 := by have := HL.out; omega
        clear hstep cA cB hp hq
        go_wp2_with fail
        refine HA1.out.mono ?_
        rintro e w' ⟨rfl, rfl⟩
        go_wp2_with fail
        refine HB1.out.mono ?_
        rintro e w' ⟨rfl, rfl⟩
        go_wp2_with (at_builtin; refine wpList_append_own _ rfl _ _ 22 rfl w.heap.size 3 i0 (.int .i64 0) 1 8 Tryd.underlying22 hi hz0 hz1 hz2 rfl (by decide) _ _ _ rfl (hown.alloc _) ⟨wr.heap.size, 0, none⟩ 1 1 [.int .i64 ((p + q + cc) % 65536)] rfl rfl (cell_one_new _ _ _) (by simp [Value.oneCell']) ?_ ?_ ?_ ?_)
        rotate_left 3
        · intro v' w1 hown' hgrow _
          have HO : Hid (w1.ownsRow w.heap.size 3 1 v' (out ++ [(p + q + cc) % 65536]).length ((out ++ [(p + q + cc) % 65536]).map (Value.int .i64))) := by
            simp only [List.map_append, List.map_cons, List.map_nil, List.length_append, List.length_cons, List.length_nil]
            exact hown'
          have HB2 : Hid (Below w.heap.size w w1) := below_append HB.out (Nat.le_refl _) hown hgrow
          clear hown' hgrow hown
          go_wp2
          go_roundw
          case rel => first | exact ⟨k + 1, out ++ [(p + q + cc) % 65536], (p + q + cc) / 65536, by omega, by go_num, rfl, by omega, by have := HL.out; simp; omega, HD.out.snoc (by omega) (by omega), HS.out, HO.out, HB2.out⟩ | ((repeat apply Exists.intro); exact ⟨⟨k + 1, out ++ [(p + q + cc) % 65536], (p + q + cc) / 65536, by omega, by go_num, rfl, by omega, by have := HL.out; simp; omega, HD.out.snoc (by omega) (by omega), HS.out, HO.out, HB2.out⟩, rfl⟩)
          case measure => simp [intOf]; omega
        · unfold maxLen; omega
        · omega
        · have := HB.out.size; simp; omega
      · have hkn : k = n := by omega
        subst hkn
        have hend := HE.out out cc HL.out HD.out HC.out HV.out
        have hlo : out.length ≤ 65536 := by have := HL.out; omega
        rcases HC.out with rfl | rfl
        · have h2 := hend.1 rfl
          obtain ⟨r, cr, hv, ho⟩ := OwnI.of_row hown
          have HO : Hid (OwnI wr w.heap.size r cr out) := ho
          have HR : Hid (out = dgs (x + y)) := h2
          subst hv
          clear hown ho h2 hend
          go_wp2
          go_ret
          exact ⟨r, cr, by rw [← HR.out]; rfl, by rw [← HR.out]; exact HO.out, HB.out⟩
        · have h2 := hend.2 rfl
          have HR : Hid (out ++ [1] = dgs (x + y)) := h2
          clear h2 hend
          go_wp2_with (at_builtin; refine wpList_append_own _ rfl _ _ 22 rfl w.heap.size 3 i0 (.int .i64 0) 1 8 Tryd.underlying22 hi hz0 hz1 hz2 rfl (by decide) _ _ _ rfl (hown.alloc _) ⟨wr.heap.size, 0, none⟩ 1 1 [.int .i64 1] rfl rfl (cell_one_new _ _ _) (by simp [Value.oneCell']) ?_ ?_ ?_ ?_)
          rotate_left 3
          · intro v' w1 hown' hgrow _
            have hown2 : w1.ownsRow w.heap.size 3 1 v' (out ++ [1]).length ((out ++ [1]).map (Value.int .i64)) := by
              simp only [List.map_append, List.map_cons, List.map_nil, List.length_append, List.length_cons, List.length_nil]
              exact hown'
            have HB2 : Hid (Below w.heap.size w w1) := below_append HB.out (Nat.le_refl _) hown hgrow
            obtain ⟨r, cr, hv, ho⟩ := OwnI.of_row hown2
            have HO : Hid (OwnI w1 w.heap.size r cr (out ++ [1])) := ho
            obtain ⟨R, hR⟩ : ∃ R, R = out ++ [1] := ⟨_, rfl⟩
            rw [← hR] at HR HO hv
            subst hv
            clear hown' hgrow hown hown2 ho hR
            go_wp2
            go_ret
            exact ⟨r, cr, by rw [← HR.out]; rfl, by rw [← HR.out]; exact HO.out, HB2.out⟩
          · unfold maxLen; omega
          · omega
          · have := HB.out.size; simp; omega
end Go.Proofs.YthokphoojmpajahDoor
