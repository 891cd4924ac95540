/- The contract of digits.minus. -/
import Derived.Test.YthokphoojmpajabGreatDoorGCut
import Derived.Test.YthokphoojmpajabGreatDoorGAr
import Derived.Test.YthokphoojmpajabGreatDoorGSA
import Derived.Test.YthokphoojmpajabGreatDoorCopied
namespace Go.Proofs.YthokphoojmpajabGreatDoor
open Go.RowKit Go.Proofs.Pin

theorem minus_val {x y : Nat} {A B out : List Int} {c : Int} (hA : A = dgs x) (hB : B = dgs y) (hxy : y ≤ x) (hl : out.length = A.length) (hd : Dg out) (hc : 0 ≤ c) (h : val out - c * pw A.length = val A - 1 * pv B A.length) : val out = ((x - y : Nat) : Int) := by
  subst hA
  subst hB
  rw [val_dgs, pv_all (dgs_len_le hxy), val_dgs] at h
  have h1 := val_lt' hd
  rw [hl] at h1
  have h2 := val_nonneg hd
  have h3 := pw_pos (dgs x).length
  by_cases e : c = 0
  · subst e
    simp at h
    omega
  · have h4 : pw (dgs x).length ≤ c * pw (dgs x).length := by
      have h5 : 1 * pw (dgs x).length ≤ c * pw (dgs x).length := Int.mul_le_mul_of_nonneg_right (by omega) (by omega)
      omega
    omega

set_option maxRecDepth 20000 in
set_option maxHeartbeats 400000 in
theorem minus_any (a b : Option Addr) (ca cb : Nat) (x y : Nat) (w : World) (ha : Sl w a (dgs x)) (hb : Sl w b (dgs y)) (hx : (dgs x).length ≤ 65536) (hxy : y ≤ x) :
    Calls Tryz.prog 97 #[.slice a (dgs x).length ca, .slice b (dgs y).length cb] w fun e w' => ∃ r cr, e = .returned (.slice r (dgs (x - y)).length cr) ∧ OwnI w' w.heap.size r cr (dgs (x - y)) ∧ Below w.heap.size w w' := by
  obtain ⟨A, hA⟩ : ∃ A, A = dgs x := ⟨_, rfl⟩
  obtain ⟨B, hB⟩ : ∃ B, B = dgs y := ⟨_, rfl⟩
  have DA : Hid (Dg A) := by rw [hA]; exact Dg_dgs x
  have DB : Hid (Dg B) := by rw [hB]; exact Dg_dgs y
  have HM : Hid (∀ (out : List Int) (c : Int), out.length = A.length → Dg out → 0 ≤ c → val out - c * pw A.length = val A - 1 * pv B A.length → val out = ((x - y : Nat) : Int)) := fun out c h1 h2 h3 h4 => minus_val hA hB hxy h1 h2 h3 h4
  have HNil : Hid (A = [] → dgs (x - y) = []) := by
    intro h
    have hv := val_dgs x
    rw [← hA, h] at hv
    have : x - y = 0 := by simp [val] at hv; omega
    rw [this]; rfl
  rw [← hA] at ha hx ⊢
  rw [← hB] at hb ⊢
  have C1 := copied_any a ca A w ha (by omega)
  have HSB : Hid (Sl w b B) := hb
  obtain ⟨R, hR⟩ : ∃ R, R = dgs (x - y) := ⟨_, rfl⟩
  have HR : Hid (R = dgs (x - y)) := hR
  rw [← hR] at HNil ⊢
  have HC1 : Hid _ := C1
  clear hA hB C1 hR ha hb
  go_enter Tryz.func97, Tryz.ntmps97
  go_wp2_with fail
  refine Calls.mono HC1.out ?_
  rintro e w1 ⟨r, cr, rfl, ho, hb1⟩
  rcases ho.parts with ⟨rfl, rfl, hz⟩ | ⟨g, rfl, hg, hgl⟩
  · have T := takeOff_nil none b 0 cb B.length 1 w1
    have hRz := HNil.out hz
    have HRz : Hid (R = []) := hRz
    have hl0 : A.length = 0 := by rw [hz]; rfl
    have T2 := trimmed_any w.heap.size none 0 [] w1 (OwnI.nil _ _) (by simp)
    have HT : Hid _ := T
    have HT2 : Hid (Calls Tryz.prog 88 #[.slice none 0 0] w1 fun e w' => e = .returned (.slice none 0 0) ∧ OwnI w' w.heap.size none 0 [] ∧ w1 = w') := T2
    clear T T2 hz ho hRz
    go_wp2_with fail
    refine Calls.mono HT.out ?_
    rintro e w2 ⟨rfl, rfl⟩
    go_wp2_with fail
    refine Calls.mono HT2.out ?_
    rintro e w3 ⟨rfl, ho3, rfl⟩
    go_wp2
    go_ret
    exact ⟨none, 0, by rw [HRz.out]; rfl, by rw [HRz.out]; exact ho3, hb1⟩
  · have T := takeOff_any w.heap.size g cr b cb A B 1 w1 ho (HSB.out.keep hb1) (HSB.out.later hg) DA.out DB.out hx (by omega) (by omega)
    have HT : Hid _ := T
    clear T ho
    go_wp2_with fail
    refine Calls.mono HT.out ?_
    rintro e w2 ⟨out, c, rfl, hol, hdo, hc0, hval, ho2, hgr⟩
    have hv := HM.out out c hol hdo hc0 hval
    have hb2 : Below w.heap.size w w2 := hb1.grown hgr hb1.size (fun k hk => by cases hk; exact hg)
    have T2 := trimmed_any w.heap.size (some ⟨g, 0, none⟩) cr out w2 ho2 (by omega)
    rw [row_dgs hdo hv, ← HR.out, hol] at T2
    have HT2 : Hid _ := T2
    clear T2 hv hval hdo ho2 hgr hol hc0
    go_wp2_with fail
    refine Calls.mono HT2.out ?_
    rintro e w3 ⟨rfl, ho3, rfl⟩
    go_wp2
    go_ret
    exact ⟨_, _, rfl, ho3, hb2⟩
end Go.Proofs.YthokphoojmpajabGreatDoor
