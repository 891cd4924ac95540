/- The contract of digits.takeOff: a factor times e off in place, with what was borrowed above the top. -/
import Derived.Test.YthokphoojmpajahDoorGAr
import Derived.Test.YthokphoojmpajahDoorGNum
import Derived.Laws.BitsAllLaws
namespace Go.Proofs.YthokphoojmpajahDoor
open Go.RowKit Go.Proofs.Pin

theorem off_step {out B : List Int} {k : Nat} {c f V : Int} (hk : k < out.length) (h : val out - c * pw k = V - f * pv B k) :
    val (out.set k ((out.getD k 0 - f * B.getD k 0 - c) % 65536)) - (-((out.getD k 0 - f * B.getD k 0 - c) / 65536)) * pw (k + 1) = V - f * pv B (k + 1) := by
  have e := carry_eq (out.getD k 0 - f * B.getD k 0 - c) (pw k)
  rw [val_set _ hk, pw_succ, pv_succ]
  rw [Int.sub_mul, Int.sub_mul] at e
  have e2 : f * (pv B k + B.getD k 0 * pw k) = f * pv B k + f * B.getD k 0 * pw k := by rw [Int.mul_add, ← Int.mul_assoc]
  rw [Int.sub_mul, e2, Int.neg_mul]
  omega

/-- The mask takes the rest by the base, below 0 too. -/
theorem and_mask (x : Int) : bits .and .i64 x 65535 = x % 65536 := by
  show IntKind.i64.wrap ((BitVec.ofInt 64 x &&& BitVec.ofInt 64 65535).toNat : Int) = _
  have e1 : (BitVec.ofInt 64 65535).toNat = 65535 := by decide
  have e2 : ∀ n : Nat, n &&& 65535 = n % 65536 := fun n => Nat.and_two_pow_sub_one_eq_mod n 16
  rw [BitVec.toNat_and, e1, BitVec.toNat_ofInt, e2]
  simp [IntKind.wrap, IntKind.bits, IntKind.signed]
  omega

set_option maxRecDepth 20000 in
set_option maxHeartbeats 800000 in
theorem takeOff_any (base g cap : Nat) (b : Option Addr) (cb : Nat) (zs ys : List Int) (f : Int) (w : World) (h : OwnI w base (some ⟨g, 0, none⟩) cap zs) (hb : Sl w b ys) (hne : Apart b ys g) (dz : Dg zs) (dy : Dg ys) (hlen : zs.length ≤ 65536) (hf0 : 0 ≤ f) (hf1 : f < 65536) :
    Calls Tryd.prog 88 #[.slice (some ⟨g, 0, none⟩) zs.length cap, .slice b ys.length cb, .int .i64 f] w fun e w' => ∃ (out : List Int) (c : Int), e = .returned (.bool (decide (0 < c))) ∧ out.length = zs.length ∧ Dg out ∧ 0 ≤ c ∧ val out - c * pw zs.length = val zs - f * pv ys zs.length ∧ OwnI w' base (some ⟨g, 0, none⟩) cap out ∧ w.grownBy w' (some g) := by
  obtain ⟨n, hn⟩ : ∃ n, n = zs.length := ⟨_, rfl⟩
  have HN : Hid (n = zs.length) := hn
  have hn2 : n ≤ 65536 := by omega
  have h0 : w.ownsRow base 3 1 (.slice (some ⟨g, 0, none⟩) n cap) n (zs.map (Value.int .i64)) := by rw [hn]; exact h
  have HY : Hid (∀ (k : Nat) (wr : World) (q : Nat), w.grownBy wr (some g) → Calls Tryd.prog 102 #[.slice b ys.length cb, .int .i64 (k : Int)] (wr.drewN q) fun e w' => e = .returned (.int .i64 (ys.getD k 0)) ∧ w' = wr.drewN q) :=
    fun k wr q hw => (at_any b cb ys k (wr.drewN q) (hb.apart (grown_dN hw q) hne)).mono fun e w' h => ⟨h.1, h.2.symm⟩
  obtain ⟨V, hV⟩ : ∃ V, V = val zs := ⟨_, rfl⟩
  have HV0 : Hid (V = val zs) := hV
  have DZ : Hid (Dg zs) := dz
  have DY : Hid (Dg ys) := dy
  rw [← hn, ← hV]
  clear hn h hb hne hV dz dy hlen
  go_enter Tryd.func88, Tryd.ntmps88
  go_wp2
  go_loopw [7, 12] (fun c i wr => ∃ (k : Nat) (out : List Int) (cc : Int), k ≤ n ∧ i = .int .i64 k ∧ c = .int .i64 cc ∧ 0 ≤ cc ∧ cc ≤ 65535 ∧ out.length = n ∧ Dg out ∧ val out - cc * pw k = V - f * pv ys k ∧ wr.ownsRow base 3 1 (.slice (some ⟨g, 0, none⟩) n cap) n (out.map (Value.int .i64)) ∧ w.grownBy wr (some g)) (fun _ i _ => n - (intOf i).toNat)
  case atStart => exact ⟨0, zs, 0, Nat.zero_le _, rfl, rfl, by omega, by omega, HN.out.symm, DZ.out, by rw [HV0.out]; simp [pv], h0, World.grownBy.refl _ _⟩
  case round =>
    obtain ⟨k, out, cc, hk, rfl, rfl, hc0, hc1, hol, hdo, hval, hown, hgr⟩ := hrel
    have HG : Hid (w.grownBy wr (some g)) := hgr
    have HV : Hid (val out - cc * pw k = V - f * pv ys k) := hval
    have HD : Hid (Dg out) := hdo
    have HL : Hid (out.length = n) := hol
    clear hgr hval hdo hol h0
    by_cases hlt : k < n
    · have hda := HD.out.at k
      have hdb := DY.out.at k
      have hstep := off_step (B := ys) (by rw [HL.out]; exact hlt) HV.out
      have hcell : wr.cell? ⟨g, k, none⟩ = some (.int .i64 (out.getD k 0)) := by
        rw [hown.cellAt k (by omega)]
        have hl : k < out.length := by rw [HL.out]; exact hlt
        simp [List.getD_eq_getElem?_getD, List.getElem?_eq_getElem hl]
      have hfz := hown.frozenAt k
      have hst := hown.stored k (.int .i64 ((out.getD k 0 - f * ys.getD k 0 - cc) % 65536))
      have hY := fun q => HY.out k wr q HG.out
      obtain ⟨p, hp⟩ : ∃ p, p = out.getD k 0 := ⟨_, rfl⟩
      obtain ⟨q, hq⟩ : ∃ q, q = ys.getD k 0 := ⟨_, rfl⟩
      rw [← hp] at hda hcell hstep hst
      rw [← hq] at hdb hstep hst hY
      obtain ⟨hpq0, hpq1⟩ := digProd ⟨hf0, hf1⟩ hdb
      have HY1 : Hid (∀ m, Calls Tryd.prog 102 #[.slice b ys.length cb, .int .i64 (k : Int)] (wr.drewN m) fun e w' => e = .returned (.int .i64 q) ∧ w' = wr.drewN m) := hY
      have HS : Hid (val (out.set k ((p - f * q - cc) % 65536)) - (-((p - f * q - cc) / 65536)) * pw (k + 1) = V - f * pv ys (k + 1)) := hstep
      have HO : Hid ((wr.setCell ⟨g, k, none⟩ (.int .i64 ((p - f * q - cc) % 65536))).ownsRow base 3 1 (.slice (some ⟨g, 0, none⟩) n cap) n ((out.set k ((p - f * q - cc) % 65536)).map (Value.int .i64))) := by
        rw [List.map_set]; exact hst.1
      have HG1 : Hid (w.grownBy (wr.setCell ⟨g, k, none⟩ (.int .i64 ((p - f * q - cc) % 65536))) (some g)) := grown_two HG.out hst.2
      have hlt' : (k : Int) < n := by omega
      have hmask := and_mask (p - f * q - cc)
      clear hY hstep hst hown hp hq
      go_wp2_with fail
      go_quiet ((go_at_call 102; exact Calls.quiet_of_same (HY1.out _)))
      go_wp2
      go_roundw
      case rel => exact ⟨k + 1, out.set k ((p - f * q - cc) % 65536), -((p - f * q - cc) / 65536), by omega, by go_num, rfl, by omega, by omega, by rw [List.length_set]; exact HL.out, HD.out.set (by omega) (by omega), HS.out, HO.out, grown_dN HG1.out _⟩
      case measure => simp [intOf]; omega
    · have hkn : k = n := by omega
      subst hkn
      have HO : Hid (OwnI wr base (some ⟨g, 0, none⟩) cap out) := by
        have h := hown
        rw [← HL.out] at h
        exact h
      clear hown
      go_wp2
      go_ret
      exact ⟨out, cc, rfl, HL.out, HD.out, hc0, HV.out, HO.out, HG.out⟩

set_option maxRecDepth 20000 in
/-- Nothing taken off nothing. -/
theorem takeOff_nil (a b : Option Addr) (ca cb m : Nat) (f : Int) (w : World) :
    Calls Tryd.prog 88 #[.slice a 0 ca, .slice b m cb, .int .i64 f] w fun e w' => e = .returned (.bool false) ∧ w = w' := by
  go_enter Tryd.func88, Tryd.ntmps88
  go_wp2
  refine wp_loop_rounds 1 ?_
  rw [rounds_succ]
  go_wp2
  go_ret
  exact ⟨rfl, rfl⟩
end Go.Proofs.YthokphoojmpajahDoor
