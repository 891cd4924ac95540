/- The contracts of digits.putOn (adding in place) and digits.plus: the digits of the sum. -/
import Derived.Test.YthokphoojmpajabDoorArith
import Derived.Test.YthokphoojmpajabDoorGNum
import Derived.Deep.QuietTactic
import Derived.BigQuiet
import Derived.Laws.CopyOwn
namespace Go.Proofs.YthokphoojmpajabDoor
open Go.RowKit Go.Proofs.Pin

theorem put_step {out B : List Int} {k : Nat} {c V : Int} (hk : k < out.length) (h : val out + c * pw k = V + pv B k) :
    val (out.set k ((out.getD k 0 + B.getD k 0 + c) % 65536)) + (out.getD k 0 + B.getD k 0 + c) / 65536 * pw (k + 1) = V + pv B (k + 1) := by
  have e := carry_eq (out.getD k 0 + B.getD k 0 + c) (pw k)
  rw [val_set _ hk, pw_succ, pv_succ]
  rw [Int.add_mul, Int.add_mul] at e
  rw [Int.sub_mul]
  omega
theorem grown_dN {w wr : World} {row : Option Nat} (h : w.grownBy wr row) (q : Nat) : w.grownBy (wr.drewN q) row := ⟨h.os, h.tape, h.output, h.size, h.block⟩

set_option maxRecDepth 20000 in
set_option maxHeartbeats 800000 in
theorem putOn_any (base g cap : Nat) (b : Option Addr) (cb : Nat) (zs ys : List Int) (w : World) (h : OwnI w base (some ⟨g, 0, none⟩) cap zs) (hb : Sl w b ys) (hne : Apart b ys g) (dz : Dg zs) (dy : Dg ys) (hlen : zs.length ≤ 65536) :
    Calls Tryd.prog 81 #[.slice (some ⟨g, 0, none⟩) zs.length cap, .slice b ys.length cb] w fun e w' => e = .returned (.tuple #[]) ∧ ∃ (out : List Int) (c : Int), out.length = zs.length ∧ Dg out ∧ (c = 0 ∨ c = 1) ∧ val out + c * pw zs.length = val zs + pv ys zs.length ∧ OwnI w' base (some ⟨g, 0, none⟩) cap out ∧ w.grownBy w' (some g) := by
  obtain ⟨n, hn⟩ : ∃ n, n = zs.length := ⟨_, rfl⟩
  have HN : Hid (n = zs.length) := hn
  have hn2 : n ≤ 65536 := by omega
  have h0 : w.ownsRow base 3 1 (.slice (some ⟨g, 0, none⟩) n cap) n (zs.map (Value.int .i64)) := by rw [hn]; exact h
  have HY : Hid (∀ (k : Nat) (wr : World) (q : Nat), w.grownBy wr (some g) → Calls Tryd.prog 87 #[.slice b ys.length cb, .int .i64 (k : Int)] (wr.drewN q) fun e w' => e = .returned (.int .i64 (ys.getD k 0)) ∧ w' = wr.drewN q) :=
    fun k wr q hw => (at_any b cb ys k (wr.drewN q) (hb.apart (grown_dN hw q) hne)).mono fun e w' h => ⟨h.1, h.2.symm⟩
  obtain ⟨V, hV⟩ : ∃ V, V = val zs := ⟨_, rfl⟩
  have HV0 : Hid (V = val zs) := hV
  have DZ : Hid (Dg zs) := dz
  have DY : Hid (Dg ys) := dy
  rw [← hn, ← hV]
  clear hn h hb hne hV dz dy hlen
  go_enter Tryd.func81, Tryd.ntmps81
  go_wp2
  go_loopw [4, 9] (fun c i wr => ∃ (k : Nat) (out : List Int) (cc : Int), k ≤ n ∧ i = .int .i64 k ∧ c = .int .i64 cc ∧ (cc = 0 ∨ cc = 1) ∧ out.length = n ∧ Dg out ∧ val out + cc * pw k = V + pv ys k ∧ wr.ownsRow base 3 1 (.slice (some ⟨g, 0, none⟩) n cap) n (out.map (Value.int .i64)) ∧ w.grownBy wr (some g)) (fun _ i _ => n - (intOf i).toNat)
  case atStart => exact ⟨0, zs, 0, Nat.zero_le _, rfl, rfl, .inl rfl, HN.out.symm, DZ.out, by rw [HV0.out]; simp [pv], h0, World.grownBy.refl _ _⟩
  case round =>
    obtain ⟨k, out, cc, hk, rfl, rfl, hcc, hol, hdo, hval, hown, hgr⟩ := hrel
    have HG : Hid (w.grownBy wr (some g)) := hgr
    have HV : Hid (val out + cc * pw k = V + pv ys k) := hval
    have HD : Hid (Dg out) := hdo
    have hc0 : 0 ≤ cc := by omega
    have hc1 : cc ≤ 1 := by omega
    have HC : Hid (cc = 0 ∨ cc = 1) := hcc
    have HL : Hid (out.length = n) := hol
    clear hgr hval hdo hcc hol h0
    by_cases hlt : k < n
    · have hda := HD.out.at k
      have hdb := DY.out.at k
      have hstep := put_step (B := ys) (by rw [HL.out]; exact hlt) HV.out
      have hcell : wr.cell? ⟨g, k, none⟩ = some (.int .i64 (out.getD k 0)) := by
        rw [hown.cellAt k (by omega)]
        have hl : k < out.length := by rw [HL.out]; exact hlt
        simp [List.getD_eq_getElem?_getD, List.getElem?_eq_getElem hl]
      have hfz := hown.frozenAt k
      have hst := hown.stored k (.int .i64 ((out.getD k 0 + ys.getD k 0 + cc) % 65536))
      have hY := fun q => HY.out k wr q HG.out
      obtain ⟨p, hp⟩ : ∃ p, p = out.getD k 0 := ⟨_, rfl⟩
      obtain ⟨q, hq⟩ : ∃ q, q = ys.getD k 0 := ⟨_, rfl⟩
      rw [← hp] at hda hcell hstep hst
      rw [← hq] at hdb hstep hst hY
      have HY1 : Hid (∀ m, Calls Tryd.prog 87 #[.slice b ys.length cb, .int .i64 (k : Int)] (wr.drewN m) fun e w' => e = .returned (.int .i64 q) ∧ w' = wr.drewN m) := hY
      have HS : Hid (val (out.set k ((p + q + cc) % 65536)) + (p + q + cc) / 65536 * pw (k + 1) = V + pv ys (k + 1)) := hstep
      have HO : Hid ((wr.setCell ⟨g, k, none⟩ (.int .i64 ((p + q + cc) % 65536))).ownsRow base 3 1 (.slice (some ⟨g, 0, none⟩) n cap) n ((out.set k ((p + q + cc) % 65536)).map (Value.int .i64))) := by
        rw [List.map_set]; exact hst.1
      have HG1 : Hid (w.grownBy (wr.setCell ⟨g, k, none⟩ (.int .i64 ((p + q + cc) % 65536))) (some g)) := grown_two HG.out hst.2
      have hlt' : (k : Int) < n := by omega
      clear hY hstep hst hown hp hq
      go_wp2_with fail
      go_quiet ((go_at_call 87; exact Calls.quiet_of_same (HY1.out _)))
      go_wp2
      go_roundw
      case rel => exact ⟨k + 1, out.set k ((p + q + cc) % 65536), (p + q + cc) / 65536, by omega, by go_num, rfl, by omega, by rw [List.length_set]; exact HL.out, HD.out.set (by omega) (by omega), HS.out, HO.out, grown_dN HG1.out _⟩
      case measure => simp [intOf]; omega
    · have hkn : k = n := by omega
      subst hkn
      have HO : Hid (OwnI wr base (some ⟨g, 0, none⟩) cap out) := by
        have h := hown
        rw [← HL.out] at h
        exact h
      clear hown
      go_wp2
      go_end0
      exact ⟨rfl, out, cc, HL.out, HD.out, HC.out, HV.out, HO.out, HG.out⟩
end Go.Proofs.YthokphoojmpajabDoor
