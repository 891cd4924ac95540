/- The contracts of l1At, at, l1Trim, trimmed, l1Fits, limited: a digit at a place, needless noughts taken off, the limit. The contracts of digits.putOn (adding in place) and digits.plus: the digits of the sum. The contract of digits.plus: the digits of the sum, in a row of the call's own. -/
import Derived.Test.YthokphoojmpajahDoorProg
import Derived.Test.YthokphoojmpajahDoorGEq
import Derived.WalkKit
import Derived.Outline
import Derived.WalkSpells
import Derived.Test.YthokphoojmpajahDoorGNum
import Derived.Deep.QuietTactic
import Derived.BigQuiet
import Derived.Laws.CopyOwn
namespace Go.Proofs.YthokphoojmpajahDoor
open Go.RowKit Go.Proofs.Pin

theorem Sl.cells {w : World} {a : Option Addr} {zs : List Int} {k : Nat} (h : Sl w a zs) (hk : k < zs.length) : ∃ b off, a = some ⟨b, off, none⟩ ∧ b < w.heap.size ∧ w.cell? ⟨b, off + k, none⟩ = some (.int .i64 (zs.getD k 0)) := by
  rcases h with rfl | ⟨b, off, rfl, hb, hc⟩
  · simp at hk
  · exact ⟨b, off, rfl, hb, hc k hk⟩
theorem getD_past {zs : List Int} {k : Nat} (h : zs.length ≤ k) : zs.getD k 0 = 0 := by simp [List.getD_eq_getElem?_getD, List.getElem?_eq_none h]

set_option maxRecDepth 20000 in
theorem l1At_any (a : Option Addr) (cap : Nat) (zs : List Int) (k : Nat) (w : World) (h : Sl w a zs) :
    Calls Tryd.prog 55 #[.slice a zs.length cap, .int .i64 k] w fun e w' => e = .returned (.int .i64 (zs.getD k 0)) ∧ w = w' := by
  by_cases hlt : k < zs.length
  · obtain ⟨b, off, rfl, _, hc⟩ := Sl.cells h hlt
    obtain ⟨z, hz⟩ : ∃ z, z = zs.getD k 0 := ⟨_, rfl⟩
    rw [← hz] at hc ⊢
    have hlt' : (k : Int) < zs.length := by omega
    clear hz h
    go_enter Tryd.func55, Tryd.ntmps55
    go_wp2
    go_ret
    exact ⟨rfl, rfl⟩
  · rw [getD_past (by omega)]
    go_enter Tryd.func55, Tryd.ntmps55
    go_wp2
    go_ret
    exact ⟨rfl, rfl⟩

set_option maxRecDepth 20000 in
theorem at_any (a : Option Addr) (cap : Nat) (zs : List Int) (k : Nat) (w : World) (h : Sl w a zs) :
    Calls Tryd.prog 102 #[.slice a zs.length cap, .int .i64 k] w fun e w' => e = .returned (.int .i64 (zs.getD k 0)) ∧ w = w' := by
  by_cases hlt : k < zs.length
  · obtain ⟨b, off, rfl, _, hc⟩ := Sl.cells h hlt
    obtain ⟨z, hz⟩ : ∃ z, z = zs.getD k 0 := ⟨_, rfl⟩
    rw [← hz] at hc ⊢
    have hlt' : (k : Int) < zs.length := by omega
    clear hz h
    go_enter Tryd.func102, Tryd.ntmps102
    go_wp2
    go_ret
    exact ⟨rfl, rfl⟩
  · rw [getD_past (by omega)]
    go_enter Tryd.func102, Tryd.ntmps102
    go_wp2
    go_ret
    exact ⟨rfl, rfl⟩

theorem take_next {zs : List Int} {t : Nat} (h : t < zs.length) : zs.take (t + 1) = zs.take t ++ [zs.getD t 0] := by
  rw [List.take_succ_eq_append_getElem h]
  simp [List.getD_eq_getElem?_getD, List.getElem?_eq_getElem h]
theorem own_cap {w : World} {base : Nat} {a : Option Addr} {cap : Nat} {zs : List Int} (h : OwnI w base a cap zs) : zs.length ≤ cap := by
  rcases h.2 with ⟨h', h0⟩ | ⟨g, cap', cur, h', _, _, hc, _⟩
  · omega
  · simp only [Value.slice.injEq, true_and] at h'
    omega
/-- The first digits of an owned row are owned. -/
theorem own_take {w : World} {base : Nat} {a : Option Addr} {cap : Nat} {zs : List Int} {t : Nat} (h : OwnI w base a cap zs) (ht : t ≤ zs.length) : OwnI w base a cap (zs.take t) := by
  have hl : (zs.take t).length = t := by rw [List.length_take]; omega
  refine ⟨by simp, ?_⟩
  rcases h.2 with ⟨h', h0⟩ | ⟨g, cap', cur, h', hb, hg, hc, hm, hs, htk⟩
  · left
    simp only [Value.slice.injEq] at h' ⊢
    exact ⟨⟨h'.1, by omega, h'.2.2⟩, by omega⟩
  · right
    simp only [Value.slice.injEq, true_and] at h'
    refine ⟨g, cap', cur, ?_, hb, hg, by omega, hm, hs, ?_⟩
    · rw [h'.1, h'.2]
    · rw [hl, Nat.mul_one, List.map_take, ← htk, List.take_take]
      congr 1
      omega

theorem trimN_zero {zs : List Int} {k : Nat} (h : zs.getD k 0 = 0) : trimN zs (k + 1) = trimN zs k := by simp only [trimN, h, if_true]
theorem trimN_stop {zs : List Int} {k : Nat} (h : zs.getD k 0 ≠ 0) : trimN zs (k + 1) = k + 1 := by simp only [trimN, h, if_false]

set_option maxRecDepth 20000 in
set_option maxHeartbeats 400000 in
theorem l1Trim_any (a : Option Addr) (cap : Nat) (zs : List Int) (w : World) (h : Sl w a zs) (hlen : zs.length ≤ 1048576) :
    Calls Tryd.prog 43 #[.slice a zs.length cap] w fun e w' => ∃ r cr, e = .returned (.slice r (zs.take (trimN zs zs.length)).length cr) ∧ OwnI w' w.heap.size r cr (zs.take (trimN zs zs.length)) ∧ Below w.heap.size w w' := by
  obtain ⟨i0, hi, hz0, hz1, hz2⟩ := info_parts Tryd.info3
  obtain ⟨n, hn⟩ : ∃ n, n = zs.length := ⟨_, rfl⟩
  have HN : Hid (n = zs.length) := hn
  have hn2 : n ≤ 1048576 := by omega
  obtain ⟨R, hR⟩ : ∃ R, R = zs.take (trimN zs zs.length) := ⟨_, rfl⟩
  have HR : Hid (R = zs.take (trimN zs n)) := by rw [hn]; exact hR
  rw [← hR, ← hn]
  have hcell : ∀ k, k < n → ∃ b off, a = some ⟨b, off, none⟩ ∧ b < w.heap.size ∧ w.cell? ⟨b, off + k, none⟩ = some (.int .i64 (zs.getD k 0)) := fun k hk => Sl.cells h (by omega)
  clear hn hlen h hR
  go_enter Tryd.func43, Tryd.ntmps43
  go_wp2
  go_loop [3] (fun t => ∃ k : Nat, k ≤ n ∧ t = .int .i64 k ∧ trimN zs n = trimN zs k) (fun t => (intOf t).toNat)
  case atStart => exact ⟨n, Nat.le_refl _, rfl, rfl⟩
  case round =>
    obtain ⟨k, hk, rfl, ht⟩ := hrel
    have HT : Hid (trimN zs n = trimN zs k) := ht
    clear ht
    by_cases hgo : ∃ j, k = j + 1 ∧ zs.getD j 0 = 0
    · obtain ⟨j, rfl, hj⟩ := hgo
      obtain ⟨b, off, rfl, _, hc⟩ := hcell j (by omega)
      rw [hj] at hc
      have HJ : Hid (zs.getD j 0 = 0) := hj
      clear hj hcell
      go_wp2
      go_round
      case rel => exact ⟨j, by omega, by go_num, by rw [HT.out, trimN_zero HJ.out]⟩
      case measure => simp [intOf]
    · have hk2 : trimN zs n = k := by
        rw [HT.out]
        cases k with
        | zero => rfl
        | succ j => exact trimN_stop (fun e => hgo ⟨j, rfl, e⟩)
      have HK : Hid (trimN zs n = k) := hk2
      have hstop : k = 0 ∨ ∃ j b off z, k = j + 1 ∧ a = some ⟨b, off, none⟩ ∧ z ≠ 0 ∧ w.cell? ⟨b, off + j, none⟩ = some (.int .i64 z) := by
        cases k with
        | zero => exact .inl rfl
        | succ j =>
          obtain ⟨b, off, rfl, _, hc⟩ := hcell j (by omega)
          exact .inr ⟨j, b, off, _, rfl, rfl, fun e => hgo ⟨j, rfl, e⟩, hc⟩
      clear hgo hk2
      have HC : Hid (∀ k, k < n → ∃ b off, a = some ⟨b, off, none⟩ ∧ b < w.heap.size ∧ w.cell? ⟨b, off + k, none⟩ = some (.int .i64 (zs.getD k 0))) := hcell
      clear hcell
      have HZ : Hid (∀ z : Int, z ≠ 0 → (z == 0) = false) := fun z h => by simp [h]
      rcases hstop with hk0 | ⟨j, b, off, z, hkj, rfl, hz, hc'⟩
      · subst hk0
        go_wp2
        refine wp_loop_rounds 1 ?_
        rw [rounds_succ]
        go_wp2
        go_ret
        refine ⟨none, 0, ?_, ?_, Below.refl _ _⟩
        · rw [HR.out, HK.out]; rfl
        · rw [HR.out, HK.out]; exact OwnI.nil _ _
      · subst hkj
        have hzz := HZ.out z hz
        clear hz
        go_wp2
        go_loopw [4, 5] (fun v i wr => ∃ t : Nat, t ≤ j + 1 ∧ i = .int .i64 t ∧ wr.ownsRow w.heap.size 3 1 v t ((zs.take t).map (Value.int .i64)) ∧ Below w.heap.size w wr) (fun _ i _ => j + 1 - (intOf i).toNat)
        case atStart => exact ⟨0, Nat.zero_le _, rfl, World.ownsRow_nil _ _ _ _, Below.refl _ _⟩
        case round =>
          obtain ⟨t, ht, rfl, hown, hb⟩ := hrel
          have HB : Hid (Below w.heap.size w wr) := hb
          by_cases hlt : t < j + 1
          · obtain ⟨b', off', he, hb', hc⟩ := HC.out t (by omega)
            cases he
            obtain ⟨x, hx⟩ : ∃ x, x = zs.getD t 0 := ⟨_, rfl⟩
            have hcx : wr.cell? ⟨b, off + t, none⟩ = some (.int .i64 x) := by rw [hb.cell (p := ⟨b, off + t, none⟩) hb', hc, hx]
            have HX : Hid (x = zs.getD t 0) := hx
            have hlt' : (t : Int) < n := by omega
            clear hx hc hb hc' hzz
            go_wp2_with (at_builtin; refine wpList_append_own _ rfl _ _ 22 rfl w.heap.size 3 i0 (.int .i64 0) 1 8 Tryd.underlying22 hi hz0 hz1 hz2 rfl (by decide) _ _ _ rfl (hown.alloc _) ⟨wr.heap.size, 0, none⟩ 1 1 [.int .i64 x] rfl rfl (cell_one_new _ _ _) (by simp [Value.oneCell']) ?c3 ?c4 ?c5 ?_)
            case c3 => unfold maxLen; omega
            case c4 => omega
            case c5 => have := HB.out.size; simp; omega
            intro v' w1 hown' hgrow _
            have HO : Hid (w1.ownsRow w.heap.size 3 1 v' (t + 1) ((zs.take (t + 1)).map (Value.int .i64))) := by
              show w1.ownsRow w.heap.size 3 1 v' (t + 1) ((zs.take (t + 1)).map (Value.int .i64))
              rw [take_next (by rw [← HN.out]; omega), ← HX.out, List.map_append, List.map_take]
              exact hown'
            have HB1 : Hid (Below w.heap.size w w1) := below_append HB.out (Nat.le_refl _) hown hgrow
            clear hown' hgrow hown
            go_wp2
            go_roundw
            case rel => exact ⟨t + 1, by omega, by go_num, HO.out, HB1.out⟩
            case measure => simp [intOf]; omega
          · have htj : t = j + 1 := by omega
            subst htj
            obtain ⟨r, cr, hv, ho⟩ := OwnI.of_row hown
            have HO : Hid (OwnI wr w.heap.size r cr (zs.take (j + 1))) := ho
            subst hv
            clear hown ho hb hc' hzz
            go_wp2
            go_ret
            refine ⟨r, cr, ?_, ?_, HB.out⟩
            · rw [HR.out, HK.out]; rfl
            · rw [HR.out, HK.out]; exact HO.out

set_option maxRecDepth 20000 in
set_option maxHeartbeats 400000 in
theorem trimmed_any (base : Nat) (a : Option Addr) (cap : Nat) (zs : List Int) (w : World) (h : OwnI w base a cap zs) (hlen : zs.length ≤ 1048576) :
    Calls Tryd.prog 76 #[.slice a zs.length cap] w fun e w' => e = .returned (.slice a (zs.take (trimN zs zs.length)).length cap) ∧ OwnI w' base a cap (zs.take (trimN zs zs.length)) ∧ w = w' := by
  obtain ⟨n, hn⟩ : ∃ n, n = zs.length := ⟨_, rfl⟩
  obtain ⟨R, hR⟩ : ∃ R, R = zs.take (trimN zs zs.length) := ⟨_, rfl⟩
  have HP : Hid (OwnI w base a cap R) := by
    rw [hR]
    exact own_take h (trimN_le zs zs.length)
  have hcap := own_cap h
  have HL : Hid (R.length = trimN zs n) := by
    show R.length = trimN zs n
    rw [hR, List.length_take, hn]
    have := trimN_le zs zs.length
    omega
  have hn2 : n ≤ 1048576 := by omega
  have hsl := h.sl
  have hcell : ∀ k, k < n → ∃ b off, a = some ⟨b, off, none⟩ ∧ b < w.heap.size ∧ w.cell? ⟨b, off + k, none⟩ = some (.int .i64 (zs.getD k 0)) := fun k hk => Sl.cells hsl (by omega)
  have hnil := h.parts
  rw [← hn] at hcap
  rw [← hR, ← hn]
  clear hn hlen h hsl hR
  go_enter Tryd.func76, Tryd.ntmps76
  go_wp2
  go_loop [3] (fun t => ∃ k : Nat, k ≤ n ∧ t = .int .i64 k ∧ trimN zs n = trimN zs k) (fun t => (intOf t).toNat)
  case atStart => exact ⟨n, Nat.le_refl _, rfl, rfl⟩
  case round =>
    obtain ⟨k, hk, rfl, ht⟩ := hrel
    have HT : Hid (trimN zs n = trimN zs k) := ht
    clear ht
    by_cases hgo : ∃ j, k = j + 1 ∧ zs.getD j 0 = 0
    · obtain ⟨j, rfl, hj⟩ := hgo
      obtain ⟨b, off, rfl, _, hc⟩ := hcell j (by omega)
      rw [hj] at hc
      have HJ : Hid (zs.getD j 0 = 0) := hj
      clear hj hcell hnil
      go_wp2
      go_round
      case rel => exact ⟨j, by omega, by go_num, by rw [HT.out, trimN_zero HJ.out]⟩
      case measure => simp [intOf]
    · have hk2 : trimN zs n = k := by
        rw [HT.out]
        cases k with
        | zero => rfl
        | succ j => exact trimN_stop (fun e => hgo ⟨j, rfl, e⟩)
      have HK : Hid (trimN zs n = k) := hk2
      have hstop : k = 0 ∨ ∃ j b off z, k = j + 1 ∧ a = some ⟨b, off, none⟩ ∧ z ≠ 0 ∧ w.cell? ⟨b, off + j, none⟩ = some (.int .i64 z) := by
        cases k with
        | zero => exact .inl rfl
        | succ j =>
          obtain ⟨b, off, rfl, _, hc⟩ := hcell j (by omega)
          exact .inr ⟨j, b, off, _, rfl, rfl, fun e => hgo ⟨j, rfl, e⟩, hc⟩
      clear hgo hk2 hcell
      have HZ : Hid (∀ z : Int, z ≠ 0 → (z == 0) = false) := fun z h => by simp [h]
      rcases hstop with hk0 | ⟨j, b, off, z, hkj, rfl, hz, hc'⟩
      · subst hk0
        rcases hnil with ⟨rfl, rfl, hnn⟩ | ⟨g, rfl, _, _⟩
        · clear hnn
          go_wp2
          go_ret
          exact ⟨by rw [HL.out, HK.out]; rfl, HP.out, rfl⟩
        · go_wp2
          go_ret
          exact ⟨by rw [HL.out, HK.out]; rfl, HP.out, rfl⟩
      · subst hkj
        have hzz := HZ.out z hz
        clear hz hnil
        go_wp2
        go_ret
        exact ⟨by rw [HL.out, HK.out]; rfl, HP.out, rfl⟩

/-- The limit: what has too many digits is nothing. -/
def fitB (zs : List Int) : Bool := decide (zs.length ≤ 256)
def fitL (zs : List Int) : List Int := if zs.length ≤ 256 then zs else []
set_option maxRecDepth 20000 in
theorem l1Fits_any (base : Nat) (a : Option Addr) (cap : Nat) (zs : List Int) (w : World) (h : OwnI w base a cap zs) :
    Calls Tryd.prog 47 #[.slice a zs.length cap] w fun e w' => ∃ r cr, e = .returned (.tuple #[.slice r (fitL zs).length cr, .bool (fitB zs)]) ∧ OwnI w' base r cr (fitL zs) ∧ w = w' := by
  by_cases hl : zs.length ≤ 256
  · have e1 : fitL zs = zs := by simp [fitL, hl]
    have e2 : fitB zs = true := by simp [fitB, hl]
    rw [e1, e2]
    clear e1 e2
    go_enter Tryd.func47, Tryd.ntmps47
    go_wp2
    go_ret2
    exact ⟨a, cap, rfl, h, rfl⟩
  · have e1 : fitL zs = [] := by simp [fitL, hl]
    have e2 : fitB zs = false := by simp [fitB, hl]
    rw [e1, e2]
    clear e1 e2
    go_enter Tryd.func47, Tryd.ntmps47
    go_wp2
    go_ret2
    exact ⟨none, 0, rfl, OwnI.nil _ _, rfl⟩
set_option maxRecDepth 20000 in
theorem limited_any (base : Nat) (a : Option Addr) (cap : Nat) (zs : List Int) (w : World) (h : OwnI w base a cap zs) :
    Calls Tryd.prog 73 #[.slice a zs.length cap] w fun e w' => ∃ r cr, e = .returned (.tuple #[.slice r (fitL zs).length cr, .bool (fitB zs)]) ∧ OwnI w' base r cr (fitL zs) ∧ w = w' := by
  by_cases hl : zs.length ≤ 256
  · have e1 : fitL zs = zs := by simp [fitL, hl]
    have e2 : fitB zs = true := by simp [fitB, hl]
    rw [e1, e2]
    clear e1 e2
    go_enter Tryd.func73, Tryd.ntmps73
    go_wp2
    go_ret2
    exact ⟨a, cap, rfl, h, rfl⟩
  · have e1 : fitL zs = [] := by simp [fitL, hl]
    have e2 : fitB zs = false := by simp [fitB, hl]
    rw [e1, e2]
    clear e1 e2
    go_enter Tryd.func73, Tryd.ntmps73
    go_wp2
    go_ret2
    exact ⟨none, 0, rfl, OwnI.nil _ _, rfl⟩
end Go.Proofs.YthokphoojmpajahDoor

namespace Go.Proofs.YthokphoojmpajahDoor
open Go.RowKit Go.Proofs.Pin

theorem put_step {out B : List Int} {k : Nat} {c V : Int} (hk : k < out.length) (h : val out + c * pw k = V + pv B k) :
    val (out.set k ((out.getD k 0 + B.getD k 0 + c) % 65536)) + (out.getD k 0 + B.getD k 0 + c) / 65536 * pw (k + 1) = V + pv B (k + 1) := by
  have e := carry_eq (out.getD k 0 + B.getD k 0 + c) (pw k)
  rw [val_set _ hk, pw_succ, pv_succ]
  rw [Int.add_mul, Int.add_mul] at e
  rw [Int.sub_mul]
  omega
theorem grown_dN {w wr : World} {row : Option Nat} (h : w.grownBy wr row) (q : Nat) : w.grownBy (wr.drewN q) row := ⟨h.os, h.tape, h.output, h.size, h.block⟩

set_option maxRecDepth 20000 in
set_option maxHeartbeats 800000 in
theorem putOn_any (base g cap : Nat) (b : Option Addr) (cb : Nat) (zs ys : List Int) (w : World) (h : OwnI w base (some ⟨g, 0, none⟩) cap zs) (hb : Sl w b ys) (hne : Apart b ys g) (dz : Dg zs) (dy : Dg ys) (hlen : zs.length ≤ 65536) :
    Calls Tryd.prog 89 #[.slice (some ⟨g, 0, none⟩) zs.length cap, .slice b ys.length cb] w fun e w' => e = .returned (.tuple #[]) ∧ ∃ (out : List Int) (c : Int), out.length = zs.length ∧ Dg out ∧ (c = 0 ∨ c = 1) ∧ val out + c * pw zs.length = val zs + pv ys zs.length ∧ OwnI w' base (some ⟨g, 0, none⟩) cap out ∧ w.grownBy w' (some g) := by
  obtain ⟨n, hn⟩ : ∃ n, n = zs.length := ⟨_, rfl⟩
  have HN : Hid (n = zs.length) := hn
  have hn2 : n ≤ 65536 := by omega
  have h0 : w.ownsRow base 3 1 (.slice (some ⟨g, 0, none⟩) n cap) n (zs.map (Value.int .i64)) := by rw [hn]; exact h
  have HY : Hid (∀ (k : Nat) (wr : World) (q : Nat), w.grownBy wr (some g) → Calls Tryd.prog 102 #[.slice b ys.length cb, .int .i64 (k : Int)] (wr.drewN q) fun e w' => e = .returned (.int .i64 (ys.getD k 0)) ∧ w' = wr.drewN q) :=
    fun k wr q hw => (at_any b cb ys k (wr.drewN q) (hb.apart (grown_dN hw q) hne)).mono fun e w' h => ⟨h.1, h.2.symm⟩
  obtain ⟨V, hV⟩ : ∃ V, V = val zs := ⟨_, rfl⟩
  have HV0 : Hid (V = val zs) := hV
  have DZ : Hid (Dg zs) := dz
  have DY : Hid (Dg ys) := dy
  rw [← hn, ← hV]
  clear hn h hb hne hV dz dy hlen
  go_enter Tryd.func89, Tryd.ntmps89
  go_wp2
  go_loopw [4, 9] (fun c i wr => ∃ (k : Nat) (out : List Int) (cc : Int), k ≤ n ∧ i = .int .i64 k ∧ c = .int .i64 cc ∧ (cc = 0 ∨ cc = 1) ∧ out.length = n ∧ Dg out ∧ val out + cc * pw k = V + pv ys k ∧ wr.ownsRow base 3 1 (.slice (some ⟨g, 0, none⟩) n cap) n (out.map (Value.int .i64)) ∧ w.grownBy wr (some g)) (fun _ i _ => n - (intOf i).toNat)
  case atStart => exact ⟨0, zs, 0, Nat.zero_le _, rfl, rfl, .inl rfl, HN.out.symm, DZ.out, by rw [HV0.out]; simp [pv], h0, World.grownBy.refl _ _⟩
  case round =>
    obtain ⟨k, out, cc, hk, rfl, rfl, hcc, hol, hdo, hval, hown, hgr⟩ := hrel
    have HG : Hid (w.grownBy wr (some g)) := hgr
    have HV : Hid (val out + cc * pw k = V + pv ys k) := hval
    have HD : Hid (Dg out) := hdo
    have hc0 : 0 ≤ cc := by omega
    have hc1 : cc ≤ 1 := by omega
    have HC : Hid (cc = 0 ∨ cc = 1) := hcc
    have HL : Hid (out.length = n) := hol
    clear hgr hval hdo hcc hol h0
    by_cases hlt : k < n
    · have hda := HD.out.at k
      have hdb := DY.out.at k
      have hstep := put_step (B := ys) (by rw [HL.out]; exact hlt) HV.out
      have hcell : wr.cell? ⟨g, k, none⟩ = some (.int .i64 (out.getD k 0)) := by
        rw [hown.cellAt k (by omega)]
        have hl : k < out.length := by rw [HL.out]; exact hlt
        simp [List.getD_eq_getElem?_getD, List.getElem?_eq_getElem hl]
      have hfz := hown.frozenAt k
      have hst := hown.stored k (.int .i64 ((out.getD k 0 + ys.getD k 0 + cc) % 65536))
      have hY := fun q => HY.out k wr q HG.out
      obtain ⟨p, hp⟩ : ∃ p, p = out.getD k 0 := ⟨_, rfl⟩
      obtain ⟨q, hq⟩ : ∃ q, q = ys.getD k 0 := ⟨_, rfl⟩
      rw [← hp] at hda hcell hstep hst
      rw [← hq] at hdb hstep hst hY
      have HY1 : Hid (∀ m, Calls Tryd.prog 102 #[.slice b ys.length cb, .int .i64 (k : Int)] (wr.drewN m) fun e w' => e = .returned (.int .i64 q) ∧ w' = wr.drewN m) := hY
      have HS : Hid (val (out.set k ((p + q + cc) % 65536)) + (p + q + cc) / 65536 * pw (k + 1) = V + pv ys (k + 1)) := hstep
      have HO : Hid ((wr.setCell ⟨g, k, none⟩ (.int .i64 ((p + q + cc) % 65536))).ownsRow base 3 1 (.slice (some ⟨g, 0, none⟩) n cap) n ((out.set k ((p + q + cc) % 65536)).map (Value.int .i64))) := by
        rw [List.map_set]; exact hst.1
      have HG1 : Hid (w.grownBy (wr.setCell ⟨g, k, none⟩ (.int .i64 ((p + q + cc) % 65536))) (some g)) := grown_two HG.out hst.2
      have hlt' : (k : Int) < n := by omega
      clear hY hstep hst hown hp hq
      go_wp2_with fail
      go_quiet ((go_at_call 102; exact Calls.quiet_of_same (HY1.out _)))
      go_wp2
      go_roundw
      case rel => exact ⟨k + 1, out.set k ((p + q + cc) % 65536), (p + q + cc) / 65536, by omega, by go_num, rfl, by omega, by rw [List.length_set]; exact HL.out, HD.out.set (by omega) (by omega), HS.out, HO.out, grown_dN HG1.out _⟩
      case measure => simp [intOf]; omega
    · have hkn : k = n := by omega
      subst hkn
      have HO : Hid (OwnI wr base (some ⟨g, 0, none⟩) cap out) := by
        have h := hown
        rw [← HL.out] at h
        exact h
      clear hown
      go_wp2
      go_end0
      exact ⟨rfl, out, cc, HL.out, HD.out, HC.out, HV.out, HO.out, HG.out⟩
end Go.Proofs.YthokphoojmpajahDoor

namespace Go.Proofs.YthokphoojmpajahDoor
open Go.RowKit Go.Proofs.Pin

theorem own_block {w : World} {base g n : Nat} {xs : List Value} (h : w.ownsRow base 3 1 (.slice (some ⟨g, 0, none⟩) n n) n xs) : w.heap[g]? = some (.cells xs.toArray 3 (0, 0)) := by
  rcases h.2 with ⟨h', _⟩ | ⟨g', cap, cur, h', _, hg, _, _, hs, ht⟩
  · simp at h'
  · simp only [Value.slice.injEq, Option.some.injEq, Addr.mk.injEq, and_true, true_and] at h'
    obtain ⟨rfl, rfl⟩ := h'
    rw [hg, ← ht, Nat.mul_one]
    have : cur.toList.take n = cur.toList := List.take_of_length_le (by rw [Array.length_toList]; omega)
    rw [this]
theorem own_of_block {w : World} {base g : Nat} {zs : List Int} (h : w.heap[g]? = some (.cells (zs.map (Value.int .i64)).toArray 3 (0, 0))) (hb : base ≤ g) (hl : zs.length ≤ maxLen) : OwnI w base (some ⟨g, 0, none⟩) zs.length zs :=
  ⟨by simp, .inr ⟨g, zs.length, _, rfl, hb, h, Nat.le_refl _, hl, by simp, by simp [← List.map_take]⟩⟩
theorem make_row {w : World} {base g n : Nat} (h : w.ownsRow base 3 1 (.slice (some ⟨g, 0, none⟩) n n) n (madeCells (Value.int .i64 0).cells (n * 1)).toList) : w.heap[g]? = some (.cells (List.replicate n (Value.int .i64 0)).toArray 3 (0, 0)) := by
  have e : (madeCells (Value.int .i64 0).cells (n * 1)).toList = List.replicate n (Value.int .i64 0) := by
    rw [Nat.mul_one]
    exact toList_madeCells_one _ _
  rw [e] at h
  exact own_block h
theorem splice_row {A : List Int} {n : Nat} : splice (List.replicate n (Value.int .i64 0)) 0 (A.map (Value.int .i64)) = (A ++ List.replicate (n - A.length) 0).map (Value.int .i64) := by
  simp [splice]
theorem oneCells (A : List Int) : ∀ v ∈ A.map (Value.int .i64), v.oneCell' = true := ints_oneCell .i64 A
theorem sl_src {w : World} {a : Option Addr} {A : List Int} (h : Sl w a A) (h0 : 0 < A.length) : ∃ ad, a = some ad ∧ ∀ j v, (A.map (Value.int .i64))[j]? = some v → w.cell? (ad.add j) = some v := by
  rcases h with rfl | ⟨b, off, rfl, _, hc⟩
  · simp at h0
  · refine ⟨_, rfl, fun j v hv => ?_⟩
    have hj : j < A.length := by
      rcases Nat.lt_or_ge j A.length with h | h
      · exact h
      · simp [List.getElem?_eq_none h] at hv
    have e : (⟨b, off, none⟩ : Addr).add j = ⟨b, off + j, none⟩ := by
      unfold Addr.add
      split
      · subst_vars; rfl
      · rfl
    rw [e, hc j hj]
    simpa [List.getD_eq_getElem?_getD, List.getElem?_eq_getElem hj] using hv
theorem Tryd.size3 : (Tryd.prog.info? 3).map (·.size) = some 1 := by kernel_rfl

end Go.Proofs.YthokphoojmpajahDoor
