/- The walks of layer 7's Band, Bands and Shared, and the reference's. -/
import Derived.Test.YtgldlfgidmgmfaaD07a
import Derived.Test.YtgldlfgidmgmfaaApp
import Derived.Test.YtgldlfgidmgmfaaNu
import Derived.Test.YtgldlfgidmgmfaaNi
import Derived.Test.YtgldlfgidmgmfaaMk
namespace Go.Proofs.Ytgldlfgidmgmfaa
open Go.RowKit

/-- The bits of s behind the lowest p, w of them. -/
theorem band_cut {s : Int} (s0 : 0 ≤ s) (s1 : s ≤ 18446744073709551615) (p w : Nat) (hw : w ≤ 64) : bits .and .u64 (s / 2 ^ p) (IntKind.wrap .u64 (IntKind.wrap .u64 (2 ^ w) - 1)) = ((s.toNat / 2 ^ p % 2 ^ w : Nat) : Int) := by
  obtain ⟨a, rfl⟩ := Int.eq_ofNat_of_zero_le s0
  have e : ((a : Int) / 2 ^ p) = ((a / 2 ^ p : Nat) : Int) := by simp
  have hl : a / 2 ^ p ≤ a := Nat.div_le_self _ _
  rw [mask_is w hw, e, and_mask _ w (by omega) hw]; rfl
theorem bandB_cut (s d i : Int) : ((s.toNat / 2 ^ (begB d i).toNat % 2 ^ (widB d i).toNat : Nat) : Int) = bandB s d i := by
  by_cases h : hereB d i = true
  · unfold begB widB bandB; rw [if_pos h, if_pos h, if_pos h]; rfl
  · rw [bandB_none h, widB_none h]; simp

theorem band_any (s d i : Int) (w : World) (s0 : 0 ≤ s) (s1 : s ≤ 18446744073709551615) : Calls Try.prog 42 #[.int .u64 s, .int .i64 d, .int .i64 i] w fun e w' => e = .returned (.int .u64 (bandB s d i)) ∧ Drawn w w' := by
  have hwd := fun W => width_any d i W
  have hst := fun W => start_any d i W
  have hb := bandB_cut s d i
  have b1 := widB_bd d i
  have b2 := begB_bd d i
  obtain ⟨n, hn⟩ := Int.eq_ofNat_of_zero_le b1.1
  obtain ⟨p, hp⟩ := Int.eq_ofNat_of_zero_le b2.1
  rw [hn] at hwd hb b1
  rw [hp] at hst hb b2
  have hc := band_cut s0 s1 p n (by omega)
  rw [Int.toNat_natCast, Int.toNat_natCast] at hb
  rw [hb] at hc
  replace hwd := Lib.hid hwd
  replace hst := Lib.hid hst
  have n1 : n ≤ 64 := by omega
  have p1 : p ≤ 64 := by omega
  clear hb b1 b2 hn hp
  go_enter Try.func42, Try.ntmps42
  go_wp2_with fail
  refine (hwd.out _).mono ?_; rintro e w1 ⟨rfl, hd1⟩
  replace hd1 := Lib.hid hd1
  go_wp2_with fail
  refine (hst.out _).mono ?_; rintro e w2 ⟨rfl, hd2⟩
  replace hd2 := Lib.hid hd2
  go_wp2_with fail
  go_ret
  exact ⟨rfl, hd1.out.trans hd2.out⟩

theorem refband_any (s d i : Int) (w : World) (s0 : 0 ≤ s) (s1 : s ≤ 18446744073709551615) : Calls Try.prog 53 #[.int .u64 s, .int .i64 d, .int .i64 i] w fun e w' => e = .returned (.int .u64 (bandB s d i)) ∧ w = w' := by
  have hwd := fun W => refwidth_any d i W
  have hst := fun W => refstart_any d i W
  have hb := bandB_cut s d i
  have b1 := widB_bd d i
  have b2 := begB_bd d i
  have h64 : widB d i = 64 → begB d i = 0 := by
    intro h
    by_cases hh : hereB d i = true
    · obtain ⟨n, k, rfl, rfl, hn, hk⟩ := here_form hh
      rw [widB_nat hn hk] at h
      rw [begB_nat hn hk, wd_one n hn k (by omega) hk (by omega)]; rfl
    · rw [widB_none hh] at h; omega
  obtain ⟨n, hn⟩ := Int.eq_ofNat_of_zero_le b1.1
  obtain ⟨p, hp⟩ := Int.eq_ofNat_of_zero_le b2.1
  rw [hn] at hwd hb b1 h64
  rw [hp] at hst hb b2 h64
  have hc := band_cut s0 s1 p n (by omega)
  rw [Int.toNat_natCast, Int.toNat_natCast] at hb
  rw [hb] at hc
  replace hwd := Lib.hid hwd
  replace hst := Lib.hid hst
  have n1 : n ≤ 64 := by omega
  have p1 : p ≤ 64 := by omega
  clear b1 b2 hn hp
  by_cases hn0 : n = 0
  · subst hn0
    have hz := Lib.hid (show bandB s d i = 0 by rw [← hb, Nat.pow_zero, Nat.mod_one]; rfl)
    generalize bandB s d i = z at hz ⊢
    clear hb hc h64
    go_enter Try.func53, Try.ntmps53
    go_wp2_with fail
    refine (hwd.out _).mono ?_; rintro e w1 ⟨rfl, rfl⟩
    go_wp2_with fail
    go_ret
    exact ⟨ret_int hz.out.symm, rfl⟩
  by_cases hn6 : n = 64
  · subst hn6
    obtain rfl : p = 0 := by have := h64 rfl; omega
    have hz := Lib.hid (show s = bandB s d i by rw [← hb, Nat.pow_zero, Nat.div_one, Nat.mod_eq_of_lt (by omega)]; omega)
    generalize bandB s d i = z at hz ⊢
    clear hb hc h64
    go_enter Try.func53, Try.ntmps53
    go_wp2_with fail
    refine (hwd.out _).mono ?_; rintro e w1 ⟨rfl, rfl⟩
    go_wp2_with fail
    go_ret
    exact ⟨ret_int hz.out, rfl⟩
  · clear hb h64
    go_enter Try.func53, Try.ntmps53
    go_wp2_with fail
    refine (hwd.out _).mono ?_; rintro e w1 ⟨rfl, rfl⟩
    go_wp2_with fail
    refine (hst.out _).mono ?_; rintro e w2 ⟨rfl, rfl⟩
    go_wp2_with fail
    go_ret
    exact ⟨rfl, rfl⟩

/-- The row that Bands fills: its first k bands are there. -/
def bdRow (s n k : Nat) : List Value := (List.range (n + 1)).map fun j => Value.int .u64 (if j < k then ((bdN s n j : Nat) : Int) else 0)
theorem bdRow_len (s n k : Nat) : (bdRow s n k).length = n + 1 := by unfold bdRow; simp
theorem bdRow_none (s n : Nat) : List.replicate (n + 1) (Value.int .u64 0) = bdRow s n 0 := by
  apply List.ext_getElem
  · rw [bdRow_len]; simp
  · intro j h1 h2; unfold bdRow; simp
theorem bdRow_get (s n k j : Nat) (hj : j < n + 1) : (bdRow s n k)[j]? = some (Value.int .u64 (if j < k then ((bdN s n j : Nat) : Int) else 0)) := by unfold bdRow; simp [hj]
theorem bdRow_set (s n k : Nat) (hk : k < n + 1) : (bdRow s n k).set k (.int .u64 (bdN s n k : Nat)) = bdRow s n (k + 1) := by
  apply List.ext_getElem?
  intro j
  rcases Nat.lt_or_ge j (n + 1) with hj | hj
  · rw [List.getElem?_set, bdRow_get _ _ _ _ hj, bdRow_get _ _ _ _ hj, bdRow_len]
    by_cases he : k = j
    · subst he; rw [if_pos rfl, if_pos hk, if_pos (Nat.lt_succ_self k)]
    · rw [if_neg he]
      congr 2
      by_cases h1 : j < k
      · rw [if_pos h1, if_pos (by omega)]
      · rw [if_neg h1, if_neg (by omega)]
  · rw [List.getElem?_eq_none (by rw [List.length_set, bdRow_len]; exact hj), List.getElem?_eq_none (by rw [bdRow_len]; exact hj)]
theorem bdRow_all (s n : Nat) : bdRow s n (n + 1) = ((List.range (n + 1)).map fun k => ((bdN s n k : Nat) : Int)).map (Value.int .u64) := by
  unfold bdRow
  rw [List.map_map]
  apply List.map_congr_left
  intro j hj
  rw [if_pos (List.mem_range.1 hj)]; rfl
theorem bandsB_nat (s : Int) {n : Nat} (hn : n < 16) : bandsB s n = (List.range (n + 1)).map fun k => ((bdN s.toNat n k : Nat) : Int) := by unfold bandsB; rw [if_pos (may_nat hn)]; rfl
theorem bandsB_len (s : Int) {n : Nat} (hn : n < 16) : (bandsB s n).length = n + 1 := by rw [bandsB_nat s hn]; simp
theorem bandsB_none {s d : Int} (h : ¬ mayB d = true) : bandsB s d = [] := by unfold bandsB; rw [if_neg h]
theorem bandsB_get (s : Int) {n k : Nat} (hn : n < 16) (hk : k ≤ n) : (bandsB s n).getD k 0 = ((bdN s.toNat n k : Nat) : Int) := by
  rw [bandsB_nat s hn]
  have : k < n + 1 := by omega
  simp [List.getD, this]
theorem bandsB_lenle (s d : Int) : (bandsB s d).length ≤ 16 := by
  by_cases h : mayB d = true
  · obtain ⟨n, rfl, hn⟩ := may_form h
    rw [bandsB_len s hn]; omega
  · rw [bandsB_none h]; simp

def BandsPost (s d : Int) (w : World) (e : Ending) (w' : World) : Prop := ∃ v, e = .returned v ∧ U64s w' w.heap.size v (bandsB s d) ∧ Below w.heap.size w w'

set_option maxHeartbeats 400000 in
theorem bands_any (s d : Int) (w : World) (s0 : 0 ≤ s) (s1 : s ≤ 18446744073709551615) : Calls Try.prog 28 #[.int .u64 s, .int .i64 d] w (BandsPost s d w) := by
  have hc := check_any d w
  by_cases hm : mayB d = true
  · rw [hm] at hc
    replace hc := Lib.hid hc
    obtain ⟨n, rfl, hn⟩ := may_form hm
    have hmk := run_make_row (P := Try.prog) 46 34 (.int .u64 0) 8 Try.underlying46 info_u64 rfl ((n : Int) + 1) (n + 1) (by omega) (by omega) (by omega)
    rw [bdRow_none s.toNat n] at hmk
    clear hm
    go_enter Try.func28, Try.ntmps28
    go_wp2_with fail
    refine hc.out.mono ?_; rintro e w' ⟨rfl, rfl⟩
    go_wp2_with fail
    have ha0 := Lib.hid (arrAt_new w 34 (bdRow s.toNat n 0))
    have hb0 := Lib.hid ((Below.refl w.heap.size w).alloc (Nat.le_refl _) (.cells (bdRow s.toNat n 0).toArray 34))
    clear hmk
    generalize w.alloc (.cells (bdRow s.toNat n 0).toArray 34) = w0 at ha0 hb0 ⊢
    go_loopw [6, 15] (fun _ i wr => ∃ k : Nat, k ≤ n + 1 ∧ i = .int .i64 k ∧ Hid (ArrAt wr w.heap.size 34 (bdRow s.toNat n k) ∧ Below w.heap.size w wr)) (fun _ i _ => n + 1 - (intOf i).toNat)
    case atStart => exact ⟨0, by omega, rfl, ha0.out, hb0.out⟩
    case round =>
      clear ha0 hb0
      obtain ⟨k, hk, rfl, hr⟩ := hrel
      by_cases hlt : k < n + 1
      · have ha := band_any s n k wr s0 s1
        rw [bandB_nat s hn (by omega)] at ha
        have hset := Lib.hid (bdRow_set s.toNat n k hlt)
        have hget := Lib.hid (bdRow_get s.toNat n k k hlt)
        generalize bdN s.toNat n k = x at ha hset hget
        replace ha := Lib.hid ha
        have hlt' : (k : Int) < (n : Int) + 1 := by omega
        go_wp2_with fail
        refine ha.out.mono ?_; rintro e w1 ⟨rfl, hd1⟩
        have ha1 := Lib.hid (hr.out.1.drawn hd1)
        have hb1 := Lib.hid (hr.out.2.trans (hd1.below _))
        have g1 : w1.cell? ⟨w.heap.size, k, none⟩ = some (.int .u64 0) := by rw [ha1.out.cell, hget.out, if_neg (Nat.lt_irrefl k)]
        have g2 := ha1.out.soft k
        clear hd1
        go_wp2_with fail
        exact ⟨⟨k + 1, by omega, by go_num, by rw [← hset.out]; exact ha1.out.set k _, hb1.out.setCell (p := ⟨w.heap.size, k, none⟩) (Nat.le_refl _) _⟩, by simp [intOf]; omega⟩
      · have hke : ¬ ((k : Int) < (n : Int) + 1) := by omega
        have hkk := Lib.hid (show k = n + 1 by omega)
        go_wp2_with fail
        go_ret
        refine ⟨_, rfl, ?_, hr.out.2⟩
        unfold U64s
        rw [bandsB_len s hn, bandsB_nat s hn, ← bdRow_all, ← hkk.out]
        exact hr.out.1.own (by rw [bdRow_len, hkk.out]) (Nat.le_refl _) (by unfold maxLen; omega)
  · rw [Bool.eq_false_iff.2 hm] at hc
    replace hc := Lib.hid hc
    have hr := Lib.hid (@bandsB_none s d hm)
    clear hm
    go_enter Try.func28, Try.ntmps28
    go_wp2_with fail
    refine hc.out.mono ?_; rintro e w' ⟨rfl, rfl⟩
    go_wp2_with fail
    go_ret
    exact ⟨_, rfl, by rw [hr.out]; exact World.ownsRow_nil _ _ _ _, Below.refl _ _⟩

set_option maxHeartbeats 400000 in
theorem refshared_any (a b d : Int) (w : World) (a0 : 0 ≤ a) (a1 : a ≤ 18446744073709551615) (b0 : 0 ≤ b) (b1 : b ≤ 18446744073709551615) : Calls Try.prog 38 #[.int .u64 a, .int .u64 b, .int .i64 d] w fun e w' => e = .returned (.bool (shareB a b d)) ∧ w = w' := by
  have hc := fun W => refcheck_any d W
  by_cases hm : mayB d = true
  · rw [hm] at hc
    replace hc := Lib.hid hc
    obtain ⟨n, rfl, hn⟩ := may_form hm
    have hr : shareB a b n = shTo a.toNat b.toNat n (n + 1) := by unfold shareB; rw [hm]; rfl
    rw [hr]
    clear hr hm
    go_enter Try.func38, Try.ntmps38
    go_wp2_with fail
    go_loopw [7] (fun i wr => ∃ k : Nat, k ≤ n + 1 ∧ i = .int .i64 k ∧ Hid (shTo a.toNat b.toNat n k = false ∧ w = wr)) (fun i _ => n + 1 - (intOf i).toNat)
    case atStart => exact ⟨0, by omega, rfl, rfl, rfl⟩
    case round =>
      obtain ⟨k, hk, rfl, hs⟩ := hrel
      by_cases hlt : k < n + 1
      · have ha := fun W => refband_any a n k W a0 a1
        have hb := fun W => refband_any b n k W b0 b1
        rw [bandB_nat a hn (by omega)] at ha
        rw [bandB_nat b hn (by omega)] at hb
        have hy := Lib.hid (@shTo_yes a.toNat b.toNat n k (n + 1) hlt)
        have hno := Lib.hid (@shTo_no a.toNat b.toNat n k hs.out.1)
        have hd := Lib.hid hs.out.2
        generalize bdN a.toNat n k = x at ha hy hno
        generalize bdN b.toNat n k = y at hb hy hno
        replace ha := Lib.hid ha
        replace hb := Lib.hid hb
        have hlt' : (k : Int) ≤ (n : Int) := by omega
        have hlt2 : k ≤ n := by omega
        by_cases he : x = y
        · go_wp2_with fail
          refine (hc.out _).mono ?_; rintro e w0 ⟨rfl, rfl⟩
          go_wp2_with fail
          refine (ha.out _).mono ?_; rintro e w1 ⟨rfl, rfl⟩
          go_wp2_with fail
          refine (hb.out _).mono ?_; rintro e w2 ⟨rfl, rfl⟩
          go_wp2_with fail
          go_ret
          exact ⟨ret_bool (hy.out he).symm, hd.out⟩
        · go_wp2_with fail
          refine (hc.out _).mono ?_; rintro e w0 ⟨rfl, rfl⟩
          go_wp2_with fail
          refine (ha.out _).mono ?_; rintro e w1 ⟨rfl, rfl⟩
          go_wp2_with fail
          refine (hb.out _).mono ?_; rintro e w2 ⟨rfl, rfl⟩
          go_wp2_with fail
          exact ⟨⟨k + 1, by omega, by go_num, hno.out he, hd.out⟩, by simp [intOf]; omega⟩
      · have hke : ¬ ((k : Int) ≤ (n : Int)) := by omega
        have hke2 : ¬ (k ≤ n) := by omega
        have hz := Lib.hid (show shTo a.toNat b.toNat n (n + 1) = false by rw [← show k = n + 1 by omega]; exact hs.out.1)
        go_wp2_with fail
        go_ret
        exact ⟨ret_bool hz.out.symm, hs.out.2⟩
  · rw [Bool.eq_false_iff.2 hm] at hc
    replace hc := Lib.hid hc
    have hr : shareB a b d = false := by unfold shareB; rw [Bool.eq_false_iff.2 hm]; rfl
    rw [hr]
    clear hr hm
    go_enter Try.func38, Try.ntmps38
    go_wp2_with fail
    go_loopw [7] (fun i wr => i = .int .i64 0 ∧ Hid (w = wr)) (fun _ _ => 0)
    case atStart => exact ⟨rfl, rfl⟩
    case round =>
      obtain ⟨rfl, hs⟩ := hrel
      by_cases h0 : 0 ≤ d
      · go_wp2_with fail
        refine (hc.out _).mono ?_; rintro e w0 ⟨rfl, rfl⟩
        go_wp2_with fail
        go_ret
        exact ⟨rfl, hs.out⟩
      · go_wp2_with fail
        go_ret
        exact ⟨rfl, hs.out⟩

end Go.Proofs.Ytgldlfgidmgmfaa
