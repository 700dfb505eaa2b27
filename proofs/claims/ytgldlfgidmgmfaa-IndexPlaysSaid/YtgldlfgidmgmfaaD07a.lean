/- The walks of layer 7's Check, Width and Start, and the reference's. -/
import Derived.Test.YtgldlfgidmgmfaaBase
import Derived.Test.YtgldlfgidmgmfaaD07p
namespace Go.Proofs.Ytgldlfgidmgmfaa
open Go.RowKit

theorem check_any (d : Int) (w : World) : Calls Try.prog 25 #[.int .i64 d] w fun e w' => e = .returned (.bool (mayB d)) ∧ w = w' := by
  by_cases h0 : 0 ≤ d
  · go_enter Try.func25, Try.ntmps25
    go_wp2_with fail
    go_ret
    exact ⟨ret_bool (by unfold mayB; simp [h0]), rfl⟩
  · go_enter Try.func25, Try.ntmps25
    go_wp2_with fail
    go_ret
    exact ⟨ret_bool (by unfold mayB; rw [decide_eq_false (show ¬ 0 ≤ d by omega)]; rfl), rfl⟩
theorem refcheck_any (d : Int) (w : World) : Calls Try.prog 26 #[.int .i64 d] w fun e w' => e = .returned (.bool (mayB d)) ∧ w = w' := by
  by_cases h0 : 0 ≤ d
  · go_enter Try.func26, Try.ntmps26
    go_wp2_with fail
    go_ret
    exact ⟨ret_bool (by unfold mayB; simp [h0]), rfl⟩
  · go_enter Try.func26, Try.ntmps26
    go_wp2_with fail
    go_ret
    exact ⟨ret_bool (by unfold mayB; rw [decide_eq_false (show ¬ 0 ≤ d by omega)]; rfl), rfl⟩

theorem there_any (d i : Int) (w : World) : Calls Try.prog 77 #[.int .i64 d, .int .i64 i] w fun e w' => e = .returned (.bool (hereB d i)) ∧ w = w' := by
  have hc := Lib.hid (check_any d w)
  have hh : hereB d i = (mayB d && decide (0 ≤ i) && decide (i ≤ d)) := rfl
  generalize hereB d i = z at hh ⊢
  replace hh := Lib.hid hh
  generalize mayB d = m at hc hh
  by_cases h0 : 0 ≤ i
  all_goals by_cases h1 : i ≤ d
  all_goals cases m
  all_goals
    go_enter Try.func77, Try.ntmps77
    go_wp2_with fail
    refine hc.out.mono ?_; rintro e w' ⟨rfl, rfl⟩
    go_wp2_with fail
    go_ret
    exact ⟨ret_bool (by rw [hh.out]; simp [h0, h1]), rfl⟩

theorem cut_any (n : Nat) (hn : n < 16) (w : World) : Calls Try.prog 78 #[.int .i64 n] w fun e w' => e = .returned (.tuple #[.int .i64 (64 / (n + 1) : Nat), .int .i64 (64 % (n + 1) : Nat)]) ∧ Drawn w w' := by
  have hq : ((64 : Int).tdiv (n + 1)) = ((64 / (n + 1) : Nat) : Int) := by rw [Int.tdiv_eq_ediv_of_nonneg (by omega)]; simp
  have hr : ((64 : Int).tmod (n + 1)) = ((64 % (n + 1) : Nat) : Int) := by rw [Int.tmod_eq_emod_of_nonneg (by omega)]; simp
  have hq1 : 64 / (n + 1) ≤ 64 := Nat.div_le_self _ _
  have hr1 : 64 % (n + 1) ≤ 64 := Nat.mod_le _ _
  generalize 64 / (n + 1) = q at hq hq1 ⊢
  generalize 64 % (n + 1) = r at hr hr1 ⊢
  go_enter Try.func78, Try.ntmps78
  go_wp2_with fail
  go_quiet (fail)
  go_wp2_with fail
  exact bodyPost_ret (v := .tuple #[.int .i64 q, .int .i64 r]) (by simp [results, Try.results78, go_sem]) rfl ⟨rfl, ⟨nq, rfl⟩⟩

theorem width_any (d i : Int) (w : World) : Calls Try.prog 54 #[.int .i64 d, .int .i64 i] w fun e w' => e = .returned (.int .i64 (widB d i)) ∧ Drawn w w' := by
  by_cases h : hereB d i = true
  · obtain ⟨n, k, rfl, rfl, hn, hk⟩ := here_form h
    have ht := there_any n k w
    rw [h] at ht
    replace ht := Lib.hid ht
    have hc := cut_any n hn w
    rw [widB_nat hn hk]
    unfold wdN
    have hq1 : 64 / (n + 1) ≤ 64 := Nat.div_le_self _ _
    have hr1 : 64 % (n + 1) ≤ 64 := Nat.mod_le _ _
    generalize 64 / (n + 1) = q at hc hq1 ⊢
    generalize 64 % (n + 1) = r at hc hr1 ⊢
    replace hc := Lib.hid hc
    clear h
    by_cases hlt : k < r
    · rw [if_pos hlt]
      go_enter Try.func54, Try.ntmps54
      go_wp2_with fail
      refine ht.out.mono ?_; rintro e w' ⟨rfl, rfl⟩
      go_wp2_with fail
      refine hc.out.mono ?_; rintro e w' ⟨rfl, hd⟩
      go_wp2_with fail
      go_ret
      exact ⟨ret_int (by omega), hd⟩
    · rw [if_neg hlt]
      go_enter Try.func54, Try.ntmps54
      go_wp2_with fail
      refine ht.out.mono ?_; rintro e w' ⟨rfl, rfl⟩
      go_wp2_with fail
      refine hc.out.mono ?_; rintro e w' ⟨rfl, hd⟩
      go_wp2_with fail
      go_ret
      exact ⟨rfl, hd⟩
  · have ht := there_any d i w
    rw [Bool.eq_false_iff.2 h] at ht
    replace ht := Lib.hid ht
    rw [widB_none h]
    clear h
    go_enter Try.func54, Try.ntmps54
    go_wp2_with fail
    refine ht.out.mono ?_; rintro e w' ⟨rfl, rfl⟩
    go_wp2_with fail
    go_ret
    exact ⟨rfl, Drawn.refl _⟩

theorem start_any (d i : Int) (w : World) : Calls Try.prog 55 #[.int .i64 d, .int .i64 i] w fun e w' => e = .returned (.int .i64 (begB d i)) ∧ Drawn w w' := by
  by_cases h : hereB d i = true
  · obtain ⟨n, k, rfl, rfl, hn, hk⟩ := here_form h
    have ht := there_any n k w
    rw [h] at ht
    replace ht := Lib.hid ht
    have hc := cut_any n hn w
    rw [begB_nat hn hk]
    unfold stN
    have hq1 : 64 / (n + 1) ≤ 64 := Nat.div_le_self _ _
    have hr1 : 64 % (n + 1) ≤ 64 := Nat.mod_le _ _
    generalize 64 / (n + 1) = q at hc hq1 ⊢
    generalize 64 % (n + 1) = r at hc hr1 ⊢
    replace hc := Lib.hid hc
    have hm1 : k * q ≤ 16 * 64 := Nat.mul_le_mul (by omega) hq1
    have hm2 : (k : Int) * q = ((k * q : Nat) : Int) := by simp
    have hm3 : min (k : Int) r = ((min k r : Nat) : Int) := by omega
    generalize k * q = m at hm1 hm2 ⊢
    clear h
    by_cases hlt : k ≤ r
    · go_enter Try.func55, Try.ntmps55
      go_wp2_with fail
      refine ht.out.mono ?_; rintro e w' ⟨rfl, rfl⟩
      go_wp2_with fail
      refine hc.out.mono ?_; rintro e w' ⟨rfl, hd⟩
      go_wp2_with fail
      go_ret
      exact ⟨ret_int (by omega), hd⟩
    · go_enter Try.func55, Try.ntmps55
      go_wp2_with fail
      refine ht.out.mono ?_; rintro e w' ⟨rfl, rfl⟩
      go_wp2_with fail
      refine hc.out.mono ?_; rintro e w' ⟨rfl, hd⟩
      go_wp2_with fail
      go_ret
      exact ⟨ret_int (by omega), hd⟩
  · have ht := there_any d i w
    rw [Bool.eq_false_iff.2 h] at ht
    replace ht := Lib.hid ht
    rw [begB_none h]
    clear h
    go_enter Try.func55, Try.ntmps55
    go_wp2_with fail
    refine ht.out.mono ?_; rintro e w' ⟨rfl, rfl⟩
    go_wp2_with fail
    go_ret
    exact ⟨rfl, Drawn.refl _⟩

theorem refwidth_any (d i : Int) (w : World) : Calls Try.prog 75 #[.int .i64 d, .int .i64 i] w fun e w' => e = .returned (.int .i64 (widB d i)) ∧ w = w' := by
  by_cases h : hereB d i = true
  · obtain ⟨n, k, rfl, rfl, hn, hk⟩ := here_form h
    have ht := refcheck_any n w
    rw [may_nat hn] at ht
    replace ht := Lib.hid ht
    rw [widB_nat hn hk]
    unfold wdN
    have hq : ((64 : Int).tdiv (n + 1)) = ((64 / (n + 1) : Nat) : Int) := by rw [Int.tdiv_eq_ediv_of_nonneg (by omega)]; simp
    have hr : ((64 : Int).tmod (n + 1)) = ((64 % (n + 1) : Nat) : Int) := by rw [Int.tmod_eq_emod_of_nonneg (by omega)]; simp
    have hq1 : 64 / (n + 1) ≤ 64 := Nat.div_le_self _ _
    have hr1 : 64 % (n + 1) ≤ 64 := Nat.mod_le _ _
    generalize 64 / (n + 1) = q at hq hq1 ⊢
    generalize 64 % (n + 1) = r at hr hr1 ⊢
    clear h
    by_cases hlt : k < r
    · rw [if_pos hlt]
      go_enter Try.func75, Try.ntmps75
      go_wp2_with fail
      refine ht.out.mono ?_; rintro e w' ⟨rfl, rfl⟩
      go_wp2_with fail
      go_ret
      exact ⟨ret_int (by omega), rfl⟩
    · rw [if_neg hlt]
      go_enter Try.func75, Try.ntmps75
      go_wp2_with fail
      refine ht.out.mono ?_; rintro e w' ⟨rfl, rfl⟩
      go_wp2_with fail
      go_ret
      exact ⟨rfl, rfl⟩
  · have hc := refcheck_any d w
    rw [widB_none h]
    by_cases hm : mayB d = true
    · rw [hm] at hc
      replace hc := Lib.hid hc
      have hi : i < 0 ∨ 0 ≤ i ∧ d < i := by
        have := mayB_iff.1 hm
        rcases Int.lt_or_le i 0 with h0 | h0
        · exact Or.inl h0
        · refine Or.inr ⟨h0, ?_⟩
          rcases Int.lt_or_le d i with h1 | h1
          · exact h1
          · exact absurd (hereB_iff.2 ⟨this, h0, h1⟩) h
      clear h hm
      rcases hi with hi | ⟨hi, hi2⟩
      all_goals
        go_enter Try.func75, Try.ntmps75
        go_wp2_with fail
        refine hc.out.mono ?_; rintro e w' ⟨rfl, rfl⟩
        go_wp2_with fail
        go_ret
        exact ⟨rfl, rfl⟩
    · rw [Bool.eq_false_iff.2 hm] at hc
      replace hc := Lib.hid hc
      clear h hm
      go_enter Try.func75, Try.ntmps75
      go_wp2_with fail
      refine hc.out.mono ?_; rintro e w' ⟨rfl, rfl⟩
      go_wp2_with fail
      go_ret
      exact ⟨rfl, rfl⟩

set_option maxHeartbeats 400000 in
theorem refstart_any (d i : Int) (w : World) : Calls Try.prog 76 #[.int .i64 d, .int .i64 i] w fun e w' => e = .returned (.int .i64 (begB d i)) ∧ w = w' := by
  by_cases h : hereB d i = true
  · obtain ⟨n, k, rfl, rfl, hn, hk⟩ := here_form h
    have ht := refcheck_any n w
    rw [may_nat hn] at ht
    replace ht := Lib.hid ht
    rw [begB_nat hn hk]
    have g1 : ¬ ((k : Int) < 0) := by omega
    have g2 : ¬ n < k := by omega
    clear h
    go_enter Try.func76, Try.ntmps76
    go_wp2_with fail
    refine ht.out.mono ?_; rintro e w' ⟨rfl, rfl⟩
    go_wp2_with fail
    go_loopw [5, 6] (fun m j wr => ∃ l : Nat, l ≤ k ∧ j = .int .i64 l ∧ m = .int .i64 (stN n l : Nat) ∧ Hid (w = wr)) (fun _ j _ => k - (intOf j).toNat)
    case atStart => exact ⟨0, by omega, rfl, by rw [st_zero]; rfl, rfl⟩
    case round =>
      obtain ⟨l, hl, rfl, rfl, hwr⟩ := hrel
      by_cases hlt : l < k
      · have hs := Lib.hid (show ((stN n l : Nat) : Int) + (wdN n l : Nat) = (stN n (l + 1) : Nat) by have := @st_next n l hn (by omega); omega)
        have hle := @st_le n l hn (by omega)
        have hw := refwidth_any n l wr
        rw [widB_nat hn (by omega)] at hw
        replace hw := Lib.hid hw
        generalize stN n l = a at hs hle ⊢
        generalize wdN n l = b at hs hle hw
        go_wp2_with fail
        refine hw.out.mono ?_; rintro e w' ⟨rfl, rfl⟩
        go_wp2_with fail
        exact ⟨⟨l + 1, by omega, by go_num, by rw [hs.out], hwr⟩, by simp [intOf]; omega⟩
      · have hke : ¬ ((l : Int) < k) := by omega
        have he := Lib.hid (show stN n l = stN n k by rw [show l = k by omega])
        generalize stN n l = a at he ⊢
        go_wp2_with fail
        go_ret
        exact ⟨ret_int (by rw [he.out]), hwr.out⟩
  · have hc := refcheck_any d w
    rw [begB_none h]
    by_cases hm : mayB d = true
    · rw [hm] at hc
      replace hc := Lib.hid hc
      have hi : i < 0 ∨ 0 ≤ i ∧ d < i := by
        have := mayB_iff.1 hm
        rcases Int.lt_or_le i 0 with h0 | h0
        · exact Or.inl h0
        · refine Or.inr ⟨h0, ?_⟩
          rcases Int.lt_or_le d i with h1 | h1
          · exact h1
          · exact absurd (hereB_iff.2 ⟨this, h0, h1⟩) h
      clear h hm
      rcases hi with hi | ⟨hi, hi2⟩
      all_goals
        go_enter Try.func76, Try.ntmps76
        go_wp2_with fail
        refine hc.out.mono ?_; rintro e w' ⟨rfl, rfl⟩
        go_wp2_with fail
        go_ret
        exact ⟨rfl, rfl⟩
    · rw [Bool.eq_false_iff.2 hm] at hc
      replace hc := Lib.hid hc
      clear h hm
      go_enter Try.func76, Try.ntmps76
      go_wp2_with fail
      refine hc.out.mono ?_; rintro e w' ⟨rfl, rfl⟩
      go_wp2_with fail
      go_ret
      exact ⟨rfl, rfl⟩
end Go.Proofs.Ytgldlfgidmgmfaa
