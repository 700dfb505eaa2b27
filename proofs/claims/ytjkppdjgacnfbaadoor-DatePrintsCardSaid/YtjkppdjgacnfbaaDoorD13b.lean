/- Layer 13: a month's days; a year's first day. -/
import Derived.Test.YtjkppdjgacnfbaaDoorD13a
namespace Go.Proofs.YtjkppdjgacnfbaaDoor
open Go.RowKit

theorem lenI_31 {y m : Int} (h : m = 1 ∨ m = 3 ∨ m = 5 ∨ m = 7 ∨ m = 8 ∨ m = 10 ∨ m = 12) : lenI y m = 31 := by unfold lenI; rw [if_pos h]
theorem lenI_30 {y m : Int} (h : m = 4 ∨ m = 6 ∨ m = 9 ∨ m = 11) : lenI y m = 30 := by unfold lenI; rw [if_neg (by omega), if_pos h]
theorem lenI_feb (y : Int) : lenI y 2 = if leapI y then 29 else 28 := by unfold lenI; rw [if_neg (by omega), if_neg (by omega), if_pos rfl]
theorem lenI_none {y m : Int} (h : ¬ (m = 1 ∨ m = 3 ∨ m = 5 ∨ m = 7 ∨ m = 8 ∨ m = 10 ∨ m = 12)) (h2 : ¬ (m = 4 ∨ m = 6 ∨ m = 9 ∨ m = 11)) (h3 : m ≠ 2) : lenI y m = 0 := by unfold lenI; rw [if_neg h, if_neg h2, if_neg h3]

theorem length13_any (y m : Int) (h0 : -9223372036854775808 ≤ y) (h1 : y ≤ 9223372036854775807) (w : World) : Calls Tryd.prog 26 #[.int .i64 y, .int .i64 m] w fun e w' => e = .returned (.int .i64 (lenI y m)) ∧ w = w' := by
  by_cases c1 : m = 1 ∨ m = 3 ∨ m = 5 ∨ m = 7 ∨ m = 8 ∨ m = 10 ∨ m = 12
  · rw [lenI_31 c1]
    rcases c1 with rfl | rfl | rfl | rfl | rfl | rfl | rfl
    all_goals go_enter Tryd.func26, Tryd.ntmps26
    all_goals go_wp2_with fail
    all_goals go_ret
    all_goals exact ⟨rfl, rfl⟩
  by_cases c2 : m = 4 ∨ m = 6 ∨ m = 9 ∨ m = 11
  · rw [lenI_30 c2]
    rcases c2 with rfl | rfl | rfl | rfl
    all_goals clear c1
    all_goals go_enter Tryd.func26, Tryd.ntmps26
    all_goals go_wp2_with fail
    all_goals go_ret
    all_goals exact ⟨rfl, rfl⟩
  by_cases c3 : m = 2
  · subst c3
    clear c1 c2
    have hc := fun W : World => leap13_any y h0 h1 W
    cases hl : leapI y
    · rw [lenI_feb, hl]
      rw [hl] at hc
      clear hl
      go_enter Tryd.func26, Tryd.ntmps26
      go_wp2_with (go_at_call 24; refine (hc _).mono ?_; rintro e w1 ⟨rfl, rfl⟩)
      go_ret
      exact ⟨rfl, rfl⟩
    · rw [lenI_feb, hl]
      rw [hl] at hc
      clear hl
      go_enter Tryd.func26, Tryd.ntmps26
      go_wp2_with (go_at_call 24; refine (hc _).mono ?_; rintro e w1 ⟨rfl, rfl⟩)
      go_ret
      exact ⟨rfl, rfl⟩
  · rw [lenI_none c1 c2 c3]
    have f1 : (m == 1) = false := by rw [beq_eq_false_iff_ne]; omega
    have f2 : (m == 2) = false := by rw [beq_eq_false_iff_ne]; omega
    have f3 : (m == 3) = false := by rw [beq_eq_false_iff_ne]; omega
    have f4 : (m == 4) = false := by rw [beq_eq_false_iff_ne]; omega
    have f5 : (m == 5) = false := by rw [beq_eq_false_iff_ne]; omega
    have f6 : (m == 6) = false := by rw [beq_eq_false_iff_ne]; omega
    have f7 : (m == 7) = false := by rw [beq_eq_false_iff_ne]; omega
    have f8 : (m == 8) = false := by rw [beq_eq_false_iff_ne]; omega
    have f9 : (m == 9) = false := by rw [beq_eq_false_iff_ne]; omega
    have f10 : (m == 10) = false := by rw [beq_eq_false_iff_ne]; omega
    have f11 : (m == 11) = false := by rw [beq_eq_false_iff_ne]; omega
    have f12 : (m == 12) = false := by rw [beq_eq_false_iff_ne]; omega
    clear c1 c2 c3
    go_enter Tryd.func26, Tryd.ntmps26
    go_wp2_with fail
    go_ret
    exact ⟨rfl, rfl⟩
theorem reflength13_any (y m : Int) (h0 : -9223372036854775808 ≤ y) (h1 : y ≤ 9223372036854775807) (w : World) : Calls Tryd.prog 27 #[.int .i64 y, .int .i64 m] w fun e w' => e = .returned (.int .i64 (lenI y m)) ∧ w = w' := by
  by_cases c1 : m = 1 ∨ m = 3 ∨ m = 5 ∨ m = 7 ∨ m = 8 ∨ m = 10 ∨ m = 12
  · rw [lenI_31 c1]
    rcases c1 with rfl | rfl | rfl | rfl | rfl | rfl | rfl
    all_goals go_enter Tryd.func27, Tryd.ntmps27
    all_goals go_wp2_with fail
    all_goals go_ret
    all_goals exact ⟨rfl, rfl⟩
  by_cases c2 : m = 4 ∨ m = 6 ∨ m = 9 ∨ m = 11
  · rw [lenI_30 c2]
    rcases c2 with rfl | rfl | rfl | rfl
    all_goals clear c1
    all_goals go_enter Tryd.func27, Tryd.ntmps27
    all_goals go_wp2_with fail
    all_goals go_ret
    all_goals exact ⟨rfl, rfl⟩
  by_cases c3 : m = 2
  · subst c3
    clear c1 c2
    have hc := fun W : World => refleap13_any y h0 h1 W
    cases hl : leapI y
    · rw [lenI_feb, hl]
      rw [hl] at hc
      clear hl
      go_enter Tryd.func27, Tryd.ntmps27
      go_wp2_with (go_at_call 25; refine (hc _).mono ?_; rintro e w1 ⟨rfl, rfl⟩)
      go_ret
      exact ⟨rfl, rfl⟩
    · rw [lenI_feb, hl]
      rw [hl] at hc
      clear hl
      go_enter Tryd.func27, Tryd.ntmps27
      go_wp2_with (go_at_call 25; refine (hc _).mono ?_; rintro e w1 ⟨rfl, rfl⟩)
      go_ret
      exact ⟨rfl, rfl⟩
  · rw [lenI_none c1 c2 c3]
    have f1 : (m == 1) = false := by rw [beq_eq_false_iff_ne]; omega
    have f2 : (m == 2) = false := by rw [beq_eq_false_iff_ne]; omega
    have f3 : (m == 3) = false := by rw [beq_eq_false_iff_ne]; omega
    have f4 : (m == 4) = false := by rw [beq_eq_false_iff_ne]; omega
    have f5 : (m == 5) = false := by rw [beq_eq_false_iff_ne]; omega
    have f6 : (m == 6) = false := by rw [beq_eq_false_iff_ne]; omega
    have f7 : (m == 7) = false := by rw [beq_eq_false_iff_ne]; omega
    have f8 : (m == 8) = false := by rw [beq_eq_false_iff_ne]; omega
    have f9 : (m == 9) = false := by rw [beq_eq_false_iff_ne]; omega
    have f10 : (m == 10) = false := by rw [beq_eq_false_iff_ne]; omega
    have f11 : (m == 11) = false := by rw [beq_eq_false_iff_ne]; omega
    have f12 : (m == 12) = false := by rw [beq_eq_false_iff_ne]; omega
    clear c1 c2 c3
    go_enter Tryd.func27, Tryd.ntmps27
    go_wp2_with fail
    go_ret
    exact ⟨rfl, rfl⟩
theorem leaps13_any (y : Nat) (h1 : y ≤ 100000) (w : World) : Calls Tryd.prog 59 #[.int .i64 y] w fun e w' => e = .returned (.int .i64 (lpN y)) ∧ w = w' := by
  have hq := lpN_int y
  have q4 : ((y : Int).tdiv 4) = (y : Int) / 4 := Int.tdiv_eq_ediv_of_nonneg (by omega)
  have q100 : ((y : Int).tdiv 100) = (y : Int) / 100 := Int.tdiv_eq_ediv_of_nonneg (by omega)
  have q400 : ((y : Int).tdiv 400) = (y : Int) / 400 := Int.tdiv_eq_ediv_of_nonneg (by omega)
  replace hq := Lib.hid hq
  go_enter Tryd.func59, Tryd.ntmps59
  go_wp2_with fail
  go_ret
  exact ⟨ret_int (by have := hq.out; omega), rfl⟩
theorem lpN_1969 : lpN 1969 = 477 := by decide
theorem newYear13_any (y : Nat) (h0 : 1970 ≤ y) (h1 : y ≤ 10000) (w : World) : Calls Tryd.prog 54 #[.int .i64 y] w fun e w' => e = .returned (.int .i64 (nyN y)) ∧ w = w' := by
  have hc := fun W : World => leaps13_any (y - 1) (by omega) W
  have hd := fun W : World => leaps13_any 1969 (by omega) W
  rw [show ((y - 1 : Nat) : Int) = (y : Int) - 1 by omega] at hc
  rw [lpN_1969] at hd
  have hn := nyN_int h0
  have hb : lpN (y - 1) ≤ 100000 := by unfold lpN; omega
  generalize lpN (y - 1) = L at *
  generalize nyN y = M at *
  replace hn := Lib.hid hn
  go_enter Tryd.func54, Tryd.ntmps54
  go_wp2_with fail
  refine (hc _).mono ?_; rintro e w1 ⟨rfl, rfl⟩
  go_wp2_with fail
  refine (hd _).mono ?_; rintro e w1 ⟨rfl, rfl⟩
  go_wp2_with fail
  go_ret
  exact ⟨ret_int (by have := hn.out; omega), rfl⟩
end Go.Proofs.YtjkppdjgacnfbaaDoor
