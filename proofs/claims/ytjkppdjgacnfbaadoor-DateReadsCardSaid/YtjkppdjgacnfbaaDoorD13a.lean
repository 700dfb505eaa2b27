/- Layer 13: years, months, days. -/
import Derived.Test.YtjkppdjgacnfbaaDoorBase
import Derived.Test.YtjkppdjgacnfbaaDoorD13p
namespace Go.Proofs.YtjkppdjgacnfbaaDoor
open Go.RowKit

theorem leap13_any (y : Int) (_h0 : -9223372036854775808 ≤ y) (_h1 : y ≤ 9223372036854775807) (w : World) : Calls Tryd.prog 24 #[.int .i64 y] w fun e w' => e = .returned (.bool (leapI y)) ∧ w = w' := by
  have e4 := tm_zero y 4
  have e100 : (y.tmod 100 != 0) = !decide (y % 100 = 0) := by rw [bne, tm_zero]
  have e400 := tm_zero y 400
  have hl : leapI y = (decide (y % 4 = 0) && (!decide (y % 100 = 0) || decide (y % 400 = 0))) := by simp [leapI]
  have i1 : y % 400 = 0 → y % 4 = 0 := by omega
  by_cases a4 : y % 4 = 0 <;> by_cases a1 : y % 100 = 0 <;> by_cases a2 : y % 400 = 0
  all_goals simp only [a4, a1, a2, decide_true, decide_false, Bool.not_true, Bool.not_false, Bool.and_true, Bool.and_false, Bool.or_true, Bool.or_false] at e4 e100 e400 hl
  all_goals (try (exact absurd (i1 a2) a4))
  all_goals rw [hl]
  all_goals clear hl i1 a4 a1 a2
  all_goals go_enter Tryd.func24, Tryd.ntmps24
  all_goals go_wp2_with fail
  all_goals go_ret
  all_goals exact ⟨rfl, rfl⟩
theorem refleap13_any (y : Int) (_h0 : -9223372036854775808 ≤ y) (_h1 : y ≤ 9223372036854775807) (w : World) : Calls Tryd.prog 25 #[.int .i64 y] w fun e w' => e = .returned (.bool (leapI y)) ∧ w = w' := by
  have e4 := tm_zero y 4
  have e100 : (y.tmod 100 != 0) = !decide (y % 100 = 0) := by rw [bne, tm_zero]
  have e400 := tm_zero y 400
  have hl : leapI y = (decide (y % 4 = 0) && (!decide (y % 100 = 0) || decide (y % 400 = 0))) := by simp [leapI]
  have i1 : y % 400 = 0 → y % 4 = 0 := by omega
  by_cases a4 : y % 4 = 0 <;> by_cases a1 : y % 100 = 0 <;> by_cases a2 : y % 400 = 0
  all_goals simp only [a4, a1, a2, decide_true, decide_false, Bool.not_true, Bool.not_false, Bool.and_true, Bool.and_false, Bool.or_true, Bool.or_false] at e4 e100 e400 hl
  all_goals (try (exact absurd (i1 a2) a4))
  all_goals rw [hl]
  all_goals clear hl i1 a4 a1 a2
  all_goals go_enter Tryd.func25, Tryd.ntmps25
  all_goals go_wp2_with fail
  all_goals go_ret
  all_goals exact ⟨rfl, rfl⟩
end Go.Proofs.YtjkppdjgacnfbaaDoor
