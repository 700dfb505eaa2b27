/- Layer 10's small walks: Char, digit, letter; the program's and the reference's. -/
import Derived.Test.YtahjopajnckbaaaD10p
import Derived.Test.YtahjopajnckbaaaUd
namespace Go.Proofs.Ytahjopajnckbaaa
open Go.RowKit

theorem char_ret {r : Int} {b : Bool} (h : (r = 9 ∨ r = 10 ∨ r = 13 ∨ 32 ≤ r ∧ r ≤ 55295 ∨ 57344 ≤ r ∧ r ≤ 65533 ∨ 65536 ≤ r ∧ r ≤ 1114111) ↔ b = true) : Ending.returned (.bool b) = .returned (.bool (charB r)) := by
  rw [show charB r = b from by unfold charB; cases b <;> simp at h ⊢ <;> omega]

set_option maxHeartbeats 400000 in
theorem char_any (r : Int) (w : World) :
    Calls Try.prog 22 #[.int .i32 r] w fun e w' => e = .returned (.bool (charB r)) ∧ w = w' := by
  go_enter Try.func22, Try.ntmps22
  go_wp2
  all_goals go_ret
  all_goals refine ⟨char_ret ?_, rfl⟩
  all_goals simp only [Bool.or_eq_true, decide_eq_true_eq, beq_iff_eq, iff_true]
  all_goals omega

set_option maxHeartbeats 400000 in
theorem refchar_any (r : Int) (w : World) :
    Calls Try.prog 23 #[.int .i32 r] w fun e w' => e = .returned (.bool (charB r)) ∧ w = w' := by
  go_enter Try.func23, Try.ntmps23
  go_wp2
  all_goals go_ret
  all_goals refine ⟨char_ret ?_, rfl⟩
  all_goals simp only [Bool.or_eq_true, decide_eq_true_eq, beq_iff_eq, iff_true]
  all_goals omega

theorem dig_ret {k : IntKind} {c x : Int} (h : x = digN c) : Ending.returned (.int k x) = .returned (.int k (digN c)) := by rw [h]

set_option maxHeartbeats 400000 in
theorem digit_any (c : Int) (w : World) (h0 : 0 ≤ c) (h1 : c ≤ 255) :
    Calls Try.prog 53 #[.int .u8 c] w fun e w' => e = .returned (.int .i32 (digN c)) ∧ w = w' := by
  go_enter Try.func53, Try.ntmps53
  go_wp2
  all_goals go_ret
  all_goals refine ⟨dig_ret ?_, rfl⟩
  all_goals (unfold digN; repeat (first | rw [if_pos (by omega)] | rw [if_neg (by omega)]))
  all_goals omega

def digB (c b : Int) : Int := if b ≤ digN c then -1 else digN c
theorem digB_ret {k : IntKind} {c b x : Int} (h : x = digB c b) : Ending.returned (.int k x) = .returned (.int k (digB c b)) := by rw [h]

set_option maxHeartbeats 400000 in
theorem refdigit_any (c b : Int) (w : World) (h0 : 0 ≤ c) (h1 : c ≤ 255) (hb : 0 < b) :
    Calls Try.prog 45 #[.int .u8 c, .int .i64 b] w fun e w' => e = .returned (.int .i64 (digB c b)) ∧ w = w' := by
  go_enter Try.func45, Try.ntmps45
  go_wp2
  all_goals go_ret
  all_goals refine ⟨digB_ret ?_, rfl⟩
  all_goals (unfold digB digN; repeat (first | rw [if_pos (by omega)] | rw [if_neg (by omega)]))
  all_goals omega

def letN (c : Int) : Bool := decide (97 ≤ c ∧ c ≤ 122 ∨ 65 ≤ c ∧ c ≤ 90)
theorem letter_ret {c : Int} {b : Bool} (h : (97 ≤ c ∧ c ≤ 122 ∨ 65 ≤ c ∧ c ≤ 90) ↔ b = true) : Ending.returned (.bool b) = .returned (.bool (letN c)) := by
  rw [show letN c = b from by unfold letN; cases b <;> simp at h ⊢ <;> omega]

set_option maxHeartbeats 400000 in
theorem letter_any (c : Int) (w : World) :
    Calls Try.prog 28 #[.int .u8 c] w fun e w' => e = .returned (.bool (letN c)) ∧ w = w' := by
  go_enter Try.func28, Try.ntmps28
  go_wp2
  all_goals go_ret
  all_goals refine ⟨letter_ret ?_, rfl⟩
  all_goals simp only [Bool.or_eq_true, decide_eq_true_eq, iff_true, Bool.false_eq_true, iff_false]
  all_goals omega

end Go.Proofs.Ytahjopajnckbaaa
