/- Layer 10's small walks: Char, digit, letter; the program's and the reference's. -/
import Derived.Test.YtldnigkaagcciaaDoorD10p
import Derived.Test.YtldnigkaagcciaaDoorUd
namespace Go.Proofs.YtldnigkaagcciaaDoor
open Go.RowKit

theorem char_ret {r : Int} {b : Bool} (h : (r = 9 ∨ r = 10 ∨ r = 13 ∨ 32 ≤ r ∧ r ≤ 55295 ∨ 57344 ≤ r ∧ r ≤ 65533 ∨ 65536 ≤ r ∧ r ≤ 1114111) ↔ b = true) : Ending.returned (.bool b) = .returned (.bool (charB r)) := by
  rw [show charB r = b from by unfold charB; cases b <;> simp at h ⊢ <;> omega]

set_option maxHeartbeats 400000 in
theorem char_any (r : Int) (w : World) :
    Calls Tryd.prog 26 #[.int .i32 r] w fun e w' => e = .returned (.bool (charB r)) ∧ w = w' := by
  go_enter Tryd.func26, Tryd.ntmps26
  go_wp2
  all_goals go_ret
  all_goals refine ⟨char_ret ?_, rfl⟩
  all_goals simp only [Bool.or_eq_true, decide_eq_true_eq, beq_iff_eq, iff_true]
  all_goals omega

theorem dig_ret {k : IntKind} {c x : Int} (h : x = digN c) : Ending.returned (.int k x) = .returned (.int k (digN c)) := by rw [h]

set_option maxHeartbeats 400000 in
theorem digit_any (c : Int) (w : World) (h0 : 0 ≤ c) (h1 : c ≤ 255) :
    Calls Tryd.prog 77 #[.int .u8 c] w fun e w' => e = .returned (.int .i32 (digN c)) ∧ w = w' := by
  go_enter Tryd.func77, Tryd.ntmps77
  go_wp2
  all_goals go_ret
  all_goals refine ⟨dig_ret ?_, rfl⟩
  all_goals (unfold digN; repeat (first | rw [if_pos (by omega)] | rw [if_neg (by omega)]))
  all_goals omega

def digB (c b : Int) : Int := if b ≤ digN c then -1 else digN c
theorem digB_ret {k : IntKind} {c b x : Int} (h : x = digB c b) : Ending.returned (.int k x) = .returned (.int k (digB c b)) := by rw [h]

def letN (c : Int) : Bool := decide (97 ≤ c ∧ c ≤ 122 ∨ 65 ≤ c ∧ c ≤ 90)
theorem letter_ret {c : Int} {b : Bool} (h : (97 ≤ c ∧ c ≤ 122 ∨ 65 ≤ c ∧ c ≤ 90) ↔ b = true) : Ending.returned (.bool b) = .returned (.bool (letN c)) := by
  rw [show letN c = b from by unfold letN; cases b <;> simp at h ⊢ <;> omega]

end Go.Proofs.YtldnigkaagcciaaDoor
