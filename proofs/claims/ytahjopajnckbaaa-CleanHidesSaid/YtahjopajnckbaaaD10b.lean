/- Layer 10's small walks: opens, blank. -/
import Derived.Test.YtahjopajnckbaaaD10a
namespace Go.Proofs.Ytahjopajnckbaaa
open Go.RowKit

theorem opens_ret {l : List UInt8} {b : Bool} (hl : 2 ≤ l.length) (h : (bt l 0 = 60 ∧ (97 ≤ bt l 1 ∧ bt l 1 ≤ 122 ∨ 65 ≤ bt l 1 ∧ bt l 1 ≤ 90 ∨ bt l 1 = 47 ∨ bt l 1 = 33 ∨ bt l 1 = 63)) ↔ b = true) :
    Ending.returned (.bool b) = .returned (.bool (opensB l)) := by
  rw [show opensB l = b from by
    unfold opensB markN
    rw [Bool.eq_iff_iff, ← h]
    simp only [Bool.and_eq_true, decide_eq_true_eq, beq_iff_eq]
    omega]

set_option maxHeartbeats 400000 in
theorem opens_any (l : List UInt8) (w : World) (hl : 2 ≤ l.length) :
    Calls Try.prog 26 #[.string ⟨l.toArray⟩] w fun e w' => e = .returned (.bool (opensB l)) ∧ w = w' := by
  have hb := bt_lt l 0
  have hc := bt_lt l 1
  by_cases h0 : bt l 0 = 60
  case neg =>
    have h0b : (bt l 0 != 60) = true := by rw [bne_iff_ne]; exact h0
    have hn := h0
    replace hn := Lib.hid hn
    clear h0
    go_enter Try.func26, Try.ntmps26
    go_wp2_with fail
    go_ret
    exact ⟨opens_ret hl ⟨fun h => absurd h.1 hn.out, fun h => by simp at h⟩, rfl⟩
  go_enter Try.func26, Try.ntmps26
  go_wp2
  all_goals go_ret
  all_goals refine ⟨opens_ret hl ?_, rfl⟩
  all_goals simp only [Bool.or_eq_true, decide_eq_true_eq, beq_iff_eq, iff_true]
  all_goals omega

theorem blankN_ret {l : List UInt8} {n : Int} (h : n = (if bt l 0 = 32 ∨ 9 ≤ bt l 0 ∧ bt l 0 ≤ 13 then 1 else if 2 ≤ l.length ∧ bt l 0 = 194 ∧ bt l 1 = 160 then 2 else 0)) : Ending.returned (.int .i64 n) = .returned (.int .i64 (blankN l)) := by
  rw [h]; unfold blankN
  split
  · rfl
  · split <;> rfl

set_option maxHeartbeats 400000 in
theorem refblank_any (l : List UInt8) (k : Nat) (w : World) (hk : k < l.length) (hl : l.length ≤ 100000) :
    Calls Try.prog 32 #[.string ⟨l.toArray⟩, .int .i64 k] w fun e w' => e = .returned (.int .i64 (blankN (l.drop k))) ∧ w = w' := by
  have hb := bt_lt l k
  have hc := bt_lt l (k + 1)
  go_enter Try.func32, Try.ntmps32
  go_wp2
  all_goals go_ret
  all_goals refine ⟨blankN_ret ?_, rfl⟩
  all_goals rw [bt_drop, bt_drop, List.length_drop, Nat.add_zero]
  all_goals try simp only [beq_iff_eq, beq_eq_false_iff_ne, ne_eq] at *
  all_goals (repeat (first | rw [if_pos (by omega)] | rw [if_neg (by omega)]))
end Go.Proofs.Ytahjopajnckbaaa
