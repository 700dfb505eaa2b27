/- Layer 10's small walks: opens, blank. -/
import Derived.Test.YtldnigkaagcciaaDoorD10a
namespace Go.Proofs.YtldnigkaagcciaaDoor
open Go.RowKit

theorem opens_ret {l : List UInt8} {b : Bool} (hl : 2 ≤ l.length) (h : (bt l 0 = 60 ∧ (97 ≤ bt l 1 ∧ bt l 1 ≤ 122 ∨ 65 ≤ bt l 1 ∧ bt l 1 ≤ 90 ∨ bt l 1 = 47 ∨ bt l 1 = 33 ∨ bt l 1 = 63)) ↔ b = true) :
    Ending.returned (.bool b) = .returned (.bool (opensB l)) := by
  rw [show opensB l = b from by
    unfold opensB markN
    rw [Bool.eq_iff_iff, ← h]
    simp only [Bool.and_eq_true, decide_eq_true_eq, beq_iff_eq]
    omega]

theorem blankN_ret {l : List UInt8} {n : Int} (h : n = (if bt l 0 = 32 ∨ 9 ≤ bt l 0 ∧ bt l 0 ≤ 13 then 1 else if 2 ≤ l.length ∧ bt l 0 = 194 ∧ bt l 1 = 160 then 2 else 0)) : Ending.returned (.int .i64 n) = .returned (.int .i64 (blankN l)) := by
  rw [h]; unfold blankN
  split
  · rfl
  · split <;> rfl

end Go.Proofs.YtldnigkaagcciaaDoor
