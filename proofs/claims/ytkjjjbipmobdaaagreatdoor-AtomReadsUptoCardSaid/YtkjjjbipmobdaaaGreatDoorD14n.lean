/- Layer 14: the nodes of a document, plain; those of the law's own. -/
import Derived.Test.YtkjjjbipmobdaaaGreatDoorBR03
import Derived.Test.YtkjjjbipmobdaaaGreatDoorBR23
import Derived.Test.YtkjjjbipmobdaaaGreatDoorD14h
namespace Go.Proofs.YtkjjjbipmobdaaaGreatDoor
open Go.RowKit

/-- The nodes of a document: none, if it is bad. -/
def docN (dep : Int) (l : List UInt8) : List Nd := (buildB (tokR dep l).ts).getD []
def wake1 : List UInt8 := [60, 114, 115, 115, 62, 60, 99, 104, 97, 110, 110, 101, 108, 62, 60, 105, 116, 101, 109, 62, 60, 103, 117, 105, 100, 62, 103, 60, 47, 103, 117, 105, 100, 62, 60, 116, 105, 116, 108, 101, 62, 32, 65, 32, 38, 97, 109, 112, 59, 108, 116, 59, 32, 66, 32, 60, 47, 116, 105, 116, 108, 101, 62, 60, 112, 117, 98, 68, 97, 116, 101, 62, 50, 32, 74, 97, 110, 32, 48, 54, 32, 49, 48, 58, 48, 52, 32, 69, 83, 84, 60, 47, 112, 117, 98, 68, 97, 116, 101, 62, 60, 47, 105, 116, 101, 109, 62, 60, 47, 99, 104, 97, 110, 110, 101, 108, 62, 60, 47, 114, 115, 115, 62]
def wake2 : List UInt8 := [60, 114, 115, 115, 62, 60, 99, 104, 97, 110, 110, 101, 108, 62, 60, 105, 116, 101, 109, 47, 62, 60, 47, 99, 104, 97, 110, 110, 101, 108, 62, 60, 47, 114, 115, 115, 62]
def wake3 : List UInt8 := [60, 102, 101, 101, 100, 47, 62]
def wakeIt : It := ⟨[103], [65, 32, 60, 32, 66], [], [], 1136214240, true⟩
theorem wake_one : itsB (docN 30 wake1) r822C 5 50 = .its [wakeIt] := by kernel_rfl
theorem wake_two : itsB (docN 30 wake1) r822C 0 50 = .bad 6 := by kernel_rfl
theorem wake_three : itsB (docN 30 wake2) r822C 5 50 = .bad 7 := by kernel_rfl
theorem wake_four : itsB (docN 30 wake3) r822C 5 50 = .bad 5 := by kernel_rfl
theorem wake_sum : sumT (docN 30 wake1) ≤ 2000000 ∧ sumT (docN 30 wake2) ≤ 2000000 ∧ sumT (docN 30 wake3) ≤ 2000000 := by
  refine ⟨?_, ?_, ?_⟩ <;> exact of_decide_eq_true (by kernel_rfl)
theorem wake_len : (docN 30 wake1).length ≤ 1000 ∧ (docN 30 wake2).length ≤ 1000 ∧ (docN 30 wake3).length ≤ 1000 := by
  refine ⟨?_, ?_, ?_⟩ <;> exact of_decide_eq_true (by kernel_rfl)
theorem docN_len (dep : Int) (l : List UInt8) : (docN dep l).length ≤ 2 * l.length := by
  unfold docN
  have h1 := (tokR_len dep l).1
  cases hb : buildB (tokR dep l).ts with
  | none => simp
  | some nds =>
    have h2 := (buildB_tree hb).2.2.1
    have h3 : cntB (tokR dep l).ts ≤ (tokR dep l).ts.length := List.countP_le_length
    show nds.length ≤ _
    omega
theorem docN_sum (dep : Int) (l : List UInt8) : sumT (docN dep l) ≤ 4 * l.length := by
  unfold docN
  have h1 := (tokR_len dep l).2
  cases hb : buildB (tokR dep l).ts with
  | none => exact Nat.zero_le _
  | some nds =>
    have h2 := (buildB_tree hb).2.2.2.1
    show sumT nds ≤ _
    omega
end Go.Proofs.YtkjjjbipmobdaaaGreatDoor
