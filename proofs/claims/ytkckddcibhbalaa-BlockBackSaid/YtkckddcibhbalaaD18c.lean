/- The walks of crc's turn and Burst. -/
import Derived.Test.YtkckddcibhbalaaBy
import Derived.Test.YtkckddcibhbalaaD18a
namespace Go.Proofs.Ytkckddcibhbalaa
open Go.RowKit

/-- A row of bytes and, of what lies below it, nothing that has turned. -/
def RowOn (w0 : World) (g : Nat) (l : List UInt8) (w : World) : Prop := ByRow w g l ∧ Below w0.heap.size w0 w
theorem by_str {w : World} {g : Nat} {l : List UInt8} (h : ByRow w g l) (c : Nat) : (convert 41 9 (.slice (some ⟨g, 0, none⟩) l.length c)).run Try.prog w = .ok (.string ⟨l.toArray⟩) w := by
  have := run_str (P := Try.prog) w 41 9 5 Try.underlying41 Try.underlying5 Try.underlying9 (h.sl c)
  rw [nums_u8] at this
  exact this
theorem burstB_ahead (l : List UInt8) (p y : Int) (h : p < 0) : burstB l p y = l := burst_ahead _ _ _ h
theorem burstB_eq (l : List UInt8) (p y : Int) (h : 0 ≤ p) : burstB l p y = burstTo l p.toNat y.toNat 32 := by unfold burstB burst18; rw [if_neg (by omega)]
/-- One bit more of a burst, where it is to be turned. -/
theorem burst_step1 (l : List UInt8) (p y : Int) (k : Nat) (h0 : 0 ≤ y) (hq : y / 2 ^ k % 2 = 1) (P : Nat) (hP : P = p.toNat) :
    burstTo l p.toNat y.toNat (k + 1) = if P / 8 + (P % 8 + k) / 8 < (burstTo l p.toNat y.toNat k).length then flip18 (burstTo l p.toNat y.toNat k) (8 * (P / 8) + (P % 8 + k)) else burstTo l p.toNat y.toNat k := by
  subst hP
  rw [burstTo, bit_nat y k h0, decide_eq_true hq, burstTo_len, show 8 * (p.toNat / 8) + (p.toNat % 8 + k) = p.toNat + k by omega]
  by_cases h : p.toNat + k < 8 * l.length
  · rw [if_pos ⟨h, rfl⟩, if_pos (by omega)]
  · rw [if_neg (fun hh => h hh.1), if_neg (by omega)]
theorem burst_step0 (l : List UInt8) (p y : Int) (k : Nat) (h0 : 0 ≤ y) (hq : y / 2 ^ k % 2 = 0) : burstTo l p.toNat y.toNat (k + 1) = burstTo l p.toNat y.toNat k := by
  rw [burstTo, bit_nat y k h0, decide_eq_false (by omega), if_neg (by simp)]
end Go.Proofs.Ytkckddcibhbalaa
