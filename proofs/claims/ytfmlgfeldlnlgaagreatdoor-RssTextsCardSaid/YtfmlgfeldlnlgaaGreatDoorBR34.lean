/- Layer 13, the reference: Rfc3339 (printed by wip/tools/gen_3339r.py). -/
import Derived.Test.YtfmlgfeldlnlgaaGreatDoorBR33
namespace Go.Proofs.YtfmlgfeldlnlgaaGreatDoor
open Go.RowKit

def fracR (s : List UInt8) : List UInt8 := if decide (1 < s.length) && decide (bt s 0 = 46) && decide (48 ≤ bt s 1) && decide (bt s 1 ≤ 57) then s.tail.drop (aheadL s.tail) else s
def r3339R4 (y m d n : Nat) (z : Int × Bool) : Int × Bool := if z.2 then wholeR y m d n z.1 else (0, false)
def r3339R3 (y m d n : Nat) (s : List UInt8) : Int × Bool := if s == [90] || s == [122] then wholeR y m d n 0 else r3339R4 y m d n (offR s [58])
def r3339R2 (y m d : Nat) (n : Nat × List UInt8 × Bool) : Int × Bool := if n.2.2 then r3339R3 y m d n.1 (fracR n.2.1) else (0, false)
def r3339R1 (y m d : Nat × List UInt8 × Bool) (a b : Bool) : Int × Bool :=
  if y.2.2 && a && m.2.2 && b && d.2.2 && !d.2.1.isEmpty && (decide (bt d.2.1 0 = 84) || decide (bt d.2.1 0 = 116) || decide (bt d.2.1 0 = 32)) then r3339R2 y.1 m.1 d.1 (clkR d.2.1.tail false) else (0, false)
def r3339Rb (y m : Nat × List UInt8 × Bool) (a : Bool) (b : List UInt8 × Bool) : Int × Bool := r3339R1 y m (digR 2 b.1) a b.2
def r3339Rm (y : Nat × List UInt8 × Bool) (a : Bool) (m : Nat × List UInt8 × Bool) : Int × Bool := r3339Rb y m a (sgR m.2.1 [45])
def r3339Ra (y : Nat × List UInt8 × Bool) (a : List UInt8 × Bool) : Int × Bool := r3339Rm y a.2 (digR 2 a.1)
def r3339Ry (y : Nat × List UInt8 × Bool) : Int × Bool := r3339Ra y (sgR y.2.1 [45])
def r3339R (l : List UInt8) : Int × Bool := r3339Ry (digR 4 l)
theorem tail_at {l : List UInt8} (h : l ≠ []) : ∃ c t, l = c :: t ∧ l.tail = t ∧ bt l 0 = (c.toNat : Int) := by
  cases l with
  | nil => exact absurd rfl h
  | cons c t => exact ⟨c, t, rfl, rfl, by unfold bt; simp⟩
theorem ahead_step {u : List UInt8} (h : u ≠ []) : aheadL u = if 48 ≤ bt u 0 ∧ bt u 0 ≤ 57 then aheadL u.tail + 1 else 0 := by
  have := aheadL_at (l := u) (k := 0) (List.length_pos_iff.2 h)
  rw [List.drop_zero, Nat.zero_add, List.drop_one] at this
  exact this
theorem frac_step {u : List UInt8} (h : u ≠ []) (h1 : 48 ≤ bt u 0) (h2 : bt u 0 ≤ 57) : u.drop (aheadL u) = u.tail.drop (aheadL u.tail) := by
  rw [ahead_step h, if_pos ⟨h1, h2⟩, ← List.drop_one, List.drop_drop, Nat.add_comm]
theorem frac_stop {u : List UInt8} (h : u ≠ []) (h1 : ¬ (48 ≤ bt u 0 ∧ bt u 0 ≤ 57)) : u.drop (aheadL u) = u := by
  rw [ahead_step h, if_neg h1, List.drop_zero]
theorem bt_tail {l : List UInt8} (h : 1 < l.length) : bt l.tail 0 = bt l 1 := by
  cases l with
  | nil => simp at h
  | cons c t => unfold bt; simp

end Go.Proofs.YtfmlgfeldlnlgaaGreatDoor
