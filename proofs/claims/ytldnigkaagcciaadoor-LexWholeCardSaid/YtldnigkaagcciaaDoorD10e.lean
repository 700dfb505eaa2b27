/- The reference's Named. -/
import Derived.Test.YtldnigkaagcciaaDoorD10d
namespace Go.Proofs.YtldnigkaagcciaaDoor
open Go.RowKit

theorem numK_charB (b : Int) (hb : b = 10 ∨ b = 16) (l : List UInt8) : numK b l = charB (numC b 0 l) ∧ (numK b l = true → numV b l = numC b 0 l) := by
  have h := numC_numR b hb l 0 (by omega)
  rw [show min (0 : Int) 1114112 = 0 from rfl] at h
  refine ⟨h.1.symm, fun hk => ?_⟩
  unfold numV; rw [h.2 hk]; rfl
/-- What a number stands for. -/
def numO (b : Int) (m : List UInt8) : Option (List UInt8) := if charB (numC b 0 m) = true then some (enc (numC b 0 m)) else none
/-- What the reference's Named makes of a number's rune. -/
theorem named_num {w w' : World} {b : Int} (hb : b = 10 ∨ b = 16) {m : List UInt8} {e : Ending} (he : e = .returned (.tuple #[.string ⟨(enc (numV b m)).toArray⟩, .bool (numK b m)])) (hbl : Below w.heap.size w w') :
    NamedPost w (numO b m) e w' := by
  unfold numO
  obtain ⟨h1, h2⟩ := numK_charB b hb m
  cases hc : charB (numC b 0 m)
  · rw [hc] at h1
    rw [h1] at he
    exact named_none _ rfl he hbl
  · rw [hc] at h1
    rw [h1, h2 h1] at he
    exact named_some _ rfl he hbl

end Go.Proofs.YtldnigkaagcciaaDoor
