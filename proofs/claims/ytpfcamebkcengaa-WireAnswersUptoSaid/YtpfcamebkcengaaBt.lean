/- A byte of a list, as a number: plain. -/
namespace Go.Proofs.Ytpfcamebkcengaa

/-- The i-th byte of a list, as a number. -/
def bt (l : List UInt8) (i : Nat) : Int := ((l.getD i 0).toNat : Int)
theorem bt_lt (l : List UInt8) (i : Nat) : 0 ≤ bt l i ∧ bt l i ≤ 255 := by
  unfold bt; have := (l.getD i 0).toNat_lt; omega

end Go.Proofs.Ytpfcamebkcengaa
