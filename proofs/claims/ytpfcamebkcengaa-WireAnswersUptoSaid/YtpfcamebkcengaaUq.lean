/- Plain mathematics of layer 1: runes as bytes. Nothing of the program. -/
import Derived.Test.YtpfcamebkcengaaUp
namespace Go.Proofs.Ytpfcamebkcengaa

/-- May it be a rune? -/
def isR (r : Int) : Bool := decide (0 ≤ r ∧ r ≤ 1114111 ∧ ¬ (55296 ≤ r ∧ r ≤ 57343))
/-- How many bytes follow the first. -/
def folN (r : Int) : Nat := if r < 128 then 0 else if r < 2048 then 1 else if r < 65536 then 2 else 3
/-- The bytes of a rune that may be, as numbers. -/
def encR (r : Int) : List Int :=
  if r < 128 then [r]
  else if r < 2048 then [192 + r / 64, 128 + r % 64]
  else if r < 65536 then [224 + r / 4096, 128 + r / 64 % 64, 128 + r % 64]
  else [240 + r / 262144, 128 + r / 4096 % 64, 128 + r / 64 % 64, 128 + r % 64]
/-- The bytes of any rune. -/
def encI (r : Int) : List Int := if isR r then encR r else encR 65533
/-- A number as a byte. -/
def u8 (n : Int) : UInt8 := UInt8.ofNat n.toNat
def enc (r : Int) : List UInt8 := (encI r).map u8
def encAll (l : List Int) : List UInt8 := (l.flatMap encI).map u8
end Go.Proofs.Ytpfcamebkcengaa
