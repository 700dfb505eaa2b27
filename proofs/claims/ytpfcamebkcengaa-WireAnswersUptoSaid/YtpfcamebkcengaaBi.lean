/- Plain words on the bits of numbers of 64. -/
import Derived.WalkKit
import Derived.Laws.Bits64b
namespace Go.Proofs.Ytpfcamebkcengaa

theorem pow_lt (k : Nat) (h : k < 64) : 0 < 2 ^ k ∧ 2 ^ k ≤ 9223372036854775808 :=
  ⟨Nat.two_pow_pos _, Nat.pow_le_pow_right (show 0 < 2 by decide) (show k ≤ 63 by omega)⟩
theorem wrap_bit (k : Nat) (h : k < 64) : IntKind.wrap .u64 (2 ^ k) = 2 ^ k := by
  have h1 := pow_lt k h
  have h3 : IntKind.wrap .u64 (2 ^ k) = 2 ^ k % 18446744073709551616 := by simp [IntKind.wrap, IntKind.bits, IntKind.signed]
  rw [h3]
  have h4 : ((2 : Int) ^ k) = ((2 ^ k : Nat) : Int) := by simp
  rw [h4]; omega
/-- All bits turned. -/
theorem bits_not (a : Int) (h0 : 0 ≤ a) (h1 : a ≤ 18446744073709551615) : bits .xor .u64 (if IntKind.u64.signed = true then -1 else IntKind.u64.max) a = 18446744073709551615 - a := by
  obtain ⟨n, rfl⟩ := Int.eq_ofNat_of_zero_le h0
  have hm : (if IntKind.u64.signed = true then -1 else IntKind.u64.max : Int) = ((18446744073709551615 : Nat) : Int) := by rfl
  unfold bits
  rw [hm, BitVec.ofInt_natCast, BitVec.ofInt_natCast]
  have e : (BitVec.ofNat IntKind.u64.bits 18446744073709551615 ^^^ BitVec.ofNat IntKind.u64.bits n) = ~~~ (BitVec.ofNat IntKind.u64.bits n) := by
    have : BitVec.ofNat IntKind.u64.bits 18446744073709551615 = BitVec.allOnes 64 := by rfl
    rw [this]; exact BitVec.allOnes_xor
  simp only [e, BitVec.toNat_not, BitVec.toNat_ofNat]
  have hb : IntKind.u64.bits = 64 := rfl
  have hn : n % 2 ^ 64 = n := Nat.mod_eq_of_lt (by omega)
  rw [hb, hn]
  have h3 : ∀ x, IntKind.wrap .u64 x = x % 18446744073709551616 := fun x => by simp [IntKind.wrap, IntKind.bits, IntKind.signed]
  rw [h3]; omega
end Go.Proofs.Ytpfcamebkcengaa
