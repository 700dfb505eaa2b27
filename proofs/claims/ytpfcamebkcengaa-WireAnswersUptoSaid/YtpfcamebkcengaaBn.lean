/- Plain words on bits: all bits of an int turned, the high bit of a byte, bits put together. -/
import Derived.WalkKit
import Derived.Laws.BitsLemmas
import Derived.Laws.Shifts
namespace Go.Proofs.Ytpfcamebkcengaa

/-- All bits of an int turned. -/
theorem bits_opp (n : Int) (h1 : -9223372036854775808 ≤ n) (h2 : n ≤ 9223372036854775807) : bits .xor .i64 (-1) n = -n - 1 := by
  have key : (BitVec.ofInt 64 (-1) ^^^ BitVec.ofInt 64 n).toNat = 18446744073709551615 - (n % 18446744073709551616).toNat := by
    have e1 : BitVec.ofInt 64 (-1) = BitVec.allOnes 64 := by rfl
    rw [e1, BitVec.allOnes_xor, BitVec.toNat_not, BitVec.toNat_ofInt]
    rfl
  have e2 : bits .xor .i64 (-1) n = IntKind.i64.wrap ((BitVec.ofInt 64 (-1) ^^^ BitVec.ofInt 64 n).toNat : Int) := rfl
  rw [e2, key, IntKind.wrap_i64]
  omega
theorem byte_high : ∀ x : Fin 256, bits .or .u8 (x.val : Int) 128 = ((x.val % 128 + 128 : Nat) : Int) := by decide +kernel
/-- The high bit of a byte laid. -/
theorem bits_high (u : Nat) : bits .or .u8 ((u : Int) % 256) 128 = ((u % 128 + 128 : Nat) : Int) := by
  have h := byte_high ⟨u % 256, by omega⟩
  simp only at h
  rw [show ((u % 256 : Nat) : Int) = (u : Int) % 256 by omega] at h
  rw [h]
  omega
theorem wraps_u64 (n : Int) (h₀ : 0 ≤ n) (h₁ : n < 2 ^ 64) : IntKind.u64.wrap n = n := by
  have : IntKind.wrap .u64 n = n % 18446744073709551616 := by simp [IntKind.wrap, IntKind.bits, IntKind.signed]
  rw [this]; omega
/-- Bits put above others. -/
theorem bits_above (i x y : Nat) (hx : x < 2 ^ i) (hy : y * 2 ^ i < 18446744073709551616) (hi : 2 ^ i ≤ 18446744073709551616) : bits .or .u64 (x : Int) ((y * 2 ^ i : Nat) : Int) = ((x + y * 2 ^ i : Nat) : Int) := by
  rw [(bits_nat .u64 64 (by decide) wraps_u64 x (y * 2 ^ i) (by omega) (by omega)).2, Nat.or_comm, Nat.mul_comm, ← Nat.two_pow_add_eq_or_of_lt hx, Nat.add_comm]
/-- Shifts by a number of bits. -/
theorem shr_u64 (s n : Nat) (k : IntKind) (z : Int) (hz : (n : Int) = z) (hn : n ≤ 64) : Op.shift .shr .u64 (s : Int) k z = pure (.int .u64 ((s / 2 ^ n : Nat) : Int)) := by
  subst hz
  rw [shift_shr_any .u64 k _ _ (by omega), Int.toNat_natCast, show min n IntKind.u64.bits = n from Nat.min_eq_left hn]
  congr 2
theorem shl_u64 (s n : Nat) (k : IntKind) (z : Int) (hz : (n : Int) = z) (hn : n ≤ 64) : Op.shift .shl .u64 (s : Int) k z = pure (.int .u64 ((s * 2 ^ n % 18446744073709551616 : Nat) : Int)) := by
  subst hz
  rw [shift_shl_any .u64 k _ _ (by omega), Int.toNat_natCast, show min n IntKind.u64.bits = n from Nat.min_eq_left hn]
  have h3 : ∀ x, IntKind.wrap .u64 x = x % 18446744073709551616 := fun x => by simp [IntKind.wrap, IntKind.bits, IntKind.signed]
  rw [h3]
  congr 2
end Go.Proofs.Ytpfcamebkcengaa
