/- Layer 18, plain: the numbers that the walks reckon with, as words of 32 bits; a step, a byte, four bytes, a bit turned. -/
import Derived.Laws.BitsAllLaws
import Derived.Test.YtkckddcibhbalaaD18q
namespace Go.Proofs.Ytkckddcibhbalaa

/-- A word of 32 bits as a number. -/
def nB (x : BitVec 32) : Int := (x.toNat : Int)
theorem nB_bd (x : BitVec 32) : 0 ≤ nB x ∧ nB x ≤ 4294967295 := by
  have := x.isLt
  unfold nB
  omega
theorem nB_of {a : Int} (h0 : 0 ≤ a) (h1 : a ≤ 4294967295) : nB (BitVec.ofNat 32 a.toNat) = a := by
  unfold nB
  rw [BitVec.toNat_ofNat, Nat.mod_eq_of_lt (by omega)]
  omega
theorem xor_nB (x y : BitVec 32) : bits .xor .u32 (nB x) (nB y) = nB (x ^^^ y) := by
  unfold nB
  rw [u32_xor_nat _ _ x.isLt y.isLt, BitVec.toNat_xor]
theorem nB_ones : nB ones18 = 4294967295 := by decide
theorem nB_poly : nB poly18 = 3988292384 := by decide
theorem nB_byte (c : UInt8) : nB (BitVec.ofNat 32 c.toNat) = (c.toNat : Int) := by
  have := c.toNat_lt
  unfold nB
  rw [BitVec.toNat_ofNat, Nat.mod_eq_of_lt (by omega)]
/-- All bits turned. -/
theorem not_nB (x : BitVec 32) : bits .xor .u32 4294967295 (nB x) = nB (x ^^^ ones18) := by
  rw [← nB_ones, xor_nB, BitVec.xor_comm]
theorem nB_half (x : BitVec 32) : nB (x >>> 1) = nB x / (2 : Int) := by
  unfold nB
  rw [BitVec.toNat_ushiftRight, Nat.shiftRight_eq_div_pow]
  omega
theorem low_nB (x : BitVec 32) : x.getLsbD 0 = decide (nB x % 2 = 1) := by
  have h : x.getLsbD 0 = x.toNat.testBit 0 := rfl
  rw [h, Nat.testBit_zero, decide_eq_decide]
  unfold nB
  omega
/-- A step where the lowest bit is 0. -/
theorem shC_0 (x : BitVec 32) (h : nB x % 2 = 0) : nB (shC x) = nB x / 2 := by
  unfold shC
  rw [low_nB, h, ← nB_half]
  simp
/-- A step where it is 1. -/
theorem shC_1 (x : BitVec 32) (h : nB x % 2 = 1) : nB (shC x) = bits .xor .u32 (nB x / 2) 3988292384 := by
  unfold shC
  rw [low_nB, h, ← nB_half, ← nB_poly, xor_nB]
  simp
theorem shK_next (k : Nat) (x : BitVec 32) : shK (k + 1) x = shC (shK k x) := by rw [shK_add k 1]; rfl
/-- The reader behind one byte more. -/
theorem regC_next (l : List UInt8) (i : Nat) (h : i < l.length) : regC (l.take (i + 1)) = shK 8 (regC (l.take i) ^^^ BitVec.ofNat 32 (l.getD i 0).toNat) := by
  have e : l.take (i + 1) = l.take i ++ [l.getD i 0] := by
    rw [List.take_succ_eq_append_getElem h]
    simp [List.getD, h]
  rw [e]
  generalize l.getD i 0 = c
  unfold regC
  rw [bitsL_app, runC_app, show bitsL [c] = bitsB c from by rw [bitsL_cons]; simp [bitsL], runC_num _ _ (by rw [bitsB_len]; decide), bitsB_len, bitsB_num]
theorem regC_nil : regC [] = ones18 := rfl
/-- The sum, as the walks have it. -/
def sumB (l : List UInt8) : Int := (sum18 l : Int)
theorem sumB_eq (l : List UInt8) : sumB l = nB (regC l ^^^ ones18) := rfl
theorem sumB_bd (l : List UInt8) : 0 ≤ sumB l ∧ sumB l ≤ 4294967295 := nB_bd _

/-- The bytes of a number. -/
def fourB (n : Int) : List UInt8 := four18 n.toNat
theorem fourB_len (n : Int) : (fourB n).length = 4 := rfl
/-- Byte number k of a number. -/
def byN (n : Int) (k : Nat) : Int := n / 2 ^ (8 * k) % 256
theorem u8_nat (n m : Nat) (h : n % 256 = m) : ((UInt8.ofNat n).toNat : Int) = m := by rw [UInt8.toNat_ofNat']; omega
theorem fourB_nums (n : Int) (h0 : 0 ≤ n) : (fourB n).map (fun c => ((c.toNat : Nat) : Int)) = [n % 256, n / 256 % 256, n / 65536 % 256, n / 16777216 % 256] := by
  obtain ⟨m, rfl⟩ := Int.eq_ofNat_of_zero_le h0
  unfold fourB four18
  simp only [List.map_cons, List.map_nil, UInt8.toNat_ofNat', Int.toNat_natCast]
  have e : ∀ a : Nat, ((a % 2 ^ 8 : Nat) : Int) = (a : Int) % 256 := fun a => by omega
  have e1 : ((m / 256 : Nat) : Int) = (m : Int) / 256 := by omega
  have e2 : ((m / 65536 : Nat) : Int) = (m : Int) / 65536 := by omega
  have e3 : ((m / 16777216 : Nat) : Int) = (m : Int) / 16777216 := by omega
  rw [e, e, e, e, e1, e2, e3]
/-- The number of bytes. -/
def readB (l : List UInt8) : Int := if l.length = 4 then (read4 l : Int) else 0
theorem readB_bd (l : List UInt8) : 0 ≤ readB l ∧ readB l ≤ 4294967295 := by
  unfold readB
  split
  · rename_i h
    have := read4_lt h
    omega
  · omega
theorem readB_four (n : Int) (h0 : 0 ≤ n) (h1 : n ≤ 4294967295) : readB (fourB n) = n := by
  unfold readB
  rw [fourB_len, if_pos rfl]
  unfold fourB
  rw [read_four (by omega)]
  omega
theorem readB_eq (a b c d : UInt8) : readB [a, b, c, d] = a.toNat + 256 * b.toNat + 65536 * c.toNat + 16777216 * d.toNat := by
  unfold readB
  rw [if_pos (show [a, b, c, d].length = 4 from rfl), read4_eq]
  omega
theorem u32_join (i : Nat) (x y : Int) (hi : i ≤ 24) (hx : x * 2 ^ i < 4294967296) (x0 : 0 ≤ x) (y0 : 0 ≤ y) (hy : y < 2 ^ i) : bits .or .u32 y (x * 2 ^ i) = y + x * 2 ^ i := by
  obtain ⟨a, rfl⟩ := Int.eq_ofNat_of_zero_le x0
  obtain ⟨b, rfl⟩ := Int.eq_ofNat_of_zero_le y0
  have e : ((2 : Int) ^ i) = ((2 ^ i : Nat) : Int) := by simp
  rw [e] at hx hy ⊢
  have hp : 2 ^ i ≤ 2 ^ 24 := Nat.pow_le_pow_right (by decide) hi
  have hm : ((a : Int) * ((2 ^ i : Nat) : Int)) = ((a * 2 ^ i : Nat) : Int) := by simp
  rw [hm] at hx ⊢
  have h1 : a * 2 ^ i < 4294967296 := by omega
  have h2 : b < 2 ^ i := by omega
  rw [u32_or_nat _ _ (by omega) h1, Nat.or_comm, nat_join i (a * 2 ^ i) b (Nat.mul_mod_left _ _) h2]
  omega

/-- What is opened, as text and as truth. -/
def openT (t : List UInt8) : List UInt8 := (open18 t).getD []
def openQ (t : List UInt8) : Bool := (open18 t).isSome
theorem open_yes {t : List UInt8} (h : 4 ≤ t.length) (e : t.drop (t.length - 4) = fourB (sumB (t.take (t.length - 4)))) : openT t = t.take (t.length - 4) ∧ openQ t = true := by
  have : open18 t = some (t.take (t.length - 4)) := by
    unfold open18
    rw [if_neg (by omega), if_pos]
    rw [e]
    unfold fourB sumB
    rw [Int.toNat_natCast, read_four (sum18_lt _)]
  unfold openT openQ
  rw [this]
  exact ⟨rfl, rfl⟩
theorem open_no {t : List UInt8} (e : t.length < 4 ∨ t.drop (t.length - 4) ≠ fourB (sumB (t.take (t.length - 4)))) : openT t = [] ∧ openQ t = false := by
  have : open18 t = none := by
    unfold open18
    by_cases h : t.length < 4
    · rw [if_pos h]
    · rw [if_neg h, if_neg]
      intro hh
      refine (e.resolve_left h) ?_
      unfold fourB sumB
      rw [Int.toNat_natCast, ← hh, four_inj (by rw [List.length_drop]; omega)]
  unfold openT openQ
  rw [this]
  exact ⟨rfl, rfl⟩
theorem open_len (t : List UInt8) : (openT t).length ≤ t.length := by
  unfold openT open18
  split
  · simp
  · split
    · simp
    · simp
def sealB (l : List UInt8) : List UInt8 := l ++ fourB (sumB l)
theorem sealB_eq (l : List UInt8) : sealB l = seal18 l := rfl
theorem sealB_len (l : List UInt8) : (sealB l).length = l.length + 4 := by unfold sealB; rw [List.length_append, fourB_len]

/-- A burst, by the walks' numbers. -/
def burstB (l : List UInt8) (p y : Int) : List UInt8 := burst18 l p y.toNat
theorem burstB_len (l : List UInt8) (p y : Int) : (burstB l p y).length = l.length := burst18_len _ _ _
theorem bit_nat (y : Int) (k : Nat) (h0 : 0 ≤ y) : y.toNat.testBit k = decide (y / 2 ^ k % 2 = 1) := by
  obtain ⟨m, rfl⟩ := Int.eq_ofNat_of_zero_le h0
  rw [Int.toNat_natCast, Nat.testBit_eq_decide_div_mod_eq, decide_eq_decide]
  have e : ((2 : Int) ^ k) = ((2 ^ k : Nat) : Int) := by simp
  rw [e]
  omega
/-- A bit that is told by a byte and a place behind it. -/
theorem flip_eq (l : List UInt8) (n i j : Nat) (hi : n / 8 = i) (hj : n % 8 = j) : flip18 l n = l.set i (l.getD i 0 ^^^ UInt8.ofNat (2 ^ j)) := by
  subst hi hj
  rfl
theorem flip_nat (c : UInt8) (j : Nat) (hj : j < 8) : ((c ^^^ UInt8.ofNat (2 ^ j)).toNat : Int) = bits .xor .u8 (c.toNat : Int) (2 ^ j) := by
  have hp : 2 ^ j < 256 := Nat.lt_of_lt_of_le (Nat.pow_lt_pow_right (by decide) hj) (by decide)
  have e : ((2 : Int) ^ j) = ((2 ^ j : Nat) : Int) := by simp
  rw [e, u8_xor_nat _ _ c.toNat_lt hp, UInt8.toNat_xor, UInt8.toNat_ofNat', Nat.mod_eq_of_lt hp]
/-- Bits beyond the end are of no account. -/
theorem burstTo_end (l : List UInt8) (p y k : Nat) (h : 8 * l.length ≤ p + k) : ∀ j, burstTo l p y (k + j) = burstTo l p y k
  | 0 => rfl
  | j + 1 => by
    rw [← Nat.add_assoc, burstTo, if_neg (by omega)]
    exact burstTo_end l p y k h j
end Go.Proofs.Ytkckddcibhbalaa
