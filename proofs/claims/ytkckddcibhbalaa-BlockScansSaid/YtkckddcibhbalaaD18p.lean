/- Layer 18, plain: CRC-32 as a machine over bits: it is linear, it is turned by each bit, a burst is always seen. -/
import Derived.Test.YtkckddcibhbalaaBt
namespace Go.Proofs.Ytkckddcibhbalaa

/-- The sum's polynomial. -/
def poly18 : BitVec 32 := 0xedb88320#32
/-- One bit's step. -/
def shC (x : BitVec 32) : BitVec 32 := (x >>> 1) ^^^ (if x.getLsbD 0 = true then poly18 else 0#32)
def shK : Nat → BitVec 32 → BitVec 32
  | 0, x => x
  | k + 1, x => shK k (shC x)
theorem xor4 (a b c d : BitVec 32) : (a ^^^ b) ^^^ (c ^^^ d) = (a ^^^ c) ^^^ (b ^^^ d) := by
  apply BitVec.eq_of_getLsbD_eq
  intro i _
  simp only [BitVec.getLsbD_xor]
  cases a.getLsbD i <;> cases b.getLsbD i <;> cases c.getLsbD i <;> cases d.getLsbD i <;> rfl
theorem if_xor (p q : Bool) (z : BitVec 32) : (if (p ^^ q) = true then z else 0#32) = (if p = true then z else 0#32) ^^^ (if q = true then z else 0#32) := by
  cases p <;> cases q <;> simp
theorem shC_xor (x y : BitVec 32) : shC (x ^^^ y) = shC x ^^^ shC y := by
  unfold shC
  rw [BitVec.ushiftRight_xor_distrib, BitVec.getLsbD_xor, if_xor, xor4]
theorem shC_zero : shC 0#32 = 0#32 := by decide
theorem shC_msb (x : BitVec 32) : (shC x).getLsbD 31 = x.getLsbD 0 := by
  unfold shC
  rw [BitVec.getLsbD_xor, BitVec.getLsbD_ushiftRight, BitVec.getLsbD_of_ge x (1 + 31) (by omega)]
  cases x.getLsbD 0 <;> decide
theorem shC_inj {x : BitVec 32} (h : shC x = 0#32) : x = 0#32 := by
  have h0 : x.getLsbD 0 = false := by rw [← shC_msb, h]; decide
  have h1 : x >>> 1 = 0#32 := by
    unfold shC at h
    rw [h0] at h
    simpa using h
  apply BitVec.eq_of_getLsbD_eq
  intro i hi
  rw [BitVec.getLsbD_zero]
  cases i with
  | zero => exact h0
  | succ i =>
    have := congrArg (fun y => y.getLsbD i) h1
    simp only [BitVec.getLsbD_ushiftRight, BitVec.getLsbD_zero] at this
    rw [Nat.add_comm 1 i] at this
    exact this
theorem shK_xor : ∀ (k : Nat) (x y : BitVec 32), shK k (x ^^^ y) = shK k x ^^^ shK k y
  | 0, _, _ => rfl
  | k + 1, x, y => by rw [shK, shK, shK, shC_xor, shK_xor k]
theorem shK_zero : ∀ k, shK k 0#32 = 0#32
  | 0 => rfl
  | k + 1 => by rw [shK, shC_zero, shK_zero k]
theorem shK_inj : ∀ (k : Nat) {x : BitVec 32}, shK k x = 0#32 → x = 0#32
  | 0, _, h => h
  | k + 1, _, h => shC_inj (shK_inj k h)
theorem shK_add : ∀ (j k : Nat) (x : BitVec 32), shK (j + k) x = shK k (shK j x)
  | 0, k, x => by rw [Nat.zero_add]; rfl
  | j + 1, k, x => by rw [show j + 1 + k = (j + k) + 1 by omega, shK, shK, shK_add j k]

/-- One bit read. -/
def bitC (x : BitVec 32) (b : Bool) : BitVec 32 := shC (x ^^^ (if b = true then 1#32 else 0#32))
def runC (x : BitVec 32) (l : List Bool) : BitVec 32 := l.foldl bitC x
theorem runC_app (x : BitVec 32) (a b : List Bool) : runC x (a ++ b) = runC (runC x a) b := by unfold runC; rw [List.foldl_append]
theorem bitC_xor (x y : BitVec 32) (a b : Bool) : bitC (x ^^^ y) (a ^^ b) = bitC x a ^^^ bitC y b := by
  unfold bitC
  rw [← shC_xor, if_xor, xor4]
/-- What is read of bits that are turned. -/
theorem runC_xor : ∀ (a b : List Bool) (x y : BitVec 32), a.length = b.length → runC (x ^^^ y) (List.zipWith (· ^^ ·) a b) = runC x a ^^^ runC y b
  | [], [], x, y, _ => rfl
  | p :: a, q :: b, x, y, h => by
    have ih := runC_xor a b (bitC x p) (bitC y q) (by simpa using h)
    rw [← bitC_xor] at ih
    exact ih
theorem runC_zero : ∀ k : Nat, runC 0#32 (List.replicate k false) = 0#32
  | 0 => rfl
  | k + 1 => by
    have e : bitC 0#32 false = 0#32 := by decide
    rw [List.replicate_succ]
    show runC (bitC 0#32 false) (List.replicate k false) = _
    rw [e]
    exact runC_zero k
/-- Bits as a number, the lowest first. -/
def numC18 : List Bool → Nat
  | [] => 0
  | b :: l => (if b = true then 1 else 0) + 2 * numC18 l
theorem numC18_lt : ∀ l : List Bool, numC18 l < 2 ^ l.length
  | [] => by simp [numC18]
  | b :: l => by
    have := numC18_lt l
    rw [numC18, List.length_cons, Nat.pow_succ]
    split <;> omega
theorem shC_even (n : Nat) (h : n < 2 ^ 31) : shC (BitVec.ofNat 32 (2 * n)) = BitVec.ofNat 32 n := by
  unfold shC
  have h0 : (BitVec.ofNat 32 (2 * n)).getLsbD 0 = false := by
    rw [BitVec.getLsbD_ofNat]
    simp [Nat.testBit_zero]
  rw [h0]
  have h1 : BitVec.ofNat 32 (2 * n) >>> 1 = BitVec.ofNat 32 n := by
    apply BitVec.eq_of_toNat_eq
    rw [BitVec.toNat_ushiftRight, BitVec.toNat_ofNat, BitVec.toNat_ofNat, Nat.mod_eq_of_lt (by omega), Nat.mod_eq_of_lt (by omega), Nat.shiftRight_eq_div_pow]
    omega
  rw [h1]
  simp
theorem ofNat_cons (b : Bool) (n : Nat) (h : n < 2 ^ 31) : BitVec.ofNat 32 ((if b = true then 1 else 0) + 2 * n) = (if b = true then 1#32 else 0#32) ^^^ BitVec.ofNat 32 (2 * n) := by
  apply BitVec.eq_of_toNat_eq
  cases b
  · simp
  · simp only [if_true, BitVec.toNat_xor, BitVec.toNat_ofNat]
    rw [Nat.mod_eq_of_lt (by omega), Nat.mod_eq_of_lt (by omega), Nat.mod_eq_of_lt (by omega)]
    have : 1 ^^^ (2 * n) = 2 * n + 1 := by
      rw [Nat.xor_comm]
      apply Nat.eq_of_testBit_eq
      intro i
      rw [Nat.testBit_xor]
      cases i with
      | zero => simp [Nat.testBit_zero]
      | succ i =>
        rw [Nat.testBit_succ, Nat.testBit_succ, Nat.testBit_succ]
        have e1 : 2 * n / 2 = n := by omega
        have e2 : (2 * n + 1) / 2 = n := by omega
        rw [e1, e2]
        simp
    rw [this]
    omega
/-- Up to 32 bits read are their number, moved on. -/
theorem runC_num : ∀ (l : List Bool) (x : BitVec 32), l.length ≤ 32 → runC x l = shK l.length (x ^^^ BitVec.ofNat 32 (numC18 l))
  | [], x, _ => by simp [runC, shK, numC18]
  | b :: l, x, h => by
    have hl : l.length ≤ 31 := by simpa using h
    have hn := numC18_lt l
    have hn2 : numC18 l < 2 ^ 31 := Nat.lt_of_lt_of_le hn (Nat.pow_le_pow_right (by decide) hl)
    have ih := runC_num l (bitC x b) (by omega)
    show runC (bitC x b) l = _
    rw [ih, List.length_cons, shK, numC18, ofNat_cons b _ hn2]
    congr 1
    unfold bitC
    rw [← BitVec.xor_assoc, shC_xor (x ^^^ _) (BitVec.ofNat 32 (2 * numC18 l)), shC_even _ hn2]
theorem numC18_zero : ∀ l : List Bool, numC18 l = 0 → l = List.replicate l.length false
  | [], _ => rfl
  | b :: l, h => by
    rw [numC18] at h
    have h1 : numC18 l = 0 := by omega
    have h2 : b = false := by cases b; rfl; simp at h
    rw [List.length_cons, List.replicate_succ, h2, ← numC18_zero l h1]
/-- A burst of up to 32 bits that leaves the reader where it was turns nothing. -/
theorem burst_seen (a b : Nat) (w : List Bool) (hw : w.length ≤ 32) (h : runC 0#32 (List.replicate a false ++ w ++ List.replicate b false) = 0#32) : w = List.replicate w.length false := by
  rw [runC_app, runC_app, runC_zero] at h
  have h1 : runC 0#32 w = 0#32 := by
    rw [runC_num _ _ hw, BitVec.zero_xor] at h ⊢
    have key : ∀ (k : Nat) (x : BitVec 32), runC x (List.replicate k false) = shK k x := by
      intro k
      induction k with
      | zero => intro x; rfl
      | succ k ih =>
        intro x
        rw [List.replicate_succ]
        show runC (bitC x false) _ = _
        rw [ih]
        unfold bitC
        simp [shK]
    rw [key] at h
    exact shK_inj b h
  rw [runC_num _ _ hw, BitVec.zero_xor] at h1
  have h2 := shK_inj _ h1
  have h3 : numC18 w = 0 := by
    have hn := numC18_lt w
    have hn2 : numC18 w < 2 ^ 32 := Nat.lt_of_lt_of_le hn (Nat.pow_le_pow_right (by decide) hw)
    have := congrArg BitVec.toNat h2
    rw [BitVec.toNat_ofNat, Nat.mod_eq_of_lt hn2] at this
    simpa using this
  exact numC18_zero w h3
end Go.Proofs.Ytkckddcibhbalaa
