/- Plain mathematics of layer 6 (how many bits a number has): nothing of the program. -/
import Derived.Test.YtgldlfgidmgmfaaBi
namespace Go.Proofs.Ytgldlfgidmgmfaa

/-- How many of its lowest f bits a number has. -/
def wtN : Nat → Nat → Nat
  | 0, _ => 0
  | f + 1, n => n % 2 + wtN f (n / 2)
theorem wtN_le (f n : Nat) : wtN f n ≤ f := by
  induction f generalizing n with
  | zero => simp [wtN]
  | succ f ih => unfold wtN; have := ih (n / 2); omega
theorem wtN_zero (f : Nat) : wtN f 0 = 0 := by
  induction f with
  | zero => rfl
  | succ f ih => unfold wtN; simp [ih]
theorem and_mod (a b : Nat) : (a &&& b) % 2 = (a % 2) * (b % 2) := by
  have h := @Nat.and_mod_two_pow a b 1
  rw [Nat.pow_one] at h
  rw [h]
  rcases Nat.mod_two_eq_zero_or_one a with ha | ha <;> rcases Nat.mod_two_eq_zero_or_one b with hb | hb <;> rw [ha, hb] <;> rfl
theorem xor_mod (a b : Nat) : (a ^^^ b) % 2 = (a % 2 + b % 2) % 2 := by
  have h := @Nat.xor_mod_two_pow a b 1
  rw [Nat.pow_one] at h
  rw [h]
  rcases Nat.mod_two_eq_zero_or_one a with ha | ha <;> rcases Nat.mod_two_eq_zero_or_one b with hb | hb <;> rw [ha, hb] <;> rfl
/-- One less, and: the lowest bit is gone. -/
theorem wtN_low (f n : Nat) (h : n < 2 ^ f) (h0 : 0 < n) : wtN f (n &&& (n - 1)) + 1 = wtN f n := by
  induction f generalizing n with
  | zero => simp at h; omega
  | succ f ih =>
    rw [Nat.pow_succ] at h
    unfold wtN
    rw [and_mod, Nat.and_div_two]
    rcases Nat.mod_two_eq_zero_or_one n with hn | hn
    · have := ih (n / 2) (by omega) (by omega)
      rw [hn, show (n - 1) / 2 = n / 2 - 1 by omega]
      omega
    · rw [show (n - 1) % 2 = 0 by omega, show (n - 1) / 2 = n / 2 by omega, Nat.and_self, hn]
      omega
theorem wtN_snoc (f n : Nat) : wtN (f + 1) n = wtN f n + n / 2 ^ f % 2 := by
  induction f generalizing n with
  | zero => simp [wtN]
  | succ f ih =>
    have := ih (n / 2)
    rw [show wtN (f + 1 + 1) n = n % 2 + wtN (f + 1) (n / 2) from rfl, show wtN (f + 1) n = n % 2 + wtN f (n / 2) from rfl, this, Nat.div_div_eq_div_mul, Nat.pow_succ, Nat.mul_comm 2]
    omega
theorem wtN_tri (f a b c : Nat) : wtN f (a ^^^ b) ≤ wtN f (a ^^^ c) + wtN f (c ^^^ b) := by
  induction f generalizing a b c with
  | zero => simp [wtN]
  | succ f ih =>
    have := ih (a / 2) (b / 2) (c / 2)
    unfold wtN
    rw [xor_mod, xor_mod, xor_mod, Nat.xor_div_two, Nat.xor_div_two, Nat.xor_div_two]
    omega
theorem wtN_none (f n : Nat) (h : n < 2 ^ f) (h0 : wtN f n = 0) : n = 0 := by
  induction f generalizing n with
  | zero => simpa using h
  | succ f ih =>
    rw [Nat.pow_succ] at h
    unfold wtN at h0
    have := ih (n / 2) (by omega) (by omega)
    omega
theorem wtN_pow (f k : Nat) (h : k < f) : wtN f (2 ^ k) = 1 := by
  induction f generalizing k with
  | zero => omega
  | succ f ih =>
    unfold wtN
    cases k with
    | zero => simp [wtN_zero]
    | succ k =>
      rw [Nat.pow_succ, Nat.mul_mod_left, Nat.mul_div_cancel _ (by decide), ih k (by omega)]
theorem wtN_not (f n : Nat) (h : n < 2 ^ f) : wtN f n + wtN f (2 ^ f - 1 - n) = f := by
  induction f generalizing n with
  | zero => rfl
  | succ f ih =>
    rw [Nat.pow_succ] at h ⊢
    have := ih (n / 2) (by omega)
    unfold wtN
    rw [show (2 ^ f * 2 - 1 - n) / 2 = 2 ^ f - 1 - n / 2 by omega]
    omega

/-- How many bits a number of 64 has. -/
def wtB (x : Int) : Int := (wtN 64 x.toNat : Nat)
/-- .. its k lowest. -/
def wtTo (x : Int) (k : Nat) : Int := (wtN k x.toNat : Nat)
theorem wtB_bd (x : Int) : 0 ≤ wtB x ∧ wtB x ≤ 64 := by have := wtN_le 64 x.toNat; unfold wtB; omega
theorem wtTo_bd (x : Int) (k : Nat) : 0 ≤ wtTo x k ∧ wtTo x k ≤ k := by have := wtN_le k x.toNat; unfold wtTo; omega
theorem wtTo_all (x : Int) : wtTo x 64 = wtB x := rfl
theorem wtTo_none (x : Int) : wtTo x 0 = 0 := rfl
theorem wtB_zero : wtB 0 = 0 := by unfold wtB; rw [show (0 : Int).toNat = 0 from rfl, wtN_zero]; rfl
theorem wtTo_next (x : Int) (k : Nat) (h : 0 ≤ x) : wtTo x (k + 1) = wtTo x k + x / 2 ^ k % 2 := by
  obtain ⟨n, rfl⟩ := Int.eq_ofNat_of_zero_le h
  unfold wtTo
  rw [wtN_snoc]
  simp
/-- The number without its lowest bit. -/
def lowB (x : Int) : Int := bits .and .u64 x (x - 1)
theorem lowB_nat (x : Int) (h0 : 0 < x) (h1 : x ≤ 18446744073709551615) : lowB x = ((x.toNat &&& (x.toNat - 1) : Nat) : Int) := by
  obtain ⟨n, rfl⟩ := Int.eq_ofNat_of_zero_le (show 0 ≤ x by omega)
  unfold lowB
  rw [show (n : Int) - 1 = ((n - 1 : Nat) : Int) by omega, bits_and_u64_nat _ _ (by omega) (by omega)]; rfl
theorem lowB_bd (x : Int) (h0 : 0 < x) (h1 : x ≤ 18446744073709551615) : 0 ≤ lowB x ∧ lowB x ≤ 18446744073709551615 := by
  rw [lowB_nat x h0 h1]
  have : x.toNat &&& (x.toNat - 1) ≤ x.toNat := Nat.and_le_left
  omega
theorem wtB_low (x : Int) (h0 : 0 < x) (h1 : x ≤ 18446744073709551615) : wtB (lowB x) + 1 = wtB x := by
  rw [lowB_nat x h0 h1]
  have := wtN_low 64 x.toNat (by omega) (by omega)
  unfold wtB
  rw [show ((x.toNat &&& (x.toNat - 1) : Nat) : Int).toNat = x.toNat &&& (x.toNat - 1) from rfl]
  omega
theorem bit_of (x : Int) (k : Nat) (h0 : 0 ≤ x) (h1 : x ≤ 18446744073709551615) : bits .and .u64 (x / 2 ^ k) 1 = x / 2 ^ k % 2 := by
  obtain ⟨a, rfl⟩ := Int.eq_ofNat_of_zero_le h0
  have e : ((a : Int) / 2 ^ k) = ((a / 2 ^ k : Nat) : Int) := by simp
  have hl : a / 2 ^ k ≤ a := Nat.div_le_self _ _
  rw [e, show (1 : Int) = ((1 : Nat) : Int) from rfl, bits_and_u64_nat _ _ (by omega) (by omega), Nat.and_one_is_mod]; simp

/-- In how many bits two differ. -/
def distB (a b : Int) : Int := wtB (bits .xor .u64 a b)
theorem xorB_nat (a b : Int) (a0 : 0 ≤ a) (a1 : a ≤ 18446744073709551615) (b0 : 0 ≤ b) (b1 : b ≤ 18446744073709551615) : bits .xor .u64 a b = ((a.toNat ^^^ b.toNat : Nat) : Int) := by
  obtain ⟨n, rfl⟩ := Int.eq_ofNat_of_zero_le a0
  obtain ⟨m, rfl⟩ := Int.eq_ofNat_of_zero_le b0
  rw [bits_xor_u64_nat _ _ (by omega) (by omega)]; rfl
theorem xorB_bd (a b : Int) (a0 : 0 ≤ a) (a1 : a ≤ 18446744073709551615) (b0 : 0 ≤ b) (b1 : b ≤ 18446744073709551615) : 0 ≤ bits .xor .u64 a b ∧ bits .xor .u64 a b ≤ 18446744073709551615 := by
  rw [xorB_nat a b a0 a1 b0 b1]
  have : a.toNat ^^^ b.toNat < 2 ^ 64 := Nat.xor_lt_two_pow (by omega) (by omega)
  omega
theorem distB_bd (a b : Int) : 0 ≤ distB a b ∧ distB a b ≤ 64 := wtB_bd _
theorem distB_nat (a b : Int) (a0 : 0 ≤ a) (a1 : a ≤ 18446744073709551615) (b0 : 0 ≤ b) (b1 : b ≤ 18446744073709551615) : distB a b = (wtN 64 (a.toNat ^^^ b.toNat) : Nat) := by
  unfold distB wtB; rw [xorB_nat a b a0 a1 b0 b1]; rfl
theorem distB_self (a b : Int) (a0 : 0 ≤ a) (a1 : a ≤ 18446744073709551615) (b0 : 0 ≤ b) (b1 : b ≤ 18446744073709551615) : distB a b = 0 ↔ a = b := by
  rw [distB_nat a b a0 a1 b0 b1]
  constructor
  · intro h
    have h1 : a.toNat ^^^ b.toNat < 2 ^ 64 := Nat.xor_lt_two_pow (by omega) (by omega)
    have h2 := wtN_none 64 _ h1 (by omega)
    have h3 : a.toNat = b.toNat := by
      have h4 : a.toNat ^^^ b.toNat ^^^ b.toNat = b.toNat := by rw [h2, Nat.zero_xor]
      rwa [Nat.xor_assoc, Nat.xor_self, Nat.xor_zero] at h4
    omega
  · rintro rfl; rw [Nat.xor_self, wtN_zero]; rfl
theorem distB_comm (a b : Int) (a0 : 0 ≤ a) (a1 : a ≤ 18446744073709551615) (b0 : 0 ≤ b) (b1 : b ≤ 18446744073709551615) : distB b a = distB a b := by
  rw [distB_nat a b a0 a1 b0 b1, distB_nat b a b0 b1 a0 a1, Nat.xor_comm]
theorem distB_tri (a b c : Int) (a0 : 0 ≤ a) (a1 : a ≤ 18446744073709551615) (b0 : 0 ≤ b) (b1 : b ≤ 18446744073709551615) (c0 : 0 ≤ c) (c1 : c ≤ 18446744073709551615) : distB a b ≤ distB a c + distB c b := by
  rw [distB_nat a b a0 a1 b0 b1, distB_nat a c a0 a1 c0 c1, distB_nat c b c0 c1 b0 b1]
  have := wtN_tri 64 a.toNat b.toNat c.toNat
  omega
theorem distB_mixed (a b c : Int) (a0 : 0 ≤ a) (a1 : a ≤ 18446744073709551615) (b0 : 0 ≤ b) (b1 : b ≤ 18446744073709551615) (c0 : 0 ≤ c) (c1 : c ≤ 18446744073709551615) : distB (bits .xor .u64 a c) (bits .xor .u64 b c) = distB a b := by
  have h1 := xorB_bd a c a0 a1 c0 c1
  have h2 := xorB_bd b c b0 b1 c0 c1
  rw [distB_nat a b a0 a1 b0 b1, distB_nat _ _ h1.1 h1.2 h2.1 h2.2, xorB_nat a c a0 a1 c0 c1, xorB_nat b c b0 b1 c0 c1]
  congr 2
  rw [Int.toNat_natCast, Int.toNat_natCast]
  apply Nat.eq_of_testBit_eq
  intro k
  simp only [Nat.testBit_xor]
  cases a.toNat.testBit k <;> cases b.toNat.testBit k <;> cases c.toNat.testBit k <;> rfl
theorem distB_turned (a : Int) (k : Nat) (hk : k < 64) (a0 : 0 ≤ a) (a1 : a ≤ 18446744073709551615) : distB a (bits .xor .u64 a (2 ^ k)) = 1 := by
  have hp : (2 : Nat) ^ k ≤ 2 ^ 63 := Nat.pow_le_pow_right (by decide) (by omega)
  have hc : (2 : Int) ^ k = ((2 ^ k : Nat) : Int) := by simp
  have hq : 0 < (2 : Nat) ^ k := Nat.two_pow_pos k
  have p0 : (0 : Int) ≤ 2 ^ k := by rw [hc]; omega
  have p1 : (2 : Int) ^ k ≤ 18446744073709551615 := by rw [hc]; omega
  have h1 := xorB_bd a (2 ^ k) a0 a1 p0 p1
  rw [distB_nat _ _ a0 a1 h1.1 h1.2, xorB_nat a _ a0 a1 p0 p1, hc, Int.toNat_natCast, Int.toNat_natCast, ← Nat.xor_assoc, Nat.xor_self, Nat.zero_xor, wtN_pow 64 k hk]; rfl
theorem wtB_not (a : Int) (a0 : 0 ≤ a) (a1 : a ≤ 18446744073709551615) : wtB a + wtB (18446744073709551615 - a) = 64 := by
  have := wtN_not 64 a.toNat (by omega)
  unfold wtB
  rw [show (18446744073709551615 - a).toNat = 2 ^ 64 - 1 - a.toNat by omega]
  omega
theorem xor_not (f n : Nat) (h : n < 2 ^ f) : n ^^^ (2 ^ f - 1 - n) = 2 ^ f - 1 := by
  apply Nat.eq_of_testBit_eq
  intro k
  rw [Nat.testBit_xor, show 2 ^ f - 1 - n = 2 ^ f - (n + 1) by omega, Nat.testBit_two_pow_sub_succ h, Nat.testBit_two_pow_sub_one]
  by_cases hk : k < f
  · simp [hk]
  · rw [Nat.testBit_lt_two_pow (Nat.lt_of_lt_of_le h (Nat.pow_le_pow_right (by decide) (by omega)))]; simp [hk]
theorem distB_not (a : Int) (a0 : 0 ≤ a) (a1 : a ≤ 18446744073709551615) : distB a (18446744073709551615 - a) = 64 := by
  have h := wtN_not 64 0 (by decide)
  rw [wtN_zero] at h
  rw [distB_nat _ _ a0 a1 (by omega) (by omega), show (18446744073709551615 - a).toNat = 2 ^ 64 - 1 - a.toNat by omega, xor_not 64 a.toNat (by omega)]
  rw [show 2 ^ 64 - 1 - 0 = 2 ^ 64 - 1 by rfl] at h
  omega

/-- The places of those that are near, among the first k. -/
def nearTo (xs : List Int) (s d : Int) : Nat → List Int
  | 0 => []
  | k + 1 => nearTo xs s d k ++ if distB (xs.getD k 0) s ≤ d then [(k : Int)] else []
theorem nearTo_yes (xs : List Int) (s d : Int) (k : Nat) (h : distB (xs.getD k 0) s ≤ d) : nearTo xs s d (k + 1) = nearTo xs s d k ++ [(k : Int)] := by rw [nearTo, if_pos h]
theorem nearTo_no (xs : List Int) (s d : Int) (k : Nat) (h : ¬ distB (xs.getD k 0) s ≤ d) : nearTo xs s d (k + 1) = nearTo xs s d k := by rw [nearTo, if_neg h, List.append_nil]
theorem nearTo_len (xs : List Int) (s d : Int) (k : Nat) : (nearTo xs s d k).length ≤ k := by
  induction k with
  | zero => simp [nearTo]
  | succ k ih => unfold nearTo; split <;> simp <;> omega
/-- The places of those that are near. -/
def nearB (xs : List Int) (s d : Int) : List Int := nearTo xs s d xs.length
end Go.Proofs.Ytgldlfgidmgmfaa
