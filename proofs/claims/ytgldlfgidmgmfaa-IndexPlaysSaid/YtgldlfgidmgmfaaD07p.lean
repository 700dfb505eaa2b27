/- Plain mathematics of layer 7 (a number's bits in bands): nothing of the program. -/
import Derived.Test.YtgldlfgidmgmfaaD06p
namespace Go.Proofs.Ytgldlfgidmgmfaa

/-- How many bits band number k has, of n + 1. -/
def wdN (n k : Nat) : Nat := if k < 64 % (n + 1) then 64 / (n + 1) + 1 else 64 / (n + 1)
/-- At which bit it begins. -/
def stN (n k : Nat) : Nat := k * (64 / (n + 1)) + min k (64 % (n + 1))
theorem cut_facts : ∀ n, n < 16 → ∀ k, k < 16 → k ≤ n → stN n (k + 1) = stN n k + wdN n k ∧ stN n (k + 1) ≤ 64 ∧ 4 ≤ wdN n k ∧ 64 / (n + 1) ≤ wdN n k ∧ wdN n k ≤ 64 / (n + 1) + 1 := by decide +kernel
theorem st_next {n k : Nat} (hn : n < 16) (hk : k ≤ n) : stN n (k + 1) = stN n k + wdN n k := (cut_facts n hn k (by omega) hk).1
theorem st_le {n k : Nat} (hn : n < 16) (hk : k ≤ n) : stN n k + wdN n k ≤ 64 := by have := cut_facts n hn k (by omega) hk; omega
theorem wd_pos {n k : Nat} (hn : n < 16) (hk : k ≤ n) : 4 ≤ wdN n k := (cut_facts n hn k (by omega) hk).2.2.1
theorem st_zero (n : Nat) : stN n 0 = 0 := by unfold stN; omega
theorem st_all : ∀ n, n < 16 → stN n (n + 1) = 64 := by decide +kernel
theorem wd_one : ∀ n, n < 16 → ∀ k, k < 16 → k ≤ n → wdN n k = 64 → stN n k = 0 := by decide +kernel

/-- The bits of s in band number k. -/
def bdN (s n k : Nat) : Nat := s / 2 ^ stN n k % 2 ^ wdN n k
theorem bdN_lt (s n k : Nat) : bdN s n k < 2 ^ wdN n k := Nat.mod_lt _ (Nat.two_pow_pos _)
theorem bdN_xor (a b n k : Nat) : bdN (a ^^^ b) n k = bdN a n k ^^^ bdN b n k := by
  unfold bdN
  rw [← Nat.xor_mod_two_pow, ← Nat.shiftRight_eq_div_pow, ← Nat.shiftRight_eq_div_pow, ← Nat.shiftRight_eq_div_pow, Nat.shiftRight_xor_distrib]
/-- The lowest bands, each at its beginning. -/
theorem whole_next {s n k : Nat} (hn : n < 16) (hk : k ≤ n) : s % 2 ^ stN n (k + 1) = s % 2 ^ stN n k + bdN s n k * 2 ^ stN n k := by
  rw [st_next hn hk, Nat.pow_add, Nat.mod_mul, Nat.mul_comm]; rfl
theorem whole_or {s n k : Nat} (hn : n < 16) (hk : k ≤ n) : s % 2 ^ stN n k ||| bdN s n k * 2 ^ stN n k = s % 2 ^ stN n (k + 1) := by
  have h : s % 2 ^ stN n k < 2 ^ stN n k := Nat.mod_lt _ (Nat.two_pow_pos _)
  rw [whole_next hn hk, Nat.or_comm, Nat.mul_comm, ← Nat.two_pow_add_eq_or_of_lt h, Nat.add_comm]
theorem part_lt {s n k : Nat} (hn : n < 16) (hk : k ≤ n) : bdN s n k * 2 ^ stN n k < 18446744073709551616 := by
  have h1 := bdN_lt s n k
  have h2 : bdN s n k * 2 ^ stN n k < 2 ^ wdN n k * 2 ^ stN n k := Nat.mul_lt_mul_of_pos_right h1 (Nat.two_pow_pos _)
  rw [← Nat.pow_add] at h2
  have h3 : 2 ^ (wdN n k + stN n k) ≤ 2 ^ 64 := Nat.pow_le_pow_right (by decide) (by have := st_le hn hk; omega)
  omega
theorem low_lt {s n k : Nat} (hn : n < 16) (hk : k ≤ n + 1) : s % 2 ^ stN n k < 18446744073709551616 := by
  have h1 : s % 2 ^ stN n k < 2 ^ stN n k := Nat.mod_lt _ (Nat.two_pow_pos _)
  have h2 : stN n k ≤ 64 := by
    rcases Nat.lt_or_ge n k with h | h
    · rw [show k = n + 1 by omega, st_all n hn]; omega
    · have := st_le hn h; omega
  have h3 : 2 ^ stN n k ≤ 2 ^ 64 := Nat.pow_le_pow_right (by decide) h2
  omega

/-- Whether one of the first k bands is the same. -/
def shTo (a b n : Nat) : Nat → Bool
  | 0 => false
  | k + 1 => shTo a b n k || (bdN a n k == bdN b n k)
theorem shTo_yes {a b n k j : Nat} (hk : k < j) (h : bdN a n k = bdN b n k) : shTo a b n j = true := by
  induction j with
  | zero => omega
  | succ j ih =>
    unfold shTo
    rcases Nat.lt_or_ge k j with hlt | hge
    · rw [ih hlt]; rfl
    · rw [show j = k by omega, h]; simp
theorem shTo_no {a b n k : Nat} (h0 : shTo a b n k = false) (h : ¬ bdN a n k = bdN b n k) : shTo a b n (k + 1) = false := by
  unfold shTo; rw [h0]; simp [h]
theorem shTo_none {a b n k j : Nat} (h0 : shTo a b n j = false) (hk : k < j) : bdN a n k ≠ bdN b n k := by
  intro h; rw [shTo_yes hk h] at h0; simp at h0

theorem wtN_add (p q n : Nat) : wtN (p + q) n = wtN p n + wtN q (n / 2 ^ p) := by
  induction p generalizing n with
  | zero => simp [wtN]
  | succ p ih =>
    rw [show p + 1 + q = (p + q) + 1 by omega]
    have := ih (n / 2)
    rw [Nat.div_div_eq_div_mul] at this
    rw [show wtN (p + q + 1) n = n % 2 + wtN (p + q) (n / 2) from rfl, show wtN (p + 1) n = n % 2 + wtN p (n / 2) from rfl, this, Nat.pow_succ, Nat.mul_comm (2 ^ p) 2]; omega
theorem wtN_mod (f n : Nat) : wtN f (n % 2 ^ f) = wtN f n := by
  induction f generalizing n with
  | zero => rfl
  | succ f ih =>
    unfold wtN
    rw [Nat.pow_succ, Nat.mul_comm, Nat.mod_mul_right_div_self, ih, Nat.mod_mul_right_mod]
theorem xor_none {a b : Nat} (h : a ^^^ b = 0) : a = b := by
  have h4 : a ^^^ b ^^^ b = b := by rw [h, Nat.zero_xor]
  rwa [Nat.xor_assoc, Nat.xor_self, Nat.xor_zero] at h4
/-- Each band in which two differ is at least one bit. -/
theorem apart_le {a b n : Nat} (hn : n < 16) (k : Nat) (hk : k ≤ n + 1) (h : shTo a b n k = false) : k ≤ wtN (stN n k) (a ^^^ b) := by
  induction k with
  | zero => omega
  | succ k ih =>
    have h1 := shTo_none h (Nat.lt_succ_self k)
    have h0 : shTo a b n k = false := by
      unfold shTo at h
      exact (Bool.or_eq_false_iff.1 h).1
    have h2 := ih (by omega) h0
    rw [st_next hn (by omega), wtN_add]
    have h3 : wtN (wdN n k) ((a ^^^ b) / 2 ^ stN n k) ≠ 0 := by
      intro e
      rw [← wtN_mod] at e
      have := wtN_none _ _ (Nat.mod_lt _ (Nat.two_pow_pos _)) e
      have h4 : bdN (a ^^^ b) n k = 0 := this
      rw [bdN_xor] at h4
      exact h1 (xor_none h4)
    omega

/-- A number with just the lowest bit of each of the first k bands. -/
def markN (n : Nat) : Nat → Nat
  | 0 => 0
  | k + 1 => markN n k + 2 ^ stN n k
theorem mark_facts : ∀ n, n < 16 → ∀ k, k < 16 → k ≤ n → markN n k ^^^ 2 ^ stN n k = markN n (k + 1) ∧ markN n (k + 1) < 18446744073709551616 ∧ bdN (markN n (n + 1)) n k = 1 := by decide +kernel
theorem mark_wt : ∀ n, n < 16 → wtN 64 (markN n (n + 1)) = n + 1 := by decide +kernel
theorem xor_one (a : Nat) : a ≠ a ^^^ 1 := by
  intro h
  have h1 := xor_mod a 1
  rw [← h] at h1
  omega
theorem mark_apart {s n : Nat} (hn : n < 16) (k : Nat) (hk : k ≤ n + 1) : shTo s (s ^^^ markN n (n + 1)) n k = false := by
  induction k with
  | zero => rfl
  | succ k ih =>
    refine shTo_no (ih (by omega)) ?_
    rw [bdN_xor, (mark_facts n hn k (by omega) (by omega)).2.2]
    exact xor_one _

/-- Whether the distance d may be; whether there is band number i by it. -/
def mayB (d : Int) : Bool := decide (0 ≤ d) && decide (d < 16)
def hereB (d i : Int) : Bool := mayB d && decide (0 ≤ i) && decide (i ≤ d)
theorem mayB_iff {d : Int} : mayB d = true ↔ 0 ≤ d ∧ d < 16 := by unfold mayB; simp
theorem hereB_iff {d i : Int} : hereB d i = true ↔ (0 ≤ d ∧ d < 16) ∧ 0 ≤ i ∧ i ≤ d := by unfold hereB; simp [mayB_iff, and_assoc]
/-- The document's answers. -/
def widB (d i : Int) : Int := if hereB d i = true then (wdN d.toNat i.toNat : Nat) else 0
def begB (d i : Int) : Int := if hereB d i = true then (stN d.toNat i.toNat : Nat) else 0
def bandB (s d i : Int) : Int := if hereB d i = true then (bdN s.toNat d.toNat i.toNat : Nat) else 0
def bandsB (s d : Int) : List Int := if mayB d = true then (List.range (d.toNat + 1)).map fun k => ((bdN s.toNat d.toNat k : Nat) : Int) else []
def shareB (a b d : Int) : Bool := mayB d && shTo a.toNat b.toNat d.toNat (d.toNat + 1)
theorem here_nat {n k : Nat} (hn : n < 16) (hk : k ≤ n) : hereB n k = true := hereB_iff.2 ⟨⟨by omega, by omega⟩, by omega, by omega⟩
theorem may_nat {n : Nat} (hn : n < 16) : mayB n = true := mayB_iff.2 ⟨by omega, by omega⟩
theorem here_form {d i : Int} (h : hereB d i = true) : ∃ n k : Nat, d = n ∧ i = k ∧ n < 16 ∧ k ≤ n := by
  have := hereB_iff.1 h
  exact ⟨d.toNat, i.toNat, by omega, by omega, by omega, by omega⟩
theorem may_form {d : Int} (h : mayB d = true) : ∃ n : Nat, d = n ∧ n < 16 := by
  have := mayB_iff.1 h
  exact ⟨d.toNat, by omega, by omega⟩
theorem widB_nat {n k : Nat} (hn : n < 16) (hk : k ≤ n) : widB n k = (wdN n k : Nat) := by unfold widB; rw [if_pos (here_nat hn hk)]; rfl
theorem begB_nat {n k : Nat} (hn : n < 16) (hk : k ≤ n) : begB n k = (stN n k : Nat) := by unfold begB; rw [if_pos (here_nat hn hk)]; rfl
theorem bandB_nat {n k : Nat} (s : Int) (hn : n < 16) (hk : k ≤ n) : bandB s n k = (bdN s.toNat n k : Nat) := by unfold bandB; rw [if_pos (here_nat hn hk)]; rfl
theorem widB_bd (d i : Int) : 0 ≤ widB d i ∧ widB d i ≤ 64 := by
  by_cases h : hereB d i = true
  · obtain ⟨n, k, rfl, rfl, hn, hk⟩ := here_form h
    rw [widB_nat hn hk]; have := st_le hn hk; omega
  · unfold widB; rw [if_neg h]; omega
theorem begB_bd (d i : Int) : 0 ≤ begB d i ∧ begB d i ≤ 64 := by
  by_cases h : hereB d i = true
  · obtain ⟨n, k, rfl, rfl, hn, hk⟩ := here_form h
    rw [begB_nat hn hk]; have := st_le hn hk; omega
  · unfold begB; rw [if_neg h]; omega
theorem bandB_bd (s d i : Int) : 0 ≤ bandB s d i ∧ bandB s d i ≤ 18446744073709551615 := by
  by_cases h : hereB d i = true
  · obtain ⟨n, k, rfl, rfl, hn, hk⟩ := here_form h
    rw [bandB_nat s hn hk]
    have h1 := bdN_lt s.toNat n k
    have h2 : 2 ^ wdN n k ≤ 2 ^ 64 := Nat.pow_le_pow_right (by decide) (by have := st_le hn hk; omega)
    omega
  · unfold bandB; rw [if_neg h]; omega
theorem bandB_none {s d i : Int} (h : ¬ hereB d i = true) : bandB s d i = 0 := by unfold bandB; rw [if_neg h]
theorem widB_none {d i : Int} (h : ¬ hereB d i = true) : widB d i = 0 := by unfold widB; rw [if_neg h]
theorem begB_none {d i : Int} (h : ¬ hereB d i = true) : begB d i = 0 := by unfold begB; rw [if_neg h]

/-- The lowest w bits: all of them by 64. -/
theorem wrap_u64 (x : Int) : IntKind.wrap .u64 x = x % 18446744073709551616 := by simp [IntKind.wrap, IntKind.bits, IntKind.signed]
theorem mask_is (w : Nat) (h : w ≤ 64) : IntKind.wrap .u64 (IntKind.wrap .u64 (2 ^ w) - 1) = ((2 ^ w - 1 : Nat) : Int) := by
  rw [wrap_u64, wrap_u64]
  rcases Nat.lt_or_ge w 64 with hw | hw
  · have h1 := pow_lt w hw
    have h4 : ((2 : Int) ^ w) = ((2 ^ w : Nat) : Int) := by simp
    rw [h4]; omega
  · rw [show w = 64 by omega]; decide
theorem and_mask (s w : Nat) (hs : s < 18446744073709551616) (hw : w ≤ 64) : bits .and .u64 (s : Int) ((2 ^ w - 1 : Nat) : Int) = ((s % 2 ^ w : Nat) : Int) := by
  have h3 : 2 ^ w ≤ 2 ^ 64 := Nat.pow_le_pow_right (by decide) hw
  rw [bits_and_u64_nat _ _ hs (by omega), Nat.and_two_pow_sub_one_eq_mod]
end Go.Proofs.Ytgldlfgidmgmfaa
