/- Layer 21, plain: a number's bytes read one by one, as the program's loop does, and as the reference's. -/
import Derived.Test.YtpfcamebkcengaaD21p
import Derived.Test.YtpfcamebkcengaaBn
namespace Go.Proofs.Ytpfcamebkcengaa

/-- Seven bits laid at their place, of 64. -/
def put21 (k c : Nat) : Nat := if k ≤ 9 then c * 2 ^ (7 * k) % 18446744073709551616 else 0
theorem put_lt (k c : Nat) : put21 k c < 18446744073709551616 := by unfold put21; split <;> omega
theorem or_lt {a b : Nat} (ha : a < 18446744073709551616) (hb : b < 18446744073709551616) : a ||| b < 18446744073709551616 := by
  have := Nat.or_lt_two_pow (n := 64) (x := a) (y := b) ha hb
  exact this
theorem pow7 (k : Nat) (h : k ≤ 9) : 0 < 2 ^ (7 * k) ∧ 2 ^ (7 * k) ≤ 9223372036854775808 := ⟨Nat.two_pow_pos _, Nat.pow_le_pow_right (show 0 < 2 by decide) (show 7 * k ≤ 63 by omega)⟩
theorem or_add {n k c : Nat} (hn : n < 2 ^ (7 * k)) : n ||| c * 2 ^ (7 * k) = n + c * 2 ^ (7 * k) := by
  rw [Nat.or_comm, Nat.mul_comm, ← Nat.two_pow_add_eq_or_of_lt hn, Nat.add_comm]
theorem or_put {n k c : Nat} (hk : k ≤ 8) (hn : n < 2 ^ (7 * k)) (hc : c < 128) : n ||| put21 k c = n + c * 2 ^ (7 * k) := by
  have h1 : 2 ^ (7 * k) ≤ 72057594037927936 := Nat.pow_le_pow_right (show 0 < 2 by decide) (show 7 * k ≤ 56 by omega)
  have h2 : c * 2 ^ (7 * k) ≤ 127 * 72057594037927936 := Nat.mul_le_mul (by omega) h1
  unfold put21
  rw [if_pos (by omega), Nat.mod_eq_of_lt (by omega), or_add hn]
theorem or_put9 {n c : Nat} (hn : n < 9223372036854775808) : n ||| put21 9 c = n + c % 2 * 9223372036854775808 := by
  have e : put21 9 c = c % 2 * 2 ^ (7 * 9) := by
    unfold put21
    rw [if_pos (by omega)]
    show c * 9223372036854775808 % 18446744073709551616 = c % 2 * 9223372036854775808
    omega
  rw [e, or_add hn]
/-- How far the reading of a number is: k bytes of it read, n their bits. -/
def LoopOk (l : List UInt8) (k n : Nat) : Prop :=
  n < 18446744073709551616 ∧ ((k ≤ 9 ∧ n < 2 ^ (7 * k) ∧ readV21 10 true l = (readV21 (10 - k) (decide (k = 0)) (l.drop k)).map (fun p => (n + 2 ^ (7 * k) * p.1, p.2))) ∨ (10 ≤ k ∧ readV21 10 true l = none))
theorem loop_begin (l : List UInt8) : LoopOk l 0 0 := by
  refine ⟨by omega, Or.inl ⟨by omega, by decide, ?_⟩⟩
  rw [List.drop_zero]
  show readV21 10 true l = (readV21 10 true l).map _
  cases readV21 10 true l with
  | none => rfl
  | some p => simp
theorem loop_lt {l : List UInt8} {k n : Nat} (h : LoopOk l k n) : n < 18446744073709551616 := h.1
theorem read_cons (j : Nat) (fst : Bool) (c : UInt8) (r : List UInt8) : readV21 (j + 1) fst (c :: r) =
    if (j = 0 ∧ 1 < c.toNat) ∨ (fst = false ∧ c.toNat = 0) then none else if c.toNat < 128 then some (c.toNat, r) else match readV21 j false r with | none => none | some (u, t) => some (c.toNat - 128 + 128 * u, t) := by
  rw [readV21]
  rfl
theorem loop_next {l : List UInt8} {k n : Nat} (h : LoopOk l k n) (hk : k < l.length) (hc : 128 ≤ (l[k]'hk).toNat) : LoopOk l (k + 1) (n ||| put21 k ((l[k]'hk).toNat % 128)) := by
  obtain ⟨h0, h⟩ := h
  refine ⟨or_lt h0 (put_lt _ _), ?_⟩
  rcases h with ⟨h1, h2, h3⟩ | ⟨h1, h2⟩
  · rw [List.drop_eq_getElem_cons hk, show 10 - k = (9 - k) + 1 by omega, read_cons] at h3
    have hlt := (l[k]'hk).toNat_lt
    generalize (l[k]'hk).toNat = c at *
    by_cases h9 : k = 9
    · refine Or.inr ⟨by omega, ?_⟩
      rw [h3, if_pos (Or.inl ⟨by omega, by omega⟩)]
      rfl
    · rw [if_neg (by omega), if_neg (by omega)] at h3
      have e7 : 2 ^ (7 * (k + 1)) = 128 * 2 ^ (7 * k) := by rw [show 7 * (k + 1) = 7 + 7 * k by omega, Nat.pow_add]
      refine Or.inl ⟨by omega, ?_, ?_⟩
      · rw [or_put (by omega) h2 (by omega), e7]
        have : c % 128 * 2 ^ (7 * k) ≤ 127 * 2 ^ (7 * k) := Nat.mul_le_mul_right _ (by omega)
        omega
      · rw [h3, or_put (by omega) h2 (by omega), show 10 - (k + 1) = 9 - k by omega, show decide (k + 1 = 0) = false by simp]
        cases readV21 (9 - k) false (l.drop (k + 1)) with
        | none => rfl
        | some p =>
          obtain ⟨u, t⟩ := p
          simp only [Option.map_some, Option.some.injEq, Prod.mk.injEq, and_true]
          rw [e7, show c % 128 = c - 128 by omega, Nat.mul_add, Nat.mul_comm (2 ^ (7 * k)) (c - 128), ← Nat.mul_assoc, Nat.mul_comm (2 ^ (7 * k)) 128]
          omega
  · exact Or.inr ⟨by omega, h2⟩
theorem loop_bad {l : List UInt8} {k n : Nat} (h : LoopOk l k n) (hk : k < l.length) (hc : (l[k]'hk).toNat < 128) (hb : ((l[k]'hk).toNat = 0 ∧ 0 < k) ∨ (n ||| put21 k ((l[k]'hk).toNat % 128)) / 2 ^ (min (7 * k) 64) ≠ (l[k]'hk).toNat) : readV21 10 true l = none := by
  obtain ⟨h0, h⟩ := h
  rcases h with ⟨h1, h2, h3⟩ | ⟨h1, h2⟩
  · rw [List.drop_eq_getElem_cons hk, show 10 - k = (9 - k) + 1 by omega, read_cons] at h3
    generalize (l[k]'hk).toNat = c at *
    rw [h3, if_pos]
    · rfl
    by_cases h9 : k = 9
    · subst h9
      by_cases h01 : c = 0
      · exact Or.inr ⟨by simp, h01⟩
      · refine Or.inl ⟨by omega, ?_⟩
        rcases hb with hb | hb
        · omega
        · rw [or_put9 (by simpa using h2)] at hb
          have e : (2 : Nat) ^ (min (7 * 9) 64) = 9223372036854775808 := by decide
          have h2' : n < 9223372036854775808 := by simpa using h2
          rw [e] at hb
          omega
    · rcases hb with hb | hb
      · exact Or.inr ⟨by simp; omega, hb.1⟩
      · rw [or_put (by omega) h2 (by omega), show min (7 * k) 64 = 7 * k by omega, Nat.add_mul_div_right _ _ (Nat.two_pow_pos _), Nat.div_eq_of_lt h2] at hb
        omega
  · exact h2
theorem loop_good {l : List UInt8} {k n : Nat} (h : LoopOk l k n) (hk : k < l.length) (hc : (l[k]'hk).toNat < 128) (h0 : ¬ ((l[k]'hk).toNat = 0 ∧ 0 < k)) (hb : (n ||| put21 k ((l[k]'hk).toNat % 128)) / 2 ^ (min (7 * k) 64) = (l[k]'hk).toNat) : readV21 10 true l = some (n ||| put21 k ((l[k]'hk).toNat % 128), l.drop (k + 1)) := by
  obtain ⟨hn, h⟩ := h
  rcases h with ⟨h1, h2, h3⟩ | ⟨h1, h2⟩
  · rw [List.drop_eq_getElem_cons hk, show 10 - k = (9 - k) + 1 by omega, read_cons] at h3
    generalize (l[k]'hk).toNat = c at *
    by_cases h9 : k = 9
    · subst h9
      have h2' : n < 9223372036854775808 := by simpa using h2
      have e : (2 : Nat) ^ (min (7 * 9) 64) = 9223372036854775808 := by decide
      rw [or_put9 h2', e] at hb
      rw [or_put9 h2']
      have hc1 : c = 1 := by omega
      subst hc1
      rw [h3, if_neg (by omega), if_pos (by omega)]
      have e2 : (2 : Nat) ^ (7 * 9) = 9223372036854775808 := by decide
      simp only [Option.map_some]
    · rw [h3, or_put (by omega) h2 (by omega), if_neg, if_pos hc]
      · simp only [Option.map_some, Option.some.injEq, Prod.mk.injEq, and_true]
        rw [Nat.mod_eq_of_lt hc, Nat.mul_comm]
      · rintro (h | ⟨h, h'⟩)
        · omega
        · exact h0 ⟨h', Nat.pos_of_ne_zero (by simpa using h)⟩
  · exfalso
    have e : put21 k ((l[k]'hk).toNat % 128) = 0 := by unfold put21; rw [if_neg (by omega)]
    rw [e, Nat.or_zero, show min (7 * k) 64 = 64 by omega, Nat.div_eq_of_lt hn] at hb
    omega
theorem loop_end {l : List UInt8} {k n : Nat} (h : LoopOk l k n) (hk : l.length ≤ k) : readV21 10 true l = none := by
  obtain ⟨_, ⟨h1, _, h3⟩ | ⟨_, h2⟩⟩ := h
  · rw [h3, List.drop_of_length_le hk, show 10 - k = (9 - k) + 1 by omega, readV21]
    rfl
  · exact h2
theorem readI_none {l : List UInt8} (h : readV21 10 true l = none) : readI21 l = none := by unfold readI21; rw [h]
theorem readI_some {l t : List UInt8} {u : Nat} (h : readV21 10 true l = some (u, t)) : readI21 l = some (zag21 u, t) := by unfold readI21; rw [h]
/-- What a reading told, or nothing. -/
def valO {α : Type} (d : α) (r : Option (α × List UInt8)) : α := match r with | some (x, _) => x | none => d
/-- What is left behind a reading; none: it is bad. -/
def resO {α : Type} (r : Option (α × List UInt8)) : Option (List UInt8) := r.map Prod.snd
end Go.Proofs.Ytpfcamebkcengaa
