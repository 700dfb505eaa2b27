/- Layer 21, plain: numbers and texts as bytes, there and back. -/
import Derived.Test.YtpfcamebkcengaaBt
namespace Go.Proofs.Ytpfcamebkcengaa

/-- A number doubled, or, below 0, its opposite doubled, less 1. -/
def zig21 (n : Int) : Nat := if n < 0 then (-n * 2 - 1).toNat else (n * 2).toNat
def zag21 (u : Nat) : Int := if u % 2 = 1 then -((u / 2 : Nat) : Int) - 1 else ((u / 2 : Nat) : Int)
theorem zag_zig (n : Int) : zag21 (zig21 n) = n := by
  unfold zag21 zig21
  split <;> split <;> omega
theorem zig_zag (u : Nat) : zig21 (zag21 u) = u := by
  unfold zag21 zig21
  split <;> split <;> omega
theorem zig_lt {n : Int} (h1 : -9223372036854775808 ≤ n) (h2 : n ≤ 9223372036854775807) : zig21 n < 18446744073709551616 := by
  unfold zig21
  split <;> omega
theorem zag_bd {u : Nat} (h : u < 18446744073709551616) : -9223372036854775808 ≤ zag21 u ∧ zag21 u ≤ 9223372036854775807 := by
  unfold zag21
  split <;> omega
theorem zig_inj {n m : Int} (h : zig21 n = zig21 m) : n = m := by rw [← zag_zig n, ← zag_zig m, h]
/-- Seven bits a byte, the lowest first. -/
def var21 (u : Nat) : List UInt8 := if _h : u < 128 then [UInt8.ofNat u] else UInt8.ofNat (u % 128 + 128) :: var21 (u / 128)
termination_by u
decreasing_by omega
theorem var_small {u : Nat} (h : u < 128) : var21 u = [UInt8.ofNat u] := by rw [var21, dif_pos h]
theorem var_big {u : Nat} (h : ¬ u < 128) : var21 u = UInt8.ofNat (u % 128 + 128) :: var21 (u / 128) := by rw [var21, dif_neg h]
/-- The number that bytes begin with: at most k bytes on; is it the first one? -/
def readV21 : Nat → Bool → List UInt8 → Option (Nat × List UInt8)
  | 0, _, _ => none
  | _ + 1, _, [] => none
  | k + 1, fst, c :: r =>
    if (k = 0 ∧ 1 < c.toNat) ∨ (fst = false ∧ c.toNat = 0) then none
    else if c.toNat < 128 then some (c.toNat, r)
    else match readV21 k false r with | none => none | some (u, t) => some (c.toNat - 128 + 128 * u, t)
theorem pow_seven (k : Nat) : 2 ^ (7 * (k + 1) + 1) = 128 * 2 ^ (7 * k + 1) := by
  rw [show 7 * (k + 1) + 1 = 7 + (7 * k + 1) by omega, Nat.pow_add]
theorem read_var : ∀ (k : Nat) (fst : Bool) (u : Nat) (t : List UInt8), u < 2 ^ (7 * k + 1) → (fst = true ∨ u ≠ 0) → readV21 (k + 1) fst (var21 u ++ t) = some (u, t)
  | 0, fst, u, t, h, hf => by
    have hu : u < 2 := h
    rw [var_small (by omega), List.singleton_append, readV21]
    have e : (UInt8.ofNat u).toNat = u := by rw [UInt8.toNat_ofNat']; omega
    rw [e, if_neg, if_pos (by omega)]
    rintro (⟨_, h1⟩ | ⟨h1, h2⟩)
    · omega
    · rcases hf with hf | hf
      · rw [h1] at hf; cases hf
      · exact hf h2
  | k + 1, fst, u, t, h, hf => by
    by_cases hs : u < 128
    · rw [var_small hs, List.singleton_append, readV21]
      have e : (UInt8.ofNat u).toNat = u := by rw [UInt8.toNat_ofNat']; omega
      rw [e, if_neg, if_pos hs]
      rintro (⟨h1, _⟩ | ⟨h1, h2⟩)
      · omega
      · rcases hf with hf | hf
        · rw [h1] at hf; cases hf
        · exact hf h2
    · rw [pow_seven] at h
      rw [var_big hs, List.cons_append, readV21]
      have e : (UInt8.ofNat (u % 128 + 128)).toNat = u % 128 + 128 := by rw [UInt8.toNat_ofNat']; omega
      rw [e, if_neg (by omega), if_neg (by omega), read_var k false (u / 128) t (by omega) (Or.inr (by omega))]
      simp only
      congr 2
      omega
theorem var_read : ∀ (k : Nat) (fst : Bool) (s : List UInt8) (u : Nat) (t : List UInt8), readV21 (k + 1) fst s = some (u, t) → s = var21 u ++ t ∧ u < 2 ^ (7 * k + 1) ∧ (fst = true ∨ u ≠ 0)
  | k, fst, [], u, t, h => by simp [readV21] at h
  | k, fst, c :: r, u, t, h => by
    rw [readV21] at h
    have hc := c.toNat_lt
    by_cases h1 : (k = 0 ∧ 1 < c.toNat) ∨ (fst = false ∧ c.toNat = 0)
    · rw [if_pos h1] at h; cases h
    rw [if_neg h1] at h
    by_cases h2 : c.toNat < 128
    · rw [if_pos h2] at h
      injection h with h
      injection h with h3 h4
      subst h3 h4
      refine ⟨by rw [var_small h2, UInt8.ofNat_toNat]; rfl, ?_, ?_⟩
      · cases k with
        | zero =>
          have : ¬ 1 < c.toNat := fun e => h1 (Or.inl ⟨rfl, e⟩)
          show c.toNat < 2
          omega
        | succ k =>
          rw [pow_seven]
          have := Nat.two_pow_pos (7 * k + 1)
          omega
      · cases fst with
        | true => exact Or.inl rfl
        | false => exact Or.inr fun e => h1 (Or.inr ⟨rfl, e⟩)
    · rw [if_neg h2] at h
      cases k with
      | zero => simp [readV21] at h
      | succ k =>
        cases e : readV21 (k + 1) false r with
        | none => rw [e] at h; cases h
        | some p =>
          obtain ⟨v, t'⟩ := p
          rw [e] at h
          simp only [Option.some.injEq, Prod.mk.injEq] at h
          obtain ⟨h3, h4⟩ := h
          obtain ⟨i1, i2, i3⟩ := var_read k false r v t' e
          have hv : v ≠ 0 := i3.resolve_left (by decide)
          subst h3 h4
          refine ⟨?_, ?_, Or.inr (by omega)⟩
          · rw [var_big (by omega), i1, show (c.toNat - 128 + 128 * v) / 128 = v by omega, show (c.toNat - 128 + 128 * v) % 128 + 128 = c.toNat by omega, UInt8.ofNat_toNat]
            rfl
          · rw [pow_seven]; omega
/-- A number's bytes. -/
def int21 (n : Int) : List UInt8 := var21 (zig21 n)
/-- The number that bytes begin with, and what stands behind. -/
def readI21 (s : List UInt8) : Option (Int × List UInt8) := match readV21 10 true s with | none => none | some (u, t) => some (zag21 u, t)
theorem read_int {n : Int} (h1 : -9223372036854775808 ≤ n) (h2 : n ≤ 9223372036854775807) (t : List UInt8) : readI21 (int21 n ++ t) = some (n, t) := by
  unfold readI21 int21
  rw [read_var 9 true (zig21 n) t (zig_lt h1 h2) (Or.inl rfl)]
  simp only
  rw [zag_zig]
theorem int_read {s t : List UInt8} {n : Int} (h : readI21 s = some (n, t)) : s = int21 n ++ t ∧ -9223372036854775808 ≤ n ∧ n ≤ 9223372036854775807 := by
  unfold readI21 at h
  cases e : readV21 10 true s with
  | none => rw [e] at h; cases h
  | some p =>
    obtain ⟨u, t'⟩ := p
    rw [e] at h
    simp only [Option.some.injEq, Prod.mk.injEq] at h
    obtain ⟨h1, h2⟩ := h
    obtain ⟨i1, i2, _⟩ := var_read 9 true s u t' e
    subst h1 h2
    unfold int21
    rw [zig_zag]
    exact ⟨i1, zag_bd i2⟩
theorem var_len_one (u : Nat) : (var21 u).length = 1 ↔ u < 128 := by
  constructor
  · intro h
    by_cases hs : u < 128
    · exact hs
    · rw [var_big hs] at h
      exfalso
      have : 1 ≤ (var21 (u / 128)).length := by
        by_cases h2 : u / 128 < 128
        · rw [var_small h2]; simp
        · rw [var_big h2]; simp
      rw [List.length_cons] at h
      omega
  · intro h
    rw [var_small h]; rfl
theorem var_len_pos (u : Nat) : 1 ≤ (var21 u).length := by
  by_cases h2 : u < 128
  · rw [var_small h2]; simp
  · rw [var_big h2]; simp
theorem var_len_le : ∀ (k u : Nat), u < 2 ^ (7 * k + 1) → (var21 u).length ≤ k + 1
  | 0, u, h => by
    have : u < 2 := h
    rw [var_small (by omega)]; simp
  | k + 1, u, h => by
    by_cases hs : u < 128
    · rw [var_small hs]; simp
    · rw [pow_seven] at h
      rw [var_big hs, List.length_cons]
      have := var_len_le k (u / 128) (by omega)
      omega
theorem var_mono : ∀ (m u v : Nat), u ≤ m → v ≤ u → (var21 v).length ≤ (var21 u).length
  | 0, u, v, hm, h => by rw [show u = v by omega]; exact Nat.le_refl _
  | m + 1, u, v, hm, h => by
    by_cases hv : v < 128
    · have := var_len_pos u
      rw [var_small hv]
      exact this
    · rw [var_big hv, var_big (show ¬ u < 128 by omega), List.length_cons, List.length_cons]
      have := var_mono m (u / 128) (v / 128) (by omega) (by omega)
      omega
theorem int_len_one {n : Int} : (int21 n).length = 1 ↔ -64 ≤ n ∧ n ≤ 63 := by
  unfold int21
  rw [var_len_one]
  unfold zig21
  split <;> omega
theorem int_len_bd {n : Int} (h1 : -9223372036854775808 ≤ n) (h2 : n ≤ 9223372036854775807) : 1 ≤ (int21 n).length ∧ (int21 n).length ≤ 10 := ⟨var_len_pos _, var_len_le 9 _ (zig_lt h1 h2)⟩
theorem int_mono {n m : Int} (h0 : 0 ≤ n) (h : n ≤ m) : (int21 n).length ≤ (int21 m).length := by
  unfold int21
  refine var_mono _ _ _ (Nat.le_refl _) ?_
  unfold zig21
  rw [if_neg (by omega), if_neg (by omega)]
  omega
theorem int_inj {n m : Int} (h1 : -9223372036854775808 ≤ n) (h2 : n ≤ 9223372036854775807) (h3 : -9223372036854775808 ≤ m) (h4 : m ≤ 9223372036854775807) (h : int21 n = int21 m) : n = m := by
  have e1 := read_int h1 h2 []
  have e2 := read_int h3 h4 []
  rw [h, e2] at e1
  injection e1 with e1
  injection e1 with e1 _
  exact e1.symm

/-- A text's bytes. -/
def text21 (s : List UInt8) : List UInt8 := int21 s.length ++ s
def readT21 (s : List UInt8) (most : Int) : Option (List UInt8 × List UInt8) :=
  match readI21 s with
  | none => none
  | some (n, t) => if n < 0 ∨ most < n ∨ (t.length : Int) < n then none else some (t.take n.toNat, t.drop n.toNat)
theorem read_text {s : List UInt8} {most : Int} (b : List UInt8) (h : (s.length : Int) ≤ most) (hl : s.length ≤ 9223372036854775807) : readT21 (text21 s ++ b) most = some (s, b) := by
  unfold readT21 text21
  rw [List.append_assoc, read_int (by omega) (by omega)]
  simp only
  rw [if_neg, Int.toNat_natCast, List.take_left, List.drop_left]
  rw [List.length_append]
  omega
theorem text_read {x s t : List UInt8} {most : Int} (h : readT21 x most = some (s, t)) : x = text21 s ++ t ∧ (s.length : Int) ≤ most := by
  unfold readT21 at h
  cases e : readI21 x with
  | none => rw [e] at h; cases h
  | some p =>
    obtain ⟨n, u⟩ := p
    rw [e] at h
    simp only at h
    by_cases c : n < 0 ∨ most < n ∨ (u.length : Int) < n
    · rw [if_pos c] at h; cases h
    · rw [if_neg c] at h
      injection h with h
      injection h with h1 h2
      obtain ⟨i1, _, _⟩ := int_read e
      have hl : (s.length : Int) = n := by rw [← h1, List.length_take]; omega
      refine ⟨?_, by omega⟩
      unfold text21
      rw [hl, i1, ← h1, ← h2, List.append_assoc, List.take_append_drop]
end Go.Proofs.Ytpfcamebkcengaa
