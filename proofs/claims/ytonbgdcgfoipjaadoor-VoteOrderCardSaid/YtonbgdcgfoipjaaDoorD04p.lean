/- Plain mathematics of layer 4 (hashes and shingles): nothing of the program. -/
import Derived.Test.YtonbgdcgfoipjaaDoorWp
import Derived.WalkKit
namespace Go.Proofs.YtonbgdcgfoipjaaDoor

/-- One more byte in a hash. -/
def hstep (h c : Int) : Int := IntKind.wrap .u64 (bits .xor .u64 h c * 1099511628211)
/-- The hash of bytes. -/
def hashB (l : List UInt8) : Int := l.foldl (fun h c => hstep h (c.toNat : Int)) 14695981039346656037
theorem hashB_snoc (l : List UInt8) (c : UInt8) : hashB (l ++ [c]) = hstep (hashB l) (c.toNat : Int) := by unfold hashB; rw [List.foldl_append]; rfl
theorem hstep_bd (h c : Int) : 0 ≤ hstep h c ∧ hstep h c ≤ 18446744073709551615 := by
  unfold hstep
  generalize bits .xor .u64 h c * 1099511628211 = x
  have h1 := Int.emod_nonneg x (show (18446744073709551616 : Int) ≠ 0 by decide)
  have h2 := Int.emod_lt_of_pos x (show (0 : Int) < 18446744073709551616 by decide)
  have h3 : IntKind.wrap .u64 x = x % 18446744073709551616 := by simp [IntKind.wrap, IntKind.bits, IntKind.signed]
  omega
theorem hashB_bd (l : List UInt8) : 0 ≤ hashB l ∧ hashB l ≤ 18446744073709551615 := by
  rcases List.eq_nil_or_concat l with rfl | ⟨l, c, rfl⟩
  · decide
  · rw [List.concat_eq_append, hashB_snoc]; exact hstep_bd _ _
theorem take_snoc4 {α : Type} {l : List α} {k : Nat} (d : α) (h : k < l.length) : l.take (k + 1) = l.take k ++ [l.getD k d] := by
  rw [List.take_succ_eq_append_getElem h]; simp [List.getD, h]
theorem hashB_take (l : List UInt8) (k : Nat) (h : k < l.length) : hashB (l.take (k + 1)) = hstep (hashB (l.take k)) (bt l k) := by
  rw [take_snoc4 0 h, hashB_snoc]; rfl

/-- How many shingles so many words have. -/
def cnt (n : Nat) (k : Int) : Nat := if n = 0 ∨ k < 1 then 0 else n - k.toNat + 1
/-- The shingle that begins at a place. -/
def shin (l : List (List UInt8)) (k : Int) (i : Nat) : List UInt8 := joinB ((l.drop i).take k.toNat)
/-- The shingles. -/
def shinB (l : List (List UInt8)) (k : Int) : List (List UInt8) := (List.range (cnt l.length k)).map (shin l k)
/-- Their hashes. -/
def hashesB (l : List (List UInt8)) (k : Int) : List Int := (shinB l k).map hashB
theorem shinB_len (l : List (List UInt8)) (k : Int) : (shinB l k).length = cnt l.length k := by unfold shinB; simp
theorem hashesB_len (l : List (List UInt8)) (k : Int) : (hashesB l k).length = cnt l.length k := by unfold hashesB; simp [shinB_len]
theorem cnt_le (n : Nat) (k : Int) : cnt n k ≤ n := by unfold cnt; split <;> omega
theorem cnt_lt {n : Nat} {k : Int} {i : Nat} (h : i < cnt n k) : i < n ∧ 1 ≤ k := by have := cnt_le n k; unfold cnt at h; split at h <;> omega
theorem range_snoc {α : Type} (f : Nat → α) (n : Nat) : (List.range (n + 1)).map f = (List.range n).map f ++ [f n] := by rw [List.range_succ]; simp
theorem shinB_getD (l : List (List UInt8)) (k : Int) (i : Nat) (h : i < cnt l.length k) : (shinB l k).getD i [] = shin l k i := by
  unfold shinB; simp [List.getD, h]
theorem hashesB_getD (l : List (List UInt8)) (k : Int) (i : Nat) (h : i < cnt l.length k) : (hashesB l k).getD i 0 = hashB (shin l k i) := by
  unfold hashesB shinB; simp [List.getD, h]
/-- The lengths of texts, added up. -/
def sumLen (l : List (List UInt8)) : Nat := (l.map List.length).sum
theorem sumLen_take (l : List (List UInt8)) (k : Nat) (h : k < l.length) : sumLen (l.take (k + 1)) = sumLen (l.take k) + (l.getD k []).length := by
  unfold sumLen; rw [take_snoc4 [] h]; simp
theorem sumLen_append (a b : List (List UInt8)) : sumLen (a ++ b) = sumLen a + sumLen b := by unfold sumLen; simp
theorem sumLen_part (l : List (List UInt8)) (i k : Nat) : sumLen ((l.drop i).take k) ≤ sumLen l := by
  have h1 : sumLen l = sumLen (l.take i) + sumLen (l.drop i) := by rw [← sumLen_append, List.take_append_drop]
  have h2 : sumLen (l.drop i) = sumLen ((l.drop i).take k) + sumLen ((l.drop i).drop k) := by rw [← sumLen_append, List.take_append_drop]
  omega
theorem part_len (l : List (List UInt8)) (i k : Nat) : (joinB ((l.drop i).take k)).length ≤ sumLen l + l.length := by
  have h1 := joinB_len ((l.drop i).take k)
  have h2 := sumLen_part l i k
  have h3 : ((l.drop i).take k).length ≤ l.length := by rw [List.length_take, List.length_drop]; omega
  unfold sumLen at *
  omega
theorem shin_len (l : List (List UInt8)) (k : Int) (i : Nat) : (shin l k i).length ≤ sumLen l + l.length := part_len l i k.toNat
/-- Few words are one shingle. -/
theorem shinB_few (l : List (List UInt8)) (k : Int) (h0 : l ≠ []) (h1 : (l.length : Int) ≤ k) : shinB l k = [joinB l] := by
  have hl : 0 < l.length := List.length_pos_iff.2 h0
  have hc : cnt l.length k = 1 := by unfold cnt; rw [if_neg (by omega)]; omega
  unfold shinB shin
  rw [hc]
  simp [List.range_succ]
  rw [List.take_of_length_le (by omega)]
theorem shinB_none (l : List (List UInt8)) (k : Int) (h : l = [] ∨ k < 1) : shinB l k = [] := by
  have hc : cnt l.length k = 0 := by unfold cnt; rw [if_pos (by rcases h with rfl | h; exact Or.inl rfl; exact Or.inr h)]
  unfold shinB; rw [hc]; rfl
theorem cnt_many (n : Nat) (k : Int) (h : k < n) (h1 : 1 ≤ k) : (cnt n k : Int) = n - k + 1 := by unfold cnt; rw [if_neg (by omega)]; omega
/-- Words that are moved on by one. -/
theorem shin_move (l : List (List UInt8)) (k : Int) (i : Nat) : shin (l.drop 1) k i = shin l k (i + 1) := by
  unfold shin; rw [List.drop_drop, Nat.add_comm 1 i]
theorem shin_tail (l : List (List UInt8)) (k : Int) (i : Nat) : shin l.tail k i = shin l k (i + 1) := by
  rw [← List.drop_one]; exact shin_move l k i
theorem shin_zero (l : List (List UInt8)) (k : Int) : shin l k 0 = joinB (l.take k.toNat) := by unfold shin; simp
end Go.Proofs.YtonbgdcgfoipjaaDoor
