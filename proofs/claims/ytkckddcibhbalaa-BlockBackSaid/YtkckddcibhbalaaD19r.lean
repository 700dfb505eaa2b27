/- Layer 19, plain: a record as the program reads it, block by block; that, and the document's scan. -/
import Derived.Test.YtkckddcibhbalaaD18r
import Derived.Test.YtkckddcibhbalaaD19q
namespace Go.Proofs.Ytkckddcibhbalaa

/-- What a text begins with, as a block of a number: its kind, its bytes. -/
def rd19 (s : List UInt8) (n : Nat) : Option (Nat × List UInt8) :=
  if s.length < 64 then none
  else if (s.getD 0 0).toNat < 1 ∨ 4 < (s.getD 0 0).toNat ∨ 54 < (s.getD 1 0).toNat then none
  else if blockB (s.getD 0 0).toNat ((s.drop 6).take (s.getD 1 0).toNat) n = s.take 64 then some ((s.getD 0 0).toNat, (s.drop 6).take (s.getD 1 0).toNat) else none
/-- May a record's block i be of that kind, with so many bytes? -/
def standsB (kind size i : Nat) : Bool :=
  if kind = 1 then decide (i = 0)
  else if kind = 2 then decide (i = 0) && decide (size = 54)
  else if kind = 3 then decide (0 < i) && decide (size = 54)
  else decide (0 < i) && decide (0 < size)
theorem rd_bd {s t : List UInt8} {n k : Nat} (h : rd19 s n = some (k, t)) : 64 ≤ s.length ∧ 1 ≤ k ∧ k ≤ 4 ∧ t.length ≤ 54 ∧ s.take 64 = blockB k t n := by
  unfold rd19 at h
  by_cases h1 : s.length < 64
  · rw [if_pos h1] at h; cases h
  rw [if_neg h1] at h
  by_cases h2 : (s.getD 0 0).toNat < 1 ∨ 4 < (s.getD 0 0).toNat ∨ 54 < (s.getD 1 0).toNat
  · rw [if_pos h2] at h; cases h
  rw [if_neg h2] at h
  by_cases h3 : blockB (s.getD 0 0).toNat ((s.drop 6).take (s.getD 1 0).toNat) n = s.take 64
  · rw [if_pos h3] at h
    injection h with h
    injection h with h4 h5
    rw [h4, h5] at h3
    have hl : t.length = (s.getD 1 0).toNat := by rw [← h5, List.length_take, List.length_drop]; omega
    exact ⟨by omega, by omega, by omega, by omega, h3.symm⟩
  · rw [if_neg h3] at h; cases h
theorem getD_take64 (s : List UInt8) (i : Nat) (h : i < 64) : (s.take 64).getD i 0 = s.getD i 0 := by simp [List.getD, h]
theorem drop_take64 (s : List UInt8) (m : Nat) (h : m ≤ 54) : ((s.take 64).drop 6).take m = (s.drop 6).take m := by
  rw [List.drop_take, List.take_take, Nat.min_eq_left (by omega)]
/-- The document's reading of one block, by the program's. -/
theorem read_rd (s : List UInt8) (n : Nat) (hs : 64 ≤ s.length) : read19 (s.take 64) n = match rd19 s n with | none => none | some (k, t) => if okKind k t.length = true then some (k, t) else none := by
  have h0 := getD_take64 s 0 (by decide)
  have h1 := getD_take64 s 1 (by decide)
  unfold read19 rd19
  rw [if_neg (show ¬ (s.take 64).length ≠ 64 by rw [List.length_take]; omega), if_neg (show ¬ s.length < 64 by omega), h0, h1]
  generalize hk : (s.getD 0 0).toNat = k
  generalize hm : (s.getD 1 0).toNat = m
  by_cases hr : k < 1 ∨ 4 < k ∨ 54 < m
  · rw [if_pos hr, if_pos]
    unfold okKind
    rcases hr with hr | hr | hr
    · rw [decide_eq_false (show ¬ 1 ≤ k by omega)]; rfl
    · rw [decide_eq_false (show ¬ k ≤ 4 by omega)]; simp
    · rw [decide_eq_false (show ¬ m ≤ 54 by omega)]; simp
  · have ht : ((s.drop 6).take m).length = m := by rw [List.length_take, List.length_drop]; omega
    rw [if_neg hr, drop_take64 s m (by omega)]
    generalize (s.drop 6).take m = t at ht ⊢
    by_cases he : blockB k t n = s.take 64
    · rw [if_pos he]
      simp only
      rw [ht]
      by_cases ho : okKind k m = true
      · rw [if_neg (by rw [ho]; decide), if_pos he.symm, if_pos ho]
      · rw [if_pos (by simpa using ho), if_neg ho]
    · rw [if_neg he]
      simp only
      split
      · rfl
      · rw [if_neg (fun e => he e.symm)]
/-- The record that blocks go on with: the first one's number n, i of its blocks and their bytes are read. -/
def recG : List (List UInt8) → Nat → Nat → List UInt8 → Option (List UInt8)
  | [], _, _, _ => none
  | b :: r, n, i, text =>
    match rd19 b (n + i) with
    | none => none
    | some (k, t) => if standsB k t.length i = false ∨ 262144 < text.length + t.length then none else if k = 1 ∨ k = 4 then some (text ++ t) else recG r n (i + 1) (text ++ t)
/-- The record that a text begins with, its first block's number n. -/
def recB (s : List UInt8) (n : Nat) : Option (List UInt8) := recG (chunks19 s) n 0 []
theorem chunks_no {s : List UInt8} (h : s.length < 64) : chunks19 s = [] := by
  unfold chunks19
  rw [Nat.div_eq_of_lt h]
  rfl
theorem chunks_cons {s : List UInt8} (h : 64 ≤ s.length) : chunks19 s = s.take 64 :: chunks19 (s.drop 64) := by
  apply List.ext_getElem?
  intro i
  cases i with
  | zero =>
    rw [chunks_get s (by omega)]
    simp
  | succ i =>
    rw [List.getElem?_cons_succ]
    by_cases hi : i + 1 < s.length / 64
    · rw [chunks_get s hi, chunks_get (s.drop 64) (by rw [List.length_drop]; omega), List.drop_drop, show 64 * (i + 1) = 64 + 64 * i by omega]
    · rw [List.getElem?_eq_none (by rw [chunks_len]; omega), List.getElem?_eq_none (by rw [chunks_len, List.length_drop]; omega)]
theorem chunks_drop : ∀ (m : Nat) (s : List UInt8), 64 * m ≤ s.length → chunks19 (s.drop (64 * m)) = (chunks19 s).drop m
  | 0, s, _ => by simp
  | m + 1, s, h => by
    have := chunks_drop m (s.drop 64) (by rw [List.length_drop]; omega)
    rw [List.drop_drop, show 64 + 64 * m = 64 * (m + 1) by omega] at this
    rw [this, chunks_cons (show 64 ≤ s.length by omega), List.drop_succ_cons]
theorem rd_take {s : List UInt8} (n : Nat) (h : 64 ≤ s.length) : rd19 (s.take 64) n = rd19 s n := by
  unfold rd19
  rw [if_neg (show ¬ (s.take 64).length < 64 by rw [List.length_take]; omega), if_neg (show ¬ s.length < 64 by omega), getD_take64 s 0 (by decide), getD_take64 s 1 (by decide)]
  split
  · rfl
  · rename_i hr
    rw [drop_take64 s _ (by omega), List.take_take, Nat.min_self]
theorem recG_no {s : List UInt8} {n i : Nat} {text : List UInt8} (h : rd19 s (n + i) = none) : recG (chunks19 s) n i text = none := by
  by_cases hs : s.length < 64
  · rw [chunks_no hs]; rfl
  · rw [chunks_cons (by omega), recG, rd_take _ (by omega), h]
theorem recG_yes {s t : List UInt8} {n i k : Nat} {text : List UInt8} (h : rd19 s (n + i) = some (k, t)) :
    recG (chunks19 s) n i text = if standsB k t.length i = false ∨ 262144 < text.length + t.length then none else if k = 1 ∨ k = 4 then some (text ++ t) else recG (chunks19 (s.drop 64)) n (i + 1) (text ++ t) := by
  have hs := (rd_bd h).1
  rw [chunks_cons hs, recG, rd_take _ hs, h]
theorem stands_ok {k m i : Nat} (k1 : 1 ≤ k) (k4 : k ≤ 4) (hm : m ≤ 54) : standsB k m i = true ↔ okKind k m = true ∧ ((0 < i) ↔ (k = 3 ∨ k = 4)) := by
  rcases (show k = 1 ∨ k = 2 ∨ k = 3 ∨ k = 4 by omega) with rfl | rfl | rfl | rfl <;> simp [okKind, standsB, hm] <;> omega
/-- A step of the document's scan, by the program's reading. -/
theorem step_rd {b : List UInt8} (hb : b.length = 64) (n i : Nat) (text : List UInt8) (out : List (List UInt8)) (fin : Nat) :
    step19 ⟨decide (0 < i), text, out, fin⟩ (n + i) b = match rd19 b (n + i) with
      | none => none
      | some (k, t) => if standsB k t.length i = false ∨ 262144 < text.length + t.length then none else if k = 1 ∨ k = 4 then some ⟨false, [], out ++ [text ++ t], 64 * (n + i + 1)⟩ else some ⟨true, text ++ t, out, fin⟩ := by
  have hr := read_rd b (n + i) (by omega)
  rw [List.take_of_length_le (by omega)] at hr
  unfold step19
  rw [hr]
  cases h : rd19 b (n + i) with
  | none => rfl
  | some x =>
    obtain ⟨k, t⟩ := x
    obtain ⟨_, k1, k4, hl, _⟩ := rd_bd h
    have hsb := stands_ok (i := i) k1 k4 hl
    simp only
    by_cases ho : okKind k t.length = true
    · rw [if_pos ho]
      simp only
      rw [List.length_append]
      by_cases hop : decide (0 < i) ≠ decide (k = 3 ∨ k = 4)
      · rw [if_pos hop, if_pos]
        refine Or.inl (Bool.eq_false_iff.2 fun e => hop ?_)
        rw [decide_eq_decide]
        exact (hsb.1 e).2
      · have hst : standsB k t.length i = true := hsb.2 ⟨ho, decide_eq_decide.1 (Decidable.not_not.1 hop)⟩
        rw [if_neg hop]
        by_cases hm : 262144 < text.length + t.length
        · rw [if_pos hm, if_pos (Or.inr hm)]
        · rw [if_neg hm, if_neg (show ¬ (standsB k t.length i = false ∨ 262144 < text.length + t.length) by rw [hst]; simp [hm])]
          by_cases hk : k = 2 ∨ k = 3
          · rw [if_pos hk, if_neg (show ¬ (k = 1 ∨ k = 4) by omega)]
          · rw [if_neg hk, if_pos (show k = 1 ∨ k = 4 by omega)]
    · rw [if_neg ho]
      simp only
      rw [if_pos]
      exact Or.inl (Bool.eq_false_iff.2 fun e => ho (hsb.1 e).1)
/-- What a record's blocks come to in the document's scan. -/
theorem rec_scan : ∀ (L : List (List UInt8)) (n i : Nat) (text : List UInt8) (out : List (List UInt8)) (fin : Nat), (∀ b ∈ L, b.length = 64) → text.length = 54 * i →
    match recG L n i text with
    | none => (scan19 L (n + i) ⟨decide (0 < i), text, out, fin⟩).out = out ∧ (scan19 L (n + i) ⟨decide (0 < i), text, out, fin⟩).fin = fin
    | some t => ∃ j, i < j ∧ j ≤ i + L.length ∧ j = count19 t.length ∧ t.length ≤ 262144 ∧ scan19 L (n + i) ⟨decide (0 < i), text, out, fin⟩ = scan19 (L.drop (j - i)) (n + j) ⟨false, [], out ++ [t], 64 * (n + j)⟩
  | [], _, _, _, _, _, _, _ => ⟨rfl, rfl⟩
  | b :: r, n, i, text, out, fin, hL, ht => by
    have hb := hL b (by simp)
    have hst := step_rd hb n i text out fin
    rw [recG, scan19, hst]
    cases h : rd19 b (n + i) with
    | none => exact ⟨rfl, rfl⟩
    | some x =>
      obtain ⟨k, t⟩ := x
      obtain ⟨_, k1, k4, hl, _⟩ := rd_bd h
      simp only
      by_cases hno : standsB k t.length i = false ∨ 262144 < text.length + t.length
      · rw [if_pos hno, if_pos hno]
        exact ⟨rfl, rfl⟩
      · rw [if_neg hno, if_neg hno]
        have hs : standsB k t.length i = true := by simpa using fun e => hno (Or.inl e)
        have hm : text.length + t.length ≤ 262144 := by omega
        by_cases he : k = 1 ∨ k = 4
        · rw [if_pos he, if_pos he]
          simp only
          refine ⟨i + 1, by omega, by rw [List.length_cons]; omega, ?_, by rw [List.length_append]; omega, ?_⟩
          · unfold count19
            rw [List.length_append]
            unfold standsB at hs
            rcases he with rfl | rfl
            · simp at hs
              split <;> omega
            · simp at hs
              rw [if_neg (by omega)]
              omega
          · rw [show i + 1 - i = 1 by omega, List.drop_succ_cons, List.drop_zero, Nat.add_assoc]
        · rw [if_neg he, if_neg he]
          simp only
          have h54 : t.length = 54 := by
            unfold standsB at hs
            rcases (show k = 2 ∨ k = 3 by omega) with rfl | rfl
            · simp at hs; omega
            · simp at hs; omega
          have ih := rec_scan r n (i + 1) (text ++ t) out fin (fun c hc => hL c (by simp [hc])) (by rw [List.length_append]; omega)
          rw [decide_eq_true (show 0 < i + 1 by omega), ← Nat.add_assoc] at ih
          cases hg : recG r n (i + 1) (text ++ t) with
          | none =>
            rw [hg] at ih
            exact ih
          | some u =>
            rw [hg] at ih
            obtain ⟨j, j1, j2, j3, j4, j5⟩ := ih
            refine ⟨j, by omega, by rw [List.length_cons]; omega, j3, j4, ?_⟩
            rw [j5, show j - i = (j - (i + 1)) + 1 by omega, List.drop_succ_cons]
theorem chunks_each (t : List UInt8) : ∀ b ∈ chunks19 t, b.length = 64 := by
  intro b hb
  unfold chunks19 at hb
  obtain ⟨i, hi, rfl⟩ := List.mem_map.1 hb
  rw [List.mem_range] at hi
  rw [List.length_take, List.length_drop]
  omega
/-- What is left of the scan behind m blocks, between two records. -/
def left19 (s : List UInt8) (m : Nat) (out : List (List UInt8)) : List (List UInt8) × Nat :=
  ((scan19 ((chunks19 s).drop m) m ⟨false, [], out, 64 * m⟩).out, (scan19 ((chunks19 s).drop m) m ⟨false, [], out, 64 * m⟩).fin)
theorem left_all (s : List UInt8) : left19 s 0 [] = scanB s := rfl
theorem left_no {s : List UInt8} {m : Nat} (out : List (List UInt8)) (hm : 64 * m ≤ s.length) (h : recB (s.drop (64 * m)) m = none) : left19 s m out = (out, 64 * m) := by
  unfold recB at h
  rw [chunks_drop m s hm] at h
  have := rec_scan ((chunks19 s).drop m) m 0 [] out (64 * m) (fun b hb => chunks_each s b (List.mem_of_mem_drop hb)) rfl
  rw [h] at this
  unfold left19
  exact Prod.ext this.1 this.2
theorem left_yes {s t : List UInt8} {m : Nat} (out : List (List UInt8)) (hm : 64 * m ≤ s.length) (h : recB (s.drop (64 * m)) m = some t) :
    left19 s m out = left19 s (m + count19 t.length) (out ++ [t]) ∧ 64 * (m + count19 t.length) ≤ s.length ∧ t.length ≤ 262144 := by
  unfold recB at h
  rw [chunks_drop m s hm] at h
  have := rec_scan ((chunks19 s).drop m) m 0 [] out (64 * m) (fun b hb => chunks_each s b (List.mem_of_mem_drop hb)) rfl
  rw [h] at this
  obtain ⟨j, j1, j2, rfl, j4, j5⟩ := this
  rw [List.length_drop, chunks_len] at j2
  refine ⟨?_, by omega, j4⟩
  unfold left19
  have e : ∀ L : List (List UInt8), scan19 L (m + 0) ⟨decide (0 < 0), [], out, 64 * m⟩ = scan19 L m ⟨false, [], out, 64 * m⟩ := fun L => rfl
  rw [e] at j5
  rw [j5, List.drop_drop, Nat.sub_zero]
end Go.Proofs.Ytkckddcibhbalaa
