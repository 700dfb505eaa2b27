/- Layer 19, plain: records' blocks, one behind the other: what is scanned of them, of any beginning, behind any burst. -/
import Derived.Test.YtkckddcibhbalaaD19p
namespace Go.Proofs.Ytkckddcibhbalaa

/-- Records' blocks, from a number on. -/
def packL : List (List UInt8) → Nat → List (List UInt8)
  | [], _ => []
  | s :: r, n => blocks19 s n ++ packL r (n + count19 s.length)
def packedB (l : List (List UInt8)) : List UInt8 := (packL l 0).flatten
/-- How many blocks records have. -/
def cntL (l : List (List UInt8)) : Nat := (l.map fun s => count19 s.length).sum
theorem cntL_cons (s : List UInt8) (r : List (List UInt8)) : cntL (s :: r) = count19 s.length + cntL r := by unfold cntL; rw [List.map_cons, List.sum_cons]
theorem packL_len : ∀ (l : List (List UInt8)) (n : Nat), (packL l n).length = cntL l
  | [], _ => rfl
  | s :: r, n => by rw [packL, List.length_append, blocks_len, packL_len r, cntL_cons]
theorem packL_each : ∀ (l : List (List UInt8)) (n : Nat), ∀ b ∈ packL l n, b.length = 64
  | [], _, b, h => by cases h
  | s :: r, n, b, h => by
    rw [packL] at h
    rcases List.mem_append.1 h with h | h
    · exact blocks_each s n b h
    · exact packL_each r _ b h
theorem packed_len (l : List (List UInt8)) : (packedB l).length = 64 * cntL l := by unfold packedB; rw [fl64_len (packL_each l 0), packL_len]
theorem packL_snoc : ∀ (l : List (List UInt8)) (s : List UInt8) (n : Nat), packL (l ++ [s]) n = packL l n ++ blocks19 s (n + cntL l)
  | [], s, n => by simp [packL, cntL]
  | x :: r, s, n => by rw [List.cons_append, packL, packL, packL_snoc r s, List.append_assoc, cntL_cons, Nat.add_assoc]
theorem cntL_snoc (l : List (List UInt8)) (s : List UInt8) : cntL (l ++ [s]) = cntL l + count19 s.length := by unfold cntL; simp
/-- What is laid behind records that are packed. -/
theorem packed_snoc (l : List (List UInt8)) (s : List UInt8) : packedB (l ++ [s]) = packedB l ++ pack19 s (cntL l) := by
  unfold packedB pack19
  rw [packL_snoc, List.flatten_append, Nat.zero_add]
/-- Each block there is one of its number. -/
theorem packL_read : ∀ (l : List (List UInt8)) (n i : Nat) (b : List UInt8), (packL l n)[i]? = some b → ∃ kind t, read19 b (n + i) = some (kind, t)
  | [], _, _, _, h => by cases h
  | s :: r, n, i, b, h => by
    rw [packL] at h
    by_cases hi : i < count19 s.length
    · rw [List.getElem?_append_left (by rw [blocks_len]; exact hi), blocks_get s n hi] at h
      injection h with h
      subst h
      exact ⟨_, _, read_block (n + i) (piece_ok s i hi)⟩
    · rw [List.getElem?_append_right (by rw [blocks_len]; omega), blocks_len] at h
      obtain ⟨k, t, e⟩ := packL_read r _ _ b h
      rw [show n + count19 s.length + (i - count19 s.length) = n + i by omega] at e
      exact ⟨k, t, e⟩

theorem chunk_flat : ∀ (L : List (List UInt8)) (i : Nat) (b : List UInt8), (∀ b ∈ L, b.length = 64) → L[i]? = some b → (L.flatten.drop (64 * i)).take 64 = b
  | [], _, _, _, h => by cases h
  | x :: r, 0, b, hL, h => by
    injection h with h
    subst h
    have := hL x (by simp)
    rw [Nat.mul_zero, List.drop_zero, List.flatten_cons, List.take_append_of_le_length (by omega), List.take_of_length_le (by omega)]
  | x :: r, i + 1, b, hL, h => by
    have hx := hL x (by simp)
    rw [List.flatten_cons, show 64 * (i + 1) = x.length + 64 * i by rw [hx]; omega, ← List.drop_drop, List.drop_left]
    exact chunk_flat r i b (fun c hc => hL c (by simp [hc])) (by simpa using h)
theorem chunks_flat {L : List (List UInt8)} (h : ∀ b ∈ L, b.length = 64) : chunks19 L.flatten = L := by
  apply List.ext_getElem?
  intro i
  unfold chunks19
  rw [fl64_len h, Nat.mul_div_cancel_left _ (by decide)]
  by_cases hi : i < L.length
  · rw [List.getElem?_map, List.getElem?_range hi, Option.map_some, List.getElem?_eq_getElem hi, chunk_flat L i _ h (List.getElem?_eq_getElem hi)]
  · rw [List.getElem?_eq_none (by simp; omega), List.getElem?_eq_none (by omega)]
theorem chunks_len (t : List UInt8) : (chunks19 t).length = t.length / 64 := by unfold chunks19; simp
theorem chunks_get (t : List UInt8) {i : Nat} (h : i < t.length / 64) : (chunks19 t)[i]? = some ((t.drop (64 * i)).take 64) := by
  unfold chunks19
  rw [List.getElem?_map, List.getElem?_range h]
  rfl
/-- The blocks of a beginning. -/
theorem chunks_take (t : List UInt8) (k : Nat) (hk : k ≤ t.length) : chunks19 (t.take k) = (chunks19 t).take (k / 64) := by
  apply List.ext_getElem?
  intro i
  by_cases hi : i < k / 64
  · rw [chunks_get _ (by rw [List.length_take]; omega), List.getElem?_take, if_pos hi, chunks_get _ (by omega), List.drop_take, List.take_take, Nat.min_eq_left (by omega)]
  · rw [List.getElem?_eq_none (by rw [chunks_len, List.length_take]; omega), List.getElem?_eq_none (by rw [List.length_take]; omega)]
theorem scan_walk {a : List (List UInt8)} {i : Nat} {s s' : SS} (h : walk19 a i s = some s') : scan19 a i s = s' := by
  have := scan_app a [] i s s' h
  rw [List.append_nil] at this
  exact this
/-- A block that isn't one ends the scan. -/
theorem scan_stop : ∀ (a : List (List UInt8)) (b : List UInt8) (r : List (List UInt8)) (i : Nat) (s : SS), read19 b (i + a.length) = none → scan19 (a ++ b :: r) i s = scan19 a i s
  | [], b, r, i, s, h => by
    rw [List.nil_append, scan19, scan19]
    have : step19 s i b = none := by unfold step19; rw [show read19 b i = none from h]
    rw [this]
  | x :: a, b, r, i, s, h => by
    rw [List.cons_append, scan19, scan19]
    cases e : step19 s i x with
    | none => rfl
    | some s1 => exact scan_stop a b r (i + 1) s1 (by rw [List.length_cons] at h; rw [show i + 1 + a.length = i + (a.length + 1) by omega]; exact h)
/-- How many records are whole within so many blocks. -/
def whole19 : List (List UInt8) → Nat → Nat
  | [], _ => 0
  | s :: r, j => if count19 s.length ≤ j then whole19 r (j - count19 s.length) + 1 else 0
theorem whole_le : ∀ (l : List (List UInt8)) (j : Nat), whole19 l j ≤ l.length
  | [], _ => Nat.le_refl _
  | s :: r, j => by
    rw [whole19]
    split
    · have := whole_le r (j - count19 s.length); rw [List.length_cons]; omega
    · exact Nat.zero_le _
theorem whole_cnt : ∀ (l : List (List UInt8)) (j : Nat), cntL (l.take (whole19 l j)) ≤ j
  | [], j => by simp [cntL]
  | s :: r, j => by
    rw [whole19]
    split
    · have := whole_cnt r (j - count19 s.length)
      rw [List.take_succ_cons, cntL_cons]
      omega
    · simp [cntL]
/-- A record is whole just if its blocks are within. -/
theorem whole_iff : ∀ (l : List (List UInt8)) (j i : Nat), i < l.length → (cntL (l.take (i + 1)) ≤ j ↔ i < whole19 l j)
  | [], _, _, h => by simp at h
  | s :: r, j, 0, _ => by
    rw [List.take_succ_cons, List.take_zero, cntL_cons, whole19]
    have : cntL [] = 0 := rfl
    rw [this]
    split <;> omega
  | s :: r, j, i + 1, h => by
    have h1 := (count19_bd s.length).1
    rw [List.take_succ_cons, cntL_cons, whole19]
    by_cases hc : count19 s.length ≤ j
    · rw [if_pos hc]
      have := whole_iff r (j - count19 s.length) i (by simpa using h)
      omega
    · rw [if_neg hc]
      omega
theorem whole_all (l : List (List UInt8)) (j : Nat) (h : cntL l ≤ j) : whole19 l j = l.length := by
  have hle := whole_le l j
  by_cases h0 : l.length = 0
  · omega
  · have := (whole_iff l j (l.length - 1) (by omega)).1 (by rw [show l.length - 1 + 1 = l.length by omega, List.take_of_length_le (Nat.le_refl _)]; exact h)
    omega
/-- Of a beginning those records are read that are whole in it. -/
theorem scan_take : ∀ (l : List (List UInt8)) (n j : Nat) (out : List (List UInt8)), (∀ s ∈ l, s.length ≤ 262144) →
    (scan19 ((packL l n).take j) n ⟨false, [], out, 64 * n⟩).out = out ++ l.take (whole19 l j) ∧ (scan19 ((packL l n).take j) n ⟨false, [], out, 64 * n⟩).fin = 64 * (n + cntL (l.take (whole19 l j)))
  | [], n, j, out, _ => by simp [packL, scan19, whole19, cntL]
  | s :: r, n, j, out, h => by
    have hs := h s (by simp)
    by_cases hc : count19 s.length ≤ j
    · have ih := scan_take r (n + count19 s.length) (j - count19 s.length) (out ++ [s]) fun x hx => h x (by simp [hx])
      have e : (packL (s :: r) n).take j = blocks19 s n ++ (packL r (n + count19 s.length)).take (j - count19 s.length) := by
        rw [packL, List.take_append, blocks_len, List.take_of_length_le (by rw [blocks_len]; exact hc)]
      rw [e, scan_app _ _ _ _ _ (walk_whole s n out (64 * n) hs), blocks_len, whole19, if_pos hc, List.take_succ_cons, cntL_cons]
      refine ⟨ih.1.trans (by simp), ih.2.trans (by omega)⟩
    · have e : (packL (s :: r) n).take j = (blocks19 s n).take j := by rw [packL, List.take_append_of_le_length (by rw [blocks_len]; omega)]
      rw [e, scan_walk (walk_some s n out (64 * n) hs j (by omega)), whole19, if_neg hc]
      simp [cntL]
theorem chunks_packed (l : List (List UInt8)) : chunks19 (packedB l) = packL l 0 := chunks_flat (packL_each l 0)
/-- What is scanned of any beginning of records' blocks. -/
theorem scan_cut (l : List (List UInt8)) (k : Nat) (h : ∀ s ∈ l, s.length ≤ 262144) (hk : k ≤ (packedB l).length) : scanB ((packedB l).take k) = (l.take (whole19 l (k / 64)), 64 * cntL (l.take (whole19 l (k / 64)))) := by
  unfold scanB
  rw [chunks_take _ _ hk, chunks_packed]
  obtain ⟨h1, h2⟩ := scan_take l 0 (k / 64) [] h
  have e : ss0 = ⟨false, [], [], 64 * 0⟩ := rfl
  rw [e, h1, h2, List.nil_append, Nat.zero_add]
/-- Records that were written are read as they were. -/
theorem scan_packed (l : List (List UInt8)) (h : ∀ s ∈ l, s.length ≤ 262144) : scanB (packedB l) = (l, 64 * cntL l) := by
  have := scan_cut l (packedB l).length h (Nat.le_refl _)
  rw [List.take_of_length_le (Nat.le_refl _), packed_len, Nat.mul_div_cancel_left _ (by decide), whole_all l _ (Nat.le_refl _), List.take_of_length_le (Nat.le_refl _)] at this
  exact this
/-- A block of hurt bytes is hurt, or as it was. -/
theorem chunk_burst (t : List UInt8) (p y j : Nat) (hy : y < 4294967296) (hj : 64 * j + 64 ≤ t.length) : ((burstTo t p y 32).drop (64 * j)).take 64 = burstTo ((t.drop (64 * j)).take 64) (p - 512 * j) (y >>> (512 * j - p)) 32 := by
  have hl := burstTo_len t p y 32
  have hc : ((t.drop (64 * j)).take 64).length = 64 := by rw [List.length_take, List.length_drop]; omega
  have hc2 : (((burstTo t p y 32).drop (64 * j)).take 64).length = 64 := by rw [List.length_take, List.length_drop, hl]; omega
  have hl2 := burstTo_len ((t.drop (64 * j)).take 64) (p - 512 * j) (y >>> (512 * j - p)) 32
  refine bits_inj (by rw [hl2, hc, hc2]) fun m hm => ?_
  rw [hc2] at hm
  rw [burst_get _ _ _ _ _ (by rw [hc]; exact hm)]
  have hg : ∀ u : List UInt8, ((u.drop (64 * j)).take 64).getD (m / 8) 0 = u.getD ((512 * j + m) / 8) 0 := by
    intro u
    have : (512 * j + m) / 8 = 64 * j + m / 8 := by omega
    rw [this]
    simp [List.getD, List.getElem?_drop, show m / 8 < 64 by omega]
  rw [hg, hg]
  have hb := burst_get t p y 32 (512 * j + m) (by omega)
  rw [show (512 * j + m) % 8 = m % 8 by omega] at hb
  rw [hb]
  congr 1
  rw [Nat.testBit_shiftRight]
  by_cases h : 512 * j ≤ p
  · rw [show 512 * j - p = 0 by omega, Nat.zero_add]
    by_cases h2 : p ≤ 512 * j + m
    · rw [show 512 * j + m - p = m - (p - 512 * j) by omega]
      congr 1
      rw [decide_eq_decide]
      omega
    · rw [decide_eq_false (by omega), decide_eq_false (by omega), Bool.false_and, Bool.false_and]
  · rw [show p - 512 * j = 0 by omega, Nat.sub_zero, show 512 * j + m - p = 512 * j - p + m by omega]
    by_cases h2 : 512 * j - p + m < 32
    · rw [decide_eq_true (by omega), decide_eq_true (by omega)]
    · rw [Nat.testBit_lt_two_pow (Nat.lt_of_lt_of_le hy (show 2 ^ 32 ≤ 2 ^ (512 * j - p + m) from Nat.pow_le_pow_right (by decide) (by omega))), Bool.and_false, Bool.and_false]
/-- The first block that two files of one length tell apart. -/
theorem first_apart (t u : List UInt8) : ∀ j : Nat, (∀ i, i < j → (t.drop (64 * i)).take 64 = (u.drop (64 * i)).take 64) ∨ ∃ i, i < j ∧ (t.drop (64 * i)).take 64 ≠ (u.drop (64 * i)).take 64 ∧ ∀ k, k < i → (t.drop (64 * k)).take 64 = (u.drop (64 * k)).take 64
  | 0 => Or.inl fun i h => by omega
  | j + 1 => by
    rcases first_apart t u j with h | ⟨i, h1, h2, h3⟩
    · by_cases e : (t.drop (64 * j)).take 64 = (u.drop (64 * j)).take 64
      · refine Or.inl fun i hi => ?_
        by_cases hij : i = j
        · rw [hij]; exact e
        · exact h i (by omega)
      · exact Or.inr ⟨j, by omega, e, h⟩
    · exact Or.inr ⟨i, by omega, h2, h3⟩
theorem same_below {t u : List UInt8} {j : Nat} (h : ∀ i, i < j → (t.drop (64 * i)).take 64 = (u.drop (64 * i)).take 64) {m : Nat} (hm : m < 64 * j) : t[m]? = u[m]? := by
  have := congrArg (fun z => z[m % 64]?) (h (m / 64) (by omega))
  simp only [List.getElem?_take, List.getElem?_drop, if_pos (Nat.mod_lt m (by decide : 64 > 0))] at this
  rw [show 64 * (m / 64) + m % 64 = m by omega] at this
  exact this
/-- Behind a burst: records up to the one that is hurt, as they were. -/
theorem scan_burst (l : List (List UInt8)) (p y : Nat) (h : ∀ s ∈ l, s.length ≤ 262144) (hy : y < 4294967296) :
    ∃ w, w ≤ l.length ∧ scanB (burstTo (packedB l) p y 32) = (l.take w, 64 * cntL (l.take w)) ∧ (burstTo (packedB l) p y 32 = packedB l ∨ ∀ m, m < 64 * cntL (l.take w) → (burstTo (packedB l) p y 32)[m]? = (packedB l)[m]?) := by
  have hlen := packed_len l
  have hl := burstTo_len (packedB l) p y 32
  rcases first_apart (packedB l) (burstTo (packedB l) p y 32) (cntL l) with hs | ⟨j, hj, hne, hs⟩
  · have e : burstTo (packedB l) p y 32 = packedB l := by
      apply List.ext_getElem?
      intro m
      by_cases hm : m < 64 * cntL l
      · exact (same_below hs hm).symm
      · rw [List.getElem?_eq_none (by rw [hl]; omega), List.getElem?_eq_none (by omega)]
    refine ⟨l.length, Nat.le_refl _, ?_, Or.inl e⟩
    rw [e, scan_packed l h, List.take_of_length_le (Nat.le_refl _)]
  · have hjt : 64 * j + 64 ≤ (packedB l).length := by omega
    have hcg : (packL l 0)[j]? = some (((packedB l).drop (64 * j)).take 64) := by rw [← chunks_packed l, chunks_get _ (by omega)]
    obtain ⟨kind, x, hr⟩ := packL_read l 0 j _ hcg
    have hcb := chunk_burst (packedB l) p y j hy hjt
    have hno : read19 (((burstTo (packedB l) p y 32).drop (64 * j)).take 64) j = none := by
      rw [hcb]
      exact hurt_block hr (by rw [← hcb]; exact fun e => hne e.symm)
    have hch : chunks19 (burstTo (packedB l) p y 32) = (packL l 0).take j ++ ((burstTo (packedB l) p y 32).drop (64 * j)).take 64 :: (chunks19 (burstTo (packedB l) p y 32)).drop (j + 1) := by
      have hjc : j < (chunks19 (burstTo (packedB l) p y 32)).length := by rw [chunks_len, hl]; omega
      have h1 : (chunks19 (burstTo (packedB l) p y 32)).take j = (packL l 0).take j := by
        apply List.ext_getElem?
        intro i
        by_cases hi : i < j
        · rw [List.getElem?_take, List.getElem?_take, if_pos hi, if_pos hi, chunks_get _ (by rw [hl]; omega), ← chunks_packed l, chunks_get _ (by omega), hs i hi]
        · rw [List.getElem?_take, List.getElem?_take, if_neg hi, if_neg hi]
      have h2 : (chunks19 (burstTo (packedB l) p y 32))[j]'hjc = ((burstTo (packedB l) p y 32).drop (64 * j)).take 64 := by
        have := chunks_get (burstTo (packedB l) p y 32) (i := j) (by rw [hl]; omega)
        rw [List.getElem?_eq_getElem hjc] at this
        exact Option.some.inj this
      rw [← h1, ← h2, List.getElem_cons_drop, List.take_append_drop]
    have hjl : ((packL l 0).take j).length = j := by rw [List.length_take, packL_len]; omega
    refine ⟨whole19 l j, whole_le l j, ?_, Or.inr fun m hm => ?_⟩
    · unfold scanB
      rw [hch, scan_stop _ _ _ _ _ (by rw [hjl, Nat.zero_add]; exact hno)]
      obtain ⟨h1, h2⟩ := scan_take l 0 j [] h
      have e : ss0 = ⟨false, [], [], 64 * 0⟩ := rfl
      rw [e, h1, h2, List.nil_append, Nat.zero_add]
    · have := whole_cnt l j
      exact (same_below hs (by omega)).symm
end Go.Proofs.Ytkckddcibhbalaa
