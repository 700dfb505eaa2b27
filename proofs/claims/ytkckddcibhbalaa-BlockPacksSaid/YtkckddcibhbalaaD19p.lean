/- Layer 19, plain: blocks, a record's blocks, one block read, a hurt one isn't one; scanning. -/
import Derived.Test.YtkckddcibhbalaaD18q
namespace Go.Proofs.Ytkckddcibhbalaa

/-- A block of a kind, with bytes, at a number. -/
def blockB (kind : Nat) (s : List UInt8) (n : Nat) : List UInt8 := seal18 (UInt8.ofNat kind :: UInt8.ofNat s.length :: (four18 n ++ (s ++ List.replicate (54 - s.length) 0)))
theorem blockB_len {kind : Nat} {s : List UInt8} {n : Nat} (h : s.length ≤ 54) : (blockB kind s n).length = 64 := by
  unfold blockB
  rw [seal18_len]
  simp only [List.length_cons, List.length_append, four18_len, List.length_replicate]
  omega
/-- May a block of a kind have so many bytes? -/
def okKind (kind size : Nat) : Bool := decide (1 ≤ kind) && decide (kind ≤ 4) && decide (size ≤ 54) && !(decide (kind = 2 ∨ kind = 3) && decide (size ≠ 54)) && !(decide (kind = 4) && decide (size = 0))
/-- A block's kind and bytes, if it is one of a number. -/
def read19 (b : List UInt8) (n : Nat) : Option (Nat × List UInt8) :=
  if b.length ≠ 64 then none
  else if okKind (b.getD 0 0).toNat (b.getD 1 0).toNat = false then none
  else if b = blockB (b.getD 0 0).toNat ((b.drop 6).take (b.getD 1 0).toNat) n then some ((b.getD 0 0).toNat, (b.drop 6).take (b.getD 1 0).toNat) else none
theorem okKind_bd {kind size : Nat} (h : okKind kind size = true) : 1 ≤ kind ∧ kind ≤ 4 ∧ size ≤ 54 := by
  unfold okKind at h
  simp only [Bool.and_eq_true, decide_eq_true_eq] at h
  exact ⟨h.1.1.1.1, h.1.1.1.2, h.1.1.2⟩
/-- A block is read as it was written. -/
theorem read_block {kind : Nat} {s : List UInt8} (n : Nat) (h : okKind kind s.length = true) : read19 (blockB kind s n) n = some (kind, s) := by
  obtain ⟨h1, h2, h3⟩ := okKind_bd h
  have e0 : (blockB kind s n).getD 0 0 = UInt8.ofNat kind := rfl
  have e1 : (blockB kind s n).getD 1 0 = UInt8.ofNat s.length := rfl
  have k0 : (UInt8.ofNat kind).toNat = kind := by rw [UInt8.toNat_ofNat']; omega
  have k1 : (UInt8.ofNat s.length).toNat = s.length := by rw [UInt8.toNat_ofNat']; omega
  have e2 : ((blockB kind s n).drop 6).take s.length = s := by
    have : (blockB kind s n).drop 6 = s ++ (List.replicate (54 - s.length) 0 ++ four18 (sum18 (UInt8.ofNat kind :: UInt8.ofNat s.length :: (four18 n ++ (s ++ List.replicate (54 - s.length) 0))))) := by
      unfold blockB seal18
      generalize four18 (sum18 (UInt8.ofNat kind :: UInt8.ofNat s.length :: (four18 n ++ (s ++ List.replicate (54 - s.length) 0)))) = f
      unfold four18
      simp
    rw [this, List.take_left]
  unfold read19
  rw [if_neg (by rw [blockB_len h3]; simp), e0, e1, k0, k1, if_neg (by rw [h]; decide), e2, if_pos rfl]
/-- What is read is a block. -/
theorem read_is {b t : List UInt8} {n kind : Nat} (h : read19 b n = some (kind, t)) : b = blockB kind t n ∧ okKind kind t.length = true ∧ b.length = 64 := by
  unfold read19 at h
  by_cases h1 : b.length ≠ 64
  · rw [if_pos h1] at h; cases h
  rw [if_neg h1] at h
  by_cases h2 : okKind (b.getD 0 0).toNat (b.getD 1 0).toNat = false
  · rw [if_pos h2] at h; cases h
  rw [if_neg h2] at h
  by_cases h3 : b = blockB (b.getD 0 0).toNat ((b.drop 6).take (b.getD 1 0).toNat) n
  · rw [if_pos h3] at h
    injection h with h
    injection h with h4 h5
    have hl : b.length = 64 := by simpa using h1
    have hk : okKind (b.getD 0 0).toNat (b.getD 1 0).toNat = true := by simpa using h2
    obtain ⟨_, _, h6⟩ := okKind_bd hk
    have ht : t.length = (b.getD 1 0).toNat := by rw [← h5, List.length_take, List.length_drop, hl]; omega
    rw [h4, h5] at h3
    refine ⟨h3, ?_, hl⟩
    rw [ht, ← h4]
    exact hk
  · rw [if_neg h3] at h; cases h
theorem read_sealed {b t : List UInt8} {n kind : Nat} (h : read19 b n = some (kind, t)) : (open18 b).isSome = true := by
  obtain ⟨e, _, _⟩ := read_is h
  rw [e]
  unfold blockB
  rw [open_seal]
  rfl
/-- A block that is hurt isn't one. -/
theorem hurt_block {b t : List UInt8} {n m kind q y : Nat} (h : read19 b n = some (kind, t)) (hb : burstTo b q y 32 ≠ b) : read19 (burstTo b q y 32) m = none := by
  have hl := (read_is h).2.2
  have h1 := burst_open (t := b) (by omega) (read_sealed h) (q : Int) y
  unfold burst18 at h1
  rw [if_neg (by omega), Int.toNat_natCast] at h1
  cases e : read19 (burstTo b q y 32) m with
  | none => rfl
  | some x => exact absurd (h1.1 (read_sealed (kind := x.1) (t := x.2) e)) hb

/-- How many blocks a record of so many bytes has. -/
def count19 (n : Nat) : Nat := if n = 0 then 1 else (n - 1) / 54 + 1
theorem count19_bd (n : Nat) : 1 ≤ count19 n ∧ n ≤ 54 * count19 n ∧ (n ≠ 0 → 54 * (count19 n - 1) < n) := by
  unfold count19
  split <;> omega
/-- The kind of one of a record's blocks. -/
def kind19 (k i : Nat) : Nat := if k = 1 then 1 else if i = 0 then 2 else if i + 1 = k then 4 else 3
def piece19 (s : List UInt8) (i : Nat) : List UInt8 := (s.drop (54 * i)).take 54
theorem piece_len (s : List UInt8) (i : Nat) : (piece19 s i).length = min 54 (s.length - 54 * i) := by unfold piece19; rw [List.length_take, List.length_drop]
theorem piece_ok (s : List UInt8) (i : Nat) (h : i < count19 s.length) : okKind (kind19 (count19 s.length) i) (piece19 s i).length = true := by
  obtain ⟨h1, h2, h3⟩ := count19_bd s.length
  rw [piece_len]
  unfold okKind kind19
  simp only [Bool.and_eq_true, decide_eq_true_eq, Bool.not_eq_true', Bool.and_eq_false_iff, decide_eq_false_iff_not]
  by_cases c1 : count19 s.length = 1
  · rw [if_pos c1]
    omega
  · rw [if_neg c1]
    have hs : s.length ≠ 0 := by
      intro e
      rw [e] at c1
      exact c1 rfl
    have h4 := h3 hs
    by_cases c2 : i = 0
    · rw [if_pos c2]; omega
    · rw [if_neg c2]
      by_cases c3 : i + 1 = count19 s.length
      · rw [if_pos c3]; omega
      · rw [if_neg c3]; omega
/-- A record's blocks, from a number on. -/
def blocks19 (s : List UInt8) (n : Nat) : List (List UInt8) := (List.range (count19 s.length)).map fun i => blockB (kind19 (count19 s.length) i) (piece19 s i) (n + i)
theorem blocks_len (s : List UInt8) (n : Nat) : (blocks19 s n).length = count19 s.length := by unfold blocks19; simp
theorem blocks_get (s : List UInt8) (n : Nat) {j : Nat} (h : j < count19 s.length) : (blocks19 s n)[j]? = some (blockB (kind19 (count19 s.length) j) (piece19 s j) (n + j)) := by
  unfold blocks19
  rw [List.getElem?_map, List.getElem?_range h]
  rfl
theorem blocks_each (s : List UInt8) (n : Nat) : ∀ b ∈ blocks19 s n, b.length = 64 := by
  intro b hb
  unfold blocks19 at hb
  obtain ⟨i, hi, rfl⟩ := List.mem_map.1 hb
  exact blockB_len (by rw [piece_len]; omega)
def pack19 (s : List UInt8) (n : Nat) : List UInt8 := (blocks19 s n).flatten
theorem fl64_len : ∀ {L : List (List UInt8)}, (∀ b ∈ L, b.length = 64) → L.flatten.length = 64 * L.length
  | [], _ => rfl
  | b :: r, h => by
    rw [List.flatten_cons, List.length_append, h b (by simp), fl64_len fun c hc => h c (by simp [hc]), List.length_cons]
    omega
theorem pack_len (s : List UInt8) (n : Nat) : (pack19 s n).length = 64 * count19 s.length := by unfold pack19; rw [fl64_len (blocks_each s n), blocks_len]

/-- What the scan keeps: is a record open, its bytes, the records, where they end. -/
structure SS where
  opn : Bool
  text : List UInt8
  out : List (List UInt8)
  fin : Nat
def ss0 : SS := ⟨false, [], [], 0⟩
def step19 (s : SS) (i : Nat) (b : List UInt8) : Option SS :=
  match read19 b i with
  | none => none
  | some (kind, t) =>
    if s.opn ≠ decide (kind = 3 ∨ kind = 4) then none
    else if 262144 < (s.text ++ t).length then none
    else if kind = 2 ∨ kind = 3 then some ⟨true, s.text ++ t, s.out, s.fin⟩
    else some ⟨false, [], s.out ++ [s.text ++ t], 64 * (i + 1)⟩
def scan19 : List (List UInt8) → Nat → SS → SS
  | [], _, s => s
  | b :: r, i, s => match step19 s i b with | none => s | some s' => scan19 r (i + 1) s'
/-- A file's blocks. -/
def chunks19 (t : List UInt8) : List (List UInt8) := (List.range (t.length / 64)).map fun i => (t.drop (64 * i)).take 64
def scanB (t : List UInt8) : List (List UInt8) × Nat := ((scan19 (chunks19 t) 0 ss0).out, (scan19 (chunks19 t) 0 ss0).fin)
/-- The scan of blocks behind blocks that are read on. -/
def walk19 : List (List UInt8) → Nat → SS → Option SS
  | [], _, s => some s
  | b :: r, i, s => match step19 s i b with | none => none | some s' => walk19 r (i + 1) s'
theorem scan_app : ∀ (a b : List (List UInt8)) (i : Nat) (s s' : SS), walk19 a i s = some s' → scan19 (a ++ b) i s = scan19 b (i + a.length) s'
  | [], b, i, s, s', h => by injection h with h; subst h; rfl
  | x :: a, b, i, s, s', h => by
    rw [walk19] at h
    rw [List.cons_append, scan19]
    cases e : step19 s i x with
    | none => rw [e] at h; cases h
    | some s1 =>
      rw [e] at h
      simp only at h ⊢
      rw [scan_app a b (i + 1) s1 s' h, List.length_cons]
      congr 1
      omega
theorem walk_app : ∀ (a b : List (List UInt8)) (i : Nat) (s s' : SS), walk19 a i s = some s' → walk19 (a ++ b) i s = walk19 b (i + a.length) s'
  | [], b, i, s, s', h => by injection h with h; subst h; rfl
  | x :: a, b, i, s, s', h => by
    rw [walk19] at h
    rw [List.cons_append, walk19]
    cases e : step19 s i x with
    | none => rw [e] at h; cases h
    | some s1 =>
      rw [e] at h
      simp only at h ⊢
      rw [walk_app a b (i + 1) s1 s' h, List.length_cons]
      congr 1
      omega
/-- A record's first blocks are read. -/
theorem walk_some (s : List UInt8) (n : Nat) (out : List (List UInt8)) (fin : Nat) (hs : s.length ≤ 262144) : ∀ j, j < count19 s.length → walk19 ((blocks19 s n).take j) n ⟨false, [], out, fin⟩ = some ⟨decide (0 < j), s.take (54 * j), out, fin⟩
  | 0, _ => by simp [walk19]
  | j + 1, h => by
    obtain ⟨h1, h2, h3⟩ := count19_bd s.length
    have ih := walk_some s n out fin hs j (by omega)
    have hj : j < (blocks19 s n).length := by rw [blocks_len]; omega
    rw [List.take_add_one, blocks_get s n (show j < count19 s.length by omega)]
    rw [walk_app _ _ _ _ _ ih, List.length_take, Nat.min_eq_left (by omega)]
    simp only [Option.toList_some, walk19]
    have hr := read_block (n + j) (piece_ok s j (by omega))
    have hc1 : count19 s.length ≠ 1 := by omega
    have hk : kind19 (count19 s.length) j = if j = 0 then 2 else 3 := by
      unfold kind19
      rw [if_neg hc1]
      by_cases c : j = 0
      · rw [if_pos c, if_pos c]
      · rw [if_neg c, if_neg c, if_neg (by omega)]
    have hp : s.take (54 * j) ++ piece19 s j = s.take (54 * (j + 1)) := by
      unfold piece19
      rw [show 54 * (j + 1) = 54 * j + 54 by omega, List.take_add]
    have hl : ¬ 262144 < (s.take (54 * (j + 1))).length := by rw [List.length_take]; omega
    unfold step19
    rw [hr]
    simp only
    rw [hp, if_neg hl, hk]
    by_cases c : j = 0
    · subst c
      simp
    · rw [if_neg c, decide_eq_true (show 0 < j by omega), decide_eq_true (show 0 < j + 1 by omega)]
      simp
/-- A record's blocks are read as the record. -/
theorem walk_whole (s : List UInt8) (n : Nat) (out : List (List UInt8)) (fin : Nat) (hs : s.length ≤ 262144) : walk19 (blocks19 s n) n ⟨false, [], out, fin⟩ = some ⟨false, [], out ++ [s], 64 * (n + count19 s.length)⟩ := by
  obtain ⟨h1, h2, h3⟩ := count19_bd s.length
  obtain ⟨j, hj⟩ : ∃ j, count19 s.length = j + 1 := ⟨count19 s.length - 1, by omega⟩
  have ih := walk_some s n out fin hs j (by omega)
  have hjl : j < (blocks19 s n).length := by rw [blocks_len]; omega
  have hsplit : blocks19 s n = (blocks19 s n).take j ++ [blockB (kind19 (count19 s.length) j) (piece19 s j) (n + j)] := by
    have : (blocks19 s n).take (j + 1) = blocks19 s n := List.take_of_length_le (by rw [blocks_len]; omega)
    rw [List.take_add_one, blocks_get s n (show j < count19 s.length by omega)] at this
    exact this.symm
  rw [hsplit, walk_app _ _ _ _ _ ih, List.length_take, Nat.min_eq_left (by omega)]
  simp only [walk19]
  have hr := read_block (n + j) (piece_ok s j (by omega))
  have hk : kind19 (count19 s.length) j = if j = 0 then 1 else 4 := by
    unfold kind19
    by_cases c : j = 0
    · subst c; rw [if_pos (by omega)]; rfl
    · rw [if_neg (by omega), if_neg c, if_pos (by omega), if_neg c]
  have hp : s.take (54 * j) ++ piece19 s j = s := by
    unfold piece19
    rw [← List.take_add]
    exact List.take_of_length_le (by omega)
  unfold step19
  rw [hr]
  simp only
  rw [hp, if_neg (show ¬ 262144 < s.length by omega), hk, hj]
  by_cases c : j = 0
  · subst c
    simp
  · rw [if_neg c, decide_eq_true (show 0 < j by omega)]
    simp
    omega
end Go.Proofs.Ytkckddcibhbalaa
