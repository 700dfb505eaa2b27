/- Append of a text's bytes; a slice of bytes that the call itself made, as a text. -/
import Derived.Lib.AppendStr
import Derived.Test.YtahohmdbiiknoaaGreatDoorBR01
import Derived.Lib.Bytealg
import Derived.Lib.IndexAny
namespace Go.Proofs.YtahohmdbiiknoaaGreatDoor
open Go.RowKit

/-- Append of a text's bytes to a slice that the call itself made. -/
theorem wpList_append1s {P : Program} {ops : Array Oper} {rest : List Oper} {o : Oper} {a : Act} {Q : Exit → Act → World → Prop} {w : World} (hgd : o.guard = none) (s x : Operand) (t u e : TypeId)
    (ho : o.op = .call { callee := .builtin .append, args := #[s, x], argTypes := #[t, u] }) (ht : P.underlying t = some (.slice e)) (hu : P.underlying u = some .string)
    (hi : (P.info? e).map (fun i => (i.zero, i.size, i.bytes)) = some (some (.int .u8 0), 1, 1))
    (B : Nat) (v : Value) (l m : List UInt8) (hown : w.ownsRow B e 1 v l.length ((nums l).map (Value.int .u8))) (hs : a.eval s = v) (hx : a.eval x = .string ⟨m.toArray⟩)
    (hn : l.length + m.length ≤ 140737488355328) (hB : B ≤ w.heap.size)
    (h : ∀ v' w', w'.ownsRow B e 1 v' (l ++ m).length ((nums (l ++ m)).map (Value.int .u8)) → Below B w w' → wpList P ops Q rest (a.put o.dst v') w') : wpList P ops Q (o :: rest) a w := by
  obtain ⟨i0, hi, hz0, hz1, hz2⟩ := info_parts hi
  refine Lib.wpList_append_own_string w hgd s x t u ho B e i0 ht hu hi hz0 hz1 hz2 v l.length _ hs hown ⟨m.toArray⟩ hx (by show l.length + m.length ≤ _; unfold maxLen; omega) hn hB ?_
  intro v' w' h1 h2 _
  refine h v' w' ?_ ((Below.refl B w).grown h2 hB fun k hk => (hown.lt k hk).1)
  have e1 : Lib.strCells ⟨m.toArray⟩ = (nums m).map (Value.int .u8) := by simp [Lib.strCells, nums]
  rw [e1, ← List.map_append, ← nums_app] at h1
  rw [List.length_append]
  exact h1

/-- A slice of bytes that the call itself made, as a text. -/
def Txt (w : World) (B : Nat) (v : Value) (l : List UInt8) : Prop := w.ownsRow B 5 1 v l.length ((nums l).map (Value.int .u8))
theorem txt_nil (w : World) (B : Nat) : Txt w B (.slice none 0 0) [] := World.ownsRow_nil _ _ _ _
theorem txt_str {w : World} {B : Nat} {v : Value} {l : List UInt8} (h : Txt w B v l) : (convert 51 9 v).run Tryz.prog w = .ok (.string ⟨l.toArray⟩) w := by
  unfold Txt at h
  have h' : w.ownsRow B 5 1 v (nums l).length ((nums l).map (Value.int .u8)) := by rw [nums_len]; exact h
  have := run_str (P := Tryz.prog) w 51 9 5 Tryz.underlying51 Tryz.underlying5 Tryz.underlying9 (intSl_own h')
  rw [nums_u8] at this
  exact this
theorem info_u8 : (Tryz.prog.info? 5).map (fun i => (i.zero, i.size, i.bytes)) = some (some (.int .u8 0), 1, 1) := by kernel_rfl
end Go.Proofs.YtahohmdbiiknoaaGreatDoor

/- Plain mathematics of layer 10 (texts without marks): nothing of the program. -/
namespace Go.Proofs.YtahohmdbiiknoaaGreatDoor
open Go.Lib

/-- A text gone through from the left: what stands ahead becomes a text, and takes so many bytes more. -/
def walkT (f : List UInt8 → List UInt8 × Nat) : Nat → List UInt8 → List UInt8
  | _, [] => []
  | n + 1, _ :: t => walkT f n t
  | 0, c :: t => (f (c :: t)).1 ++ walkT f (f (c :: t)).2 t
theorem walkT_drop (f : List UInt8 → List UInt8 × Nat) : ∀ (n : Nat) (l : List UInt8), walkT f n l = walkT f 0 (l.drop n)
  | 0, l => by simp
  | n + 1, [] => by simp [walkT]
  | n + 1, c :: t => by rw [walkT, walkT_drop f n t]; simp
theorem walkT_nil (f : List UInt8 → List UInt8 × Nat) (n : Nat) : walkT f n [] = [] := by cases n <;> rfl
theorem walkT_step (f : List UInt8 → List UInt8 × Nat) (l : List UInt8) (h : l ≠ []) : walkT f 0 l = (f l).1 ++ walkT f 0 (l.drop ((f l).2 + 1)) := by
  cases l with
  | nil => exact absurd rfl h
  | cons c t => rw [walkT, walkT_drop]; simp
/-- Nothing is told of texts without one byte: they stay. -/
theorem walkT_id (f : List UInt8 → List UInt8 × Nat) (x : UInt8) (hf : ∀ c t, c ≠ x → f (c :: t) = ([c], 0)) : ∀ l : List UInt8, x ∉ l → walkT f 0 l = l
  | [], _ => rfl
  | c :: t, h => by
    have hc : c ≠ x := fun e => h (by simp [e])
    rw [walkT, hf c t hc, walkT_id f x hf t fun e => h (List.mem_cons_of_mem _ e)]
    rfl

theorem bt_drop (l : List UInt8) (k i : Nat) : bt (l.drop k) i = bt l (k + i) := by unfold bt; simp [List.getD]
theorem bt_u8 (c x : UInt8) (t : List UInt8) : bt (c :: t) 0 = (x.toNat : Int) ↔ c = x := by
  show ((c.toNat : Nat) : Int) = (x.toNat : Int) ↔ c = x
  constructor
  · intro h; exact UInt8.toNat_inj.1 (by omega)
  · intro h; rw [h]

/-! ## Marks -/

/-- May a mark's name begin so? -/
def markN (c : Int) : Bool := decide (97 ≤ c ∧ c ≤ 122 ∨ 65 ≤ c ∧ c ≤ 90 ∨ c = 47 ∨ c = 33 ∨ c = 63)
def opensB (l : List UInt8) : Bool := decide (2 ≤ l.length) && (bt l 0 == 60 && markN (bt l 1))
def markF (l : List UInt8) : List UInt8 × Nat :=
  if opensB l = true ∧ 0 ≤ indexByte l 62 then ([32], (indexByte l 62).toNat) else (l.take 1, 0)
/-- A text with a blank for each mark. -/
def stripB (l : List UInt8) : List UInt8 := walkT markF 0 l
theorem stripB_id (l : List UInt8) (h : (60 : UInt8) ∉ l) : stripB l = l := by
  refine walkT_id markF 60 (fun c t hc => ?_) l h
  unfold markF
  rw [if_neg]
  · rfl
  · rintro ⟨h1, _⟩
    unfold opensB at h1
    simp only [Bool.and_eq_true, beq_iff_eq] at h1
    exact hc ((bt_u8 c 60 t).1 h1.2.1)

theorem indexByte_ge0 (l : List UInt8) (c : UInt8) : indexByte l c = -1 ∨ 0 ≤ indexByte l c := by have := indexByte_ge l c; omega
theorem indexByte_lt (l : List UInt8) (c : UInt8) : indexByte l c < l.length := by
  induction l with
  | nil => simp [indexByte]
  | cons b l ih => unfold indexByte; split <;> (try split) <;> simp at * <;> omega
theorem indexByte_mem (l : List UInt8) (c : UInt8) : 0 ≤ indexByte l c ↔ c ∈ l := by
  induction l with
  | nil => simp [indexByte]
  | cons b l ih =>
    unfold indexByte
    have hg := indexByte_ge l c
    by_cases hb : b = c
    · simp [hb]
    · rw [if_neg (by simpa using hb)]
      have hb' : ¬ c = b := fun e => hb e.symm
      simp only [List.mem_cons, hb', false_or, ← ih]
      by_cases h : indexByte l c = -1
      · rw [if_pos (by simpa using h)]; omega
      · rw [if_neg (by simpa using h)]; omega
/-- The first place of a byte, told by what stands there and ahead of it. -/
theorem indexByte_at : ∀ (l : List UInt8) (c : UInt8) (k : Nat), k < l.length → bt l k = (c.toNat : Int) → (∀ j, j < k → bt l j ≠ (c.toNat : Int)) → indexByte l c = k
  | [], c, k, h, _, _ => by simp at h
  | b :: l, c, 0, _, h, _ => by
    have := (bt_u8 b c l).1 h
    simp [indexByte, this]
  | b :: l, c, k + 1, h, h1, h2 => by
    have hb : b ≠ c := fun e => h2 0 (by omega) ((bt_u8 b c l).2 e)
    have ih := indexByte_at l c k (by simpa using h) (by rw [← bt_succ b l k]; exact h1) (fun j hj => by have := h2 (j + 1) (by omega); rwa [bt_succ] at this)
    unfold indexByte
    rw [if_neg (by simpa using hb), ih]
    rw [if_neg (by simp only [beq_iff_eq]; omega)]
    rfl
theorem indexByte_not (l : List UInt8) (c : UInt8) (h : ∀ j, j < l.length → bt l j ≠ (c.toNat : Int)) : indexByte l c = -1 := by
  rcases indexByte_ge0 l c with e | e
  · exact e
  · exfalso
    have := (indexByte_mem l c).1 e
    obtain ⟨j, hj, hc⟩ := List.getElem_of_mem this
    exact h j hj (by unfold bt; simp [List.getD, hj, hc])
/-- Of a beginning: the same place, or none. -/
theorem indexByte_take : ∀ (l : List UInt8) (c : UInt8) (n : Nat), indexByte (l.take n) c = if indexByte l c < n then indexByte l c else -1
  | [], c, n => by simp only [List.take_nil, indexByte]; exact (ite_self _).symm
  | b :: l, c, 0 => by
    have := indexByte_ge (b :: l) c
    simp only [List.take_zero]
    split
    · rename_i h; show (-1 : Int) = _; omega
    · rfl
  | b :: l, c, n + 1 => by
    have ih := indexByte_take l c n
    have hg := indexByte_ge l c
    simp only [List.take_succ_cons]
    unfold indexByte
    by_cases hb : b = c
    · subst hb
      simp only [BEq.rfl, if_true]
      rw [if_pos (by omega)]
    · have hb' : (b == c) = false := by simpa using hb
      simp only [hb', Bool.false_eq_true, if_false, ih]
      by_cases h1 : indexByte l c < (n : Int)
      · simp only [if_pos h1]
        by_cases h2 : indexByte l c = -1
        · simp [h2]
        · have h2' : (indexByte l c == -1) = false := by simpa using h2
          simp only [h2', Bool.false_eq_true, if_false]
          rw [if_pos (by omega)]
      · simp only [if_neg h1]
        have h2' : (indexByte l c == -1) = false := by simp; omega
        rw [if_pos (show ((-1 : Int) == -1) = true from rfl), h2', if_neg Bool.false_ne_true, if_neg (by omega)]
theorem containsAny_two (l : List UInt8) : containsAny l [60, 38] = (l.contains 60 || l.contains 38) := by
  unfold containsAny
  induction l with
  | nil => rfl
  | cons b l ih =>
    have hg := indexAny_ge [60, 38] l
    unfold indexAny
    by_cases h1 : b = 60
    · subst h1; simp
    by_cases h2 : b = 38
    · subst h2; simp
    have hc : [(60 : UInt8), 38].contains b = false := by simp [h1, h2]
    rw [if_neg (by rw [hc]; decide)]
    have e1 : (60 == b) = false := by simpa using fun e : (60 : UInt8) = b => h1 e.symm
    have e2 : (38 == b) = false := by simpa using fun e : (38 : UInt8) = b => h2 e.symm
    simp only [List.contains_cons, e1, e2, Bool.false_or]
    rw [← ih]
    split
    · rename_i h; rw [beq_iff_eq] at h; rw [h]
    · rename_i h
      have h' : indexAny l [60, 38] ≠ -1 := by simpa using h
      by_cases h0 : 0 ≤ indexAny l [60, 38]
      · rw [decide_eq_true h0, decide_eq_true (by omega)]
      · omega

/-! ## Names -/

/-- May a rune stand in a document? -/
def charB (r : Int) : Bool := decide (r = 9 ∨ r = 10 ∨ r = 13 ∨ 32 ≤ r ∧ r ≤ 55295 ∨ 57344 ≤ r ∧ r ≤ 65533 ∨ 65536 ≤ r ∧ r ≤ 1114111)
def digN (c : Int) : Int :=
  if 48 ≤ c ∧ c ≤ 57 then c - 48 else if 97 ≤ c ∧ c ≤ 102 then c - 87 else if 65 ≤ c ∧ c ≤ 70 then c - 55 else -1
theorem digN_bd (c : Int) : -1 ≤ digN c ∧ digN c ≤ 15 := by unfold digN; repeat' split
                                                            all_goals omega
/-- What digits tell, held below a bound. -/
def numC (b : Int) : Int → List UInt8 → Int
  | r, [] => r
  | r, c :: t => if digN c.toNat < 0 ∨ b ≤ digN c.toNat then -1 else numC b (min (r * b + digN c.toNat) 1114112) t
/-- The same, given up where it is too great. -/
def numR (b : Int) : Int → List UInt8 → Option Int
  | n, [] => some n
  | n, c :: t => if digN c.toNat < 0 ∨ b ≤ digN c.toNat ∨ 1114111 < n then none else numR b (n * b + digN c.toNat) t
def numOk : Option Int → Bool
  | some n => decide (n ≤ 1114111) && charB n
  | none => false
theorem charB_bd {r : Int} (h : charB r = true) : 9 ≤ r ∧ r ≤ 1114111 := by unfold charB at h; simp at h; omega
theorem numC_top (b : Int) (hb : b = 10 ∨ b = 16) : ∀ l : List UInt8, charB (numC b 1114112 l) = false
  | [] => rfl
  | c :: t => by
    unfold numC
    split
    · rfl
    · rename_i h
      have : min (1114112 * b + digN c.toNat) 1114112 = 1114112 := by have := digN_bd c.toNat; omega
      rw [this]; exact numC_top b hb t
theorem numC_numR (b : Int) (hb : b = 10 ∨ b = 16) : ∀ (l : List UInt8) (n : Int), 0 ≤ n → charB (numC b (min n 1114112) l) = numOk (numR b n l) ∧ (numOk (numR b n l) = true → numR b n l = some (numC b (min n 1114112) l))
  | [], n, h => by
    show charB (min n 1114112) = (decide (n ≤ 1114111) && charB n) ∧ ((decide (n ≤ 1114111) && charB n) = true → some n = some (min n 1114112))
    by_cases hn : n ≤ 1114111
    · rw [show min n 1114112 = n from by omega]
      exact ⟨by simp [hn], fun _ => rfl⟩
    · rw [show min n 1114112 = 1114112 from by omega]
      have : decide (n ≤ 1114111) = false := by simpa using hn
      rw [this]
      exact ⟨rfl, fun h => by simp at h⟩
  | c :: t, n, h => by
    unfold numC numR
    have hd := digN_bd c.toNat
    by_cases h1 : digN c.toNat < 0 ∨ b ≤ digN c.toNat
    · rw [if_pos h1, if_pos (by omega)]
      exact ⟨rfl, fun h => by simp [numOk] at h⟩
    · rw [if_neg h1]
      by_cases h2 : 1114111 < n
      · rw [if_pos (by omega)]
        have : min (min n 1114112 * b + digN c.toNat) 1114112 = 1114112 := by rcases hb with rfl | rfl <;> omega
        rw [this, numC_top b hb t]
        exact ⟨rfl, fun h => by simp [numOk] at h⟩
      · rw [if_neg (by omega), show min n 1114112 = n from by omega]
        exact numC_numR b hb t _ (by rcases hb with rfl | rfl <;> omega)

def ltL : List UInt8 := [108, 116]
def gtL : List UInt8 := [103, 116]
def ampL : List UInt8 := [97, 109, 112]
def quotL : List UInt8 := [113, 117, 111, 116]
def aposL : List UInt8 := [97, 112, 111, 115]
/-- The number that a name tells; one that may not stand in a document, if it tells none. -/
def numI (l : List UInt8) : Int :=
  if Lib.hasPrefix l [35, 120] then numC 16 0 (l.drop 2) else if Lib.hasPrefix l [35] then numC 10 0 (l.drop 1) else -1
/-- What a name stands for, if anything. -/
def namedS (l : List UInt8) : Option (List UInt8) :=
  if l = ltL then some [60] else if l = gtL then some [62] else if l = ampL then some [38] else if l = quotL then some [34] else if l = aposL then some [39]
  else if charB (numI l) then some (enc (numI l)) else none
def entF (l : List UInt8) : List UInt8 × Nat :=
  if bt l 0 = 38 ∧ 0 < indexByte l 59 ∧ indexByte l 59 ≤ 12 then
    match namedS ((l.take (indexByte l 59).toNat).drop 1) with
    | some x => (x, (indexByte l 59).toNat)
    | none => (l.take 1, 0)
  else (l.take 1, 0)
/-- A text with what its names stand for. -/
def entB (l : List UInt8) : List UInt8 := walkT entF 0 l
theorem entB_id (l : List UInt8) (h : (38 : UInt8) ∉ l) : entB l = l := by
  refine walkT_id entF 38 (fun c t hc => ?_) l h
  unfold entF
  rw [if_neg]
  · rfl
  · rintro ⟨h1, _⟩
    exact hc ((bt_u8 c 38 t).1 h1)

/-! ## Blanks -/

/-- How many bytes the blank has that stands ahead. -/
def blankN (l : List UInt8) : Nat :=
  if bt l 0 = 32 ∨ 9 ≤ bt l 0 ∧ bt l 0 ≤ 13 then 1 else if 2 ≤ l.length ∧ bt l 0 = 194 ∧ bt l 1 = 160 then 2 else 0
theorem blank_one (l : List UInt8) (h : bt l 0 = 32 ∨ 9 ≤ bt l 0 ∧ bt l 0 ≤ 13) : blankN l = 1 := by unfold blankN; rw [if_pos h]
theorem blank_sp (t : List UInt8) : blankN (32 :: t) = 1 := blank_one _ (Or.inl rfl)
/-- Stretches without blanks, a blank between: a: is there any yet?  g: has there been a blank since?  n: so many bytes more belong to a blank. -/
def spT : Bool → Bool → Nat → List UInt8 → List UInt8
  | _, _, _, [] => []
  | a, g, n + 1, _ :: t => spT a g n t
  | a, g, 0, c :: t => if blankN (c :: t) = 0 then (if a && g then [32] else []) ++ c :: spT true false 0 t else spT a true (blankN (c :: t) - 1) t
def spB (l : List UInt8) : List UInt8 := spT false false 0 l
theorem spT_nil (a g : Bool) (n : Nat) : spT a g n [] = [] := by cases n <;> rfl
theorem spT_drop (a g : Bool) : ∀ (n : Nat) (l : List UInt8), spT a g n l = spT a g 0 (l.drop n)
  | 0, l => by simp
  | n + 1, [] => by simp [spT]
  | n + 1, c :: t => by rw [spT, spT_drop a g n t]; simp
theorem spT_step (a g : Bool) (l : List UInt8) (h : l ≠ []) (hb : blankN l = 0) : spT a g 0 l = (if a && g then [32] else []) ++ l.take 1 ++ spT true false 0 (l.drop 1) := by
  cases l with
  | nil => exact absurd rfl h
  | cons c t => rw [spT, if_pos hb]; simp
theorem spT_blank (a g : Bool) (l : List UInt8) (h : l ≠ []) (hb : blankN l ≠ 0) : spT a g 0 l = spT a true 0 (l.drop (blankN l)) := by
  cases l with
  | nil => exact absurd rfl h
  | cons c t =>
    rw [spT, if_neg hb, spT_drop]
    obtain ⟨m, hm⟩ : ∃ m, blankN (c :: t) = m + 1 := ⟨blankN (c :: t) - 1, by omega⟩
    rw [hm]; simp
theorem blankN_le (l : List UInt8) : blankN l ≤ l.length := by
  unfold blankN
  split
  · rename_i h
    cases l with
    | nil => simp [bt] at h
    | cons c t => simp
  · split
    · rename_i h; exact h.1
    · exact Nat.zero_le _
theorem blankN_02 (l : List UInt8) : blankN l = 0 ∨ blankN l = 1 ∨ blankN l = 2 := by unfold blankN; split <;> (try split) <;> simp
def cleanB (l : List UInt8) : List UInt8 := spB (entB (stripB l))
def plainB (l : List UInt8) : Bool := !containsAny l [60, 38] && (spB l == l)
theorem clean_plain (l : List UInt8) (h : plainB l = true) : cleanB l = l := by
  unfold plainB at h
  rw [containsAny_two] at h
  simp only [Bool.and_eq_true, Bool.not_eq_true', Bool.or_eq_false_iff, beq_iff_eq, List.contains_eq_mem, decide_eq_false_iff_not] at h
  obtain ⟨⟨h1, h2⟩, h3⟩ := h
  unfold cleanB
  rw [stripB_id l h1, entB_id l h2, h3]

/-! ## Texts with single blanks -/

/-- Has it single blanks? Behind a sign that is no blank (b), or where one must stand. -/
def nfB : Bool → List UInt8 → Bool
  | b, [] => b
  | b, c :: t => if b = true ∧ c = 32 then nfB false t else decide (blankN (c :: t) = 0) && nfB true t
theorem spT_nf : ∀ (l : List UInt8) (b g : Bool), nfB b l = true → (b = true → g = false) → spT b g 0 l = l := by
  intro l
  suffices H : ∀ (b : Bool), nfB b l = true → ∀ a g : Bool, (b = true → a = true ∧ g = false) → spT a g 0 l = (if a && g then [32] else []) ++ l by
    intro b g h hg
    have := H b h b g (fun e => ⟨e, hg e⟩)
    rw [this]
    cases b
    · rfl
    · rw [hg rfl]; rfl
  induction l with
  | nil =>
    intro b h a g hb
    cases b
    · simp [nfB] at h
    · obtain ⟨rfl, rfl⟩ := hb rfl; rfl
  | cons c t ih =>
    intro b h a g hb
    unfold nfB at h
    by_cases h1 : b = true ∧ c = 32
    · rw [if_pos h1] at h
      obtain ⟨rfl, rfl⟩ := h1
      obtain ⟨rfl, rfl⟩ := hb rfl
      have hbl := blank_sp t
      rw [spT, if_neg (by rw [hbl]; decide), hbl]
      have := ih false h true true (by simp)
      show spT true true 0 t = 32 :: t
      rw [this]; rfl
    · rw [if_neg h1] at h
      simp only [Bool.and_eq_true, decide_eq_true_eq] at h
      rw [spT, if_pos h.1, ih true h.2 true false (fun _ => ⟨rfl, rfl⟩)]
      rfl
theorem bt0_cons (c : UInt8) (t s : List UInt8) : bt (c :: t) 0 = bt (c :: s) 0 := rfl
/-- A sign that is no blank is none ahead of what begins otherwise than the rest of a blank. -/
theorem blank_alike {c : UInt8} {t s : List UInt8} (h : blankN (c :: t) = 0) (hs : bt s 0 = 160 → bt t 0 = 160 ∧ t ≠ []) : blankN (c :: s) = 0 := by
  unfold blankN at h ⊢
  rw [bt0_cons c s t]
  by_cases h1 : bt (c :: t) 0 = 32 ∨ 9 ≤ bt (c :: t) 0 ∧ bt (c :: t) 0 ≤ 13
  · rw [if_pos h1] at h; simp at h
  rw [if_neg h1] at h ⊢
  rw [if_neg]
  rintro ⟨h2, h3, h4⟩
  rw [bt_succ] at h4
  have := hs h4
  rw [if_pos ⟨by cases t with
    | nil => exact absurd rfl this.2
    | cons _ _ => simp, h3, by rw [bt_succ]; exact this.1⟩] at h
  simp at h
theorem spT_gap : ∀ (n : Nat) (l : List UInt8), l.length ≤ n → spT true true 0 l = [] ∨ ∃ x, spT true true 0 l = 32 :: x
  | _, [], _ => Or.inl rfl
  | 0, c :: t, h => by simp at h
  | n + 1, c :: t, h => by
    by_cases hb : blankN (c :: t) = 0
    · rw [spT, if_pos hb]; exact Or.inr ⟨_, rfl⟩
    · rw [spT_blank _ _ _ (by simp) hb]
      exact spT_gap n _ (by simp at h ⊢; omega)
theorem spT_head (t : List UInt8) (h : bt (spT true false 0 t) 0 = 160) : bt t 0 = 160 ∧ t ≠ [] := by
  cases t with
  | nil => simp [spT, bt] at h
  | cons c t =>
    by_cases hb : blankN (c :: t) = 0
    · rw [spT, if_pos hb] at h; exact ⟨h, by simp⟩
    · rw [spT_blank _ _ _ (by simp) hb] at h
      rcases spT_gap _ ((c :: t).drop (blankN (c :: t))) (Nat.le_refl _) with e | ⟨x, e⟩ <;> rw [e] at h <;> simp [bt] at h
theorem nf_spT : ∀ (n : Nat) (l : List UInt8), l.length ≤ n → nfB true (spT true false 0 l) = true ∧
    ∀ a g : Bool, ¬ (a = true ∧ g = false) → spT a g 0 l = [] ∨ ∃ x, spT a g 0 l = (if a && g then [32] else []) ++ x ∧ nfB false x = true
  | _, [], _ => ⟨rfl, fun _ _ _ => Or.inl rfl⟩
  | 0, c :: t, h => by simp at h
  | n + 1, c :: t, h => by
    have ht := nf_spT n t (by simp at h; omega)
    by_cases hb : blankN (c :: t) = 0
    · have h2 : blankN (c :: spT true false 0 t) = 0 := blank_alike hb (spT_head t)
      have hc : ¬ (true = true ∧ c = 32) := by
        rintro ⟨_, rfl⟩
        rw [blank_sp] at hb; simp at hb
      refine ⟨?_, fun a g _ => Or.inr ⟨c :: spT true false 0 t, by rw [spT, if_pos hb], ?_⟩⟩
      · rw [spT, if_pos hb]
        show nfB true (c :: spT true false 0 t) = true
        rw [nfB, if_neg hc, decide_eq_true h2, ht.1]; rfl
      · rw [nfB, if_neg (by simp), decide_eq_true h2, ht.1]; rfl
    · have hd := nf_spT n ((c :: t).drop (blankN (c :: t))) (by simp at h ⊢; omega)
      refine ⟨?_, fun a g hag => ?_⟩
      · rw [spT_blank _ _ _ (by simp) hb]
        rcases hd.2 true true (by simp) with e | ⟨x, e, hx⟩
        · rw [e]; rfl
        · rw [e]
          show nfB true (32 :: x) = true
          rw [nfB, if_pos ⟨rfl, rfl⟩]; exact hx
      · rw [spT_blank _ _ _ (by simp) hb]
        have e : (a && g) = (a && true) := by cases a <;> cases g <;> simp at hag ⊢
        rw [e]
        exact hd.2 a true (by simp)
theorem spB_nf (l : List UInt8) : spB l = [] ∨ nfB false (spB l) = true := by
  rcases (nf_spT _ l (Nat.le_refl _)).2 false false (by simp) with e | ⟨x, e, hx⟩
  · exact Or.inl e
  · right
    show nfB false (spT false false 0 l) = true
    rw [e]; exact hx
theorem spB_iff (l : List UInt8) : spB l = l ↔ l = [] ∨ nfB false l = true := by
  constructor
  · intro h
    have := spB_nf l
    rw [h] at this; exact this
  · rintro (rfl | h)
    · rfl
    · exact spT_nf l false false h (by simp)
theorem spB_twice (l : List UInt8) : spB (spB l) = spB l := (spB_iff _).2 (spB_nf l)
theorem spT_tail : ∀ (l : List UInt8) (a g : Bool) (n : Nat), spT a g n (l ++ [9, 32]) = spT a g n l
  | [], a, g, 0 => by show spT a g 0 [9, 32] = []; rw [spT_blank _ _ _ (by simp) (by decide)]; show spT a true 0 [32] = []; rw [spT_blank _ _ _ (by simp) (by decide)]; rfl
  | [], a, g, 1 => by show spT a g 0 [32] = []; rw [spT_blank _ _ _ (by simp) (by decide)]; rfl
  | [], a, g, n + 2 => by show spT a g n [] = []; exact spT_nil _ _ _
  | c :: t, a, g, n + 1 => by rw [List.cons_append, spT, spT, spT_tail t]
  | c :: t, a, g, 0 => by
    have hb : blankN (c :: (t ++ [9, 32])) = blankN (c :: t) := by
      unfold blankN
      rw [bt0_cons c (t ++ [9, 32]) t]
      cases t with
      | nil => simp [bt]
      | cons d t => simp [bt]
    rw [List.cons_append, spT, spT, hb, spT_tail t, spT_tail t]
theorem spB_ends (l : List UInt8) : spB (32 :: 10 :: (l ++ [9, 32])) = spB l := by
  show spT false false 0 _ = spT false false 0 l
  rw [spT_blank _ _ _ (by simp) (by rw [blank_sp]; decide), blank_sp]
  show spT false true 0 (10 :: (l ++ [9, 32])) = _
  have h10 : blankN (10 :: (l ++ [9, 32])) = 1 := blank_one _ (Or.inr ⟨by show (9 : Int) ≤ 10; decide, by show (10 : Int) ≤ 13; decide⟩)
  rw [spT_blank _ _ _ (by simp) (by rw [h10]; decide), h10]
  show spT false true 0 (l ++ [9, 32]) = _
  rw [spT_tail]
  have H : ∀ (n : Nat) (l : List UInt8), l.length ≤ n → ∀ g, spT false g 0 l = spT false true 0 l := by
    intro n
    induction n with
    | zero => intro l hl g; cases l with
      | nil => rfl
      | cons c t => simp at hl
    | succ n ih =>
      intro l hl g
      cases l with
      | nil => rfl
      | cons c t => rw [spT, spT]; simp
  exact (H _ l (Nat.le_refl _) false).symm
theorem nf_at : ∀ (l : List UInt8) (b : Bool), nfB b l = true → ∀ i, i < l.length →
    ¬ (9 ≤ bt l i ∧ bt l i ≤ 13) ∧ (bt l i = 32 → (b = true ∨ i ≠ 0) ∧ i + 1 < l.length ∧ bt l (i + 1) ≠ 32)
  | [], _, _, i, hi => by simp at hi
  | c :: t, b, h, i, hi => by
    unfold nfB at h
    by_cases h1 : b = true ∧ c = 32
    · rw [if_pos h1] at h
      obtain ⟨rfl, rfl⟩ := h1
      cases i with
      | zero =>
        refine ⟨by simp [bt], fun _ => ⟨Or.inl rfl, ?_⟩⟩
        cases t with
        | nil => simp [nfB] at h
        | cons d t =>
          rw [nfB, if_neg (by simp)] at h
          simp only [Bool.and_eq_true, decide_eq_true_eq] at h
          refine ⟨by simp, ?_⟩
          rw [bt_succ]
          intro e
          have := h.1
          rw [blank_one _ (Or.inl e)] at this; simp at this
      | succ i =>
        have ih := nf_at t false h i (by simpa using hi)
        rw [bt_succ, bt_succ]
        exact ⟨ih.1, fun e => ⟨Or.inl rfl, by have := (ih.2 e).2.1; simp; omega, (ih.2 e).2.2⟩⟩
    · rw [if_neg h1] at h
      simp only [Bool.and_eq_true, decide_eq_true_eq] at h
      cases i with
      | zero =>
        have := h.1
        unfold blankN at this
        by_cases h2 : bt (c :: t) 0 = 32 ∨ 9 ≤ bt (c :: t) 0 ∧ bt (c :: t) 0 ≤ 13
        · rw [if_pos h2] at this; simp at this
        · exact ⟨fun e => h2 (Or.inr e), fun e => absurd (Or.inl e) h2⟩
      | succ i =>
        have ih := nf_at t true h.2 i (by simpa using hi)
        rw [bt_succ, bt_succ]
        exact ⟨ih.1, fun e => ⟨Or.inr (by omega), by have := (ih.2 e).2.1; simp; omega, (ih.2 e).2.2⟩⟩

/-! ## Plain, sign by sign -/

/-- Is the sign that stands ahead none of a plain text's?  b: does one stand ahead of it? -/
def badP (b : Bool) (l : List UInt8) : Bool :=
  bt l 0 == 60 || bt l 0 == 38 || decide (blankN l = 2) || decide (blankN l = 1) && (bt l 0 != 32 || !b || decide (l.length = 1) || bt l 1 == 32)
def plR : Bool → List UInt8 → Bool
  | _, [] => true
  | b, c :: t => !badP b (c :: t) && plR true t
theorem plR_step (b : Bool) (l : List UInt8) (h : l ≠ []) : plR b l = (!badP b l && plR true (l.drop 1)) := by
  cases l with
  | nil => exact absurd rfl h
  | cons c t => rfl
def noM (l : List UInt8) : Bool := !containsAny l [60, 38]
theorem noM_cons (c : UInt8) (t : List UInt8) : noM (c :: t) = (!(bt (c :: t) 0 == 60 || bt (c :: t) 0 == 38) && noM t) := by
  unfold noM
  rw [containsAny_two, containsAny_two]
  have e : ∀ x : UInt8, (bt (c :: t) 0 == (x.toNat : Int)) = (x == c) := by
    intro x
    rw [Bool.eq_iff_iff, beq_iff_eq, beq_iff_eq, bt_u8]; exact eq_comm
  have e1 := e 60
  have e2 := e 38
  rw [show ((60 : UInt8).toNat : Int) = 60 from rfl] at e1
  rw [show ((38 : UInt8).toNat : Int) = 38 from rfl] at e2
  rw [e1, e2]
  simp only [List.contains_cons]
  cases (60 == c) <;> cases (38 == c) <;> cases t.contains 60 <;> cases t.contains 38 <;> rfl
theorem nfB_false (l : List UInt8) : nfB false l = (decide (l ≠ []) && (bt l 0 != 32) && nfB true l) := by
  cases l with
  | nil => rfl
  | cons c t =>
    rw [nfB, if_neg (by simp)]
    by_cases hc : c = 32
    · subst hc
      rw [decide_eq_false (by rw [blank_sp]; decide)]
      simp [bt]
    · rw [nfB, if_neg (by simp [hc])]
      have : (bt (c :: t) 0 != 32) = true := by
        rw [bne_iff_ne]; intro e; exact hc ((bt_u8 c 32 t).1 e)
      rw [this]; simp
theorem plR_true : ∀ l : List UInt8, plR true l = (noM l && nfB true l)
  | [] => rfl
  | c :: t => by
    have ih := plR_true t
    rw [plR, ih, noM_cons, nfB]
    unfold badP
    by_cases hc : c = 32
    · subst hc
      rw [blank_sp, if_pos ⟨rfl, rfl⟩, nfB_false]
      have e : bt (32 :: t) 0 = 32 := rfl
      rw [e, bt_succ]
      cases t with
      | nil => rfl
      | cons d t =>
        have e2 : decide ((32 :: d :: t).length = 1) = false := by simp
        rw [e2]
        cases hx : (bt (d :: t) 0 == 32) <;> simp [bne, hx]
    · rw [if_neg (by simp [hc])]
      have hne : (bt (c :: t) 0 != 32) = true := by
        rw [bne_iff_ne]; intro e; exact hc ((bt_u8 c 32 t).1 e)
      rw [hne]
      rcases blankN_02 (c :: t) with hb | hb | hb <;> rw [hb]
      · cases (bt (c :: t) 0 == 60) <;> cases (bt (c :: t) 0 == 38) <;> simp
      · simp
      · simp
theorem plR_plain (l : List UInt8) : plR false l = plainB l := by
  have hp : plainB l = (noM l && (decide (l = []) || nfB false l)) := by
    unfold plainB noM
    congr 1
    rw [Bool.eq_iff_iff, beq_iff_eq, spB_iff]
    simp
  rw [hp]
  cases l with
  | nil => rfl
  | cons c t =>
    have e : decide (c :: t = []) = false := by simp
    rw [plR, plR_true, noM_cons, e, nfB, if_neg (by simp)]
    unfold badP
    rcases blankN_02 (c :: t) with hb | hb | hb <;> rw [hb]
    · cases (bt (c :: t) 0 == 60) <;> cases (bt (c :: t) 0 == 38) <;> simp
    · simp
    · simp

/-! ## What hides its signs -/

def hide1 (c : UInt8) : List UInt8 := if c = 38 then [38, 97, 109, 112, 59] else if c = 60 then [38, 108, 116, 59] else [c]
def hideB (l : List UInt8) : List UInt8 := l.flatMap hide1
theorem hide_no (l : List UInt8) : (60 : UInt8) ∉ hideB l := by
  unfold hideB
  rw [List.mem_flatMap]
  rintro ⟨c, _, h⟩
  unfold hide1 at h
  split at h
  · simp at h
  · split at h
    · simp at h
    · rename_i _ h2; simp at h; exact h2 h.symm
theorem entF_amp (t : List UInt8) : entF (38 :: 97 :: 109 :: 112 :: 59 :: t) = ([38], 4) := by
  have hi : indexByte (38 :: 97 :: 109 :: 112 :: 59 :: t) 59 = 4 := rfl
  unfold entF
  rw [hi, if_pos ⟨rfl, by decide, by decide⟩]
  rfl
theorem entF_lt (t : List UInt8) : entF (38 :: 108 :: 116 :: 59 :: t) = ([60], 3) := by
  have hi : indexByte (38 :: 108 :: 116 :: 59 :: t) 59 = 3 := rfl
  unfold entF
  rw [hi, if_pos ⟨rfl, by decide, by decide⟩]
  rfl
theorem ent_hide : ∀ l : List UInt8, entB (hideB l) = l
  | [] => rfl
  | c :: t => by
    have ih := ent_hide t
    have e : hideB (c :: t) = hide1 c ++ hideB t := by unfold hideB; rw [List.flatMap_cons]
    rw [e]
    unfold hide1 entB at *
    by_cases h1 : c = 38
    · subst h1
      rw [if_pos rfl]
      show walkT entF 0 (38 :: 97 :: 109 :: 112 :: 59 :: hideB t) = _
      rw [walkT_step _ _ (by simp), entF_amp]
      show [38] ++ walkT entF 0 (hideB t) = _
      rw [ih]; rfl
    rw [if_neg h1]
    by_cases h2 : c = 60
    · subst h2
      rw [if_pos rfl]
      show walkT entF 0 (38 :: 108 :: 116 :: 59 :: hideB t) = _
      rw [walkT_step _ _ (by simp), entF_lt]
      show [60] ++ walkT entF 0 (hideB t) = _
      rw [ih]; rfl
    · rw [if_neg h2]
      show walkT entF 0 (c :: hideB t) = _
      have : entF (c :: hideB t) = ([c], 0) := by
        unfold entF
        rw [if_neg]
        · rfl
        · rintro ⟨e, _⟩; exact h1 ((bt_u8 c 38 _).1 e)
      rw [walkT_step _ _ (by simp), this]
      show [c] ++ walkT entF 0 (hideB t) = _
      rw [ih]; rfl
theorem hide_len (l : List UInt8) : (hideB l).length ≤ 5 * l.length := by
  unfold hideB
  induction l with
  | nil => simp
  | cons c t ih =>
    rw [List.flatMap_cons, List.length_append, List.length_cons]
    have : (hide1 c).length ≤ 5 := by unfold hide1; split <;> (try split) <;> simp
    omega
theorem hide_take (l : List UInt8) (k : Nat) (h : k < l.length) : hideB (l.take (k + 1)) = hideB (l.take k) ++ hide1 (l.getD k 0) := by
  unfold hideB
  rw [List.take_succ_eq_append_getElem h, List.flatMap_append]
  simp [List.getD, h]

/-! ## Digits of a number -/

/-- A digit as a sign. -/
def decC (d : Int) : UInt8 := UInt8.ofNat (48 + d).toNat
def hexC (d : Int) : UInt8 := if d < 10 then UInt8.ofNat (48 + d).toNat else UInt8.ofNat (87 + d).toNat
theorem digs16 : ∀ d : Fin 16, digN (hexC d.1).toNat = d.1 ∧ 48 ≤ ((hexC d.1).toNat : Int) := by decide
theorem digs10 : ∀ d : Fin 10, digN (decC d.1).toNat = d.1 ∧ 48 ≤ ((decC d.1).toNat : Int) ∧ ((decC d.1).toNat : Int) ≤ 57 := by decide
theorem digN_hex {d : Int} (h0 : 0 ≤ d) (h1 : d < 16) : digN (hexC d).toNat = d ∧ 48 ≤ ((hexC d).toNat : Int) := by
  have := digs16 ⟨d.toNat, by omega⟩
  rw [show ((d.toNat : Nat) : Int) = d from by omega] at this
  exact this
theorem digN_dec {d : Int} (h0 : 0 ≤ d) (h1 : d < 10) : digN (decC d).toNat = d ∧ 48 ≤ ((decC d).toNat : Int) ∧ ((decC d).toNat : Int) ≤ 57 := by
  have := digs10 ⟨d.toNat, by omega⟩
  rw [show ((d.toNat : Nat) : Int) = d from by omega] at this
  exact this
/-- One digit more ahead. -/
theorem numC_more (b n d : Int) (c : UInt8) (a : List UInt8) (hb : 0 < b) (hn : 0 ≤ n) (hn2 : n ≤ 1114111) (hd : d = n % b) (hc : digN c.toNat = d) (h16 : d < b) : numC b (n / b) (c :: a) = numC b n a := by
  conv => lhs; unfold numC
  have h0 : 0 ≤ d := by rw [hd]; exact Int.emod_nonneg _ (by omega)
  rw [hc, if_neg (by omega), hd, show n / b * b + n % b = n from by rw [Int.mul_comm]; exact Int.mul_ediv_add_emod n b]
  rw [show min n 1114112 = n from by omega]
theorem named_number (l : List UInt8) (h : bt l 0 = 35) : namedS l = if charB (numI l) then some (enc (numI l)) else none := by
  unfold namedS
  have hl : ∀ x : List UInt8, bt x 0 ≠ 35 → l ≠ x := fun x hx e => hx (e ▸ h)
  rw [if_neg (hl _ (by decide)), if_neg (hl _ (by decide)), if_neg (hl _ (by decide)), if_neg (hl _ (by decide)), if_neg (hl _ (by decide))]
theorem numI_dec (a : List UInt8) (h : bt a 0 ≠ 120) : numI (35 :: a) = numC 10 0 a := by
  unfold numI
  have h1 : Lib.hasPrefix (35 :: a) [35, 120] = false := by
    cases a with
    | nil => rfl
    | cons c t =>
      have : (120 == c) = false := by
        rw [beq_eq_false_iff_ne]; intro e; exact h ((bt_u8 c 120 t).2 e.symm)
      simp [Lib.hasPrefix, List.isPrefixOf, this]
  have h2 : Lib.hasPrefix (35 :: a) [35] = true := by simp [Lib.hasPrefix, List.isPrefixOf]
  rw [h1, h2]; rfl
theorem numI_hex (a : List UInt8) : numI (35 :: 120 :: a) = numC 16 0 a := by
  unfold numI
  have h1 : Lib.hasPrefix (35 :: 120 :: a) [35, 120] = true := by simp [Lib.hasPrefix, List.isPrefixOf]
  rw [h1]; rfl
end Go.Proofs.YtahohmdbiiknoaaGreatDoor

/- Attributes, tokens and nodes: plain. -/
namespace Go.Proofs.YtahohmdbiiknoaaGreatDoor

/-- An attribute: its name, its value. -/
abbrev At := List UInt8 × List UInt8
/-- A token. -/
structure Tk where
  kind : Int
  name : List UInt8
  attrs : List At
  text : List UInt8
/-- A node: up is its parent's place. -/
structure Nd where
  name : List UInt8
  attrs : List At
  text : List UInt8
  up : Int
end Go.Proofs.YtahohmdbiiknoaaGreatDoor
