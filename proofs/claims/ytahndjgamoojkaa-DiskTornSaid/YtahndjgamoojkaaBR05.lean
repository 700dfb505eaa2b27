/- Layer 18, plain: bytes as bits; four bytes of a number; the sum, what is sealed and opened; bursts; a burst in what was sealed is always seen, one that comes twice takes itself away. -/
import Derived.Test.YtahndjgamoojkaaBR04
import Derived.Laws.BitsAllLaws
namespace Go.Proofs.Ytahndjgamoojkaa

/-- A byte's bits, the lowest first. -/
def bitsB (c : UInt8) : List Bool := (List.range 8).map fun k => c.toNat.testBit k
def bitsL (l : List UInt8) : List Bool := l.flatMap bitsB
theorem bitsB_len (c : UInt8) : (bitsB c).length = 8 := by unfold bitsB; simp
theorem bitsL_len : ∀ l : List UInt8, (bitsL l).length = 8 * l.length
  | [] => rfl
  | c :: l => by
    have ih := bitsL_len l
    unfold bitsL at ih ⊢
    rw [List.flatMap_cons, List.length_append, bitsB_len, ih, List.length_cons]
    omega
theorem bitsL_app (a b : List UInt8) : bitsL (a ++ b) = bitsL a ++ bitsL b := by unfold bitsL; rw [List.flatMap_append]
theorem bitsL_cons (c : UInt8) (l : List UInt8) : bitsL (c :: l) = bitsB c ++ bitsL l := by unfold bitsL; rw [List.flatMap_cons]
theorem bitsB_num (c : UInt8) : numC18 (bitsB c) = c.toNat := by
  have h : ∀ n : Fin 256, numC18 ((List.range 8).map fun k => n.1.testBit k) = n.1 := by decide +kernel
  exact h ⟨c.toNat, c.toNat_lt⟩
theorem bitsB_get (c : UInt8) (k : Nat) (h : k < 8) : (bitsB c)[k]? = some (c.toNat.testBit k) := by
  unfold bitsB
  simp [h]
theorem bitsL_get : ∀ (l : List UInt8) (n : Nat), n < 8 * l.length → (bitsL l)[n]? = some ((l.getD (n / 8) 0).toNat.testBit (n % 8))
  | [], n, h => by simp at h
  | c :: l, n, h => by
    rw [bitsL_cons]
    by_cases hn : n < 8
    · rw [List.getElem?_append_left (by rw [bitsB_len]; exact hn), bitsB_get c n hn, show n / 8 = 0 by omega, show n % 8 = n by omega]
      rfl
    · rw [List.getElem?_append_right (by rw [bitsB_len]; omega), bitsB_len, bitsL_get l (n - 8) (by rw [List.length_cons] at h; omega), show n / 8 = (n - 8) / 8 + 1 by omega, show (n - 8) % 8 = n % 8 by omega]
      rfl
theorem numC18_app : ∀ a b : List Bool, numC18 (a ++ b) = numC18 a + 2 ^ a.length * numC18 b
  | [], b => by simp [numC18]
  | x :: a, b => by
    rw [List.cons_append, numC18, numC18_app a b, numC18, List.length_cons, Nat.pow_succ, Nat.mul_add]
    have : 2 * (2 ^ a.length * numC18 b) = 2 ^ a.length * 2 * numC18 b := by rw [← Nat.mul_assoc, Nat.mul_comm 2]
    omega
/-- Four bytes as a number, the lowest first. -/
def read4 (l : List UInt8) : Nat := numC18 (bitsL l)
theorem read4_eq (a b c d : UInt8) : read4 [a, b, c, d] = a.toNat + 256 * b.toNat + 65536 * c.toNat + 16777216 * d.toNat := by
  unfold read4
  simp only [bitsL_cons, numC18_app, bitsB_num, bitsB_len, show bitsL [] = [] from rfl, numC18]
  omega
theorem read4_lt {l : List UInt8} (h : l.length = 4) : read4 l < 4294967296 := by
  have := numC18_lt (bitsL l)
  rw [bitsL_len, h] at this
  exact this
/-- A number's four bytes, the lowest first. -/
def four18 (n : Nat) : List UInt8 := [UInt8.ofNat n, UInt8.ofNat (n / 256), UInt8.ofNat (n / 65536), UInt8.ofNat (n / 16777216)]
theorem four18_len (n : Nat) : (four18 n).length = 4 := rfl
theorem read_four {n : Nat} (h : n < 4294967296) : read4 (four18 n) = n := by
  unfold four18
  rw [read4_eq]
  simp only [UInt8.toNat_ofNat']
  omega
theorem four_inj {l : List UInt8} (h : l.length = 4) : four18 (read4 l) = l := by
  match l, h with
  | [a, b, c, d], _ =>
    rw [read4_eq]
    unfold four18
    have ha := a.toNat_lt
    have hb := b.toNat_lt
    have hc := c.toNat_lt
    have hd := d.toNat_lt
    have key : ∀ (x : UInt8) (n : Nat), n % 256 = x.toNat → UInt8.ofNat n = x := fun x n h => by
      apply UInt8.toNat_inj.1
      rw [UInt8.toNat_ofNat']
      omega
    rw [key a _ (by omega), key b _ (by omega), key c _ (by omega), key d _ (by omega)]

/-- All bits. -/
def ones18 : BitVec 32 := BitVec.allOnes 32
/-- The reader behind some bytes. -/
def regC (l : List UInt8) : BitVec 32 := runC ones18 (bitsL l)
/-- The sum. -/
def sum18 (l : List UInt8) : Nat := (regC l ^^^ ones18).toNat
theorem sum18_lt (l : List UInt8) : sum18 l < 4294967296 := (regC l ^^^ ones18).isLt
def seal18 (l : List UInt8) : List UInt8 := l ++ four18 (sum18 l)
theorem seal18_len (l : List UInt8) : (seal18 l).length = l.length + 4 := by unfold seal18; rw [List.length_append, four18_len]
/-- What is opened: what stands ahead of the sum, if that is its sum. -/
def open18 (t : List UInt8) : Option (List UInt8) := if t.length < 4 then none else if read4 (t.drop (t.length - 4)) = sum18 (t.take (t.length - 4)) then some (t.take (t.length - 4)) else none
theorem regC_four (p f : List UInt8) (h : f.length = 4) : regC (p ++ f) = shK 32 (regC p ^^^ BitVec.ofNat 32 (read4 f)) := by
  unfold regC read4
  rw [bitsL_app, runC_app, runC_num _ _ (by rw [bitsL_len, h]; decide), bitsL_len, h]
theorem open_seal (l : List UInt8) : open18 (seal18 l) = some l := by
  unfold open18
  rw [seal18_len, if_neg (by omega)]
  have e1 : (seal18 l).drop (l.length + 4 - 4) = four18 (sum18 l) := by unfold seal18; rw [Nat.add_sub_cancel, List.drop_left]
  have e2 : (seal18 l).take (l.length + 4 - 4) = l := by unfold seal18; rw [Nat.add_sub_cancel, List.take_left]
  rw [e1, e2, read_four (sum18_lt l), if_pos rfl]
/-- What opens leaves the reader at one place, whatever it is; and what leaves it there opens. -/
theorem open_iff {t : List UInt8} (h : 4 ≤ t.length) : (open18 t).isSome = true ↔ regC t = shK 32 ones18 := by
  have e : t = t.take (t.length - 4) ++ t.drop (t.length - 4) := (List.take_append_drop _ _).symm
  have h4 : (t.drop (t.length - 4)).length = 4 := by rw [List.length_drop]; omega
  have hr : regC t = shK 32 (regC (t.take (t.length - 4)) ^^^ BitVec.ofNat 32 (read4 (t.drop (t.length - 4)))) := by rw [← regC_four _ _ h4, ← e]
  unfold open18
  rw [if_neg (by omega), hr]
  generalize t.take (t.length - 4) = p
  have hlt := read4_lt h4
  generalize read4 (t.drop (t.length - 4)) = n at hlt
  have hx : ∀ a b : BitVec 32, a ^^^ (a ^^^ b) = b := fun a b => by rw [← BitVec.xor_assoc, BitVec.xor_self, BitVec.zero_xor]
  constructor
  · intro hs
    split at hs
    · rename_i hn
      rw [hn]
      unfold sum18
      rw [BitVec.ofNat_toNat, BitVec.setWidth_eq, hx]
    · cases hs
  · intro hs
    have h0 : shK 32 ((regC p ^^^ BitVec.ofNat 32 n) ^^^ ones18) = 0#32 := by rw [shK_xor, hs, BitVec.xor_self]
    have h1 := shK_inj 32 h0
    have h2 : BitVec.ofNat 32 n = regC p ^^^ ones18 := by
      have := congrArg (fun z => regC p ^^^ (z ^^^ ones18)) h1
      simp only [BitVec.zero_xor] at this
      rw [BitVec.xor_assoc, BitVec.xor_self, BitVec.xor_zero, hx] at this
      exact this
    have h3 : n = sum18 p := by
      unfold sum18
      rw [← h2, BitVec.toNat_ofNat, Nat.mod_eq_of_lt hlt]
    rw [if_pos h3]
    rfl

/-- One bit turned. -/
def flip18 (l : List UInt8) (n : Nat) : List UInt8 := l.set (n / 8) (l.getD (n / 8) 0 ^^^ UInt8.ofNat (2 ^ (n % 8)))
theorem flip18_len (l : List UInt8) (n : Nat) : (flip18 l n).length = l.length := by unfold flip18; rw [List.length_set]
/-- The first bits of a burst. -/
def burstTo (l : List UInt8) (p y : Nat) : Nat → List UInt8
  | 0 => l
  | k + 1 => if p + k < 8 * l.length ∧ y.testBit k = true then flip18 (burstTo l p y k) (p + k) else burstTo l p y k
theorem burstTo_len (l : List UInt8) (p y : Nat) : ∀ k, (burstTo l p y k).length = l.length
  | 0 => rfl
  | k + 1 => by
    rw [burstTo]
    split
    · rw [flip18_len, burstTo_len l p y k]
    · exact burstTo_len l p y k
/-- The burst on bytes. -/
def burst18 (l : List UInt8) (p : Int) (y : Nat) : List UInt8 := if p < 0 then l else burstTo l p.toNat y 32
theorem burst18_len (l : List UInt8) (p : Int) (y : Nat) : (burst18 l p y).length = l.length := by
  unfold burst18
  split
  · rfl
  · exact burstTo_len _ _ _ _
theorem flip_bit (c : UInt8) (j k : Nat) (hj : j < 8) : (c ^^^ UInt8.ofNat (2 ^ j)).toNat.testBit k = (c.toNat.testBit k ^^ decide (j = k)) := by
  rw [UInt8.toNat_xor, Nat.testBit_xor, UInt8.toNat_ofNat', Nat.mod_eq_of_lt (Nat.pow_lt_pow_right (by decide) hj), Nat.testBit_two_pow]
theorem flip_get (l : List UInt8) (n m : Nat) (hn : n < 8 * l.length) : ((flip18 l n).getD (m / 8) 0).toNat.testBit (m % 8) = ((l.getD (m / 8) 0).toNat.testBit (m % 8) ^^ decide (n = m)) := by
  unfold flip18
  have hl : n / 8 < l.length := by omega
  by_cases h : n / 8 = m / 8
  · have e : (l.set (n / 8) (l.getD (n / 8) 0 ^^^ UInt8.ofNat (2 ^ (n % 8)))).getD (m / 8) 0 = l.getD (m / 8) 0 ^^^ UInt8.ofNat (2 ^ (n % 8)) := by
      rw [← h]
      simp [List.getD, hl]
    rw [e, flip_bit _ _ _ (Nat.mod_lt _ (by decide))]
    congr 1
    rw [decide_eq_decide]
    omega
  · have e : (l.set (n / 8) (l.getD (n / 8) 0 ^^^ UInt8.ofNat (2 ^ (n % 8)))).getD (m / 8) 0 = l.getD (m / 8) 0 := by
      simp [List.getD, List.getElem?_set_ne h]
    rw [e, decide_eq_false (by omega), Bool.xor_false]
/-- Each bit behind a burst. -/
theorem burst_get (l : List UInt8) (p y : Nat) : ∀ (k m : Nat), m < 8 * l.length → ((burstTo l p y k).getD (m / 8) 0).toNat.testBit (m % 8) = ((l.getD (m / 8) 0).toNat.testBit (m % 8) ^^ (decide (p ≤ m ∧ m < p + k) && y.testBit (m - p)))
  | 0, m, _ => by rw [burstTo, decide_eq_false (by omega)]; simp
  | k + 1, m, hm => by
    have ih := burst_get l p y k m hm
    have hl := burstTo_len l p y k
    rw [burstTo]
    by_cases hc : p + k < 8 * l.length ∧ y.testBit k = true
    · rw [if_pos hc, flip_get _ _ _ (by rw [hl]; exact hc.1), ih]
      by_cases h : p + k = m
      · subst h
        rw [decide_eq_true rfl, decide_eq_false (by omega), decide_eq_true (by omega), Nat.add_sub_cancel_left, hc.2]
        simp
      · rw [decide_eq_false h, Bool.xor_false]
        congr 2
        rw [decide_eq_decide]
        omega
    · rw [if_neg hc, ih]
      by_cases h : p + k = m
      · subst h
        have : y.testBit k = false := by
          cases e : y.testBit k with
          | false => rfl
          | true => exact absurd ⟨hm, e⟩ hc
        rw [Nat.add_sub_cancel_left, this]
        simp
      · congr 2
        rw [decide_eq_decide]
        omega
/-- Bytes are told by their bits. -/
theorem bits_inj {a b : List UInt8} (hl : a.length = b.length) (h : ∀ m, m < 8 * a.length → (a.getD (m / 8) 0).toNat.testBit (m % 8) = (b.getD (m / 8) 0).toNat.testBit (m % 8)) : a = b := by
  apply List.ext_getElem hl
  intro i h1 h2
  apply UInt8.toNat_inj.1
  apply Nat.eq_of_testBit_eq
  intro k
  by_cases hk : k < 8
  · have := h (8 * i + k) (by omega)
    rw [show (8 * i + k) / 8 = i by omega, show (8 * i + k) % 8 = k by omega] at this
    simpa [List.getD, h1, h2] using this
  · have e : ∀ c : UInt8, c.toNat.testBit k = false := fun c => Nat.testBit_lt_two_pow (Nat.lt_of_lt_of_le c.toNat_lt (show 2 ^ 8 ≤ 2 ^ k from Nat.pow_le_pow_right (by decide) (by omega)))
    rw [e, e]
/-- A burst that comes twice takes itself away. -/
theorem burst_twice (l : List UInt8) (p : Int) (y : Nat) : burst18 (burst18 l p y) p y = l := by
  have hlen := burst18_len l p y
  unfold burst18 at *
  by_cases hp : p < 0
  · rw [if_pos hp, if_pos hp]
  · rw [if_neg hp] at hlen ⊢
    rw [if_neg hp]
    generalize p.toNat = q at *
    have h2 := burstTo_len (burstTo l q y 32) q y 32
    refine bits_inj (by rw [h2, hlen]) fun m hm => ?_
    rw [h2, hlen] at hm
    rw [burst_get _ _ _ _ _ (by rw [hlen]; exact hm), burst_get _ _ _ _ _ hm]
    cases ((l.getD (m / 8) 0).toNat.testBit (m % 8)) <;> cases (decide (q ≤ m ∧ m < q + 32) && y.testBit (m - q)) <;> rfl
/-- One of no bits turns nothing. -/
theorem burst_none (l : List UInt8) (p : Int) : burst18 l p 0 = l := by
  unfold burst18
  split
  · rfl
  · have : ∀ k, burstTo l p.toNat 0 k = l := by
      intro k
      induction k with
      | zero => rfl
      | succ k ih => rw [burstTo, if_neg (by simp), ih]
    exact this 32
/-- One behind the end turns nothing. -/
theorem burst_behind (l : List UInt8) (p : Int) (y : Nat) (h : 8 * (l.length : Int) ≤ p) : burst18 l p y = l := by
  unfold burst18
  rw [if_neg (by omega)]
  have : ∀ k, burstTo l p.toNat y k = l := by
    intro k
    induction k with
    | zero => rfl
    | succ k ih => rw [burstTo, if_neg (by omega), ih]
  exact this 32
theorem burst_ahead (l : List UInt8) (p : Int) (y : Nat) (h : p < 0) : burst18 l p y = l := by unfold burst18; rw [if_pos h]
/-- What a burst turns. -/
def pat18 (n p y : Nat) : List Bool := (List.range n).map fun m => decide (p ≤ m ∧ m < p + 32) && y.testBit (m - p)
theorem bits_burst (l : List UInt8) (p y : Nat) : bitsL (burstTo l p y 32) = List.zipWith (· ^^ ·) (bitsL l) (pat18 (8 * l.length) p y) := by
  apply List.ext_getElem?
  intro m
  have hl := burstTo_len l p y 32
  by_cases hm : m < 8 * l.length
  · have h1 := bitsL_get (burstTo l p y 32) m (by rw [hl]; exact hm)
    have h2 := bitsL_get l m hm
    rw [h1, burst_get _ _ _ _ _ hm, List.getElem?_zipWith, h2]
    simp [pat18, hm]
  · rw [List.getElem?_eq_none (by rw [bitsL_len, hl]; omega), List.getElem?_eq_none (by rw [List.length_zipWith, bitsL_len]; omega)]
theorem pat_form (n p y : Nat) : ∃ (a b : Nat) (w : List Bool), w.length ≤ 32 ∧ pat18 n p y = List.replicate a false ++ w ++ List.replicate b false := by
  by_cases h : n ≤ p
  · refine ⟨n, 0, [], by simp, ?_⟩
    apply List.ext_getElem?
    intro m
    by_cases hm : m < n
    · simp [pat18, hm]
      intro h1; omega
    · simp [pat18, hm]
  · refine ⟨p, n - (p + min 32 (n - p)), (List.range (min 32 (n - p))).map fun j => y.testBit j, by simp; omega, ?_⟩
    apply List.ext_getElem?
    intro m
    by_cases h1 : m < p
    · rw [List.append_assoc, List.getElem?_append_left (by simp; exact h1)]
      simp [pat18, h1, show m < n by omega]
      intro h2; omega
    · by_cases h2 : m < p + min 32 (n - p)
      · rw [List.append_assoc, List.getElem?_append_right (by simp; omega), List.getElem?_append_left (by simp; omega)]
        have e : m - p < min 32 (n - p) := by omega
        simp only [pat18, List.length_replicate, List.getElem?_map, List.getElem?_range (show m < n by omega), List.getElem?_range e, Option.map_some]
        rw [decide_eq_true (by omega), Bool.true_and]
      · by_cases h3 : m < n
        · rw [List.getElem?_append_right (by simp; omega)]
          simp only [pat18, List.getElem?_map, List.getElem?_range h3, Option.map_some, List.length_append, List.length_replicate, List.length_map, List.length_range, List.getElem?_replicate]
          rw [decide_eq_false (by omega), Bool.false_and, if_pos (by omega)]
        · rw [List.getElem?_eq_none (by simp [pat18]; omega), List.getElem?_eq_none (by simp; omega)]
/-- A burst in what opens, that turns anything, is always seen. -/
theorem burst_open {t : List UInt8} (h4 : 4 ≤ t.length) (ht : (open18 t).isSome = true) (p : Int) (y : Nat) : (open18 (burst18 t p y)).isSome = true ↔ burst18 t p y = t := by
  have hlen := burst18_len t p y
  constructor
  · intro hs
    rw [open_iff (by omega)] at hs ht
    unfold burst18 at *
    by_cases hp : p < 0
    · rw [if_pos hp]
    · rw [if_neg hp] at hs hlen ⊢
      generalize p.toNat = q at *
      unfold regC at hs ht
      rw [bits_burst] at hs
      have hpl : (pat18 (8 * t.length) q y).length = 8 * t.length := by unfold pat18; simp
      have hx := runC_xor (bitsL t) (pat18 (8 * t.length) q y) ones18 0#32 (by rw [bitsL_len, hpl])
      rw [BitVec.xor_zero, hs, ht] at hx
      have h0 : runC 0#32 (pat18 (8 * t.length) q y) = 0#32 := by
        have := congrArg (fun z => shK 32 ones18 ^^^ z) hx
        simp only [BitVec.xor_self] at this
        rw [← BitVec.xor_assoc, BitVec.xor_self, BitVec.zero_xor] at this
        exact this.symm
      obtain ⟨a, b, w, hw, e⟩ := pat_form (8 * t.length) q y
      rw [e] at h0
      have hz := burst_seen a b w hw h0
      refine bits_inj hlen fun m hm => ?_
      rw [hlen] at hm
      rw [burst_get _ _ _ _ _ hm]
      have hb : (pat18 (8 * t.length) q y)[m]? = some false := by
        rw [e, hz]
        have hml : m < (List.replicate a false ++ w ++ List.replicate b false).length := by rw [← e, hpl]; exact hm
        rw [hz] at hml
        rw [List.getElem?_eq_getElem hml]
        congr 1
        have hall : ∀ x ∈ (List.replicate a false ++ List.replicate w.length false ++ List.replicate b false), x = false := by
          intro x hx
          simp only [List.mem_append, List.mem_replicate] at hx
          rcases hx with (⟨_, h⟩ | ⟨_, h⟩) | ⟨_, h⟩ <;> exact h
        exact hall _ (List.getElem_mem hml)
      unfold pat18 at hb
      rw [List.getElem?_map, List.getElem?_range hm] at hb
      simp only [Option.map_some, Option.some.injEq] at hb
      rw [hb, Bool.xor_false]
  · intro e
    rw [e]
    exact ht
end Go.Proofs.Ytahndjgamoojkaa

/- Layer 18, plain: the numbers that the walks reckon with, as words of 32 bits; a step, a byte, four bytes, a bit turned. -/
namespace Go.Proofs.Ytahndjgamoojkaa

/-- A word of 32 bits as a number. -/
def nB (x : BitVec 32) : Int := (x.toNat : Int)
theorem nB_bd (x : BitVec 32) : 0 ≤ nB x ∧ nB x ≤ 4294967295 := by
  have := x.isLt
  unfold nB
  omega
theorem nB_of {a : Int} (h0 : 0 ≤ a) (h1 : a ≤ 4294967295) : nB (BitVec.ofNat 32 a.toNat) = a := by
  unfold nB
  rw [BitVec.toNat_ofNat, Nat.mod_eq_of_lt (by omega)]
  omega
theorem xor_nB (x y : BitVec 32) : bits .xor .u32 (nB x) (nB y) = nB (x ^^^ y) := by
  unfold nB
  rw [u32_xor_nat _ _ x.isLt y.isLt, BitVec.toNat_xor]
theorem nB_ones : nB ones18 = 4294967295 := by decide
theorem nB_poly : nB poly18 = 3988292384 := by decide
theorem nB_byte (c : UInt8) : nB (BitVec.ofNat 32 c.toNat) = (c.toNat : Int) := by
  have := c.toNat_lt
  unfold nB
  rw [BitVec.toNat_ofNat, Nat.mod_eq_of_lt (by omega)]
/-- All bits turned. -/
theorem not_nB (x : BitVec 32) : bits .xor .u32 4294967295 (nB x) = nB (x ^^^ ones18) := by
  rw [← nB_ones, xor_nB, BitVec.xor_comm]
theorem nB_half (x : BitVec 32) : nB (x >>> 1) = nB x / (2 : Int) := by
  unfold nB
  rw [BitVec.toNat_ushiftRight, Nat.shiftRight_eq_div_pow]
  omega
theorem low_nB (x : BitVec 32) : x.getLsbD 0 = decide (nB x % 2 = 1) := by
  have h : x.getLsbD 0 = x.toNat.testBit 0 := rfl
  rw [h, Nat.testBit_zero, decide_eq_decide]
  unfold nB
  omega
/-- A step where the lowest bit is 0. -/
theorem shC_0 (x : BitVec 32) (h : nB x % 2 = 0) : nB (shC x) = nB x / 2 := by
  unfold shC
  rw [low_nB, h, ← nB_half]
  simp
/-- A step where it is 1. -/
theorem shC_1 (x : BitVec 32) (h : nB x % 2 = 1) : nB (shC x) = bits .xor .u32 (nB x / 2) 3988292384 := by
  unfold shC
  rw [low_nB, h, ← nB_half, ← nB_poly, xor_nB]
  simp
theorem shK_next (k : Nat) (x : BitVec 32) : shK (k + 1) x = shC (shK k x) := by rw [shK_add k 1]; rfl
/-- The reader behind one byte more. -/
theorem regC_next (l : List UInt8) (i : Nat) (h : i < l.length) : regC (l.take (i + 1)) = shK 8 (regC (l.take i) ^^^ BitVec.ofNat 32 (l.getD i 0).toNat) := by
  have e : l.take (i + 1) = l.take i ++ [l.getD i 0] := by
    rw [List.take_succ_eq_append_getElem h]
    simp [List.getD, h]
  rw [e]
  generalize l.getD i 0 = c
  unfold regC
  rw [bitsL_app, runC_app, show bitsL [c] = bitsB c from by rw [bitsL_cons]; simp [bitsL], runC_num _ _ (by rw [bitsB_len]; decide), bitsB_len, bitsB_num]
theorem regC_nil : regC [] = ones18 := rfl
/-- The sum, as the walks have it. -/
def sumB (l : List UInt8) : Int := (sum18 l : Int)
theorem sumB_eq (l : List UInt8) : sumB l = nB (regC l ^^^ ones18) := rfl
theorem sumB_bd (l : List UInt8) : 0 ≤ sumB l ∧ sumB l ≤ 4294967295 := nB_bd _

/-- The bytes of a number. -/
def fourB (n : Int) : List UInt8 := four18 n.toNat
theorem fourB_len (n : Int) : (fourB n).length = 4 := rfl
/-- Byte number k of a number. -/
def byN (n : Int) (k : Nat) : Int := n / 2 ^ (8 * k) % 256
theorem u8_nat (n m : Nat) (h : n % 256 = m) : ((UInt8.ofNat n).toNat : Int) = m := by rw [UInt8.toNat_ofNat']; omega
theorem fourB_nums (n : Int) (h0 : 0 ≤ n) : (fourB n).map (fun c => ((c.toNat : Nat) : Int)) = [n % 256, n / 256 % 256, n / 65536 % 256, n / 16777216 % 256] := by
  obtain ⟨m, rfl⟩ := Int.eq_ofNat_of_zero_le h0
  unfold fourB four18
  simp only [List.map_cons, List.map_nil, UInt8.toNat_ofNat', Int.toNat_natCast]
  have e : ∀ a : Nat, ((a % 2 ^ 8 : Nat) : Int) = (a : Int) % 256 := fun a => by omega
  have e1 : ((m / 256 : Nat) : Int) = (m : Int) / 256 := by omega
  have e2 : ((m / 65536 : Nat) : Int) = (m : Int) / 65536 := by omega
  have e3 : ((m / 16777216 : Nat) : Int) = (m : Int) / 16777216 := by omega
  rw [e, e, e, e, e1, e2, e3]
/-- The number of bytes. -/
def readB (l : List UInt8) : Int := if l.length = 4 then (read4 l : Int) else 0
theorem readB_bd (l : List UInt8) : 0 ≤ readB l ∧ readB l ≤ 4294967295 := by
  unfold readB
  split
  · rename_i h
    have := read4_lt h
    omega
  · omega
theorem readB_four (n : Int) (h0 : 0 ≤ n) (h1 : n ≤ 4294967295) : readB (fourB n) = n := by
  unfold readB
  rw [fourB_len, if_pos rfl]
  unfold fourB
  rw [read_four (by omega)]
  omega
theorem readB_eq (a b c d : UInt8) : readB [a, b, c, d] = a.toNat + 256 * b.toNat + 65536 * c.toNat + 16777216 * d.toNat := by
  unfold readB
  rw [if_pos (show [a, b, c, d].length = 4 from rfl), read4_eq]
  omega
theorem u32_join (i : Nat) (x y : Int) (hi : i ≤ 24) (hx : x * 2 ^ i < 4294967296) (x0 : 0 ≤ x) (y0 : 0 ≤ y) (hy : y < 2 ^ i) : bits .or .u32 y (x * 2 ^ i) = y + x * 2 ^ i := by
  obtain ⟨a, rfl⟩ := Int.eq_ofNat_of_zero_le x0
  obtain ⟨b, rfl⟩ := Int.eq_ofNat_of_zero_le y0
  have e : ((2 : Int) ^ i) = ((2 ^ i : Nat) : Int) := by simp
  rw [e] at hx hy ⊢
  have hp : 2 ^ i ≤ 2 ^ 24 := Nat.pow_le_pow_right (by decide) hi
  have hm : ((a : Int) * ((2 ^ i : Nat) : Int)) = ((a * 2 ^ i : Nat) : Int) := by simp
  rw [hm] at hx ⊢
  have h1 : a * 2 ^ i < 4294967296 := by omega
  have h2 : b < 2 ^ i := by omega
  rw [u32_or_nat _ _ (by omega) h1, Nat.or_comm, nat_join i (a * 2 ^ i) b (Nat.mul_mod_left _ _) h2]
  omega

/-- What is opened, as text and as truth. -/
def openT (t : List UInt8) : List UInt8 := (open18 t).getD []
def openQ (t : List UInt8) : Bool := (open18 t).isSome
theorem open_yes {t : List UInt8} (h : 4 ≤ t.length) (e : t.drop (t.length - 4) = fourB (sumB (t.take (t.length - 4)))) : openT t = t.take (t.length - 4) ∧ openQ t = true := by
  have : open18 t = some (t.take (t.length - 4)) := by
    unfold open18
    rw [if_neg (by omega), if_pos]
    rw [e]
    unfold fourB sumB
    rw [Int.toNat_natCast, read_four (sum18_lt _)]
  unfold openT openQ
  rw [this]
  exact ⟨rfl, rfl⟩
theorem open_no {t : List UInt8} (e : t.length < 4 ∨ t.drop (t.length - 4) ≠ fourB (sumB (t.take (t.length - 4)))) : openT t = [] ∧ openQ t = false := by
  have : open18 t = none := by
    unfold open18
    by_cases h : t.length < 4
    · rw [if_pos h]
    · rw [if_neg h, if_neg]
      intro hh
      refine (e.resolve_left h) ?_
      unfold fourB sumB
      rw [Int.toNat_natCast, ← hh, four_inj (by rw [List.length_drop]; omega)]
  unfold openT openQ
  rw [this]
  exact ⟨rfl, rfl⟩
theorem open_len (t : List UInt8) : (openT t).length ≤ t.length := by
  unfold openT open18
  split
  · simp
  · split
    · simp
    · simp
def sealB (l : List UInt8) : List UInt8 := l ++ fourB (sumB l)
theorem sealB_eq (l : List UInt8) : sealB l = seal18 l := rfl
theorem sealB_len (l : List UInt8) : (sealB l).length = l.length + 4 := by unfold sealB; rw [List.length_append, fourB_len]

/-- A burst, by the walks' numbers. -/
def burstB (l : List UInt8) (p y : Int) : List UInt8 := burst18 l p y.toNat
theorem burstB_len (l : List UInt8) (p y : Int) : (burstB l p y).length = l.length := burst18_len _ _ _
theorem bit_nat (y : Int) (k : Nat) (h0 : 0 ≤ y) : y.toNat.testBit k = decide (y / 2 ^ k % 2 = 1) := by
  obtain ⟨m, rfl⟩ := Int.eq_ofNat_of_zero_le h0
  rw [Int.toNat_natCast, Nat.testBit_eq_decide_div_mod_eq, decide_eq_decide]
  have e : ((2 : Int) ^ k) = ((2 ^ k : Nat) : Int) := by simp
  rw [e]
  omega
/-- A bit that is told by a byte and a place behind it. -/
theorem flip_eq (l : List UInt8) (n i j : Nat) (hi : n / 8 = i) (hj : n % 8 = j) : flip18 l n = l.set i (l.getD i 0 ^^^ UInt8.ofNat (2 ^ j)) := by
  subst hi hj
  rfl
theorem flip_nat (c : UInt8) (j : Nat) (hj : j < 8) : ((c ^^^ UInt8.ofNat (2 ^ j)).toNat : Int) = bits .xor .u8 (c.toNat : Int) (2 ^ j) := by
  have hp : 2 ^ j < 256 := Nat.lt_of_lt_of_le (Nat.pow_lt_pow_right (by decide) hj) (by decide)
  have e : ((2 : Int) ^ j) = ((2 ^ j : Nat) : Int) := by simp
  rw [e, u8_xor_nat _ _ c.toNat_lt hp, UInt8.toNat_xor, UInt8.toNat_ofNat', Nat.mod_eq_of_lt hp]
/-- Bits beyond the end are of no account. -/
theorem burstTo_end (l : List UInt8) (p y k : Nat) (h : 8 * l.length ≤ p + k) : ∀ j, burstTo l p y (k + j) = burstTo l p y k
  | 0 => rfl
  | j + 1 => by
    rw [← Nat.add_assoc, burstTo, if_neg (by omega)]
    exact burstTo_end l p y k h j
end Go.Proofs.Ytahndjgamoojkaa
