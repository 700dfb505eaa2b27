/- Plain mathematics of layer 5 (votes of bits): nothing of the program. -/
import Derived.WalkKit
import Derived.Laws.Bits64b
namespace Go.Proofs.YtonbgdcgfoipjaaDoor

/-- A number's bit. -/
def hasBit (x : Int) (k : Nat) : Bool := decide (x / 2 ^ k % 2 = 1)
/-- How a number votes for a bit. -/
def pm (x : Int) (k : Nat) : Int := if hasBit x k = true then 1 else -1
/-- How numbers vote for a bit. -/
def vote (l : List Int) (k : Nat) : Int := (l.map fun x => pm x k).sum
theorem pm_bd (x : Int) (k : Nat) : -1 ≤ pm x k ∧ pm x k ≤ 1 := by unfold pm; split <;> omega
theorem vote_nil (k : Nat) : vote [] k = 0 := rfl
theorem vote_cons (x : Int) (l : List Int) (k : Nat) : vote (x :: l) k = pm x k + vote l k := by unfold vote; simp
theorem vote_app (a b : List Int) (k : Nat) : vote (a ++ b) k = vote a k + vote b k := by unfold vote; simp [List.sum_append]
theorem vote_take (l : List Int) (i k : Nat) (h : i < l.length) : vote (l.take (i + 1)) k = vote (l.take i) k + pm (l.getD i 0) k := by
  rw [List.take_succ_eq_append_getElem h, vote_app, vote_cons, vote_nil]
  simp [List.getD, h]
theorem vote_bd (l : List Int) (k : Nat) : -(l.length : Int) ≤ vote l k ∧ vote l k ≤ l.length := by
  induction l with
  | nil => simp [vote_nil]
  | cons x l ih =>
    rw [vote_cons]
    have := pm_bd x k
    simp only [List.length_cons]
    omega
theorem vote_reverse (l : List Int) (k : Nat) : vote l.reverse k = vote l k := by
  induction l with
  | nil => rfl
  | cons x l ih => rw [List.reverse_cons, vote_app, ih, vote_cons, vote_cons, vote_nil]; omega
theorem vote_replicate (n : Nat) (x : Int) (k : Nat) : vote (List.replicate n x) k = n * pm x k := by
  induction n with
  | zero => simp [vote_nil]
  | succ n ih => rw [List.replicate_succ, vote_cons, ih, Int.natCast_succ, Int.add_mul]; omega

/-- The number that has just those of the lowest n bits. -/
def sigN (p : Nat → Bool) : Nat → Nat
  | 0 => 0
  | n + 1 => sigN p n + if p n = true then 2 ^ n else 0
theorem sigN_lt (p : Nat → Bool) (n : Nat) : sigN p n < 2 ^ n := by
  induction n with
  | zero => simp [sigN]
  | succ n ih => unfold sigN; rw [Nat.pow_succ]; split <;> omega
theorem sigN_ext {p q : Nat → Bool} (n : Nat) (h : ∀ k, k < n → p k = q k) : sigN p n = sigN q n := by
  induction n with
  | zero => rfl
  | succ n ih => unfold sigN; rw [ih fun k hk => h k (by omega), h n (by omega)]
theorem sigN_bit (p : Nat → Bool) (n k : Nat) : (sigN p n).testBit k = (decide (k < n) && p k) := by
  induction n with
  | zero => simp [sigN]
  | succ n ih =>
    have hl := sigN_lt p n
    unfold sigN
    by_cases hp : p n = true
    · rw [if_pos hp, ← Nat.or_two_pow_eq_add_of_lt hl, Nat.testBit_or, ih, Nat.testBit_two_pow]
      by_cases hk : n = k
      · subst hk; simp [hp]
      · simp only [hk, decide_false, Bool.or_false]
        rw [show decide (k < n + 1) = decide (k < n) from decide_eq_decide.2 (by omega)]
    · rw [if_neg hp, Nat.add_zero, ih]
      by_cases hk : n = k
      · subst hk; simp [hp]
      · rw [show decide (k < n + 1) = decide (k < n) from decide_eq_decide.2 (by omega)]
theorem sigN_self (a n : Nat) (h : a < 2 ^ n) : sigN (fun k => a.testBit k) n = a := by
  apply Nat.eq_of_testBit_eq
  intro k
  rw [sigN_bit]
  by_cases hk : k < n
  · simp [hk]
  · rw [Nat.testBit_lt_two_pow (Nat.lt_of_lt_of_le h (Nat.pow_le_pow_right (by decide) (by omega)))]; simp
theorem hasBit_nat (a k : Nat) : hasBit (a : Int) k = a.testBit k := by
  unfold hasBit
  rw [Nat.testBit_eq_decide_div_mod_eq]
  exact decide_eq_decide.2 (by rw [show ((a : Int) / 2 ^ k % 2) = ((a / 2 ^ k % 2 : Nat) : Int) by simp]; omega)
theorem hasBit_toNat (x : Int) (h : 0 ≤ x) (k : Nat) : hasBit x k = x.toNat.testBit k := by
  rw [← hasBit_nat, Int.toNat_of_nonneg h]

theorem bit_test (x : Int) (k : Nat) (h0 : 0 ≤ x) (h1 : x ≤ 18446744073709551615) : (bits .and .u64 (x / 2 ^ k) 1 == 1) = hasBit x k := by
  obtain ⟨a, rfl⟩ := Int.eq_ofNat_of_zero_le h0
  have e : ((a : Int) / 2 ^ k) = ((a / 2 ^ k : Nat) : Int) := by simp
  have hl : a / 2 ^ k ≤ a := Nat.div_le_self _ _
  rw [e, show (1 : Int) = ((1 : Nat) : Int) from rfl, bits_and_u64_nat _ _ (by omega) (by omega), Nat.and_one_is_mod, hasBit_nat, Nat.testBit_eq_decide_div_mod_eq]
  rw [Bool.eq_iff_iff]; simp; omega

/-- Whether a bit is in what numbers come to. -/
def won (l : List Int) (k : Nat) : Bool := decide (0 < vote l k)
/-- What numbers come to. -/
def sigB (l : List Int) : Int := (sigN (won l) 64 : Nat)
theorem sigB_bd (l : List Int) : 0 ≤ sigB l ∧ sigB l ≤ 18446744073709551615 := by
  have := sigN_lt (won l) 64
  unfold sigB; omega
theorem sigB_congr {a b : List Int} (h : ∀ k, k < 64 → won a k = won b k) : sigB a = sigB b := by unfold sigB; rw [sigN_ext 64 h]
/-- What numbers come to, as far as the lowest bits go. -/
def sigTo (l : List Int) (k : Nat) : Int := (sigN (won l) k : Nat)
theorem sigTo_bd (l : List Int) (k : Nat) (h : k ≤ 64) : 0 ≤ sigTo l k ∧ sigTo l k ≤ 18446744073709551615 := by
  have h1 := sigN_lt (won l) k
  have h2 := Nat.pow_le_pow_right (show 0 < 2 by decide) h
  unfold sigTo; omega
theorem pow_lt (k : Nat) (h : k < 64) : 0 < 2 ^ k ∧ 2 ^ k ≤ 9223372036854775808 :=
  ⟨Nat.two_pow_pos _, Nat.pow_le_pow_right (show 0 < 2 by decide) (show k ≤ 63 by omega)⟩
theorem wrap_bit (k : Nat) (h : k < 64) : IntKind.wrap .u64 (2 ^ k) = 2 ^ k := by
  have h1 := pow_lt k h
  have h3 : IntKind.wrap .u64 (2 ^ k) = 2 ^ k % 18446744073709551616 := by simp [IntKind.wrap, IntKind.bits, IntKind.signed]
  rw [h3]
  have h4 : ((2 : Int) ^ k) = ((2 ^ k : Nat) : Int) := by simp
  rw [h4]; omega
theorem sigTo_or (l : List Int) (k : Nat) (h : k < 64) (hw : won l k = true) : bits .or .u64 (sigTo l k) (2 ^ k) = sigTo l (k + 1) := by
  have h1 := sigN_lt (won l) k
  have h2 := pow_lt k h
  have h4 : ((2 : Int) ^ k) = ((2 ^ k : Nat) : Int) := by simp
  unfold sigTo
  rw [h4, bits_or_u64_nat _ _ (by omega) (by omega), Nat.or_two_pow_eq_add_of_lt h1]
  rw [show sigN (won l) (k + 1) = sigN (won l) k + if won l k = true then 2 ^ k else 0 from rfl, if_pos hw]
theorem sigTo_zero (l : List Int) : sigTo l 0 = 0 := rfl
theorem sigTo_all (l : List Int) : sigTo l 64 = sigB l := rfl
theorem won_pos (l : List Int) (k : Nat) (h : 0 < vote l k) : won l k = true := decide_eq_true h
theorem won_neg (l : List Int) (k : Nat) (h : ¬ 0 < vote l k) : won l k = false := decide_eq_false h
theorem sigTo_keep (l : List Int) (k : Nat) (hw : won l k = false) : sigTo l (k + 1) = sigTo l k := by
  unfold sigTo
  rw [show sigN (won l) (k + 1) = sigN (won l) k + if won l k = true then 2 ^ k else 0 from rfl, if_neg (by simp [hw])]; rfl

theorem sigB_reverse (l : List Int) : sigB l.reverse = sigB l := sigB_congr fun k _ => by unfold won; rw [vote_reverse]
theorem sigB_twice (l : List Int) : sigB (l ++ l) = sigB l := sigB_congr fun k _ => by unfold won; rw [vote_app]; exact decide_eq_decide.2 (by omega)
theorem sigB_one (n : Nat) (a : Int) (h0 : 0 ≤ a) (h1 : a ≤ 18446744073709551615) : sigB (List.replicate (n + 1) a) = a := by
  have e : sigN (won (List.replicate (n + 1) a)) 64 = sigN (fun k => a.toNat.testBit k) 64 := by
    apply sigN_ext
    intro k _
    unfold won
    rw [vote_replicate, ← hasBit_toNat a h0]
    unfold pm
    by_cases hb : hasBit a k = true
    · rw [if_pos hb, hb]; simp <;> omega
    · rw [if_neg hb, Bool.eq_false_iff.2 hb]; simp; omega
  unfold sigB
  rw [e, sigN_self _ _ (by omega)]; omega

/-- The bits that all numbers have. -/
def allN (l : List Int) : Nat := l.foldl (fun a x => a &&& x.toNat) 18446744073709551615
/-- The bits that some have. -/
def someN (l : List Int) : Nat := l.foldl (fun a x => a ||| x.toNat) 0
theorem allN_snoc (l : List Int) (x : Int) : allN (l ++ [x]) = allN l &&& x.toNat := by unfold allN; rw [List.foldl_append]; rfl
theorem someN_snoc (l : List Int) (x : Int) : someN (l ++ [x]) = someN l ||| x.toNat := by unfold someN; rw [List.foldl_append]; rfl
theorem take_last {α : Type} {l : List α} {k : Nat} (d : α) (h : k < l.length) : l.take (k + 1) = l.take k ++ [l.getD k d] := by
  rw [List.take_succ_eq_append_getElem h]; simp [List.getD, h]
theorem allN_le (l : List Int) : allN l ≤ 18446744073709551615 := by
  rcases List.eq_nil_or_concat l with rfl | ⟨l, c, rfl⟩
  · decide
  · rw [List.concat_eq_append, allN_snoc]
    have : allN l ≤ 18446744073709551615 := allN_le l
    exact Nat.le_trans Nat.and_le_left this
termination_by l.length
decreasing_by subst_vars; simp
theorem someN_lt (l : List Int) (h : ∀ x ∈ l, 0 ≤ x ∧ x ≤ 18446744073709551615) : someN l < 2 ^ 64 := by
  rcases List.eq_nil_or_concat l with rfl | ⟨l, c, rfl⟩
  · decide
  · rw [List.concat_eq_append, someN_snoc]
    have h1 : someN l < 2 ^ 64 := someN_lt l fun x hx => h x (by simp [hx])
    have h2 := h c (by simp)
    exact Nat.or_lt_two_pow h1 (by omega)
termination_by l.length
decreasing_by subst_vars; simp
theorem allN_bit (l : List Int) (k : Nat) (h : (allN l).testBit k = true) : ∀ x ∈ l, x.toNat.testBit k = true := by
  rcases List.eq_nil_or_concat l with rfl | ⟨l, c, rfl⟩
  · simp
  · rw [List.concat_eq_append] at h ⊢
    rw [allN_snoc, Nat.testBit_and, Bool.and_eq_true] at h
    intro x hx
    rcases List.mem_append.1 hx with hx | hx
    · exact allN_bit l k h.1 x hx
    · rw [List.mem_singleton.1 hx]; exact h.2
termination_by l.length
decreasing_by subst_vars; simp
theorem someN_bit (l : List Int) (k : Nat) (h : (someN l).testBit k = false) : ∀ x ∈ l, x.toNat.testBit k = false := by
  rcases List.eq_nil_or_concat l with rfl | ⟨l, c, rfl⟩
  · simp
  · rw [List.concat_eq_append] at h ⊢
    rw [someN_snoc, Nat.testBit_or, Bool.or_eq_false_iff] at h
    intro x hx
    rcases List.mem_append.1 hx with hx | hx
    · exact someN_bit l k h.1 x hx
    · rw [List.mem_singleton.1 hx]; exact h.2
termination_by l.length
decreasing_by subst_vars; simp
theorem vote_all (l : List Int) (k : Nat) (h : ∀ x ∈ l, hasBit x k = true) : vote l k = l.length := by
  induction l with
  | nil => rfl
  | cons x l ih =>
    rw [vote_cons, ih fun y hy => h y (by simp [hy])]
    unfold pm; rw [if_pos (h x (by simp)), List.length_cons]; omega
theorem vote_none (l : List Int) (k : Nat) (h : ∀ x ∈ l, hasBit x k = false) : vote l k = -(l.length : Int) := by
  induction l with
  | nil => rfl
  | cons x l ih =>
    rw [vote_cons, ih fun y hy => h y (by simp [hy])]
    unfold pm; rw [h x (by simp), if_neg (by simp), List.length_cons]; omega
theorem sig_all (l : List Int) (h0 : l ≠ []) (h : ∀ x ∈ l, 0 ≤ x ∧ x ≤ 18446744073709551615) : bits .and .u64 (sigB l) (allN l : Nat) = (allN l : Nat) := by
  have h1 := sigN_lt (won l) 64
  have h2 := allN_le l
  unfold sigB
  rw [bits_and_u64_nat _ _ (by omega) (by omega)]
  congr 1
  apply Nat.eq_of_testBit_eq
  intro k
  rw [Nat.testBit_and, sigN_bit]
  by_cases hb : (allN l).testBit k = true
  · have hk : k < 64 := by
      rcases Nat.lt_or_ge k 64 with hk | hk
      · exact hk
      · rw [Nat.testBit_lt_two_pow (Nat.lt_of_lt_of_le (show allN l < 2 ^ 64 by omega) (Nat.pow_le_pow_right (by decide) hk))] at hb; simp at hb
    have hv := vote_all l k fun x hx => by rw [hasBit_toNat x (h x hx).1]; exact allN_bit l k hb x hx
    have hl : 0 < l.length := List.length_pos_iff.2 h0
    have hw : won l k = true := by unfold won; rw [hv]; exact decide_eq_true (by omega)
    rw [hb, hw]; simp [hk]
  · rw [Bool.eq_false_iff.2 hb]; simp
theorem andNot_zero (a b : Nat) (h : a &&& b = a) : bits .andNot .u64 (a : Nat) (b : Nat) = 0 := by
  unfold bits
  have e : (BitVec.ofInt IntKind.u64.bits (a : Nat) &&& ~~~ BitVec.ofInt IntKind.u64.bits (b : Nat)) = 0#(IntKind.u64.bits) := by
    rw [BitVec.ofInt_natCast, BitVec.ofInt_natCast]
    apply BitVec.eq_of_getLsbD_eq
    intro i hi
    have ha : a.testBit i = (a.testBit i && b.testBit i) := by rw [← Nat.testBit_and, h]
    simp only [BitVec.getLsbD_and, BitVec.getLsbD_not, BitVec.getLsbD_ofNat, hi, decide_true, Bool.true_and, Nat.zero_testBit]
    rw [ha]; cases a.testBit i <;> cases b.testBit i <;> rfl
  simp only [e]
  rfl
theorem sig_some (l : List Int) (h : ∀ x ∈ l, 0 ≤ x ∧ x ≤ 18446744073709551615) : bits .andNot .u64 (sigB l) (someN l : Nat) = 0 := by
  unfold sigB
  apply andNot_zero
  apply Nat.eq_of_testBit_eq
  intro k
  rw [Nat.testBit_and, sigN_bit]
  by_cases hb : (someN l).testBit k = true
  · rw [hb]; simp
  · have hv := vote_none l k fun x hx => by rw [hasBit_toNat x (h x hx).1]; exact someN_bit l k (Bool.eq_false_iff.2 hb) x hx
    have hw : won l k = false := by unfold won; rw [hv]; exact decide_eq_false (by omega)
    rw [hw]; simp
theorem pm_not (a : Int) (k : Nat) (hk : k < 64) (h0 : 0 ≤ a) (h1 : a ≤ 18446744073709551615) : pm a k + pm (18446744073709551615 - a) k = 0 := by
  have e : hasBit (18446744073709551615 - a) k = !hasBit a k := by
    rw [hasBit_toNat _ (by omega), hasBit_toNat _ h0, show (18446744073709551615 - a).toNat = 2 ^ 64 - (a.toNat + 1) by omega, Nat.testBit_two_pow_sub_succ (by omega)]
    simp [hk]
  unfold pm
  rw [e]
  cases hasBit a k <;> simp
theorem vote_more (l : List Int) (a : Int) (k : Nat) (hk : k < 64) (h0 : 0 ≤ a) (h1 : a ≤ 18446744073709551615) : vote (l ++ [a, 18446744073709551615 - a]) k = vote l k := by
  have := pm_not a k hk h0 h1
  rw [vote_app, vote_cons, vote_cons, vote_nil]; omega
theorem sigB_more (l : List Int) (a : Int) (h0 : 0 ≤ a) (h1 : a ≤ 18446744073709551615) : sigB (l ++ [a, 18446744073709551615 - a]) = sigB l :=
  sigB_congr fun k hk => by unfold won; rw [vote_more l a k hk h0 h1]

/-- The votes as an array holds them. -/
def voteArr (l : List Int) : Array Value := ((List.range 64).map fun k => Value.int .i64 (vote l k)).toArray
theorem voteArr_get (l : List Int) (k : Nat) (h : k < 64) : (voteArr l)[k]? = some (.int .i64 (vote l k)) := by unfold voteArr; simp [h]
theorem voteArr_congr {a b : List Int} (h : ∀ k, k < 64 → vote a k = vote b k) : voteArr a = voteArr b := by
  unfold voteArr
  congr 1
  apply List.map_congr_left
  intro k hk
  rw [h k (List.mem_range.1 hk)]
/-- All bits turned. -/
theorem bits_not (a : Int) (h0 : 0 ≤ a) (h1 : a ≤ 18446744073709551615) : bits .xor .u64 (if IntKind.u64.signed = true then -1 else IntKind.u64.max) a = 18446744073709551615 - a := by
  obtain ⟨n, rfl⟩ := Int.eq_ofNat_of_zero_le h0
  have hm : (if IntKind.u64.signed = true then -1 else IntKind.u64.max : Int) = ((18446744073709551615 : Nat) : Int) := by rfl
  unfold bits
  rw [hm, BitVec.ofInt_natCast, BitVec.ofInt_natCast]
  have e : (BitVec.ofNat IntKind.u64.bits 18446744073709551615 ^^^ BitVec.ofNat IntKind.u64.bits n) = ~~~ (BitVec.ofNat IntKind.u64.bits n) := by
    have : BitVec.ofNat IntKind.u64.bits 18446744073709551615 = BitVec.allOnes 64 := by rfl
    rw [this]; exact BitVec.allOnes_xor
  simp only [e, BitVec.toNat_not, BitVec.toNat_ofNat]
  have hb : IntKind.u64.bits = 64 := rfl
  have hn : n % 2 ^ 64 = n := Nat.mod_eq_of_lt (by omega)
  rw [hb, hn]
  have h3 : ∀ x, IntKind.wrap .u64 x = x % 18446744073709551616 := fun x => by simp [IntKind.wrap, IntKind.bits, IntKind.signed]
  rw [h3]; omega
end Go.Proofs.YtonbgdcgfoipjaaDoor
