/- Layer 9, plain: sets of numbers by their least ones; trees of numbers; labels. -/
import Derived.Test.YtkegealaagphgaaRows
namespace Go.Proofs.Ytkegealaagphgaa

def updN {α : Type} (f : Nat → α) (i : Nat) (x : α) : Nat → α := fun j => if j = i then x else f j
theorem updN_at {α : Type} (f : Nat → α) (i : Nat) (x : α) : updN f i x i = x := if_pos rfl
theorem updN_ne {α : Type} (f : Nat → α) {i j : Nat} (x : α) (h : j ≠ i) : updN f i x j = f j := if_neg h

/-- Each number below n has the least one of its set. -/
structure Lab (n : Nat) (M : Nat → Nat) : Prop where
  le : ∀ i, i < n → M i ≤ i
  idem : ∀ i, i < n → M (M i) = M i
/-- A tree for each set: U is the number above, L the least one, told by the root, R the root, D falls on the way to it. -/
structure Fo (n : Nat) (U L M R D : Nat → Nat) : Prop where
  lt : ∀ i, i < n → U i < n
  root : ∀ i, i < n → R (U i) = R i
  top : ∀ i, i < n → U i = i → R i = i
  rlt : ∀ i, i < n → R i < n
  fix : ∀ i, i < n → U (R i) = R i
  deep : ∀ i, i < n → U i ≠ i → D (U i) < D i
  least : ∀ i, i < n → L (R i) = M i
  same : ∀ i j, i < n → j < n → M i = M j → R i = R j
  lab : Lab n M

theorem Lab.start (n : Nat) : Lab n fun i => i := ⟨fun _ _ => Nat.le_refl _, fun _ _ => rfl⟩
theorem Fo.start (n : Nat) : Fo n (fun i => i) (fun i => i) (fun i => i) (fun i => i) (fun _ => 0) :=
  ⟨fun _ h => h, fun _ _ => rfl, fun _ _ _ => rfl, fun _ h => h, fun _ _ => rfl, fun _ _ h => absurd rfl h, fun _ _ => rfl, fun _ _ _ _ h => h, Lab.start n⟩
variable {n : Nat} {U L M R D : Nat → Nat}
theorem Fo.roots (h : Fo n U L M R D) {i : Nat} (hi : i < n) : R (R i) = R i := h.top _ (h.rlt i hi) (h.fix i hi)
theorem Fo.same_iff (h : Fo n U L M R D) {i j : Nat} (hi : i < n) (hj : j < n) : R i = R j ↔ M i = M j :=
  ⟨fun e => by rw [← h.least i hi, ← h.least j hj, e], h.same i j hi hj⟩
/-- The way to the root is made shorter. -/
theorem Fo.halve (h : Fo n U L M R D) {k : Nat} (hk : k < n) (hne : U k ≠ k) : Fo n (updN U k (U (U k))) L M R D := by
  have h1 := h.lt k hk
  have h2 := h.lt _ h1
  have hd : D (U (U k)) < D k := by
    have := h.deep k hk hne
    by_cases e : U (U k) = U k
    · rw [e]; exact this
    · exact Nat.lt_trans (h.deep _ h1 e) this
  refine ⟨fun i hi => ?_, fun i hi => ?_, fun i hi => ?_, h.rlt, fun i hi => ?_, fun i hi => ?_, h.least, h.same, h.lab⟩
  · unfold updN; split
    · exact h2
    · exact h.lt i hi
  · unfold updN; split
    · next e => rw [h.root _ h1, h.root _ hk, e]
    · exact h.root i hi
  · unfold updN; split
    · next e => intro e2; rw [e2, e] at hd; exact absurd hd (Nat.lt_irrefl _)
    · exact h.top i hi
  · have : R i ≠ k := fun e => hne (by have := h.fix i hi; rw [e] at this; exact this)
    rw [updN_ne _ _ this]; exact h.fix i hi
  · unfold updN; split
    · next e => intro _; rw [e]; exact hd
    · exact h.deep i hi

/-- The sets of a and b are one. -/
def joinM (M : Nat → Nat) (a b : Nat) : Nat → Nat := fun i => if M i = max (M a) (M b) then min (M a) (M b) else M i
theorem joinM_comm (M : Nat → Nat) (a b : Nat) : joinM M a b = joinM M b a := by
  funext i; unfold joinM; rw [Nat.max_comm, Nat.min_comm]
theorem joinM_same {a b : Nat} (h : M a = M b) : joinM M a b = M := by
  funext i; unfold joinM; rw [h, Nat.max_self, Nat.min_self]; split
  · next e => exact e.symm
  · rfl
theorem joinM_in {a b i : Nat} (h : M i = M a ∨ M i = M b) : joinM M a b i = min (M a) (M b) := by
  unfold joinM; split
  · rfl
  · omega
theorem joinM_out {a b i : Nat} (h1 : M i ≠ M a) (h2 : M i ≠ M b) : joinM M a b i = M i := by
  unfold joinM; rw [if_neg (by omega)]
theorem Lab.join (h : Lab n M) {a b : Nat} (ha : a < n) (hb : b < n) : Lab n (joinM M a b) := by
  by_cases e : M a = M b
  · rw [joinM_same e]; exact h
  · have ia := h.idem a ha
    have ib := h.idem b hb
    refine ⟨fun i hi => ?_, fun i hi => ?_⟩
    · have := h.le i hi
      unfold joinM; split <;> omega
    · by_cases hin : M i = M a ∨ M i = M b
      · rw [joinM_in hin]
        refine joinM_in ?_
        rcases Nat.le_total (M a) (M b) with h' | h'
        · rw [Nat.min_eq_left h']; exact Or.inl ia
        · rw [Nat.min_eq_right h']; exact Or.inr ib
      · rw [not_or] at hin
        rw [joinM_out hin.1 hin.2]
        have := h.idem i hi
        rw [joinM_out (by rw [this]; exact hin.1) (by rw [this]; exact hin.2), this]
/-- One root goes under another one. -/
theorem Fo.link (h : Fo n U L M R D) {p q : Nat} (hp : p < n) (hq : q < n) (hne : R p ≠ R q) :
    Fo n (updN U (R p) (R q)) (updN L (R q) (min (L (R p)) (L (R q)))) (joinM M p q) (fun i => if R i = R p then R q else R i) (fun i => if R i = R p then D i + D (R q) + 1 else D i) := by
  have hl := h.rlt p hp
  have hh := h.rlt q hq
  have rl := h.roots hp
  have rh := h.roots hq
  have hM : M p ≠ M q := fun e => hne (h.same p q hp hq e)
  refine ⟨fun i hi => ?_, fun i hi => ?_, fun i hi => ?_, fun i hi => ?_, fun i hi => ?_, fun i hi => ?_, fun i hi => ?_, fun i j hi hj => ?_, h.lab.join hp hq⟩
  · unfold updN; split
    · exact hh
    · exact h.lt i hi
  · by_cases e : i = R p
    · subst e
      rw [updN_at]
      simp only [rl, rh, if_true, ite_self]
    · rw [updN_ne _ _ e]
      simp only [h.root i hi]
  · by_cases e : i = R p
    · subst e
      rw [updN_at]
      intro e; exact absurd e.symm hne
    · rw [updN_ne _ _ e]
      intro e2
      have := h.top i hi e2
      simp only [this, if_neg e]
  · show (if R i = R p then R q else R i) < n
    split
    · exact hh
    · exact h.rlt i hi
  · show updN U (R p) (R q) (if R i = R p then R q else R i) = _
    split
    · rw [updN_ne _ _ (Ne.symm hne)]; exact h.fix q hq
    · next e => rw [updN_ne _ _ e]; exact h.fix i hi
  · by_cases e : i = R p
    · subst e
      rw [updN_at]
      intro _
      simp only [rl, rh, if_true, if_neg (Ne.symm hne)]
      omega
    · rw [updN_ne _ _ e]
      intro e2
      have := h.deep i hi e2
      simp only [h.root i hi]
      split <;> omega
  · by_cases e : R i = R p
    · simp only [if_pos e, updN_at]
      rw [joinM_in (Or.inl ((h.same_iff hi hp).1 e)), h.least p hp, h.least q hq]
    · simp only [if_neg e]
      by_cases e2 : R i = R q
      · rw [e2, updN_at, joinM_in (Or.inr ((h.same_iff hi hq).1 e2)), h.least p hp, h.least q hq]
      · rw [updN_ne _ _ e2, joinM_out (fun x => e (h.same i p hi hp x)) (fun x => e2 (h.same i q hi hq x)), h.least i hi]
  · intro hm
    have key : ∀ t, t < n → (M t = M p ∨ M t = M q) ∨ (M t ≠ M p ∧ M t ≠ M q) := fun t _ => by omega
    have kin : ∀ t, t < n → (M t = M p ∨ M t = M q) → (if R t = R p then R q else R t) = R q := fun t ht hin => by
      split
      · rfl
      · next e =>
        rcases hin with h' | h'
        · exact absurd (h.same t p ht hp h') e
        · exact h.same t q ht hq h'
    rcases key i hi with hi' | hi' <;> rcases key j hj with hj' | hj'
    · rw [kin i hi hi', kin j hj hj']
    · rw [joinM_in hi', joinM_out hj'.1 hj'.2] at hm; omega
    · rw [joinM_in hj', joinM_out hi'.1 hi'.2] at hm; omega
    · rw [joinM_out hi'.1 hi'.2, joinM_out hj'.1 hj'.2] at hm
      rw [h.same i j hi hj hm]

/-- Labels that tell the same sets. -/
def Alike (n : Nat) (O M : Nat → Nat) : Prop := ∀ i j, i < n → j < n → (O i = O j ↔ M i = M j)
theorem Alike.start (n : Nat) : Alike n (fun i => i) (fun i => i) := fun _ _ _ _ => Iff.rfl
def relab (O : Nat → Nat) (x y : Nat) : Nat → Nat := fun i => if O i = x then y else O i
theorem Alike.join {O : Nat → Nat} (h : Alike n O M) {a b : Nat} (ha : a < n) (hb : b < n) : Alike n (relab O (O a) (O b)) (joinM M a b) := by
  have kin : ∀ t, t < n → (M t = M a ∨ M t = M b) → relab O (O a) (O b) t = O b := fun t ht hin => by
    unfold relab; split
    · rfl
    · next e =>
      rcases hin with h' | h'
      · exact absurd ((h t a ht ha).2 h') e
      · exact (h t b ht hb).2 h'
  have kout : ∀ t, t < n → M t ≠ M a → M t ≠ M b → relab O (O a) (O b) t = O t ∧ O t ≠ O b := fun t ht h1 h2 => by
    unfold relab
    exact ⟨if_neg fun e => h1 ((h t a ht ha).1 e), fun e => h2 ((h t b ht hb).1 e)⟩
  have key : ∀ t, (M t = M a ∨ M t = M b) ∨ (M t ≠ M a ∧ M t ≠ M b) := fun t => by omega
  intro i j hi hj
  rcases key i with hi' | hi' <;> rcases key j with hj' | hj'
  · rw [kin i hi hi', kin j hj hj', joinM_in hi', joinM_in hj']; exact ⟨fun _ => rfl, fun _ => rfl⟩
  · rw [kin i hi hi', (kout j hj hj'.1 hj'.2).1, joinM_in hi', joinM_out hj'.1 hj'.2]
    exact ⟨fun e => absurd e.symm (kout j hj hj'.1 hj'.2).2, fun e => by omega⟩
  · rw [kin j hj hj', (kout i hi hi'.1 hi'.2).1, joinM_in hj', joinM_out hi'.1 hi'.2]
    exact ⟨fun e => absurd e (kout i hi hi'.1 hi'.2).2, fun e => by omega⟩
  · rw [(kout i hi hi'.1 hi'.2).1, (kout j hj hj'.1 hj'.2).1, joinM_out hi'.1 hi'.2, joinM_out hj'.1 hj'.2]
    exact h i j hi hj
/-- The least of those with a number's label. -/
theorem Alike.first {O : Nat → Nat} (h : Alike n O M) (hM : Lab n M) {a : Nat} (ha : a < n) : O (M a) = O a ∧ ∀ k, k < n → O k = O a → M a ≤ k := by
  have hl := hM.le a ha
  exact ⟨(h _ _ (by omega) ha).2 (hM.idem a ha), fun k hk e => by have := hM.le k hk; rw [(h k a hk ha).1 e] at this; exact this⟩

/-! What is told of any numbers. -/
def inB (n : Nat) (a : Int) : Bool := decide (0 ≤ a) && decide (a < n)
def sameB (n : Nat) (M : Nat → Nat) (a b : Int) : Bool := inB n a && inB n b && (M a.toNat == M b.toNat)
def joinB9 (n : Nat) (M : Nat → Nat) (a b : Int) : Bool := inB n a && inB n b && !(M a.toNat == M b.toNat)
def joinI (n : Nat) (M : Nat → Nat) (a b : Int) : Nat → Nat := if inB n a && inB n b then joinM M a.toNat b.toNat else M
def leastI (n : Nat) (M : Nat → Nat) (a : Int) : Int := if inB n a then (M a.toNat : Int) else -1
theorem inB_true {a : Int} : inB n a = true ↔ ∃ k : Nat, a = k ∧ k < n := by
  unfold inB
  rw [Bool.and_eq_true, decide_eq_true_eq, decide_eq_true_eq]
  constructor
  · rintro ⟨h1, h2⟩; exact ⟨a.toNat, by omega, by omega⟩
  · rintro ⟨k, rfl, h⟩; omega
theorem inB_nat {k : Nat} (h : k < n) : inB n (k : Int) = true := inB_true.2 ⟨k, rfl, h⟩
theorem Lab.joinI (h : Lab n M) (a b : Int) : Lab n (joinI n M a b) := by
  unfold Proofs.Ytkegealaagphgaa.joinI
  split
  · next e =>
    rw [Bool.and_eq_true] at e
    obtain ⟨k, rfl, hk⟩ := inB_true.1 e.1
    obtain ⟨m, rfl, hm⟩ := inB_true.1 e.2
    exact h.join (by simpa using hk) (by simpa using hm)
  · exact h
theorem joinI_comm (n : Nat) (M : Nat → Nat) (a b : Int) : joinI n M a b = joinI n M b a := by
  unfold joinI; rw [Bool.and_comm, joinM_comm]
theorem joinI_no {a b : Int} (h : joinB9 n M a b = false) : joinI n M a b = M := by
  unfold joinI
  split
  · next e =>
    unfold joinB9 at h
    rw [e] at h
    exact joinM_same (by simpa using h)
  · rfl

/-! The sets as lists. -/
def headsL (k : Nat) (M : Nat → Nat) : List Nat := (List.range k).filter fun m => M m == m
def setL (k : Nat) (M : Nat → Nat) (m : Nat) : List Nat := (List.range k).filter fun i => M i == m
def setsL (k : Nat) (M : Nat → Nat) : List (List Nat) := (headsL k M).map (setL k M)
theorem headsL_succ (k : Nat) (M : Nat → Nat) : headsL (k + 1) M = headsL k M ++ if M k = k then [k] else [] := by
  unfold headsL; rw [List.range_succ, List.filter_append]
  congr 1
  by_cases h : M k = k <;> simp [h]
theorem setL_succ (k : Nat) (M : Nat → Nat) (m : Nat) : setL (k + 1) M m = setL k M m ++ if M k = m then [k] else [] := by
  unfold setL; rw [List.range_succ, List.filter_append]
  congr 1
  by_cases h : M k = m <;> simp [h]
theorem mem_heads {k m : Nat} : m ∈ headsL k M ↔ m < k ∧ M m = m := by simp [headsL]
theorem mem_set {k m i : Nat} : i ∈ setL k M m ↔ i < k ∧ M i = m := by simp [setL]
theorem heads_le (k : Nat) (M : Nat → Nat) : (headsL k M).length ≤ k := by
  have := List.length_filter_le (fun m => M m == m) (List.range k)
  simpa [headsL] using this
theorem set_le (k : Nat) (M : Nat → Nat) (m : Nat) : (setL k M m).length ≤ k := by
  have := List.length_filter_le (fun i => M i == m) (List.range k)
  simpa [setL] using this
theorem sets_len (k : Nat) (M : Nat → Nat) : (setsL k M).length = (headsL k M).length := by simp [setsL]
theorem heads_rise (k : Nat) (M : Nat → Nat) : (headsL k M).Pairwise (· < ·) := List.Pairwise.filter _ (List.pairwise_lt_range)
theorem heads_nodup (k : Nat) (M : Nat → Nat) : (headsL k M).Nodup := List.Nodup.sublist List.filter_sublist List.nodup_range
/-- Where a set stands. -/
def placeN (M : Nat → Nat) (m : Nat) : Nat := (headsL m M).length
theorem heads_get {k m : Nat} (hm : m < k) (h : M m = m) : (headsL k M)[placeN M m]? = some m := by
  unfold placeN
  induction k with
  | zero => omega
  | succ k ih =>
    rw [headsL_succ]
    by_cases e : m = k
    · subst e
      rw [if_pos h, List.getElem?_append_right (Nat.le_refl _), Nat.sub_self]; rfl
    · have := ih (by omega)
      rw [List.getElem?_append_left (by
        have := (List.getElem?_eq_some_iff.1 this).1; exact this)]
      exact this
theorem place_lt {k m : Nat} (hm : m < k) (h : M m = m) : placeN M m < (headsL k M).length := (List.getElem?_eq_some_iff.1 (heads_get hm h)).1
theorem sets_each (k : Nat) (M : Nat → Nat) (i : Nat) : ((setsL k M).getD i []).length ≤ k := by
  rw [List.getD_eq_getElem?_getD, setsL, List.getElem?_map]
  cases (headsL k M)[i]? with
  | none => exact Nat.zero_le _
  | some m => exact set_le k M m
/-- A number more that is its set's first. -/
theorem sets_new (hM : Lab n M) {k : Nat} (hk : k < n) (h : M k = k) : setsL (k + 1) M = setsL k M ++ [[k]] := by
  unfold setsL
  rw [headsL_succ, if_pos h, List.map_append]
  congr 1
  · refine List.map_congr_left fun m hm => ?_
    have := (mem_heads.1 hm).1
    rw [setL_succ, if_neg (by omega), List.append_nil]
  · have e : setL k M k = [] := by
      unfold setL
      refine List.filter_eq_nil_iff.2 fun i hi => ?_
      have hi := List.mem_range.1 hi
      have := hM.le i (by omega)
      rw [beq_iff_eq]; omega
    simp [setL_succ, h, e]
/-- A number more of a set that is there. -/
theorem sets_more (hM : Lab n M) {k : Nat} (hk : k < n) (h : M k ≠ k) :
    placeN M (M k) < (setsL k M).length ∧ setsL (k + 1) M = (setsL k M).set (placeN M (M k)) ((setsL k M).getD (placeN M (M k)) [] ++ [k]) := by
  have hlt : M k < k := by have := hM.le k hk; omega
  have hid := hM.idem k hk
  have hp := heads_get hlt hid
  have hpl := place_lt hlt hid
  refine ⟨by rw [sets_len]; exact hpl, ?_⟩
  unfold setsL
  rw [headsL_succ, if_neg h, List.append_nil]
  apply List.ext_getElem?
  intro j
  rw [List.getElem?_set, List.getElem?_map, List.getElem?_map]
  by_cases e : placeN M (M k) = j
  · subst e
    rw [if_pos rfl, if_pos (by rw [List.length_map]; exact hpl), hp, List.getD, List.getElem?_map, hp]
    simp [setL_succ]
  · rw [if_neg e]
    cases hj : (headsL k M)[j]? with
    | none => rfl
    | some m =>
      have hne : M k ≠ m := fun e2 => e (by
        subst e2
        have hj' := List.getElem?_eq_some_iff.1 hj
        have hp' := List.getElem?_eq_some_iff.1 hp
        obtain ⟨b1, b2⟩ := hj'
        obtain ⟨a1, a2⟩ := hp'
        exact (List.getElem_inj (heads_nodup k M)).1 (a2.trans b2.symm))
      simp [setL_succ, hne]
/-- The sets whose first number is below k. -/
def setsTo (n k : Nat) (M : Nat → Nat) : List (List Nat) := (headsL k M).map (setL n M)
theorem setsTo_yes {k : Nat} (h : M k = k) : setsTo n (k + 1) M = setsTo n k M ++ [setL n M k] := by
  unfold setsTo; rw [headsL_succ, if_pos h, List.map_append]; rfl
theorem setsTo_no {k : Nat} (h : M k ≠ k) : setsTo n (k + 1) M = setsTo n k M := by
  unfold setsTo; rw [headsL_succ, if_neg h, List.append_nil]
theorem setsTo_len (n k : Nat) (M : Nat → Nat) : (setsTo n k M).length = (headsL k M).length := by simp [setsTo]
theorem setL_head (hM : Lab n M) {k : Nat} (hk : k < n) : setL k M k = [] := by
  unfold setL
  refine List.filter_eq_nil_iff.2 fun i hi => ?_
  have hi := List.mem_range.1 hi
  have := hM.le i (by omega)
  rw [beq_iff_eq]; omega
end Go.Proofs.Ytkegealaagphgaa
