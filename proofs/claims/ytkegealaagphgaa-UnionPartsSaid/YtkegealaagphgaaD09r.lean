/- Layer 9, plain: what rows of joins come to, in whatever order; how many sets there are; that they part the numbers. -/
import Derived.Test.YtkegealaagphgaaD09p
namespace Go.Proofs.Ytkegealaagphgaa

theorem joinM_mono {M : Nat → Nat} {p q i j : Nat} (h : M i = M j) : joinM M p q i = joinM M p q j := by unfold joinM; rw [h]
/-- The numbers of a pair, where both are there. -/
def PairIs (n : Nat) (ab : Int × Int) (p q : Nat) : Prop := ab.1 = p ∧ ab.2 = q ∧ p < n ∧ q < n
/-- M is what the pairs of J make of single numbers: they are joined, and nothing else is. -/
structure Gen9 (n : Nat) (os : List (Int × Int)) (J : Nat → Prop) (M : Nat → Nat) : Prop where
  lab : Lab n M
  yes : ∀ j (hj : j < os.length), J j → ∀ p q, PairIs n (os[j]'hj) p q → M p = M q
  no : ∀ E : Nat → Nat, (∀ j (hj : j < os.length), J j → ∀ p q, PairIs n (os[j]'hj) p q → E p = E q) → ∀ i k, i < n → k < n → M i = M k → E i = E k
theorem Gen9.start (n : Nat) (os : List (Int × Int)) : Gen9 n os (fun _ => False) (fun i => i) := ⟨Lab.start n, fun _ _ h => h.elim, fun E _ i k _ _ h => by rw [show i = k from h]⟩
theorem Gen9.congr {n : Nat} {os : List (Int × Int)} {J J' : Nat → Prop} {M : Nat → Nat} (h : Gen9 n os J M) (e : ∀ j, j < os.length → (J j ↔ J' j)) : Gen9 n os J' M :=
  ⟨h.lab, fun j hj hJ => h.yes j hj ((e j hj).2 hJ), fun E hE => h.no E fun j hj hJ => hE j hj ((e j hj).1 hJ)⟩
theorem pair_cases (n : Nat) (a b : Int) : (inB n a && inB n b) = true ∧ (∃ p q, PairIs n (a, b) p q) ∨ (inB n a && inB n b) = false ∧ ∀ p q, ¬ PairIs n (a, b) p q := by
  cases h : inB n a && inB n b with
  | true =>
    rw [Bool.and_eq_true] at h
    obtain ⟨p, e1, h1⟩ := inB_true.1 h.1
    obtain ⟨q, e2, h2⟩ := inB_true.1 h.2
    exact Or.inl ⟨rfl, p, q, e1, e2, h1, h2⟩
  | false =>
    refine Or.inr ⟨rfl, fun p q hp => ?_⟩
    obtain ⟨e1, e2, h1, h2⟩ := hp
    dsimp only at e1 e2
    rw [e1, e2, inB_nat h1, inB_nat h2] at h
    cases h
theorem pair_joinI {n : Nat} {M : Nat → Nat} {a b : Int} {p q : Nat} (h : PairIs n (a, b) p q) : joinI n M a b = joinM M p q := by
  obtain ⟨rfl, rfl, h1, h2⟩ := h
  unfold joinI
  rw [inB_nat h1, inB_nat h2]
  simp
/-- One pair more. -/
theorem Gen9.join {n : Nat} {os : List (Int × Int)} {J : Nat → Prop} {M : Nat → Nat} (h : Gen9 n os J M) {k : Nat} (hk : k < os.length) {a b : Int} (hab : os[k]'hk = (a, b)) : Gen9 n os (fun j => J j ∨ j = k) (joinI n M a b) := by
  rcases pair_cases n a b with ⟨hin, p, q, hp⟩ | ⟨hin, hno⟩
  · rw [pair_joinI hp]
    obtain ⟨_, _, hpn, hqn⟩ := id hp
    have huniq : ∀ p' q', PairIs n (a, b) p' q' → p' = p ∧ q' = q := fun p' q' h' => by
      obtain ⟨e1, e2, _⟩ := h'
      obtain ⟨e3, e4, _⟩ := id hp
      dsimp only at e1 e2 e3 e4
      omega
    refine ⟨h.lab.join hpn hqn, fun j hj hJ p' q' h' => ?_, fun E hE i m hi hm hM => ?_⟩
    · rcases hJ with hJ | rfl
      · exact joinM_mono (h.yes j hj hJ p' q' h')
      · rw [hab] at h'
        obtain ⟨rfl, rfl⟩ := huniq p' q' h'
        rw [joinM_in (Or.inl rfl), joinM_in (Or.inr rfl)]
    · have hE' := h.no E fun j hj hJ => hE j hj (Or.inl hJ)
      have hpq : E p = E q := hE k hk (Or.inr rfl) p q (by rw [hab]; exact hp)
      have key : ∀ t, (M t = M p ∨ M t = M q) ∨ (M t ≠ M p ∧ M t ≠ M q) := fun t => by omega
      have kin : ∀ t, t < n → (M t = M p ∨ M t = M q) → E t = E p := fun t ht hin => by
        rcases hin with h' | h'
        · exact hE' t p ht hpn h'
        · rw [hpq]; exact hE' t q ht hqn h'
      rcases key i with hi' | hi' <;> rcases key m with hm' | hm'
      · rw [kin i hi hi', kin m hm hm']
      · rw [joinM_in hi', joinM_out hm'.1 hm'.2] at hM; omega
      · rw [joinM_in hm', joinM_out hi'.1 hi'.2] at hM; omega
      · rw [joinM_out hi'.1 hi'.2, joinM_out hm'.1 hm'.2] at hM
        exact hE' i m hi hm hM
  · have e : joinI n M a b = M := by unfold joinI; rw [hin]; simp
    rw [e]
    refine ⟨h.lab, fun j hj hJ p' q' h' => ?_, fun E hE => h.no E fun j hj hJ => hE j hj (Or.inl hJ)⟩
    rcases hJ with hJ | rfl
    · exact h.yes j hj hJ p' q' h'
    · rw [hab] at h'; exact absurd h' (hno p' q')
/-- The order is of no account. -/
theorem Gen9.unique {n : Nat} {os : List (Int × Int)} {J : Nat → Prop} {M M' : Nat → Nat} (h : Gen9 n os J M) (h' : Gen9 n os J M') : ∀ i, i < n → M i = M' i := by
  intro i hi
  have l1 := h.lab.le i hi
  have l2 := h'.lab.le i hi
  have a1 := h.no M' h'.yes (M i) i (by omega) hi (h.lab.idem i hi)
  have a2 := h'.no M h.yes (M' i) i (by omega) hi (h'.lab.idem i hi)
  have b1 := h'.lab.le (M i) (by omega)
  have b2 := h.lab.le (M' i) (by omega)
  omega
theorem sets_congr {n : Nat} {M M' : Nat → Nat} (h : ∀ i, i < n → M i = M' i) : setsL n M = setsL n M' := by
  have e1 : headsL n M = headsL n M' := by
    unfold headsL
    refine List.filter_congr fun m hm => ?_
    rw [h m (List.mem_range.1 hm)]
  unfold setsL
  rw [e1]
  refine List.map_congr_left fun m _ => ?_
  unfold setL
  refine List.filter_congr fun i hi => ?_
  rw [h i (List.mem_range.1 hi)]

/-! How many sets there are. -/
theorem heads_join {n : Nat} {M : Nat → Nat} (h : Lab n M) {p q : Nat} (hp : p < n) (hq : q < n) (hne : M p ≠ M q) : (headsL n (joinM M p q)).length + 1 = (headsL n M).length := by
  have hx : max (M p) (M q) ∈ headsL n M := by
    rcases Nat.le_total (M p) (M q) with h' | h'
    · rw [Nat.max_eq_right h']; exact mem_heads.2 ⟨by have := h.le q hq; omega, h.idem q hq⟩
    · rw [Nat.max_eq_left h']; exact mem_heads.2 ⟨by have := h.le p hp; omega, h.idem p hp⟩
  have e : headsL n (joinM M p q) = (headsL n M).erase (max (M p) (M q)) := by
    rw [(heads_nodup n M).erase_eq_filter]
    unfold headsL
    rw [List.filter_filter]
    refine List.filter_congr fun m hm => ?_
    have hm := List.mem_range.1 hm
    have ip := h.idem p hp
    have iq := h.idem q hq
    rw [Bool.eq_iff_iff]
    simp only [Bool.and_eq_true, beq_iff_eq, bne_iff_ne]
    by_cases hin : M m = M p ∨ M m = M q
    · rw [joinM_in hin]
      constructor
      · intro e
        rcases Nat.le_total (M p) (M q) with h' | h'
        · rw [Nat.min_eq_left h'] at e
          subst e
          exact ⟨by omega, ip⟩
        · rw [Nat.min_eq_right h'] at e
          subst e
          exact ⟨by omega, iq⟩
      · rintro ⟨e1, e2⟩
        omega
    · rw [not_or] at hin
      rw [joinM_out hin.1 hin.2]
      constructor
      · intro e
        refine ⟨fun e2 => ?_, e⟩
        rcases Nat.le_total (M p) (M q) with h' | h'
        · rw [Nat.max_eq_right h'] at e2; subst e2; exact hin.2 iq
        · rw [Nat.max_eq_left h'] at e2; subst e2; exact hin.1 ip
      · exact fun e => e.2
  rw [e, List.length_erase_of_mem hx]
  have := List.length_pos_of_mem hx
  omega
theorem heads_joinI {n : Nat} {M : Nat → Nat} (h : Lab n M) {a b : Int} (hj : joinB9 n M a b = true) : (headsL n (joinI n M a b)).length + 1 = (headsL n M).length := by
  rcases pair_cases n a b with ⟨hin, p, q, hp⟩ | ⟨hin, _⟩
  · rw [pair_joinI hp]
    unfold joinB9 at hj
    rw [hin] at hj
    obtain ⟨rfl, rfl, hpn, hqn⟩ := hp
    exact heads_join h hpn hqn (by simpa using hj)
  · unfold joinB9 at hj
    rw [hin] at hj
    cases hj
theorem heads_start (n : Nat) : (headsL n fun i => i).length = n := by unfold headsL; rw [List.filter_eq_self.2 (by simp)]; simp

/-! The sets part the numbers. -/
/-- What stands in a set, and at its beginning. -/
theorem sets_at {n : Nat} {M : Nat → Nat} (h : Lab n M) {i : Nat} (hi : i < (headsL n M).length) : ∃ m, (headsL n M)[i]? = some m ∧ m < n ∧ M m = m ∧ (setsL n M).getD i [] = setL n M m ∧ (setL n M m)[0]? = some m ∧ ∀ e ∈ setL n M m, e < n ∧ M e = m := by
  have hm := List.getElem_mem hi
  obtain ⟨h1, h2⟩ := mem_heads.1 hm
  refine ⟨(headsL n M)[i], by rw [List.getElem?_eq_getElem hi], h1, h2, ?_, ?_, fun e he => mem_set.1 he⟩
  · rw [List.getD_eq_getElem?_getD, setsL, List.getElem?_map, List.getElem?_eq_getElem hi]; rfl
  · generalize (headsL n M)[i] = m at h1 h2
    have e : n = m + 1 + (n - m - 1) := by omega
    have hs := setL_succ m M m
    rw [setL_head h h1, if_pos h2, List.nil_append] at hs
    unfold setL at hs ⊢
    rw [e, List.range_add, List.filter_append, hs]
    rfl
theorem heads_inj {n : Nat} {M : Nat → Nat} {i j m : Nat} (hi : (headsL n M)[i]? = some m) (hj : (headsL n M)[j]? = some m) : i = j := by
  obtain ⟨h1, e1⟩ := List.getElem?_eq_some_iff.1 hi
  obtain ⟨h2, e2⟩ := List.getElem?_eq_some_iff.1 hj
  exact (List.getElem_inj (heads_nodup n M)).1 (e1.trans e2.symm)
/-- How often a number has been met: in the first i sets, and the first k of the next one. -/
def metN (n : Nat) (M : Nat → Nat) (i k : Nat) (e : Nat) : Nat := ((((setsL n M).take i).flatten) ++ ((setsL n M).getD i []).take k).count e
theorem metN_zero (n : Nat) (M : Nat → Nat) : metN n M 0 0 = fun _ => 0 := by funext e; simp [metN]
theorem metN_next {n : Nat} {M : Nat → Nat} {i k : Nat} (hk : k < ((setsL n M).getD i []).length) : updN (metN n M i k) (((setsL n M).getD i [])[k]'hk) (metN n M i k (((setsL n M).getD i [])[k]'hk) + 1) = metN n M i (k + 1) := by
  funext e
  unfold metN
  rw [List.take_succ_eq_append_getElem hk, ← List.append_assoc, List.count_append (l₂ := [_])]
  generalize ((setsL n M).take i).flatten ++ ((setsL n M).getD i []).take k = P
  generalize ((setsL n M).getD i [])[k]'hk = x
  unfold updN
  by_cases h : e = x
  · subst h; simp
  · rw [if_neg h, List.count_singleton, if_neg (by simpa using fun e => h e.symm)]; rfl
theorem metN_turn {n : Nat} {M : Nat → Nat} {i k : Nat} (hi : i < (setsL n M).length) (hk : k = ((setsL n M).getD i []).length) : metN n M i k = metN n M (i + 1) 0 := by
  funext e
  unfold metN
  rw [hk, List.take_length, List.take_zero, List.append_nil, List.take_succ_eq_append_getElem hi, List.flatten_append, List.getD_eq_getElem?_getD, List.getElem?_eq_getElem hi]
  simp
theorem count_set (n : Nat) (M : Nat → Nat) (m e : Nat) (he : e < n) : (setL n M m).count e = if M e = m then 1 else 0 := by
  have hn : (setL n M m).Nodup := List.Nodup.sublist List.filter_sublist List.nodup_range
  by_cases h : M e = m
  · rw [if_pos h, hn.count, if_pos (mem_set.2 ⟨he, h⟩)]
  · rw [if_neg h, List.count_eq_zero]
    exact fun hm => h (mem_set.1 hm).2
theorem metN_all {n : Nat} {M : Nat → Nat} (h : Lab n M) {e : Nat} (he : e < n) : metN n M (setsL n M).length 0 e = 1 := by
  unfold metN
  rw [List.take_length, List.take_zero, List.append_nil, List.count_flatten]
  unfold setsL
  rw [List.map_map]
  have hl : (headsL n M).map (List.count e ∘ setL n M) = (headsL n M).map fun m => if M e = m then 1 else 0 := List.map_congr_left fun m _ => count_set n M m e he
  rw [hl]
  have hs : ∀ l : List Nat, (l.map fun m => if M e = m then 1 else 0).sum = l.count (M e) := by
    intro l
    induction l with
    | nil => rfl
    | cons m l ih =>
      rw [List.map_cons, List.sum_cons, ih, List.count_cons]
      by_cases h' : M e = m
      · rw [if_pos h', if_pos (by simp [h'])]; omega
      · rw [if_neg h', if_neg (by simpa using fun x => h' x.symm)]; omega
  rw [hs, (heads_nodup n M).count, if_pos (mem_heads.2 ⟨by have := h.le e he; omega, h.idem e he⟩)]
end Go.Proofs.Ytkegealaagphgaa
