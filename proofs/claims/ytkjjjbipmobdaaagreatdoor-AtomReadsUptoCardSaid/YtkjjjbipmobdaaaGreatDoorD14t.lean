/- Layer 14, plain: greater limits; what holds of each entry. -/
import Derived.Test.YtkjjjbipmobdaaaGreatDoorD14h
namespace Go.Proofs.YtkjjjbipmobdaaaGreatDoor
open Go.RowKit

theorem dateC_range {s : RSt} {y m d : Nat} {c : Int} (h : (dateC s y m d c).2 = true) : 0 ≤ (dateC s y m d c).1 ∧ (dateC s y m d c).1 ≤ 253402300799 := by
  by_cases hc : s.2 = true ∨ s.1 ≠ [] ∨ (daysB y m d).2 = false ∨ (daysB y m d).1 * 86400 + c < 0 ∨ 253402300799 < (daysB y m d).1 * 86400 + c
  · rw [dateC_no hc] at h; cases h
  · rw [dateC_yes hc]
    have h1 : ¬ ((daysB y m d).1 * 86400 + c < 0) := fun e => hc (Or.inr (Or.inr (Or.inr (Or.inl e))))
    have h2 : ¬ (253402300799 < (daysB y m d).1 * 86400 + c) := fun e => hc (Or.inr (Or.inr (Or.inr (Or.inr e))))
    exact ⟨Int.not_lt.1 h1, Int.not_lt.1 h2⟩
theorem r822C_range {l : List UInt8} (h : (r822C l).2 = true) : 0 ≤ (r822C l).1 ∧ (r822C l).1 ≤ 253402300799 := by
  unfold r822C r822a r822b r822d r822e r822f at h ⊢
  split at h
  · rename_i e; rw [if_pos e]; exact dateC_range h
  · rename_i e; rw [if_neg e]; exact dateC_range h
/-- An entry as it should be. -/
def ItGood (most : Int) (x : It) : Prop := x.guid ≠ [] ∧ shortB x most = true ∧ (x.dated = true → 0 ≤ x.date ∧ x.date ≤ 253402300799)
theorem shortB_iff {x : It} {most : Int} : shortB x most = true ↔ (x.guid.length : Int) ≤ most ∧ (x.guid.length : Int) ≤ 256 ∧ (x.title.length : Int) ≤ most ∧ (x.link.length : Int) ≤ most ∧ (x.body.length : Int) ≤ most := by
  unfold shortB
  simp only [Bool.and_eq_true, decide_eq_true_eq]
  constructor
  · rintro ⟨⟨⟨⟨h1, h2⟩, h3⟩, h4⟩, h5⟩; exact ⟨h1, h2, h3, h4, h5⟩
  · rintro ⟨h1, h2, h3, h4, h5⟩; exact ⟨⟨⟨⟨h1, h2⟩, h3⟩, h4⟩, h5⟩
theorem shortB_more {x : It} {a b : Int} (h : shortB x a = true) (hab : a ≤ b) : shortB x b = true := by
  rw [shortB_iff] at h ⊢
  omega
theorem itO_it {F : List UInt8 → Option (List UInt8)} {most : Int} {x : It} (h : itO F r822C most = .it x) : ItGood most x ∧ ∀ more, most ≤ more → itO F r822C more = .it x := by
  unfold itO at h
  by_cases h1 : shortB (oneB F r822C) most = false
  · rw [if_pos h1] at h; cases h
  · rw [if_neg h1] at h
    have h1' : shortB (oneB F r822C) most = true := by simpa using h1
    by_cases h2 : (oneB F r822C).guid = [] ∨ lateB F r822C = true
    · rw [if_pos h2] at h; cases h
    · rw [if_neg h2] at h
      injection h with h
      subst h
      refine ⟨⟨fun e => h2 (Or.inl e), h1', fun hd => ?_⟩, fun more hm => ?_⟩
      · unfold oneB at hd ⊢
        simp only at hd ⊢
        cases hp : F pubL with
        | none => rw [hp] at hd; cases hd
        | some s => rw [hp] at hd; exact r822C_range hd
      · unfold itO
        rw [if_neg (by rw [shortB_more h1' hm]; decide), if_neg h2]
theorem gatherB_all : ∀ (os : List ItO) (acc : List It) (bad : Bool) (l : List It), gatherB os acc bad = .its l → bad = false ∧ ∃ xs : List It, os = xs.map .it ∧ l = acc ++ xs
  | [], acc, bad, l, h => by
    unfold gatherB at h
    split at h
    · cases h
    · rename_i hb
      injection h with h
      exact ⟨by simpa using hb, [], rfl, by simp [h]⟩
  | .bad p :: r, acc, bad, l, h => by
    unfold gatherB at h
    split at h
    · cases h
    · have := (gatherB_all r acc true l h).1; cases this
  | .it x :: r, acc, bad, l, h => by
    obtain ⟨h1, xs, h2, h3⟩ := gatherB_all r (acc ++ [x]) bad l h
    exact ⟨h1, x :: xs, by rw [h2]; rfl, by rw [h3]; simp⟩
theorem gatherB_its : ∀ (xs acc : List It), gatherB (xs.map .it) acc false = .its (acc ++ xs)
  | [], acc => by simp [gatherB]
  | x :: r, acc => by
    show gatherB (r.map .it) (acc ++ [x]) false = _
    rw [gatherB_its r]; simp
theorem itsB_all {l : List Nd} {many most : Int} {xs : List It} (h : itsB l r822C many most = .its xs) : (∀ x ∈ xs, ItGood most x) ∧ (xs.length : Int) ≤ many ∧ ∀ more, 0 ≤ more → itsB l r822C (many + more) (most + more) = .its xs := by
  unfold itsB readB at h ⊢
  cases hc : chanB l with
  | none => rw [hc] at h; cases h
  | some c =>
    rw [hc] at h
    simp only at h ⊢
    by_cases hm : many < ((namedB l c itemL).length : Int)
    · rw [if_pos hm] at h; cases h
    · rw [if_neg hm] at h
      obtain ⟨_, ys, h2, h3⟩ := gatherB_all _ _ _ _ h
      rw [List.nil_append] at h3
      subst h3
      have hlen : (namedB l c itemL).length = xs.length := by
        have := congrArg List.length h2
        simpa using this
      have hat : ∀ i ∈ namedB l c itemL, ∃ x ∈ xs, itO (fieldB l i) r822C most = .it x := fun i hi => by
        have hmem : itO (fieldB l i) r822C most ∈ xs.map ItO.it := by rw [← h2]; exact List.mem_map.2 ⟨i, hi, rfl⟩
        obtain ⟨x, hx, e⟩ := List.mem_map.1 hmem
        exact ⟨x, hx, e.symm⟩
      refine ⟨fun x hx => ?_, by omega, fun more h0 => ?_⟩
      · have hmem : ItO.it x ∈ (namedB l c itemL).map fun i => itO (fieldB l i) r822C most := by rw [h2]; exact List.mem_map.2 ⟨x, hx, rfl⟩
        obtain ⟨i, _, e⟩ := List.mem_map.1 hmem
        exact (itO_it e).1
      · rw [if_neg (by omega)]
        have e : ((namedB l c itemL).map fun i => itO (fieldB l i) r822C (most + more)) = xs.map ItO.it := by
          rw [← h2]
          refine List.map_congr_left fun i hi => ?_
          obtain ⟨x, _, e⟩ := hat i hi
          rw [e]
          exact (itO_it e).2 _ (by omega)
        rw [e, gatherB_its]
        rfl
theorem gatherB_codes : ∀ (os : List ItO) (acc : List It) (bad : Bool) (q : Int), gatherB os acc bad = .bad q → q = 6 ∨ q = 7
  | [], acc, bad, q, h => by
    unfold gatherB at h
    split at h
    · injection h with h; exact Or.inr h.symm
    · cases h
  | .bad p :: r, acc, bad, q, h => by
    unfold gatherB at h
    split at h
    · injection h with h; exact Or.inl h.symm
    · exact gatherB_codes r acc true q h
  | .it x :: r, acc, bad, q, h => gatherB_codes r (acc ++ [x]) bad q h
theorem gatherB_len : ∀ (os : List ItO) (acc : List It) (bad : Bool) (l : List It), gatherB os acc bad = .its l → l.length ≤ acc.length + os.length
  | [], acc, bad, l, h => by
    unfold gatherB at h
    split at h
    · cases h
    · injection h with h; subst h; simp
  | .bad p :: r, acc, bad, l, h => by
    unfold gatherB at h
    split at h
    · cases h
    · have := gatherB_len r acc true l h; simp; omega
  | .it x :: r, acc, bad, l, h => by have := gatherB_len r (acc ++ [x]) bad l h; simp at this ⊢; omega
theorem itsB_codes {l : List Nd} {R : List UInt8 → Int × Bool} {many most q : Int} (h : itsB l R many most = .bad q) : q = 5 ∨ q = 6 ∨ q = 7 := by
  unfold itsB readB at h
  split at h
  · injection h with h; exact Or.inl h.symm
  · split at h
    · injection h with h; exact Or.inr (Or.inl h.symm)
    · exact Or.inr (gatherB_codes _ _ _ _ h)
theorem itsB_len {l : List Nd} {R : List UInt8 → Int × Bool} {many most : Int} {x : List It} (h : itsB l R many most = .its x) : x.length ≤ l.length ∧ (x.length : Int) ≤ many := by
  unfold itsB readB at h
  split at h
  · cases h
  · rename_i c _
    split at h
    · cases h
    · have h1 := gatherB_len _ _ _ _ h
      have h2 := namedB_len l c itemL
      rw [List.length_map] at h1
      simp at h1
      omega
end Go.Proofs.YtkjjjbipmobdaaaGreatDoor
