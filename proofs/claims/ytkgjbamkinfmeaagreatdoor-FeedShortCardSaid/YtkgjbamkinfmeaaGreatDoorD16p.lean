/- Layer 16, plain: a document as entries. -/
import Derived.Test.YtkgjbamkinfmeaaGreatDoorBR15
import Derived.Test.YtkgjbamkinfmeaaGreatDoorBR27
namespace Go.Proofs.YtkgjbamkinfmeaaGreatDoor
open Go.RowKit

/-- May a document's numbers be? -/
def checkB (doc dep many most : Int) : Bool := decide (1 ≤ doc) && decide (doc ≤ 65536) && decide (1 ≤ dep) && decide (dep ≤ 64) && decide (1 ≤ many) && decide (many ≤ 64) && decide (1 ≤ most) && decide (most ≤ 1024)
/-- The entries of a list of nodes, whatever it is of. -/
def rootB (ns : List Nd) (many most : Int) : ItsO :=
  match itsA ns r3339C many most with
  | .its x => .its x
  | .bad q => if q = 5 then itsB ns r822C many most else .bad q
/-- The entries of tokens. -/
def tokenB (o : Out) (many most : Int) : ItsO :=
  match o with
  | .syn => .bad 3
  | .deep => .bad 4
  | .toks t => match buildB t with
    | none => .bad 2
    | some ns => rootB ns many most
/-- The entries of a document. -/
def parseB (doc dep many most : Int) (l : List UInt8) : ItsO :=
  if checkB doc dep many most = false then .bad 1 else if doc < l.length then .bad 8 else tokenB (tokB dep l) many most
theorem itsA_codes' {l : List Nd} {R : List UInt8 → Int × Bool} {many most q : Int} (h : itsA l R many most = .bad q) : q = 5 ∨ q = 6 ∨ q = 7 := by
  unfold itsA readB at h
  split at h
  · injection h with h; exact Or.inl h.symm
  · split at h
    · injection h with h; exact Or.inr (Or.inl h.symm)
    · exact Or.inr (gatherB_codes _ _ _ _ h)
theorem rootB_codes {ns : List Nd} {many most q : Int} (h : rootB ns many most = .bad q) : 5 ≤ q ∧ q ≤ 7 := by
  unfold rootB at h
  split at h
  · cases h
  · rename_i p e
    split at h
    · have := itsB_codes h; omega
    · injection h with h
      subst h
      have := itsA_codes' e; omega
theorem parseB_codes {doc dep many most q : Int} {l : List UInt8} (h : parseB doc dep many most l = .bad q) : 1 ≤ q ∧ q ≤ 15 := by
  unfold parseB tokenB at h
  split at h
  · injection h with h; omega
  split at h
  · injection h with h; omega
  split at h
  · injection h with h; omega
  · injection h with h; omega
  · split at h
    · injection h with h; omega
    · have := rootB_codes h; omega
/-- An entry without a date bears none. -/
theorem itO_plain {F : List UInt8 → Option (List UInt8)} {most : Int} {x : It} (h : itO F r822C most = .it x) (hd : x.dated = false) : x.date = 0 := by
  unfold itO at h
  split at h
  · cases h
  · split at h
    · cases h
    · rename_i h2
      injection h with h
      subst h
      unfold lateB at h2
      unfold oneB at hd ⊢
      simp only at hd ⊢
      cases hp : F pubL with
      | none => rfl
      | some s =>
        rw [hp] at hd h2
        simp only at hd h2
        exact absurd (Or.inr (by rw [hd]; rfl)) h2
theorem itsB_its {l : List Nd} {many most : Int} {xs : List It} (h : itsB l r822C many most = .its xs) : (xs.length : Int) ≤ many ∧ ∀ x ∈ xs, ItGood most x ∧ (x.dated = false → x.date = 0) := by
  unfold itsB at h
  split at h
  · cases h
  · obtain ⟨h1, _, h3⟩ := readB_its h
    refine ⟨h1, fun x hx => ?_⟩
    obtain ⟨i, e⟩ := h3 x hx
    exact ⟨(itO_it e).1, itO_plain e⟩
theorem rootB_its {ns : List Nd} {many most : Int} {xs : List It} (h : rootB ns many most = .its xs) : (xs.length : Int) ≤ many ∧ ∀ x ∈ xs, ItGood most x ∧ (x.dated = false → x.date = 0) := by
  unfold rootB at h
  split at h
  · rename_i y e
    injection h with h
    subst h
    obtain ⟨h1, _, h3⟩ := itsA_its e
    exact ⟨h1, fun x hx => ⟨(h3 x hx).1, fun hd => by rw [(h3 x hx).2] at hd; cases hd⟩⟩
  · split at h
    · exact itsB_its h
    · cases h
/-- What is read: its numbers may be, it is short enough, and its entries are as they should be. -/
theorem parseB_its {doc dep many most : Int} {l : List UInt8} {xs : List It} (h : parseB doc dep many most l = .its xs) : (l.length : Int) ≤ doc ∧ many ≤ 64 ∧ (xs.length : Int) ≤ many ∧ ∀ x ∈ xs, ItGood most x ∧ (x.dated = false → x.date = 0) := by
  unfold parseB at h
  split at h
  · cases h
  rename_i hc
  split at h
  · cases h
  · rename_i hl
    have hm : many ≤ 64 := by
      have hc' : checkB doc dep many most = true := by simpa using hc
      unfold checkB at hc'
      simp only [Bool.and_eq_true, decide_eq_true_eq] at hc'
      exact hc'.1.1.2
    refine ⟨by omega, hm, ?_⟩
    unfold tokenB at h
    split at h
    · cases h
    · cases h
    · split at h
      · cases h
      · exact rootB_its h
end Go.Proofs.YtkgjbamkinfmeaaGreatDoor
