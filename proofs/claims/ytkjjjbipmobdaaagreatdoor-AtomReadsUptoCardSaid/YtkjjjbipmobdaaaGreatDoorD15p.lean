/- Layer 15, plain: links; an entry of its fields and its link; the entries of a feed. -/
import Derived.Test.YtkjjjbipmobdaaaGreatDoorD14t
import Derived.Test.YtkjjjbipmobdaaaGreatDoorBR19
namespace Go.Proofs.YtkjjjbipmobdaaaGreatDoor
open Go.RowKit

def hrefL : List UInt8 := [104, 114, 101, 102]
def relL : List UInt8 := [114, 101, 108]
def altL : List UInt8 := [97, 108, 116, 101, 114, 110, 97, 116, 101]
def idL : List UInt8 := [105, 100]
def sumL : List UInt8 := [115, 117, 109, 109, 97, 114, 121]
def contL : List UInt8 := [99, 111, 110, 116, 101, 110, 116]
def updL : List UInt8 := [117, 112, 100, 97, 116, 101, 100]
def pubdL : List UInt8 := [112, 117, 98, 108, 105, 115, 104, 101, 100]
def feedL : List UInt8 := [102, 101, 101, 100]
def entryL : List UInt8 := [101, 110, 116, 114, 121]
/-- Are these the attributes of a link that leads somewhere? -/
def goodA (a : List At) : Bool := (attrB a hrefL).2 && (!(attrB a relL).2 || (attrB a relL).1 == altL)
/-- Where the first of links leads. -/
def leadB (L : List (List At)) : Option (List UInt8) := (L.find? goodA).map fun a => cleanB (attrB a hrefL).1
/-- A node's link. -/
def linkB (l : List Nd) (i : Int) : Option (List UInt8) := leadB (linksB l i)
/-- The first of two that is there. -/
def orB (a b : Option (List UInt8)) : Option (List UInt8) := match a with | some s => some s | none => b
/-- The entry of the fields F and the link L, where dates are read by R. -/
def oneA (F : List UInt8 → Option (List UInt8)) (L : Option (List UInt8)) (R : List UInt8 → Int × Bool) : It where
  guid := (F idL).getD []
  title := (F titleL).getD []
  link := L.getD []
  body := (orB (F sumL) (F contL)).getD []
  date := (R ((orB (F updL) (F pubdL)).getD [])).1
  dated := (R ((orB (F updL) (F pubdL)).getD [])).2
def itA (F : List UInt8 → Option (List UInt8)) (L : Option (List UInt8)) (R : List UInt8 → Int × Bool) (most : Int) : ItO :=
  if shortB (oneA F L R) most = false then .bad 6 else if (oneA F L R).guid = [] ∨ (oneA F L R).dated = false then .bad 7 else .it (oneA F L R)
/-- What Items says of a list of nodes. -/
def itsA (l : List Nd) (R : List UInt8 → Int × Bool) (many most : Int) : ItsO :=
  if l = [] ∨ (atN l 0).name ≠ feedL then .bad 5 else readB l 0 entryL (fun i => itA (fieldB l i) (linkB l i) R most) many
theorem itA_cases (F : List UInt8 → Option (List UInt8)) (L : Option (List UInt8)) (R : List UInt8 → Int × Bool) (most : Int) : itA F L R most = .bad 6 ∨ itA F L R most = .bad 7 ∨ ∃ x, itA F L R most = .it x := by
  unfold itA
  by_cases h1 : shortB (oneA F L R) most = false
  · rw [if_pos h1]; exact Or.inl rfl
  · rw [if_neg h1]
    by_cases h2 : (oneA F L R).guid = [] ∨ (oneA F L R).dated = false
    · rw [if_pos h2]; exact Or.inr (Or.inl rfl)
    · rw [if_neg h2]; exact Or.inr (Or.inr ⟨_, rfl⟩)
theorem itA_told {q l : List Nd} {j i : Int} (h : Told q j l i) (R : List UInt8 → Int × Bool) (most : Int) : itA (fieldB q j) (linkB q j) R most = itA (fieldB l i) (linkB l i) R most := by
  unfold linkB
  rw [h.links, show fieldB q j = fieldB l i from funext h.field]
theorem shortA (F : List UInt8 → Option (List UInt8)) (L : Option (List UInt8)) (R S : List UInt8 → Int × Bool) (most : Int) : shortB (oneA F L R) most = shortB (oneA F L S) most := rfl
theorem guidA (F : List UInt8 → Option (List UInt8)) (L : Option (List UInt8)) (R S : List UInt8 → Int × Bool) : (oneA F L R).guid = (oneA F L S).guid := rfl
theorem datedA (F : List UInt8 → Option (List UInt8)) (L : Option (List UInt8)) (R : List UInt8 → Int × Bool) : (oneA F L R).dated = (R ((orB (F updL) (F pubdL)).getD [])).2 := rfl
theorem itA_alike (F : List UInt8 → Option (List UInt8)) (L : Option (List UInt8)) (most : Int) : itA F L r3339C most = itA F L r3339R most := by
  obtain ⟨h1, h2⟩ := r3339_alike ((orB (F updL) (F pubdL)).getD [])
  have hd : (oneA F L r3339C).dated = (oneA F L r3339R).dated := by rw [datedA, datedA, h1]
  unfold itA
  rw [shortA F L r3339C r3339R, hd, guidA F L r3339C r3339R]
  by_cases hb : (oneA F L r3339R).guid = [] ∨ (oneA F L r3339R).dated = false
  · rw [if_pos hb, if_pos hb]
  · rw [if_neg hb, if_neg hb]
    have hk : (r3339C ((orB (F updL) (F pubdL)).getD [])).2 = true := by
      cases hc : (r3339C ((orB (F updL) (F pubdL)).getD [])).2 with
      | true => rfl
      | false => exact absurd (Or.inr (by rw [datedA, ← h1, hc])) hb
    have e : oneA F L r3339C = oneA F L r3339R := by
      unfold oneA
      rw [h2 hk, h1]
    rw [e]
theorem itsA_alike (l : List Nd) (many most : Int) : itsA l r3339C many most = itsA l r3339R many most := by
  unfold itsA
  simp only [itA_alike]

theorem r3339f_range {y m d c : Nat} {s : RSt} (h : (r3339f y m d c s).2 = true) : 0 ≤ (r3339f y m d c s).1 ∧ (r3339f y m d c s).1 ≤ 253402300799 := by
  unfold r3339f r3339g at h ⊢
  by_cases e1 : (skipC s [90]).1 = true
  · rw [if_pos e1] at h ⊢; exact dateC_range h
  · rw [if_neg e1] at h ⊢
    by_cases e2 : (skipC (skipC s [90]).2 [122]).1 = true
    · rw [if_pos e2] at h ⊢; exact dateC_range h
    · rw [if_neg e2] at h ⊢; exact dateC_range h
theorem r3339e_range {y m d c : Nat} {k : Bool × RSt} (h : (r3339e y m d c k).2 = true) : 0 ≤ (r3339e y m d c k).1 ∧ (r3339e y m d c k).1 ≤ 253402300799 := by
  unfold r3339e at h ⊢
  by_cases e1 : k.1 = true
  · rw [if_pos e1] at h ⊢; exact r3339f_range h
  · rw [if_neg e1] at h ⊢; exact r3339f_range h
theorem r3339C_range {l : List UInt8} (h : (r3339C l).2 = true) : 0 ≤ (r3339C l).1 ∧ (r3339C l).1 ≤ 253402300799 := by
  unfold r3339C r3339y r3339a r3339b r3339c r3339d at h ⊢
  exact r3339e_range h
/-- An entry of a feed as it should be. -/
theorem itA_it {F : List UInt8 → Option (List UInt8)} {L : Option (List UInt8)} {R : List UInt8 → Int × Bool} (hR : ∀ l, (R l).2 = true → 0 ≤ (R l).1 ∧ (R l).1 ≤ 253402300799) {most : Int} {x : It} (h : itA F L R most = .it x) : ItGood most x ∧ x.dated = true := by
  unfold itA at h
  by_cases h1 : shortB (oneA F L R) most = false
  · rw [if_pos h1] at h; cases h
  · rw [if_neg h1] at h
    have h1' : shortB (oneA F L R) most = true := by simpa using h1
    by_cases h2 : (oneA F L R).guid = [] ∨ (oneA F L R).dated = false
    · rw [if_pos h2] at h; cases h
    · rw [if_neg h2] at h
      injection h with h
      subst h
      clear h1
      have hd : (oneA F L R).dated = true := by
        cases hc : (oneA F L R).dated with
        | true => rfl
        | false => exact absurd (Or.inr hc) h2
      exact ⟨⟨fun e => h2 (Or.inl e), h1', fun hd => by rw [datedA] at hd; exact hR _ hd⟩, hd⟩
theorem readB_its {l : List Nd} {c : Int} {nm : List UInt8} {G : Int → ItO} {many : Int} {xs : List It} (h : readB l c nm G many = .its xs) : (xs.length : Int) ≤ many ∧ xs.length ≤ l.length ∧ ∀ x ∈ xs, ∃ i, G i = .it x := by
  unfold readB at h
  by_cases hm : many < ((namedB l c nm).length : Int)
  · rw [if_pos hm] at h; cases h
  · rw [if_neg hm] at h
    obtain ⟨_, ys, h2, h3⟩ := gatherB_all _ _ _ _ h
    rw [List.nil_append] at h3
    subst h3
    have hlen : (namedB l c nm).length = xs.length := by
      have := congrArg List.length h2
      simpa using this
    have := namedB_len l c nm
    refine ⟨by omega, by omega, fun x hx => ?_⟩
    have hmem : ItO.it x ∈ (namedB l c nm).map G := by rw [h2]; exact List.mem_map.2 ⟨x, hx, rfl⟩
    obtain ⟨i, _, e⟩ := List.mem_map.1 hmem
    exact ⟨i, e⟩
theorem itsA_its {l : List Nd} {many most : Int} {xs : List It} (h : itsA l r3339C many most = .its xs) : (xs.length : Int) ≤ many ∧ xs.length ≤ l.length ∧ ∀ x ∈ xs, ItGood most x ∧ x.dated = true := by
  unfold itsA at h
  split at h
  · cases h
  · obtain ⟨h1, h2, h3⟩ := readB_its h
    refine ⟨h1, h2, fun x hx => ?_⟩
    obtain ⟨i, e⟩ := h3 x hx
    exact itA_it (fun _ => r3339C_range) e
end Go.Proofs.YtkjjjbipmobdaaaGreatDoor
