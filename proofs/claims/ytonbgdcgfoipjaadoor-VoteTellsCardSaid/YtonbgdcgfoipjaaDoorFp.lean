/- Letters, digits and their small forms: plain. -/
namespace Go.Proofs.YtonbgdcgfoipjaaDoor

/-- A range of a table: from, to, what is added, whether it has pairs. -/
structure Rg where
  f : Int
  t : Int
  a : Int
  p : Bool

def lettersL : List Rg := [
  ⟨65, 90, 32, false⟩, ⟨97, 122, 0, false⟩, ⟨170, 170, 0, false⟩, ⟨181, 181, 0, false⟩, ⟨186, 186, 0, false⟩, ⟨192, 214, 32, false⟩,
  ⟨216, 222, 32, false⟩, ⟨223, 246, 0, false⟩, ⟨248, 255, 0, false⟩, ⟨256, 303, 0, true⟩, ⟨306, 311, 0, true⟩, ⟨312, 312, 0, false⟩,
  ⟨313, 328, 0, true⟩, ⟨329, 329, 0, false⟩, ⟨330, 375, 0, true⟩, ⟨376, 376, (-121), false⟩, ⟨377, 382, 0, true⟩, ⟨383, 383, 0, false⟩,
  ⟨902, 902, 38, false⟩, ⟨904, 906, 37, false⟩, ⟨908, 908, 64, false⟩, ⟨910, 911, 63, false⟩, ⟨912, 912, 0, false⟩, ⟨913, 929, 32, false⟩,
  ⟨931, 939, 32, false⟩, ⟨940, 974, 0, false⟩, ⟨1024, 1039, 80, false⟩, ⟨1040, 1071, 32, false⟩, ⟨1072, 1119, 0, false⟩, ⟨1120, 1153, 0, true⟩,
  ⟨1162, 1215, 0, true⟩, ⟨1232, 1327, 0, true⟩, ⟨1329, 1366, 48, false⟩, ⟨1377, 1414, 0, false⟩, ⟨1488, 1514, 0, false⟩, ⟨1569, 1594, 0, false⟩,
  ⟨1601, 1610, 0, false⟩, ⟨2308, 2361, 0, false⟩, ⟨7680, 7829, 0, true⟩, ⟨7840, 7935, 0, true⟩, ⟨12353, 12438, 0, false⟩, ⟨12449, 12538, 0, false⟩,
  ⟨19968, 40959, 0, false⟩, ⟨44032, 55203, 0, false⟩, ⟨65313, 65338, 32, false⟩, ⟨65345, 65370, 0, false⟩]
def digitsL : List Rg := [
  ⟨48, 57, 0, false⟩, ⟨1632, 1641, 0, false⟩, ⟨2406, 2415, 0, false⟩, ⟨65296, 65305, 0, false⟩]

/-- The range of r: the first that has it. -/
def findR : List Rg → Int → Option Rg
  | [], _ => none
  | g :: l, r => if g.f ≤ r ∧ r ≤ g.t then some g else findR l r
/-- The same by a search that ends at the first range that isn't all below r. -/
def scanR : List Rg → Int → Option Rg
  | [], _ => none
  | g :: l, r => if r ≤ g.t then (if g.f ≤ r then some g else none) else scanR l r
/-- The ranges rise. -/
def risesB : List Rg → Int → Bool
  | [], _ => true
  | g :: l, b => decide (b < g.f) && decide (g.f ≤ g.t) && risesB l g.t

theorem findR_low : ∀ (l : List Rg) (b r : Int), risesB l b = true → r ≤ b → findR l r = none
  | [], _, _, _, _ => rfl
  | g :: l, b, r, h, hr => by
    simp [risesB] at h
    rw [findR, if_neg (by omega)]
    exact findR_low l g.t r h.2 (by omega)
theorem scanR_eq : ∀ (l : List Rg) (b r : Int), risesB l b = true → scanR l r = findR l r
  | [], _, _, _ => rfl
  | g :: l, b, r, h => by
    simp [risesB] at h
    rw [scanR, findR]
    by_cases h1 : r ≤ g.t
    · rw [if_pos h1]
      by_cases h2 : g.f ≤ r
      · rw [if_pos h2, if_pos ⟨h2, h1⟩]
      · rw [if_neg h2, if_neg (by omega), findR_low l g.t r h.2 h1]
    · rw [if_neg h1, if_neg (by omega), scanR_eq l g.t r h.2]
theorem rises_letters : risesB lettersL (-1) = true := by decide +kernel
theorem rises_digits : risesB digitsL (-1) = true := by decide +kernel

/-- All of a table's ranges, with what the walks want of one. -/
def plainB (l : List Rg) : Bool := l.all fun g => decide (0 ≤ g.f) && decide (g.f ≤ g.t) && decide (g.t ≤ 65535) && decide (-200 ≤ g.a) && decide (g.a ≤ 200)
theorem plain_letters : plainB lettersL = true := by decide +kernel
theorem plain_digits : plainB digitsL = true := by decide +kernel
theorem plain_of {l : List Rg} (h : plainB l = true) {g : Rg} (hg : g ∈ l) : 0 ≤ g.f ∧ g.f ≤ g.t ∧ g.t ≤ 65535 ∧ -200 ≤ g.a ∧ g.a ≤ 200 := by
  unfold plainB at h
  have := List.all_eq_true.1 h g hg
  simp at this
  omega

/-- A range's small form of r. -/
def smallI (g : Rg) (r : Int) : Int := if r < g.f then r else if g.p then (if (r - g.f) % 2 = 0 then r + 1 else r) else r + g.a
def letB (r : Int) : Bool := (findR lettersL r).isSome
def digB (r : Int) : Bool := (findR digitsL r).isSome
def foldI (r : Int) : Int := match findR lettersL r with | none => r | some g => smallI g r

theorem findR_mem : ∀ (l : List Rg) (r : Int) (g : Rg), findR l r = some g → g ∈ l ∧ g.f ≤ r ∧ r ≤ g.t
  | [], _, _, h => by simp [findR] at h
  | x :: l, r, g, h => by
    rw [findR] at h
    by_cases hx : x.f ≤ r ∧ r ≤ x.t
    · rw [if_pos hx] at h; injection h with h; subst h; exact ⟨List.mem_cons_self .., hx⟩
    · rw [if_neg hx] at h
      obtain ⟨h1, h2⟩ := findR_mem l r g h
      exact ⟨List.mem_cons_of_mem _ h1, h2⟩
theorem letB_not {r : Int} (h : letB r = false) : foldI r = r := by
  unfold letB at h; unfold foldI
  cases hf : findR lettersL r with
  | none => rfl
  | some g => rw [hf] at h; simp at h
theorem letB_bd {r : Int} (h : letB r = true) : 65 ≤ r ∧ r ≤ 65370 := by
  unfold letB at h
  cases hf : findR lettersL r with
  | none => rw [hf] at h; simp at h
  | some g =>
    obtain ⟨h1, h2, h3⟩ := findR_mem _ _ _ hf
    have hall : (lettersL.all fun g => decide (65 ≤ g.f) && decide (g.t ≤ 65370)) = true := by decide +kernel
    have := List.all_eq_true.1 hall g h1
    simp at this
    omega

/-- A range of integers, all of which a test holds of. -/
def allTo (p : Int → Bool) : Nat → Int → Bool
  | 0, _ => true
  | n + 1, b => p b && allTo p n (b + 1)
theorem allTo_of {p : Int → Bool} : ∀ (n : Nat) (b : Int), allTo p n b = true → ∀ r, b ≤ r → r < b + n → p r = true
  | 0, b, _, r, h1, h2 => by omega
  | n + 1, b, h, r, h1, h2 => by
    simp [allTo] at h
    by_cases hr : r = b
    · subst hr; exact h.1
    · exact allTo_of n (b + 1) h.2 r (by omega) (by omega)

/-- A small form is a letter, and its own small form. -/
def onceB (g : Rg) (r : Int) : Bool := letB (smallI g r) && decide (foldI (smallI g r) = smallI g r)
theorem once_all : (lettersL.all fun g => (decide (g.a = 0) && !g.p) || allTo (onceB g) (g.t - g.f + 1).toNat g.f) = true := by decide +kernel
theorem fold_once (r : Int) (h : letB r = true) : letB (foldI r) = true ∧ foldI (foldI r) = foldI r := by
  have h' := h
  unfold letB at h'
  cases hf : findR lettersL r with
  | none => rw [hf] at h'; simp at h'
  | some g =>
    obtain ⟨h1, h2, h3⟩ := findR_mem _ _ _ hf
    have he : foldI r = smallI g r := by unfold foldI; rw [hf]
    have ha := List.all_eq_true.1 once_all g h1
    rw [Bool.or_eq_true] at ha
    rcases ha with ha | ha
    · simp at ha
      have hs : smallI g r = r := by unfold smallI; rw [if_neg (by omega), ha.2, ha.1]; simp
      rw [he, hs]; exact ⟨h, by rw [he, hs]⟩
    · have := allTo_of _ _ ha r h2 (by omega)
      unfold onceB at this
      rw [Bool.and_eq_true] at this
      rw [he]
      exact ⟨this.1, of_decide_eq_true this.2⟩
theorem fold_bd (r : Int) : foldI r = r ∨ (65 ≤ foldI r ∧ foldI r ≤ 65370) := by
  cases h : letB r with
  | false => exact Or.inl (letB_not h)
  | true => exact Or.inr (letB_bd (fold_once r h).1)
theorem let_dig (r : Int) (h : letB r = true) : digB r = false := by
  have hall : (lettersL.all fun g => digitsL.all fun d => decide (g.t < d.f) || decide (d.t < g.f)) = true := by decide +kernel
  unfold letB at h
  cases hf : findR lettersL r with
  | none => rw [hf] at h; simp at h
  | some g =>
    unfold digB
    cases hd : findR digitsL r with
    | none => rfl
    | some d =>
      obtain ⟨h1, h2, h3⟩ := findR_mem _ _ _ hf
      obtain ⟨k1, k2, k3⟩ := findR_mem _ _ _ hd
      have := List.all_eq_true.1 (List.all_eq_true.1 hall g h1) d k1
      simp at this
      omega
end Go.Proofs.YtonbgdcgfoipjaaDoor
