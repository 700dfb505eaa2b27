/- Plain mathematics of layer 13 (dates): calendars. Nothing of the program. -/
import Derived.Test.YtahohmdbiiknoaaGreatDoorBR01
import Derived.Lib.Strings
import Derived.Test.YtahohmdbiiknoaaGreatDoorBR13
import Derived.Test.YtahohmdbiiknoaaGreatDoorBR12
namespace Go.Proofs.YtahohmdbiiknoaaGreatDoor

/-- Has a year a 29th of February? -/
def leapI (y : Int) : Bool := decide (y % 4 = 0 ∧ (y % 100 ≠ 0 ∨ y % 400 = 0))
theorem tm_zero (y k : Int) : (y.tmod k == 0) = decide (y % k = 0) := by
  rw [Bool.eq_iff_iff, beq_iff_eq, decide_eq_true_eq, ← Int.dvd_iff_tmod_eq_zero, Int.dvd_iff_emod_eq_zero]
/-- How many days a month has. -/
def lenI (y m : Int) : Int :=
  if m = 1 ∨ m = 3 ∨ m = 5 ∨ m = 7 ∨ m = 8 ∨ m = 10 ∨ m = 12 then 31 else if m = 4 ∨ m = 6 ∨ m = 9 ∨ m = 11 then 30 else if m = 2 then (if leapI y then 29 else 28) else 0
theorem lenI_bd (y m : Int) : 0 ≤ lenI y m ∧ lenI y m ≤ 31 := by
  unfold lenI
  repeat' split
  all_goals omega
theorem lenI_pos {y m : Int} (h : lenI y m ≠ 0) : 1 ≤ m ∧ m ≤ 12 := by
  unfold lenI at h
  repeat' split at h
  all_goals omega
theorem lenI_low {y m : Int} (h1 : 1 ≤ m) (h2 : m ≤ 12) : 28 ≤ lenI y m := by
  unfold lenI
  repeat' split
  all_goals omega

/-- How many days a year has. -/
def yrN (y : Nat) : Nat := if leapI y then 366 else 365
/-- How many years up to y have a 29th of February. -/
def lpN (y : Nat) : Nat := y / 4 - y / 100 + y / 400
/-- The number of the first day of a year. -/
def nyN (y : Nat) : Nat := (y - 1970) * 365 + lpN (y - 1) - 477
theorem div_up (k : Nat) (hk : k = 4 ∨ k = 100 ∨ k = 400) (y : Nat) : (y + 1) / k = y / k + if ((y : Int) + 1) % (k : Int) = 0 then 1 else 0 := by
  rcases hk with rfl | rfl | rfl
  all_goals (split <;> omega)
theorem lpN_next (x : Nat) : lpN (x + 1) = lpN x + if leapI ((x : Int) + 1) then 1 else 0 := by
  have h4 := div_up 4 (by simp) x
  have h1 := div_up 100 (by simp) x
  have h2 := div_up 400 (by simp) x
  have hle : x / 100 ≤ x / 4 := Nat.div_le_div_left (by omega) (by omega)
  have i1 : ((x : Int) + 1) % (100 : Int) = 0 → ((x : Int) + 1) % (4 : Int) = 0 := by omega
  have i2 : ((x : Int) + 1) % (400 : Int) = 0 → ((x : Int) + 1) % (100 : Int) = 0 := by omega
  unfold lpN leapI
  rw [h4, h1, h2]
  simp only [Int.cast_ofNat_Int]
  generalize x / 4 = a at *
  generalize x / 100 = b at *
  generalize x / 400 = c at *
  by_cases e4 : ((x : Int) + 1) % (4 : Int) = 0 <;> by_cases e1 : ((x : Int) + 1) % (100 : Int) = 0 <;> by_cases e2 : ((x : Int) + 1) % (400 : Int) = 0 <;> simp [e4, e1, e2] <;> first | omega | (exfalso; simp_all)
theorem lpN_int (x : Nat) : ((lpN x : Nat) : Int) = (x : Int) / 4 - (x : Int) / 100 + (x : Int) / 400 := by
  have h2 : x / 100 ≤ x / 4 := Nat.div_le_div_left (by decide) (by decide)
  unfold lpN
  omega
theorem lpN_low {x : Nat} (h : 1969 ≤ x) : 477 ≤ lpN x := by
  have h1 := lpN_int x
  omega
theorem nyN_next {y : Nat} (h : 1970 ≤ y) : nyN (y + 1) = nyN y + yrN y := by
  obtain ⟨x, rfl⟩ : ∃ x, y = x + 1 := ⟨y - 1, by omega⟩
  have h1 := lpN_next x
  have h2 : 477 ≤ lpN x := lpN_low (by omega)
  unfold nyN yrN
  rw [show x + 1 + 1 - 1 = x + 1 by omega, show x + 1 - 1 = x by omega, h1, show ((x + 1 : Nat) : Int) = (x : Int) + 1 by omega]
  split <;> omega
theorem nyN_int {y : Nat} (h : 1970 ≤ y) : ((nyN y : Nat) : Int) = ((y : Int) - 1970) * 365 + (lpN (y - 1) : Int) - 477 := by
  have h1 := lpN_low (x := y - 1) (by omega)
  unfold nyN
  generalize lpN (y - 1) = a at *
  omega
theorem yrN_bd (y : Nat) : 365 ≤ yrN y ∧ yrN y ≤ 366 := by unfold yrN; split <;> omega
theorem nyN_mono {y k : Nat} (h : 1970 ≤ y) : nyN y + 365 * k ≤ nyN (y + k) := by
  induction k with
  | zero => simp
  | succ k ih =>
    have h1 := nyN_next (y := y + k) (Nat.le_trans h (Nat.le_add_right _ _))
    have h2 := (yrN_bd (y + k)).1
    rw [show y + (k + 1) = y + k + 1 from rfl, h1, Nat.mul_succ, ← Nat.add_assoc]
    exact Nat.add_le_add ih h2
theorem nyN_top {y k : Nat} (h : 1970 ≤ y) : nyN (y + k) ≤ nyN y + 366 * k := by
  induction k with
  | zero => simp
  | succ k ih =>
    have h1 := nyN_next (y := y + k) (Nat.le_trans h (Nat.le_add_right _ _))
    have h2 := (yrN_bd (y + k)).2
    rw [show y + (k + 1) = y + k + 1 from rfl, h1, Nat.mul_succ, ← Nat.add_assoc]
    exact Nat.add_le_add ih h2
theorem nyN_lt {y z : Nat} (h : 1970 ≤ y) (h2 : y < z) : nyN y + yrN y ≤ nyN z := by
  have h1 := nyN_next h
  have h3 := nyN_mono (y := y + 1) (k := z - (y + 1)) (by omega)
  rw [show y + 1 + (z - (y + 1)) = z by omega] at h3
  omega
theorem nyN_first : nyN 1970 = 0 := by decide
theorem nyN_last : nyN 10000 = 2932897 := by decide

/-- A month's days, of a year's number. -/
def lenN (y m : Nat) : Nat := (lenI y m).toNat
theorem lenN_int (y m : Nat) : ((lenN y m : Nat) : Int) = lenI y m := by have := lenI_bd y m; unfold lenN; omega
theorem lenN_low {y m : Nat} (h1 : 1 ≤ m) (h2 : m ≤ 12) : 28 ≤ lenN y m ∧ lenN y m ≤ 31 := by
  have h3 := lenI_low (y := y) (m := m) (by omega) (by omega)
  have h4 := lenI_bd y m
  have h5 := lenN_int y m
  omega
/-- The days of the year ahead of a month. -/
def mdN (y : Nat) : Nat → Nat
  | 0 => 0
  | m + 1 => mdN y m + lenN y m
theorem mdN_one (y : Nat) : mdN y 1 = 0 := by simp [mdN, lenN, lenI]
theorem mdN_thirteen (y : Nat) : mdN y 13 = yrN y := by
  simp only [mdN, lenN, lenI, yrN]
  cases leapI y <;> decide
theorem mdN_mono (y : Nat) {m k : Nat} (h : m ≤ k) : mdN y m ≤ mdN y k := by
  induction k with
  | zero => rw [show m = 0 by omega]; exact Nat.le_refl _
  | succ k ih =>
    rcases Nat.lt_or_ge k m with h1 | h1
    · rw [show m = k + 1 by omega]; exact Nat.le_refl _
    · exact Nat.le_trans (ih h1) (Nat.le_add_right _ _)
theorem mdN_le (y : Nat) {m : Nat} (h : m ≤ 12) : mdN y m + lenN y m ≤ yrN y := by
  rw [← mdN_thirteen y]
  exact mdN_mono y (m := m + 1) (k := 13) (by omega)
theorem mdN_lt (y : Nat) {m k : Nat} (h : m < k) : mdN y m + lenN y m ≤ mdN y k := mdN_mono y (m := m + 1) (k := k) (by omega)

/-- Number N is the day d of the month m of the year y. -/
structure IsCiv (N y m d : Nat) : Prop where
  y1 : 1970 ≤ y
  y2 : y ≤ 9999
  m1 : 1 ≤ m
  m2 : m ≤ 12
  d1 : 1 ≤ d
  d2 : d ≤ lenN y m
  eq : nyN y + mdN y m + d = N + 1
theorem IsCiv.one {N y m d y' m' d' : Nat} (h : IsCiv N y m d) (k : IsCiv N y' m' d') : y = y' ∧ m = m' ∧ d = d' := by
  have h1 := mdN_le y h.m2
  have k1 := mdN_le y' k.m2
  have := h.eq; have := k.eq; have := h.d1; have := h.d2; have := k.d1; have := k.d2
  have hy : y = y' := by
    rcases Nat.lt_trichotomy y y' with e | e | e
    · have := nyN_lt h.y1 e; omega
    · exact e
    · have := nyN_lt k.y1 e; omega
  subst hy
  have hm : m = m' := by
    rcases Nat.lt_trichotomy m m' with e | e | e
    · have := mdN_lt y e; omega
    · exact e
    · have := mdN_lt y e; omega
  subst hm
  exact ⟨rfl, rfl, by omega⟩
theorem IsCiv.le {N y m d : Nat} (h : IsCiv N y m d) : N ≤ 2932896 := by
  have h1 := mdN_le y h.m2
  have := h.eq; have := h.d2
  have h3 := nyN_lt (z := 10000) h.y1 (by have := h.y2; omega)
  rw [nyN_last] at h3
  omega

/-- The year of a day, and what is left. -/
def yF : Nat → Nat → Nat → Nat × Nat
  | 0, y, n => (y, n)
  | f + 1, y, n => if n < yrN y then (y, n) else yF f (y + 1) (n - yrN y)
theorem yF_spec (f : Nat) : ∀ (y n : Nat), 1970 ≤ y → nyN y + n < nyN (y + f) → nyN (yF f y n).1 + (yF f y n).2 = nyN y + n ∧ (yF f y n).2 < yrN (yF f y n).1 ∧ y ≤ (yF f y n).1 := by
  induction f with
  | zero => intro y n _ h2; rw [Nat.add_zero] at h2; exact absurd h2 (Nat.not_lt.2 (Nat.le_add_right _ _))
  | succ f ih =>
    intro y n h1 h2
    unfold yF
    split
    · rename_i h; exact ⟨rfl, h, Nat.le_refl _⟩
    · rename_i h
      have h3 := nyN_next h1
      rw [show y + (f + 1) = y + 1 + f by rw [Nat.add_comm f 1, Nat.add_assoc]] at h2
      have h5 : nyN (y + 1) + (n - yrN y) = nyN y + n := by rw [h3]; generalize nyN y = a; generalize yrN y = b at h; omega
      have h4 := ih (y + 1) (n - yrN y) (Nat.le_succ_of_le h1) (by rw [h5]; exact h2)
      rw [h5] at h4
      exact ⟨h4.1, h4.2.1, Nat.le_trans (Nat.le_succ y) h4.2.2⟩
/-- The month of a day of a year, and what is left. -/
def mF (y : Nat) : Nat → Nat → Nat → Nat × Nat
  | 0, m, n => (m, n)
  | f + 1, m, n => if n < lenN y m then (m, n) else mF y f (m + 1) (n - lenN y m)
theorem mF_spec (y : Nat) : ∀ (f m n : Nat), mdN y m + n < mdN y (m + f) → mdN y (mF y f m n).1 + (mF y f m n).2 = mdN y m + n ∧ (mF y f m n).2 < lenN y (mF y f m n).1 ∧ m ≤ (mF y f m n).1
  | 0, m, n, h2 => by rw [Nat.add_zero] at h2; omega
  | f + 1, m, n, h2 => by
    unfold mF
    split
    · rename_i h; exact ⟨rfl, h, Nat.le_refl _⟩
    · rename_i h
      have h3 : mdN y (m + 1) = mdN y m + lenN y m := rfl
      have h4 := mF_spec y f (m + 1) (n - lenN y m) (by rw [h3, show m + 1 + f = m + (f + 1) by omega]; omega)
      refine ⟨?_, h4.2.1, by omega⟩
      rw [h4.1, h3]; omega
/-- The year, month and day of a number. -/
def civN (N : Nat) : Nat × Nat × Nat :=
  ((yF 8031 1970 N).1, (mF (yF 8031 1970 N).1 12 1 (yF 8031 1970 N).2).1, (mF (yF 8031 1970 N).1 12 1 (yF 8031 1970 N).2).2 + 1)
set_option maxRecDepth 100000 in
theorem civN_is {N : Nat} (h : N ≤ 2932896) : IsCiv N (civN N).1 (civN N).2.1 (civN N).2.2 := by
  have h1 := yF_spec 8031 1970 N (by omega) (by
    have h2 := nyN_mono (y := 10000) (k := 1) (by omega)
    rw [nyN_last] at h2
    rw [nyN_first, show (1970 + 8031 : Nat) = 10000 + 1 from rfl]; omega)
  rw [nyN_first] at h1
  have h2 := mF_spec (yF 8031 1970 N).1 12 1 (yF 8031 1970 N).2 (by rw [mdN_one, mdN_thirteen]; omega)
  rw [mdN_one] at h2
  unfold civN
  generalize yF 8031 1970 N = p at h1 h2
  generalize mF p.1 12 1 p.2 = q at h2
  obtain ⟨y, n⟩ := p
  obtain ⟨m, d⟩ := q
  simp only at h1 h2 ⊢
  have hy2 : y ≤ 9999 := by
    rcases Nat.lt_or_ge 9999 y with e | e
    · have := nyN_mono (y := 10000) (k := y - 10000) (by omega)
      rw [nyN_last, show 10000 + (y - 10000) = y by omega] at this
      omega
    · exact e
  have hm := lenI_pos (y := y) (m := m) (by have := lenN_int y m; omega)
  exact ⟨h1.2.2, hy2, h2.2.2, by omega, by omega, by omega, by omega⟩
theorem IsCiv.civ {N y m d : Nat} (h : IsCiv N y m d) : civN N = (y, m, d) := by
  obtain ⟨e1, e2, e3⟩ := (civN_is h.le).one h
  generalize civN N = p at *
  obtain ⟨a, b, c⟩ := p
  simp only at e1 e2 e3
  rw [e1, e2, e3]
/-- What Civil answers. -/
def civB (n : Int) : Int × Int × Int × Bool := if n < 0 ∨ 2932896 < n then (0, 0, 0, false) else ((civN n.toNat).1, (civN n.toNat).2.1, (civN n.toNat).2.2, true)
/-- What Days answers. -/
def daysB (y m d : Int) : Int × Bool := if y < 1970 ∨ 9999 < y ∨ d < 1 ∨ lenI y m < d then (0, false) else ((nyN y.toNat : Int) + (mdN y.toNat m.toNat : Int) + (d - 1), true)
theorem daysB_bd (y m d : Int) : 0 ≤ (daysB y m d).1 ∧ (daysB y m d).1 ≤ 2932896 := by
  unfold daysB
  split
  · exact ⟨by omega, by omega⟩
  · rename_i h
    have hm := lenI_pos (y := y) (m := m) (by omega)
    have h1 := mdN_le y.toNat (m := m.toNat) (by omega)
    have h2 := lenN_int y.toNat m.toNat
    rw [show ((y.toNat : Nat) : Int) = y by omega, show ((m.toNat : Nat) : Int) = m by omega] at h2
    have h3 := nyN_lt (y := y.toNat) (z := 10000) (by omega) (by omega)
    rw [nyN_last] at h3
    simp only
    omega
theorem IsCiv.days {N y m d : Nat} (h : IsCiv N y m d) : daysB y m d = ((N : Int), true) := by
  have := h.y1; have := h.y2; have := h.d1; have := h.d2; have h3 := h.eq
  have h2 := lenN_int y m
  unfold daysB
  rw [if_neg (by omega)]
  simp only [Int.toNat_natCast, Prod.mk.injEq, and_true]
  omega
theorem days_civ {n : Int} (h0 : 0 ≤ n) (h1 : n ≤ 2932896) : daysB (civN n.toNat).1 (civN n.toNat).2.1 (civN n.toNat).2.2 = (n, true) := by
  rw [(civN_is (N := n.toNat) (by omega)).days]
  simp only [Prod.mk.injEq, and_true]; omega
/-- The next day. -/
theorem IsCiv.next {N y m d : Nat} (h : IsCiv N y m d) (hN : N < 2932896) :
    (d < lenN y m ∧ civN (N + 1) = (y, m, d + 1)) ∨ (d = lenN y m ∧ m < 12 ∧ civN (N + 1) = (y, m + 1, 1)) ∨ (d = lenN y m ∧ m = 12 ∧ civN (N + 1) = (y + 1, 1, 1)) := by
  obtain ⟨y1, y2, m1, m2, d1, d2, eq⟩ := h
  have hl := mdN_le y m2
  rcases Nat.lt_or_ge d (lenN y m) with e | e
  · exact Or.inl ⟨e, IsCiv.civ ⟨y1, y2, m1, m2, by omega, by omega, by omega⟩⟩
  · rcases Nat.lt_or_ge m 12 with e2 | e2
    · refine Or.inr (Or.inl ⟨by omega, e2, IsCiv.civ ⟨y1, y2, by omega, by omega, by omega, ?_, ?_⟩⟩)
      · have := lenN_low (y := y) (m := m + 1) (by omega) (by omega); omega
      · show nyN y + (mdN y m + lenN y m) + 1 = N + 1 + 1; omega
    · have hm : m = 12 := by omega
      subst hm
      have h13 := mdN_thirteen y
      rw [show mdN y 13 = mdN y 12 + lenN y 12 from rfl] at h13
      have hn := nyN_next y1
      refine Or.inr (Or.inr ⟨by omega, rfl, IsCiv.civ ⟨by omega, ?_, by omega, by omega, by omega, ?_, ?_⟩⟩)
      · rcases Nat.lt_or_ge 9998 y with e3 | e3
        · have : nyN (y + 1) = 2932897 := by rw [show y + 1 = 10000 by omega, nyN_last]
          omega
        · omega
      · have := lenN_low (y := y + 1) (m := 1) (by omega) (by omega); omega
      · rw [mdN_one]; omega
end Go.Proofs.YtahohmdbiiknoaaGreatDoor

/- Plain mathematics of layer 13: what a reader cuts off a text; what is read of it. Nothing of the program. -/
namespace Go.Proofs.YtahohmdbiiknoaaGreatDoor

def monthsL : List (List UInt8) := [[74, 97, 110], [70, 101, 98], [77, 97, 114], [65, 112, 114], [77, 97, 121], [74, 117, 110], [74, 117, 108], [65, 117, 103], [83, 101, 112], [79, 99, 116], [78, 111, 118], [68, 101, 99]]
def weekL : List (List UInt8) := [[77, 111, 110], [84, 117, 101], [87, 101, 100], [84, 104, 117], [70, 114, 105], [83, 97, 116], [83, 117, 110]]

/-- What is left of a text, and whether a piece wasn't there. -/
abbrev RSt := List UInt8 × Bool
def skipC (s : RSt) (p : List UInt8) : Bool × RSt := (Lib.hasPrefix s.1 p, (Lib.trimPrefix s.1 p, s.2))
def signC (s : RSt) (p : List UInt8) : RSt := (Lib.trimPrefix s.1 p, if Lib.hasPrefix s.1 p then s.2 else true)
def dgB (c : UInt8) : Bool := decide (48 ≤ c.toNat) && decide (c.toNat ≤ 57)
/-- How many digits come. -/
def aheadL : List UInt8 → Nat
  | [] => 0
  | c :: t => if dgB c then aheadL t + 1 else 0
theorem aheadL_le (l : List UInt8) : aheadL l ≤ l.length := by
  induction l with
  | nil => simp [aheadL]
  | cons c t ih => unfold aheadL; split <;> simp <;> omega
theorem aheadL_at {l : List UInt8} {k : Nat} (hk : k < l.length) : aheadL (l.drop k) = if 48 ≤ bt l k ∧ bt l k ≤ 57 then aheadL (l.drop (k + 1)) + 1 else 0 := by
  rw [List.drop_eq_getElem_cons hk, aheadL]
  have h : bt l k = ((l[k]).toNat : Int) := by unfold bt; simp [List.getD, hk]
  have hb : dgB l[k] = decide (48 ≤ bt l k ∧ bt l k ≤ 57) := by
    rw [h, Bool.eq_iff_iff, dgB, Bool.and_eq_true, decide_eq_true_eq, decide_eq_true_eq, decide_eq_true_eq]
    omega
  rw [hb]
  by_cases c : 48 ≤ bt l k ∧ bt l k ≤ 57 <;> simp [c]
theorem aheadL_end {l : List UInt8} {k : Nat} (hk : ¬ k < l.length) : aheadL (l.drop k) = 0 := by rw [List.drop_eq_nil_of_le (by omega)]; rfl
theorem aheadL_dg {l : List UInt8} {k : Nat} (h : k < aheadL l) : 48 ≤ bt l k ∧ bt l k ≤ 57 := by
  induction l generalizing k with
  | nil => simp [aheadL] at h
  | cons c t ih =>
    unfold aheadL at h
    split at h
    · rename_i hc
      cases k with
      | zero =>
        rw [dgB, Bool.and_eq_true, decide_eq_true_eq, decide_eq_true_eq] at hc
        unfold bt; simp only [List.getD_cons_zero]; omega
      | succ k =>
        have := ih (k := k) (by omega)
        unfold bt at this ⊢
        simpa only [List.getD_cons_succ] using this
    · omega
/-- The number of digits. -/
def valN (n : Nat) : List UInt8 → Nat
  | [] => n
  | c :: t => valN (n * 10 + (c.toNat - 48)) t
theorem valN_snoc (n : Nat) (l : List UInt8) (c : UInt8) : valN n (l ++ [c]) = valN n l * 10 + (c.toNat - 48) := by
  induction l generalizing n with
  | nil => rfl
  | cons d t ih => exact ih _
theorem valN_next {l : List UInt8} {k : Nat} (hk : k < l.length) (h : 48 ≤ bt l k) : ((valN 0 (l.take (k + 1)) : Nat) : Int) = (valN 0 (l.take k) : Nat) * 10 + (bt l k - 48) := by
  rw [List.take_succ_eq_append_getElem hk, valN_snoc]
  have h1 : bt l k = ((l[k]).toNat : Int) := by unfold bt; simp [List.getD, hk]
  omega
theorem valN_bd {l : List UInt8} {k : Nat} (h : k ≤ aheadL l) : valN 0 (l.take k) < 10 ^ k := by
  induction k with
  | zero => rw [List.take_zero]; exact Nat.pow_pos (n := 0) (by decide : 0 < 10)
  | succ k ih =>
    have h1 := aheadL_dg (l := l) (k := k) (by omega)
    have h2 := valN_next (l := l) (k := k) (by have := aheadL_le l; omega) h1.1
    have h3 := ih (by omega)
    rw [Nat.pow_succ]
    generalize valN 0 (l.take (k + 1)) = a at *
    generalize valN 0 (l.take k) = b at *
    generalize 10 ^ k = c at *
    omega
def numD (k : Nat) (s : RSt) : Nat × RSt := if aheadL s.1 < k then (0, (s.1, true)) else (valN 0 (s.1.take k), (s.1.drop k, s.2))
theorem numC_bd (k : Nat) (s : RSt) : (numD k s).1 < 10 ^ k := by
  unfold numD
  split
  · exact Nat.pow_pos (by omega)
  · exact valN_bd (by omega)
def digitsC (s : RSt) : RSt := (s.1.drop (aheadL s.1), if aheadL s.1 = 0 then true else s.2)
def partC (most : Nat) (s : RSt) : Nat × RSt := if most < (numD 2 s).1 then (0, ((numD 2 s).2.1, true)) else numD 2 s
theorem partC_bd (most : Nat) (s : RSt) : (partC most s).1 ≤ most := by
  unfold partC
  split <;> omega
/-- Behind a day's name, if there is one. -/
def wkF : List (List UInt8) → List UInt8 → List UInt8
  | [], l => l
  | n :: t, l => if Lib.hasPrefix l (n ++ [44, 32]) then Lib.trimPrefix l (n ++ [44, 32]) else wkF t l
def weekdayC (s : RSt) : RSt := (wkF weekL s.1, s.2)
def dayC (s : RSt) : Nat × RSt := if aheadL s.1 = 1 then numD 1 s else numD 2 s
theorem dayC_bd (s : RSt) : (dayC s).1 ≤ 9999 := by
  unfold dayC
  split
  · have := numC_bd 1 s; omega
  · have := numC_bd 2 s; omega
/-- A month's number by its name. -/
def mIx (i : Nat) : List (List UInt8) → List UInt8 → Nat
  | [], _ => 0
  | n :: t, l => if n == l then i + 1 else mIx (i + 1) t l
def monIx (l : List UInt8) : Nat := mIx 0 monthsL l
theorem mIx_le (t : List (List UInt8)) (i : Nat) (l : List UInt8) : mIx i t l ≤ i + t.length := by
  induction t generalizing i with
  | nil => simp [mIx]
  | cons n t ih => unfold mIx; split <;> simp <;> have := ih (i + 1) <;> omega
theorem monIx_le (l : List UInt8) : monIx l ≤ 12 := mIx_le monthsL 0 l
def monF : List (List UInt8) → List UInt8 → Option (Nat × List UInt8)
  | [], _ => none
  | n :: t, l => if Lib.hasPrefix l n then some (monIx n, Lib.trimPrefix l n) else monF t l
def monthC (s : RSt) : Nat × RSt := match monF monthsL s.1 with
  | some (m, t) => (m, (t, s.2))
  | none => (0, (s.1, true))
theorem monF_le (t : List (List UInt8)) {l u : List UInt8} {m : Nat} (h : monF t l = some (m, u)) : m ≤ 12 := by
  induction t with
  | nil => cases h
  | cons n t ih =>
    unfold monF at h
    split at h
    · injection h with h; injection h with h _; rw [← h]; exact monIx_le n
    · exact ih h
theorem monthC_bd (s : RSt) : (monthC s).1 ≤ 12 := by
  unfold monthC
  cases h : monF monthsL s.1 with
  | none => simp
  | some p => obtain ⟨m, u⟩ := p; exact monF_le _ h
def yearC (s : RSt) : Nat × RSt := if aheadL s.1 = 2 then ((if (numD 2 s).1 < 50 then 2000 + (numD 2 s).1 else 1900 + (numD 2 s).1), (numD 2 s).2) else numD 4 s
theorem yearC_bd (s : RSt) : (yearC s).1 ≤ 9999 := by
  unfold yearC
  split
  · have := numC_bd 2 s
    generalize numD 2 s = p at *
    show (if p.1 < 50 then 2000 + p.1 else 1900 + p.1) ≤ 9999
    split <;> omega
  · have := numC_bd 4 s; omega
def hoursC (p : List UInt8) (s : RSt) : Nat × RSt :=
  ((partC 23 s).1 * 3600 + (partC 59 (signC (partC 23 s).2 p)).1 * 60, (partC 59 (signC (partC 23 s).2 p)).2)
theorem hoursC_bd (p : List UInt8) (s : RSt) : (hoursC p s).1 ≤ 86340 := by
  unfold hoursC
  have h1 := partC_bd 23 s
  have h2 := partC_bd 59 (signC (partC 23 s).2 p)
  show _ * 3600 + _ * 60 ≤ _
  omega
def secondsC (s : RSt) : Nat × RSt := partC 59 (signC s [58])
theorem secondsC_bd (s : RSt) : (secondsC s).1 ≤ 59 := partC_bd _ _
def offsetC (p : List UInt8) (s : RSt) : Int × RSt :=
  if (skipC s [45]).1 then (-((hoursC p (skipC s [45]).2).1 : Int), (hoursC p (skipC s [45]).2).2)
  else (((hoursC p (signC (skipC s [45]).2 [43])).1 : Int), (hoursC p (signC (skipC s [45]).2 [43])).2)
theorem offsetC_bd (p : List UInt8) (s : RSt) : -86340 ≤ (offsetC p s).1 ∧ (offsetC p s).1 ≤ 86340 := by
  unfold offsetC
  have h1 := hoursC_bd p (skipC s [45]).2
  have h2 := hoursC_bd p (signC (skipC s [45]).2 [43])
  split
  · exact ⟨by show _ ≤ -((hoursC p (skipC s [45]).2).1 : Int); omega, by show -((hoursC p (skipC s [45]).2).1 : Int) ≤ _; omega⟩
  · exact ⟨by show _ ≤ ((hoursC p (signC (skipC s [45]).2 [43])).1 : Int); omega, by show ((hoursC p (signC (skipC s [45]).2 [43])).1 : Int) ≤ _; omega⟩
/-- A zone's hours by its name. -/
def zoneNm (l : List UInt8) : Option Int :=
  if l == [71, 77, 84] || l == [85, 84] || l == [85, 84, 67] || l == [90] then some 0
  else if l == [69, 68, 84] then some (-4)
  else if l == [69, 83, 84] || l == [67, 68, 84] then some (-5)
  else if l == [67, 83, 84] || l == [77, 68, 84] then some (-6)
  else if l == [77, 83, 84] || l == [80, 68, 84] then some (-7)
  else if l == [80, 83, 84] then some (-8)
  else none
def zoneC (s : RSt) : Int × RSt := match zoneNm s.1 with
  | some z => (z * 3600, ([], s.2))
  | none => offsetC [] s
theorem zoneNm_bd {l : List UInt8} {z : Int} (h : zoneNm l = some z) : -8 ≤ z ∧ z ≤ 0 := by
  unfold zoneNm at h
  repeat' split at h
  all_goals first | (injection h with h; subst h; exact ⟨by decide, by decide⟩) | cases h
theorem zoneC_bd (s : RSt) : -86340 ≤ (zoneC s).1 ∧ (zoneC s).1 ≤ 86340 := by
  unfold zoneC
  cases h : zoneNm s.1 with
  | none => exact offsetC_bd _ _
  | some z =>
    have := zoneNm_bd h
    show _ ≤ z * 3600 ∧ z * 3600 ≤ _
    omega
def dateC (s : RSt) (y m d : Nat) (clock : Int) : Int × Bool :=
  if s.2 = true ∨ s.1 ≠ [] ∨ (daysB y m d).2 = false ∨ (daysB y m d).1 * 86400 + clock < 0 ∨ 253402300799 < (daysB y m d).1 * 86400 + clock then (0, false) else ((daysB y m d).1 * 86400 + clock, true)

/-- What Rfc822 answers, step by step. -/
def r822g (d m y : Nat) (q : Int × RSt) : Int × Bool := dateC (zoneC q.2).2 y m d (q.1 - (zoneC q.2).1)
def r822f (d m y h : Nat) (k : Bool × RSt) : Int × Bool := if k.1 then r822g d m y ((h : Int), k.2) else r822g d m y (((h + (secondsC k.2).1 : Nat) : Int), signC (secondsC k.2).2 [32])
def r822e (d m y : Nat) (h : Nat × RSt) : Int × Bool := r822f d m y h.1 (skipC h.2 [32])
def r822d (d m : Nat) (y : Nat × RSt) : Int × Bool := r822e d m y.1 (hoursC [58] (signC y.2 [32]))
def r822b (d : Nat) (m : Nat × RSt) : Int × Bool := r822d d m.1 (yearC (signC m.2 [32]))
def r822a (d : Nat × RSt) : Int × Bool := r822b d.1 (monthC (signC d.2 [32]))
def r822C (l : List UInt8) : Int × Bool := r822a (dayC (weekdayC (l, false)))
/-- What Rfc3339 answers, step by step. -/
def r3339g (y m d : Nat) (z : Int × RSt) : Int × Bool := dateC z.2 y m d z.1
def r3339f (y m d c : Nat) (s : RSt) : Int × Bool :=
  if (skipC s [90]).1 then r3339g y m d ((c : Int), (skipC s [90]).2)
  else if (skipC (skipC s [90]).2 [122]).1 then r3339g y m d ((c : Int), (skipC (skipC s [90]).2 [122]).2)
  else r3339g y m d ((c : Int) - (offsetC [58] (skipC (skipC s [90]).2 [122]).2).1, (offsetC [58] (skipC (skipC s [90]).2 [122]).2).2)
def r3339e (y m d c : Nat) (k : Bool × RSt) : Int × Bool := if k.1 then r3339f y m d c (digitsC k.2) else r3339f y m d c k.2
def r3339d (y m d h : Nat) (c : Nat × RSt) : Int × Bool := r3339e y m d (h + c.1) (skipC c.2 [46])
def r3339c (y m d : Nat) (h : Nat × RSt) : Int × Bool := r3339d y m d h.1 (secondsC h.2)
/-- Behind the T. -/
def teeC (s : RSt) : RSt := if (skipC s [84]).1 then (skipC s [84]).2 else if (skipC (skipC s [84]).2 [116]).1 then (skipC (skipC s [84]).2 [116]).2 else signC (skipC (skipC s [84]).2 [116]).2 [32]
def r3339b (y m : Nat) (d : Nat × RSt) : Int × Bool := r3339c y m d.1 (hoursC [58] (teeC d.2))
def r3339a (y : Nat) (m : Nat × RSt) : Int × Bool := r3339b y m.1 (numD 2 (signC m.2 [45]))
def r3339y (y : Nat × RSt) : Int × Bool := r3339a y.1 (numD 2 (signC y.2 [45]))
def r3339C (l : List UInt8) : Int × Bool := r3339y (numD 4 (l, false))
theorem zoneC_some {s : RSt} {z : Int} (h : zoneNm s.1 = some z) : zoneC s = (z * 3600, ([], s.2)) := by unfold zoneC; rw [h]
theorem zoneC_none {s : RSt} (h : zoneNm s.1 = none) : zoneC s = offsetC [] s := by unfold zoneC; rw [h]
theorem zoneNm_some {l : List UInt8} {z : Int} (h : zoneNm l = some z) : l = [71, 77, 84] ∧ z = 0 ∨ l = [85, 84] ∧ z = 0 ∨ l = [85, 84, 67] ∧ z = 0 ∨ l = [90] ∧ z = 0 ∨ l = [69, 68, 84] ∧ z = -4 ∨ l = [69, 83, 84] ∧ z = -5 ∨ l = [67, 68, 84] ∧ z = -5 ∨ l = [67, 83, 84] ∧ z = -6 ∨ l = [77, 68, 84] ∧ z = -6 ∨ l = [77, 83, 84] ∧ z = -7 ∨ l = [80, 68, 84] ∧ z = -7 ∨ l = [80, 83, 84] ∧ z = -8 := by
  unfold zoneNm at h
  repeat' split at h
  all_goals first | (cases h; done) | skip
  all_goals simp only [Bool.or_eq_true, beq_iff_eq] at *
  all_goals simp only [Option.some.injEq] at h
  all_goals subst h
  all_goals simp_all
  rename_i c
  rcases c with ((c | c) | c) | c <;> simp [c]
theorem zoneNm_none {l : List UInt8} (h : zoneNm l = none) : (l == [71, 77, 84]) = false ∧ (l == [85, 84]) = false ∧ (l == [85, 84, 67]) = false ∧ (l == [90]) = false ∧ (l == [69, 68, 84]) = false ∧ (l == [69, 83, 84]) = false ∧ (l == [67, 68, 84]) = false ∧ (l == [67, 83, 84]) = false ∧ (l == [77, 68, 84]) = false ∧ (l == [77, 83, 84]) = false ∧ (l == [80, 68, 84]) = false ∧ (l == [80, 83, 84]) = false := by
  unfold zoneNm at h
  repeat' split at h
  all_goals first | cases h; done | skip
  simp_all
theorem dateC_no {s : RSt} {y m d : Nat} {c : Int} (h : s.2 = true ∨ s.1 ≠ [] ∨ (daysB y m d).2 = false ∨ (daysB y m d).1 * 86400 + c < 0 ∨ 253402300799 < (daysB y m d).1 * 86400 + c) : dateC s y m d c = (0, false) := by unfold dateC; rw [if_pos h]
theorem dateC_yes {s : RSt} {y m d : Nat} {c : Int} (h : ¬ (s.2 = true ∨ s.1 ≠ [] ∨ (daysB y m d).2 = false ∨ (daysB y m d).1 * 86400 + c < 0 ∨ 253402300799 < (daysB y m d).1 * 86400 + c)) : dateC s y m d c = ((daysB y m d).1 * 86400 + c, true) := by unfold dateC; rw [if_neg h]
theorem drop_get {α : Type} (l : List α) (d : α) (k : Nat) (h : k < l.length) : l.drop k = l.getD k d :: l.drop (k + 1) := by
  rw [List.drop_eq_getElem_cons h]
  simp [List.getD, h]
theorem mIx_cons (i : Nat) (n : List UInt8) (t : List (List UInt8)) (l : List UInt8) : mIx i (n :: t) l = if n == l then i + 1 else mIx (i + 1) t l := rfl
theorem week_len : ∀ k, k < 7 → (weekL.getD k []).length = 3 := by decide
theorem months_len : ∀ k, k < 12 → (monthsL.getD k []).length = 3 := by decide
end Go.Proofs.YtahohmdbiiknoaaGreatDoor

/- Layer 14, plain: an entry of its fields; a part's field; errors.Is of no error. -/
namespace Go.Proofs.YtahohmdbiiknoaaGreatDoor
open Go.RowKit

theorem spT_bd : ∀ (l : List UInt8) (a g : Bool) (n : Nat), (spT a g n l).length ≤ 2 * l.length
  | [], a, g, n => by rw [spT_nil]; simp
  | c :: t, a, g, n + 1 => by have := spT_bd t a g n; rw [spT, List.length_cons]; omega
  | c :: t, a, g, 0 => by
    rw [spT]
    split
    · have := spT_bd t true false 0
      rw [List.length_append, List.length_cons, List.length_cons]
      split <;> simp <;> omega
    · have := spT_bd t a true (blankN (c :: t) - 1)
      rw [List.length_cons]; omega
theorem cleanB_bd (l : List UInt8) : (cleanB l).length ≤ 8 * l.length := by
  unfold cleanB spB
  have h1 := spT_bd (entB (stripB l)) false false 0
  have h2 := ent_len (stripB l)
  have h3 := strip_len l
  omega
theorem fieldB_bd {l : List Nd} {i : Int} {nm s : List UInt8} (h : fieldB l i nm = some s) : s.length ≤ 8 * sumT l := by
  rw [fieldB_first] at h
  cases hf : firstB l i nm with
  | none => rw [hf] at h; cases h
  | some j =>
    rw [hf] at h
    injection h with h
    subst h
    show (cleanB (textB l j)).length ≤ _
    have := cleanB_bd (textB l j)
    have := textB_len l j
    omega

def guidL : List UInt8 := [103, 117, 105, 100]
def titleL : List UInt8 := [116, 105, 116, 108, 101]
def descL : List UInt8 := [100, 101, 115, 99, 114, 105, 112, 116, 105, 111, 110]
def pubL : List UInt8 := [112, 117, 98, 68, 97, 116, 101]
def itemL : List UInt8 := [105, 116, 101, 109]
/-- The entry of the fields F, where dates are read by R. -/
def oneB (F : List UInt8 → Option (List UInt8)) (R : List UInt8 → Int × Bool) : It where
  guid := (F guidL).getD []
  title := (F titleL).getD []
  link := (F linkL).getD []
  body := (F descL).getD []
  date := match F pubL with | none => 0 | some s => (R s).1
  dated := match F pubL with | none => false | some s => (R s).2
/-- Is the date a wrong one? -/
def lateB (F : List UInt8 → Option (List UInt8)) (R : List UInt8 → Int × Bool) : Bool := match F pubL with | none => false | some s => !(R s).2
/-- An entry, or what is wrong. -/
inductive ItO where
  | bad (q : Int)
  | it (x : It)
def itO (F : List UInt8 → Option (List UInt8)) (R : List UInt8 → Int × Bool) (most : Int) : ItO :=
  if shortB (oneB F R) most = false then .bad 6 else if (oneB F R).guid = [] ∨ lateB F R = true then .bad 7 else .it (oneB F R)
def it0 : It := ⟨[], [], [], [], 0, false⟩
theorem cell_next {w w' : World} {p : Addr} {v : Value} (h : w.cell? p = some v) (hb : Below w.heap.size w w') : w'.cell? p = some v := (hb.cell (p := p) (World.block_lt_of_cell? w p h)).trans h
end Go.Proofs.YtahohmdbiiknoaaGreatDoor

/- Layer 14: the entries of a channel, plain; entries in a row of one's own. -/
namespace Go.Proofs.YtahohmdbiiknoaaGreatDoor
open Go.RowKit

/-- Entries, or what is wrong. -/
inductive ItsO where
  | bad (q : Int)
  | its (l : List It)
def gatherB : List ItO → List It → Bool → ItsO
  | [], acc, bad => if bad = true then .bad 7 else .its acc
  | .bad q :: r, acc, _ => if q = 6 then .bad 6 else gatherB r acc true
  | .it x :: r, acc, bad => gatherB r (acc ++ [x]) bad
/-- The entries of the kids of a name, by what one says of each. -/
def readB (l : List Nd) (c : Int) (nm : List UInt8) (G : Int → ItO) (many : Int) : ItsO := if many < (namedB l c nm).length then .bad 6 else gatherB ((namedB l c nm).map G) [] false
def itsB (l : List Nd) (R : List UInt8 → Int × Bool) (many most : Int) : ItsO :=
  match chanB l with
  | none => .bad 5
  | some c => readB l c itemL (fun i => itO (fieldB l i) R most) many
theorem itO_cases (F : List UInt8 → Option (List UInt8)) (R : List UInt8 → Int × Bool) (most : Int) : itO F R most = .bad 6 ∨ itO F R most = .bad 7 ∨ ∃ x, itO F R most = .it x := by
  unfold itO
  by_cases h1 : shortB (oneB F R) most = false
  · rw [if_pos h1]; exact Or.inl rfl
  · rw [if_neg h1]
    by_cases h2 : (oneB F R).guid = [] ∨ lateB F R = true
    · rw [if_pos h2]; exact Or.inr (Or.inl rfl)
    · rw [if_neg h2]; exact Or.inr (Or.inr ⟨_, rfl⟩)
theorem kidsB_nodup (l : List Nd) (i : Int) : (kidsB l i).Nodup := by
  unfold kidsB
  split
  · unfold kidsTo
    refine List.Pairwise.map _ (R := (· ≠ ·)) ?_ (List.Pairwise.filter _ List.nodup_range)
    intro a b h; omega
  · exact List.nodup_nil
theorem namedB_nodup (l : List Nd) (i : Int) (nm : List UInt8) : (namedB l i nm).Nodup := by
  unfold namedB
  split
  · exact List.nodup_nil
  · exact List.Pairwise.filter _ (kidsB_nodup l i)
theorem namedB_bd {l : List Nd} {i j : Int} {nm : List UInt8} (h : j ∈ namedB l i nm) : placeB l j = true ∧ upN l j = i ∧ j ≠ i ∧ placeB l i = true := by
  unfold namedB at h
  split at h
  · cases h
  · exact kidsB_bd (List.mem_filter.1 h).1
theorem namedB_len (l : List Nd) (i : Int) (nm : List UInt8) : (namedB l i nm).length ≤ l.length := by
  unfold namedB
  split
  · simp
  · refine Nat.le_trans (List.length_filter_le _ _) ?_
    unfold kidsB
    split
    · exact kidsTo_len _ _ _
    · simp
theorem chanB_place {l : List Nd} {c : Int} (h : chanB l = some c) : 0 ≤ c ∧ c < l.length := by
  unfold chanB at h
  split at h
  · cases h
  · unfold firstB at h
    have := namedB_bd (List.mem_of_mem_head? h)
    exact place_iff.1 this.1
theorem info_item : (Tryz.prog.info? 26).map (fun i => (i.zero, i.size, i.bytes)) = some (some (.agg #[.string ⟨#[]⟩, .string ⟨#[]⟩, .string ⟨#[]⟩, .string ⟨#[]⟩, .int .i64 0, .bool false]), 6, 80) := by kernel_rfl
def cellsI (l : List It) : List Value := l.flatMap itC
theorem cellsI_app (l : List It) (x : It) : cellsI (l ++ [x]) = cellsI l ++ itC x := by simp [cellsI]
/-- Entries in a row that the call itself made. -/
def OwnI (w : World) (B : Nat) (v : Value) (l : List It) : Prop := w.ownsRow B 26 6 v l.length (cellsI l)
theorem drop_some {α : Type} {l : List α} {k : Nat} {x : α} (h : l[k]? = some x) : l.drop k = x :: l.drop (k + 1) := by
  obtain ⟨hlt, rfl⟩ := List.getElem?_eq_some_iff.1 h
  exact List.drop_eq_getElem_cons hlt
end Go.Proofs.YtahohmdbiiknoaaGreatDoor

/- Layer 14, plain: greater limits; what holds of each entry. -/
namespace Go.Proofs.YtahohmdbiiknoaaGreatDoor
open Go.RowKit

theorem dateC_range {s : RSt} {y m d : Nat} {c : Int} (h : (dateC s y m d c).2 = true) : 0 ≤ (dateC s y m d c).1 ∧ (dateC s y m d c).1 ≤ 253402300799 := by
  by_cases hc : s.2 = true ∨ s.1 ≠ [] ∨ (daysB y m d).2 = false ∨ (daysB y m d).1 * 86400 + c < 0 ∨ 253402300799 < (daysB y m d).1 * 86400 + c
  · rw [dateC_no hc] at h; cases h
  · rw [dateC_yes hc]
    have h1 : ¬ ((daysB y m d).1 * 86400 + c < 0) := fun e => hc (Or.inr (Or.inr (Or.inr (Or.inl e))))
    have h2 : ¬ (253402300799 < (daysB y m d).1 * 86400 + c) := fun e => hc (Or.inr (Or.inr (Or.inr (Or.inr e))))
    exact ⟨Int.not_lt.1 h1, Int.not_lt.1 h2⟩
theorem r822C_range {l : List UInt8} (h : (r822C l).2 = true) : 0 ≤ (r822C l).1 ∧ (r822C l).1 ≤ 253402300799 := by
  unfold r822C r822a r822b r822d r822e r822f at h ⊢
  split at h
  · rename_i e; rw [if_pos e]; exact dateC_range h
  · rename_i e; rw [if_neg e]; exact dateC_range h
/-- An entry as it should be. -/
def ItGood (most : Int) (x : It) : Prop := x.guid ≠ [] ∧ shortB x most = true ∧ (x.dated = true → 0 ≤ x.date ∧ x.date ≤ 253402300799)
theorem shortB_iff {x : It} {most : Int} : shortB x most = true ↔ (x.guid.length : Int) ≤ most ∧ (x.guid.length : Int) ≤ 256 ∧ (x.title.length : Int) ≤ most ∧ (x.link.length : Int) ≤ most ∧ (x.body.length : Int) ≤ most := by
  unfold shortB
  simp only [Bool.and_eq_true, decide_eq_true_eq]
  constructor
  · rintro ⟨⟨⟨⟨h1, h2⟩, h3⟩, h4⟩, h5⟩; exact ⟨h1, h2, h3, h4, h5⟩
  · rintro ⟨h1, h2, h3, h4, h5⟩; exact ⟨⟨⟨⟨h1, h2⟩, h3⟩, h4⟩, h5⟩
theorem shortB_more {x : It} {a b : Int} (h : shortB x a = true) (hab : a ≤ b) : shortB x b = true := by
  rw [shortB_iff] at h ⊢
  omega
theorem itO_it {F : List UInt8 → Option (List UInt8)} {most : Int} {x : It} (h : itO F r822C most = .it x) : ItGood most x ∧ ∀ more, most ≤ more → itO F r822C more = .it x := by
  unfold itO at h
  by_cases h1 : shortB (oneB F r822C) most = false
  · rw [if_pos h1] at h; cases h
  · rw [if_neg h1] at h
    have h1' : shortB (oneB F r822C) most = true := by simpa using h1
    by_cases h2 : (oneB F r822C).guid = [] ∨ lateB F r822C = true
    · rw [if_pos h2] at h; cases h
    · rw [if_neg h2] at h
      injection h with h
      subst h
      refine ⟨⟨fun e => h2 (Or.inl e), h1', fun hd => ?_⟩, fun more hm => ?_⟩
      · unfold oneB at hd ⊢
        simp only at hd ⊢
        cases hp : F pubL with
        | none => rw [hp] at hd; cases hd
        | some s => rw [hp] at hd; exact r822C_range hd
      · unfold itO
        rw [if_neg (by rw [shortB_more h1' hm]; decide), if_neg h2]
theorem gatherB_all : ∀ (os : List ItO) (acc : List It) (bad : Bool) (l : List It), gatherB os acc bad = .its l → bad = false ∧ ∃ xs : List It, os = xs.map .it ∧ l = acc ++ xs
  | [], acc, bad, l, h => by
    unfold gatherB at h
    split at h
    · cases h
    · rename_i hb
      injection h with h
      exact ⟨by simpa using hb, [], rfl, by simp [h]⟩
  | .bad p :: r, acc, bad, l, h => by
    unfold gatherB at h
    split at h
    · cases h
    · have := (gatherB_all r acc true l h).1; cases this
  | .it x :: r, acc, bad, l, h => by
    obtain ⟨h1, xs, h2, h3⟩ := gatherB_all r (acc ++ [x]) bad l h
    exact ⟨h1, x :: xs, by rw [h2]; rfl, by rw [h3]; simp⟩
theorem gatherB_its : ∀ (xs acc : List It), gatherB (xs.map .it) acc false = .its (acc ++ xs)
  | [], acc => by simp [gatherB]
  | x :: r, acc => by
    show gatherB (r.map .it) (acc ++ [x]) false = _
    rw [gatherB_its r]; simp
theorem itsB_all {l : List Nd} {many most : Int} {xs : List It} (h : itsB l r822C many most = .its xs) : (∀ x ∈ xs, ItGood most x) ∧ (xs.length : Int) ≤ many ∧ ∀ more, 0 ≤ more → itsB l r822C (many + more) (most + more) = .its xs := by
  unfold itsB readB at h ⊢
  cases hc : chanB l with
  | none => rw [hc] at h; cases h
  | some c =>
    rw [hc] at h
    simp only at h ⊢
    by_cases hm : many < ((namedB l c itemL).length : Int)
    · rw [if_pos hm] at h; cases h
    · rw [if_neg hm] at h
      obtain ⟨_, ys, h2, h3⟩ := gatherB_all _ _ _ _ h
      rw [List.nil_append] at h3
      subst h3
      have hlen : (namedB l c itemL).length = xs.length := by
        have := congrArg List.length h2
        simpa using this
      have hat : ∀ i ∈ namedB l c itemL, ∃ x ∈ xs, itO (fieldB l i) r822C most = .it x := fun i hi => by
        have hmem : itO (fieldB l i) r822C most ∈ xs.map ItO.it := by rw [← h2]; exact List.mem_map.2 ⟨i, hi, rfl⟩
        obtain ⟨x, hx, e⟩ := List.mem_map.1 hmem
        exact ⟨x, hx, e.symm⟩
      refine ⟨fun x hx => ?_, by omega, fun more h0 => ?_⟩
      · have hmem : ItO.it x ∈ (namedB l c itemL).map fun i => itO (fieldB l i) r822C most := by rw [h2]; exact List.mem_map.2 ⟨x, hx, rfl⟩
        obtain ⟨i, _, e⟩ := List.mem_map.1 hmem
        exact (itO_it e).1
      · rw [if_neg (by omega)]
        have e : ((namedB l c itemL).map fun i => itO (fieldB l i) r822C (most + more)) = xs.map ItO.it := by
          rw [← h2]
          refine List.map_congr_left fun i hi => ?_
          obtain ⟨x, _, e⟩ := hat i hi
          rw [e]
          exact (itO_it e).2 _ (by omega)
        rw [e, gatherB_its]
        rfl
theorem gatherB_codes : ∀ (os : List ItO) (acc : List It) (bad : Bool) (q : Int), gatherB os acc bad = .bad q → q = 6 ∨ q = 7
  | [], acc, bad, q, h => by
    unfold gatherB at h
    split at h
    · injection h with h; exact Or.inr h.symm
    · cases h
  | .bad p :: r, acc, bad, q, h => by
    unfold gatherB at h
    split at h
    · injection h with h; exact Or.inl h.symm
    · exact gatherB_codes r acc true q h
  | .it x :: r, acc, bad, q, h => gatherB_codes r (acc ++ [x]) bad q h
theorem gatherB_len : ∀ (os : List ItO) (acc : List It) (bad : Bool) (l : List It), gatherB os acc bad = .its l → l.length ≤ acc.length + os.length
  | [], acc, bad, l, h => by
    unfold gatherB at h
    split at h
    · cases h
    · injection h with h; subst h; simp
  | .bad p :: r, acc, bad, l, h => by
    unfold gatherB at h
    split at h
    · cases h
    · have := gatherB_len r acc true l h; simp; omega
  | .it x :: r, acc, bad, l, h => by have := gatherB_len r (acc ++ [x]) bad l h; simp at this ⊢; omega
theorem itsB_codes {l : List Nd} {R : List UInt8 → Int × Bool} {many most q : Int} (h : itsB l R many most = .bad q) : q = 5 ∨ q = 6 ∨ q = 7 := by
  unfold itsB readB at h
  split at h
  · injection h with h; exact Or.inl h.symm
  · split at h
    · injection h with h; exact Or.inr (Or.inl h.symm)
    · exact Or.inr (gatherB_codes _ _ _ _ h)
theorem itsB_len {l : List Nd} {R : List UInt8 → Int × Bool} {many most : Int} {x : List It} (h : itsB l R many most = .its x) : x.length ≤ l.length ∧ (x.length : Int) ≤ many := by
  unfold itsB readB at h
  split at h
  · cases h
  · rename_i c _
    split at h
    · cases h
    · have h1 := gatherB_len _ _ _ _ h
      have h2 := namedB_len l c itemL
      rw [List.length_map] at h1
      simp at h1
      omega
end Go.Proofs.YtahohmdbiiknoaaGreatDoor
