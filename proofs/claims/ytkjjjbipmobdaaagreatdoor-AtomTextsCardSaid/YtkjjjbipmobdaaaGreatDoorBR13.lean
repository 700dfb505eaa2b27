/- Plain mathematics of layer 13 (dates): calendars. Nothing of the program. -/
import Derived.Test.YtkjjjbipmobdaaaGreatDoorBR01
namespace Go.Proofs.YtkjjjbipmobdaaaGreatDoor

/-- Has a year a 29th of February? -/
def leapI (y : Int) : Bool := decide (y % 4 = 0 ∧ (y % 100 ≠ 0 ∨ y % 400 = 0))
theorem tm_zero (y k : Int) : (y.tmod k == 0) = decide (y % k = 0) := by
  rw [Bool.eq_iff_iff, beq_iff_eq, decide_eq_true_eq, ← Int.dvd_iff_tmod_eq_zero, Int.dvd_iff_emod_eq_zero]
/-- How many days a month has. -/
def lenI (y m : Int) : Int :=
  if m = 1 ∨ m = 3 ∨ m = 5 ∨ m = 7 ∨ m = 8 ∨ m = 10 ∨ m = 12 then 31 else if m = 4 ∨ m = 6 ∨ m = 9 ∨ m = 11 then 30 else if m = 2 then (if leapI y then 29 else 28) else 0
theorem lenI_bd (y m : Int) : 0 ≤ lenI y m ∧ lenI y m ≤ 31 := by
  unfold lenI
  repeat' split
  all_goals omega
theorem lenI_pos {y m : Int} (h : lenI y m ≠ 0) : 1 ≤ m ∧ m ≤ 12 := by
  unfold lenI at h
  repeat' split at h
  all_goals omega
theorem lenI_low {y m : Int} (h1 : 1 ≤ m) (h2 : m ≤ 12) : 28 ≤ lenI y m := by
  unfold lenI
  repeat' split
  all_goals omega

/-- How many days a year has. -/
def yrN (y : Nat) : Nat := if leapI y then 366 else 365
/-- How many years up to y have a 29th of February. -/
def lpN (y : Nat) : Nat := y / 4 - y / 100 + y / 400
/-- The number of the first day of a year. -/
def nyN (y : Nat) : Nat := (y - 1970) * 365 + lpN (y - 1) - 477
theorem div_up (k : Nat) (hk : k = 4 ∨ k = 100 ∨ k = 400) (y : Nat) : (y + 1) / k = y / k + if ((y : Int) + 1) % (k : Int) = 0 then 1 else 0 := by
  rcases hk with rfl | rfl | rfl
  all_goals (split <;> omega)
theorem lpN_next (x : Nat) : lpN (x + 1) = lpN x + if leapI ((x : Int) + 1) then 1 else 0 := by
  have h4 := div_up 4 (by simp) x
  have h1 := div_up 100 (by simp) x
  have h2 := div_up 400 (by simp) x
  have hle : x / 100 ≤ x / 4 := Nat.div_le_div_left (by omega) (by omega)
  have i1 : ((x : Int) + 1) % (100 : Int) = 0 → ((x : Int) + 1) % (4 : Int) = 0 := by omega
  have i2 : ((x : Int) + 1) % (400 : Int) = 0 → ((x : Int) + 1) % (100 : Int) = 0 := by omega
  unfold lpN leapI
  rw [h4, h1, h2]
  simp only [Int.cast_ofNat_Int]
  generalize x / 4 = a at *
  generalize x / 100 = b at *
  generalize x / 400 = c at *
  by_cases e4 : ((x : Int) + 1) % (4 : Int) = 0 <;> by_cases e1 : ((x : Int) + 1) % (100 : Int) = 0 <;> by_cases e2 : ((x : Int) + 1) % (400 : Int) = 0 <;> simp [e4, e1, e2] <;> first | omega | (exfalso; simp_all)
theorem lpN_int (x : Nat) : ((lpN x : Nat) : Int) = (x : Int) / 4 - (x : Int) / 100 + (x : Int) / 400 := by
  have h2 : x / 100 ≤ x / 4 := Nat.div_le_div_left (by decide) (by decide)
  unfold lpN
  omega
theorem lpN_low {x : Nat} (h : 1969 ≤ x) : 477 ≤ lpN x := by
  have h1 := lpN_int x
  omega
theorem nyN_next {y : Nat} (h : 1970 ≤ y) : nyN (y + 1) = nyN y + yrN y := by
  obtain ⟨x, rfl⟩ : ∃ x, y = x + 1 := ⟨y - 1, by omega⟩
  have h1 := lpN_next x
  have h2 : 477 ≤ lpN x := lpN_low (by omega)
  unfold nyN yrN
  rw [show x + 1 + 1 - 1 = x + 1 by omega, show x + 1 - 1 = x by omega, h1, show ((x + 1 : Nat) : Int) = (x : Int) + 1 by omega]
  split <;> omega
theorem nyN_int {y : Nat} (h : 1970 ≤ y) : ((nyN y : Nat) : Int) = ((y : Int) - 1970) * 365 + (lpN (y - 1) : Int) - 477 := by
  have h1 := lpN_low (x := y - 1) (by omega)
  unfold nyN
  generalize lpN (y - 1) = a at *
  omega
theorem yrN_bd (y : Nat) : 365 ≤ yrN y ∧ yrN y ≤ 366 := by unfold yrN; split <;> omega
theorem nyN_mono {y k : Nat} (h : 1970 ≤ y) : nyN y + 365 * k ≤ nyN (y + k) := by
  induction k with
  | zero => simp
  | succ k ih =>
    have h1 := nyN_next (y := y + k) (Nat.le_trans h (Nat.le_add_right _ _))
    have h2 := (yrN_bd (y + k)).1
    rw [show y + (k + 1) = y + k + 1 from rfl, h1, Nat.mul_succ, ← Nat.add_assoc]
    exact Nat.add_le_add ih h2
theorem nyN_top {y k : Nat} (h : 1970 ≤ y) : nyN (y + k) ≤ nyN y + 366 * k := by
  induction k with
  | zero => simp
  | succ k ih =>
    have h1 := nyN_next (y := y + k) (Nat.le_trans h (Nat.le_add_right _ _))
    have h2 := (yrN_bd (y + k)).2
    rw [show y + (k + 1) = y + k + 1 from rfl, h1, Nat.mul_succ, ← Nat.add_assoc]
    exact Nat.add_le_add ih h2
theorem nyN_lt {y z : Nat} (h : 1970 ≤ y) (h2 : y < z) : nyN y + yrN y ≤ nyN z := by
  have h1 := nyN_next h
  have h3 := nyN_mono (y := y + 1) (k := z - (y + 1)) (by omega)
  rw [show y + 1 + (z - (y + 1)) = z by omega] at h3
  omega
theorem nyN_first : nyN 1970 = 0 := by decide
theorem nyN_last : nyN 10000 = 2932897 := by decide

/-- A month's days, of a year's number. -/
def lenN (y m : Nat) : Nat := (lenI y m).toNat
theorem lenN_int (y m : Nat) : ((lenN y m : Nat) : Int) = lenI y m := by have := lenI_bd y m; unfold lenN; omega
theorem lenN_low {y m : Nat} (h1 : 1 ≤ m) (h2 : m ≤ 12) : 28 ≤ lenN y m ∧ lenN y m ≤ 31 := by
  have h3 := lenI_low (y := y) (m := m) (by omega) (by omega)
  have h4 := lenI_bd y m
  have h5 := lenN_int y m
  omega
/-- The days of the year ahead of a month. -/
def mdN (y : Nat) : Nat → Nat
  | 0 => 0
  | m + 1 => mdN y m + lenN y m
theorem mdN_one (y : Nat) : mdN y 1 = 0 := by simp [mdN, lenN, lenI]
theorem mdN_thirteen (y : Nat) : mdN y 13 = yrN y := by
  simp only [mdN, lenN, lenI, yrN]
  cases leapI y <;> decide
theorem mdN_mono (y : Nat) {m k : Nat} (h : m ≤ k) : mdN y m ≤ mdN y k := by
  induction k with
  | zero => rw [show m = 0 by omega]; exact Nat.le_refl _
  | succ k ih =>
    rcases Nat.lt_or_ge k m with h1 | h1
    · rw [show m = k + 1 by omega]; exact Nat.le_refl _
    · exact Nat.le_trans (ih h1) (Nat.le_add_right _ _)
theorem mdN_le (y : Nat) {m : Nat} (h : m ≤ 12) : mdN y m + lenN y m ≤ yrN y := by
  rw [← mdN_thirteen y]
  exact mdN_mono y (m := m + 1) (k := 13) (by omega)
theorem mdN_lt (y : Nat) {m k : Nat} (h : m < k) : mdN y m + lenN y m ≤ mdN y k := mdN_mono y (m := m + 1) (k := k) (by omega)

/-- Number N is the day d of the month m of the year y. -/
structure IsCiv (N y m d : Nat) : Prop where
  y1 : 1970 ≤ y
  y2 : y ≤ 9999
  m1 : 1 ≤ m
  m2 : m ≤ 12
  d1 : 1 ≤ d
  d2 : d ≤ lenN y m
  eq : nyN y + mdN y m + d = N + 1
theorem IsCiv.one {N y m d y' m' d' : Nat} (h : IsCiv N y m d) (k : IsCiv N y' m' d') : y = y' ∧ m = m' ∧ d = d' := by
  have h1 := mdN_le y h.m2
  have k1 := mdN_le y' k.m2
  have := h.eq; have := k.eq; have := h.d1; have := h.d2; have := k.d1; have := k.d2
  have hy : y = y' := by
    rcases Nat.lt_trichotomy y y' with e | e | e
    · have := nyN_lt h.y1 e; omega
    · exact e
    · have := nyN_lt k.y1 e; omega
  subst hy
  have hm : m = m' := by
    rcases Nat.lt_trichotomy m m' with e | e | e
    · have := mdN_lt y e; omega
    · exact e
    · have := mdN_lt y e; omega
  subst hm
  exact ⟨rfl, rfl, by omega⟩
theorem IsCiv.le {N y m d : Nat} (h : IsCiv N y m d) : N ≤ 2932896 := by
  have h1 := mdN_le y h.m2
  have := h.eq; have := h.d2
  have h3 := nyN_lt (z := 10000) h.y1 (by have := h.y2; omega)
  rw [nyN_last] at h3
  omega

/-- The year of a day, and what is left. -/
def yF : Nat → Nat → Nat → Nat × Nat
  | 0, y, n => (y, n)
  | f + 1, y, n => if n < yrN y then (y, n) else yF f (y + 1) (n - yrN y)
theorem yF_spec (f : Nat) : ∀ (y n : Nat), 1970 ≤ y → nyN y + n < nyN (y + f) → nyN (yF f y n).1 + (yF f y n).2 = nyN y + n ∧ (yF f y n).2 < yrN (yF f y n).1 ∧ y ≤ (yF f y n).1 := by
  induction f with
  | zero => intro y n _ h2; rw [Nat.add_zero] at h2; exact absurd h2 (Nat.not_lt.2 (Nat.le_add_right _ _))
  | succ f ih =>
    intro y n h1 h2
    unfold yF
    split
    · rename_i h; exact ⟨rfl, h, Nat.le_refl _⟩
    · rename_i h
      have h3 := nyN_next h1
      rw [show y + (f + 1) = y + 1 + f by rw [Nat.add_comm f 1, Nat.add_assoc]] at h2
      have h5 : nyN (y + 1) + (n - yrN y) = nyN y + n := by rw [h3]; generalize nyN y = a; generalize yrN y = b at h; omega
      have h4 := ih (y + 1) (n - yrN y) (Nat.le_succ_of_le h1) (by rw [h5]; exact h2)
      rw [h5] at h4
      exact ⟨h4.1, h4.2.1, Nat.le_trans (Nat.le_succ y) h4.2.2⟩
/-- The month of a day of a year, and what is left. -/
def mF (y : Nat) : Nat → Nat → Nat → Nat × Nat
  | 0, m, n => (m, n)
  | f + 1, m, n => if n < lenN y m then (m, n) else mF y f (m + 1) (n - lenN y m)
theorem mF_spec (y : Nat) : ∀ (f m n : Nat), mdN y m + n < mdN y (m + f) → mdN y (mF y f m n).1 + (mF y f m n).2 = mdN y m + n ∧ (mF y f m n).2 < lenN y (mF y f m n).1 ∧ m ≤ (mF y f m n).1
  | 0, m, n, h2 => by rw [Nat.add_zero] at h2; omega
  | f + 1, m, n, h2 => by
    unfold mF
    split
    · rename_i h; exact ⟨rfl, h, Nat.le_refl _⟩
    · rename_i h
      have h3 : mdN y (m + 1) = mdN y m + lenN y m := rfl
      have h4 := mF_spec y f (m + 1) (n - lenN y m) (by rw [h3, show m + 1 + f = m + (f + 1) by omega]; omega)
      refine ⟨?_, h4.2.1, by omega⟩
      rw [h4.1, h3]; omega
/-- The year, month and day of a number. -/
def civN (N : Nat) : Nat × Nat × Nat :=
  ((yF 8031 1970 N).1, (mF (yF 8031 1970 N).1 12 1 (yF 8031 1970 N).2).1, (mF (yF 8031 1970 N).1 12 1 (yF 8031 1970 N).2).2 + 1)
set_option maxRecDepth 100000 in
theorem civN_is {N : Nat} (h : N ≤ 2932896) : IsCiv N (civN N).1 (civN N).2.1 (civN N).2.2 := by
  have h1 := yF_spec 8031 1970 N (by omega) (by
    have h2 := nyN_mono (y := 10000) (k := 1) (by omega)
    rw [nyN_last] at h2
    rw [nyN_first, show (1970 + 8031 : Nat) = 10000 + 1 from rfl]; omega)
  rw [nyN_first] at h1
  have h2 := mF_spec (yF 8031 1970 N).1 12 1 (yF 8031 1970 N).2 (by rw [mdN_one, mdN_thirteen]; omega)
  rw [mdN_one] at h2
  unfold civN
  generalize yF 8031 1970 N = p at h1 h2
  generalize mF p.1 12 1 p.2 = q at h2
  obtain ⟨y, n⟩ := p
  obtain ⟨m, d⟩ := q
  simp only at h1 h2 ⊢
  have hy2 : y ≤ 9999 := by
    rcases Nat.lt_or_ge 9999 y with e | e
    · have := nyN_mono (y := 10000) (k := y - 10000) (by omega)
      rw [nyN_last, show 10000 + (y - 10000) = y by omega] at this
      omega
    · exact e
  have hm := lenI_pos (y := y) (m := m) (by have := lenN_int y m; omega)
  exact ⟨h1.2.2, hy2, h2.2.2, by omega, by omega, by omega, by omega⟩
theorem IsCiv.civ {N y m d : Nat} (h : IsCiv N y m d) : civN N = (y, m, d) := by
  obtain ⟨e1, e2, e3⟩ := (civN_is h.le).one h
  generalize civN N = p at *
  obtain ⟨a, b, c⟩ := p
  simp only at e1 e2 e3
  rw [e1, e2, e3]
/-- What Civil answers. -/
def civB (n : Int) : Int × Int × Int × Bool := if n < 0 ∨ 2932896 < n then (0, 0, 0, false) else ((civN n.toNat).1, (civN n.toNat).2.1, (civN n.toNat).2.2, true)
/-- What Days answers. -/
def daysB (y m d : Int) : Int × Bool := if y < 1970 ∨ 9999 < y ∨ d < 1 ∨ lenI y m < d then (0, false) else ((nyN y.toNat : Int) + (mdN y.toNat m.toNat : Int) + (d - 1), true)
theorem daysB_bd (y m d : Int) : 0 ≤ (daysB y m d).1 ∧ (daysB y m d).1 ≤ 2932896 := by
  unfold daysB
  split
  · exact ⟨by omega, by omega⟩
  · rename_i h
    have hm := lenI_pos (y := y) (m := m) (by omega)
    have h1 := mdN_le y.toNat (m := m.toNat) (by omega)
    have h2 := lenN_int y.toNat m.toNat
    rw [show ((y.toNat : Nat) : Int) = y by omega, show ((m.toNat : Nat) : Int) = m by omega] at h2
    have h3 := nyN_lt (y := y.toNat) (z := 10000) (by omega) (by omega)
    rw [nyN_last] at h3
    simp only
    omega
theorem IsCiv.days {N y m d : Nat} (h : IsCiv N y m d) : daysB y m d = ((N : Int), true) := by
  have := h.y1; have := h.y2; have := h.d1; have := h.d2; have h3 := h.eq
  have h2 := lenN_int y m
  unfold daysB
  rw [if_neg (by omega)]
  simp only [Int.toNat_natCast, Prod.mk.injEq, and_true]
  omega
theorem days_civ {n : Int} (h0 : 0 ≤ n) (h1 : n ≤ 2932896) : daysB (civN n.toNat).1 (civN n.toNat).2.1 (civN n.toNat).2.2 = (n, true) := by
  rw [(civN_is (N := n.toNat) (by omega)).days]
  simp only [Prod.mk.injEq, and_true]; omega
/-- The next day. -/
theorem IsCiv.next {N y m d : Nat} (h : IsCiv N y m d) (hN : N < 2932896) :
    (d < lenN y m ∧ civN (N + 1) = (y, m, d + 1)) ∨ (d = lenN y m ∧ m < 12 ∧ civN (N + 1) = (y, m + 1, 1)) ∨ (d = lenN y m ∧ m = 12 ∧ civN (N + 1) = (y + 1, 1, 1)) := by
  obtain ⟨y1, y2, m1, m2, d1, d2, eq⟩ := h
  have hl := mdN_le y m2
  rcases Nat.lt_or_ge d (lenN y m) with e | e
  · exact Or.inl ⟨e, IsCiv.civ ⟨y1, y2, m1, m2, by omega, by omega, by omega⟩⟩
  · rcases Nat.lt_or_ge m 12 with e2 | e2
    · refine Or.inr (Or.inl ⟨by omega, e2, IsCiv.civ ⟨y1, y2, by omega, by omega, by omega, ?_, ?_⟩⟩)
      · have := lenN_low (y := y) (m := m + 1) (by omega) (by omega); omega
      · show nyN y + (mdN y m + lenN y m) + 1 = N + 1 + 1; omega
    · have hm : m = 12 := by omega
      subst hm
      have h13 := mdN_thirteen y
      rw [show mdN y 13 = mdN y 12 + lenN y 12 from rfl] at h13
      have hn := nyN_next y1
      refine Or.inr (Or.inr ⟨by omega, rfl, IsCiv.civ ⟨by omega, ?_, by omega, by omega, by omega, ?_, ?_⟩⟩)
      · rcases Nat.lt_or_ge 9998 y with e3 | e3
        · have : nyN (y + 1) = 2932897 := by rw [show y + 1 = 10000 by omega, nyN_last]
          omega
        · omega
      · have := lenN_low (y := y + 1) (m := 1) (by omega) (by omega); omega
      · rw [mdN_one]; omega
end Go.Proofs.YtkjjjbipmobdaaaGreatDoor

/- Layer 13: years, months, days. -/
namespace Go.Proofs.YtkjjjbipmobdaaaGreatDoor
open Go.RowKit

theorem leap13_any (y : Int) (_h0 : -9223372036854775808 ≤ y) (_h1 : y ≤ 9223372036854775807) (w : World) : Calls Tryz.prog 159 #[.int .i64 y] w fun e w' => e = .returned (.bool (leapI y)) ∧ w = w' := by
  have e4 := tm_zero y 4
  have e100 : (y.tmod 100 != 0) = !decide (y % 100 = 0) := by rw [bne, tm_zero]
  have e400 := tm_zero y 400
  have hl : leapI y = (decide (y % 4 = 0) && (!decide (y % 100 = 0) || decide (y % 400 = 0))) := by simp [leapI]
  have i1 : y % 400 = 0 → y % 4 = 0 := by omega
  by_cases a4 : y % 4 = 0 <;> by_cases a1 : y % 100 = 0 <;> by_cases a2 : y % 400 = 0
  all_goals simp only [a4, a1, a2, decide_true, decide_false, Bool.not_true, Bool.not_false, Bool.and_true, Bool.and_false, Bool.or_true, Bool.or_false] at e4 e100 e400 hl
  all_goals (try (exact absurd (i1 a2) a4))
  all_goals rw [hl]
  all_goals clear hl i1 a4 a1 a2
  all_goals go_enter Tryz.func159, Tryz.ntmps159
  all_goals go_wp2_with fail
  all_goals go_ret
  all_goals exact ⟨rfl, rfl⟩
theorem refleap13_any (y : Int) (_h0 : -9223372036854775808 ≤ y) (_h1 : y ≤ 9223372036854775807) (w : World) : Calls Tryz.prog 146 #[.int .i64 y] w fun e w' => e = .returned (.bool (leapI y)) ∧ w = w' := by
  have e4 := tm_zero y 4
  have e100 : (y.tmod 100 != 0) = !decide (y % 100 = 0) := by rw [bne, tm_zero]
  have e400 := tm_zero y 400
  have hl : leapI y = (decide (y % 4 = 0) && (!decide (y % 100 = 0) || decide (y % 400 = 0))) := by simp [leapI]
  have i1 : y % 400 = 0 → y % 4 = 0 := by omega
  by_cases a4 : y % 4 = 0 <;> by_cases a1 : y % 100 = 0 <;> by_cases a2 : y % 400 = 0
  all_goals simp only [a4, a1, a2, decide_true, decide_false, Bool.not_true, Bool.not_false, Bool.and_true, Bool.and_false, Bool.or_true, Bool.or_false] at e4 e100 e400 hl
  all_goals (try (exact absurd (i1 a2) a4))
  all_goals rw [hl]
  all_goals clear hl i1 a4 a1 a2
  all_goals go_enter Tryz.func146, Tryz.ntmps146
  all_goals go_wp2_with fail
  all_goals go_ret
  all_goals exact ⟨rfl, rfl⟩
end Go.Proofs.YtkjjjbipmobdaaaGreatDoor

/- Layer 13: a month's days; a year's first day. -/
namespace Go.Proofs.YtkjjjbipmobdaaaGreatDoor
open Go.RowKit

theorem lenI_31 {y m : Int} (h : m = 1 ∨ m = 3 ∨ m = 5 ∨ m = 7 ∨ m = 8 ∨ m = 10 ∨ m = 12) : lenI y m = 31 := by unfold lenI; rw [if_pos h]
theorem lenI_30 {y m : Int} (h : m = 4 ∨ m = 6 ∨ m = 9 ∨ m = 11) : lenI y m = 30 := by unfold lenI; rw [if_neg (by omega), if_pos h]
theorem lenI_feb (y : Int) : lenI y 2 = if leapI y then 29 else 28 := by unfold lenI; rw [if_neg (by omega), if_neg (by omega), if_pos rfl]
theorem lenI_none {y m : Int} (h : ¬ (m = 1 ∨ m = 3 ∨ m = 5 ∨ m = 7 ∨ m = 8 ∨ m = 10 ∨ m = 12)) (h2 : ¬ (m = 4 ∨ m = 6 ∨ m = 9 ∨ m = 11)) (h3 : m ≠ 2) : lenI y m = 0 := by unfold lenI; rw [if_neg h, if_neg h2, if_neg h3]

theorem length13_any (y m : Int) (h0 : -9223372036854775808 ≤ y) (h1 : y ≤ 9223372036854775807) (w : World) : Calls Tryz.prog 143 #[.int .i64 y, .int .i64 m] w fun e w' => e = .returned (.int .i64 (lenI y m)) ∧ w = w' := by
  by_cases c1 : m = 1 ∨ m = 3 ∨ m = 5 ∨ m = 7 ∨ m = 8 ∨ m = 10 ∨ m = 12
  · rw [lenI_31 c1]
    rcases c1 with rfl | rfl | rfl | rfl | rfl | rfl | rfl
    all_goals go_enter Tryz.func143, Tryz.ntmps143
    all_goals go_wp2_with fail
    all_goals go_ret
    all_goals exact ⟨rfl, rfl⟩
  by_cases c2 : m = 4 ∨ m = 6 ∨ m = 9 ∨ m = 11
  · rw [lenI_30 c2]
    rcases c2 with rfl | rfl | rfl | rfl
    all_goals clear c1
    all_goals go_enter Tryz.func143, Tryz.ntmps143
    all_goals go_wp2_with fail
    all_goals go_ret
    all_goals exact ⟨rfl, rfl⟩
  by_cases c3 : m = 2
  · subst c3
    clear c1 c2
    have hc := fun W : World => leap13_any y h0 h1 W
    cases hl : leapI y
    · rw [lenI_feb, hl]
      rw [hl] at hc
      clear hl
      go_enter Tryz.func143, Tryz.ntmps143
      go_wp2_with (go_at_call 159; refine (hc _).mono ?_; rintro e w1 ⟨rfl, rfl⟩)
      go_ret
      exact ⟨rfl, rfl⟩
    · rw [lenI_feb, hl]
      rw [hl] at hc
      clear hl
      go_enter Tryz.func143, Tryz.ntmps143
      go_wp2_with (go_at_call 159; refine (hc _).mono ?_; rintro e w1 ⟨rfl, rfl⟩)
      go_ret
      exact ⟨rfl, rfl⟩
  · rw [lenI_none c1 c2 c3]
    have f1 : (m == 1) = false := by rw [beq_eq_false_iff_ne]; omega
    have f2 : (m == 2) = false := by rw [beq_eq_false_iff_ne]; omega
    have f3 : (m == 3) = false := by rw [beq_eq_false_iff_ne]; omega
    have f4 : (m == 4) = false := by rw [beq_eq_false_iff_ne]; omega
    have f5 : (m == 5) = false := by rw [beq_eq_false_iff_ne]; omega
    have f6 : (m == 6) = false := by rw [beq_eq_false_iff_ne]; omega
    have f7 : (m == 7) = false := by rw [beq_eq_false_iff_ne]; omega
    have f8 : (m == 8) = false := by rw [beq_eq_false_iff_ne]; omega
    have f9 : (m == 9) = false := by rw [beq_eq_false_iff_ne]; omega
    have f10 : (m == 10) = false := by rw [beq_eq_false_iff_ne]; omega
    have f11 : (m == 11) = false := by rw [beq_eq_false_iff_ne]; omega
    have f12 : (m == 12) = false := by rw [beq_eq_false_iff_ne]; omega
    clear c1 c2 c3
    go_enter Tryz.func143, Tryz.ntmps143
    go_wp2_with fail
    go_ret
    exact ⟨rfl, rfl⟩
theorem reflength13_any (y m : Int) (h0 : -9223372036854775808 ≤ y) (h1 : y ≤ 9223372036854775807) (w : World) : Calls Tryz.prog 145 #[.int .i64 y, .int .i64 m] w fun e w' => e = .returned (.int .i64 (lenI y m)) ∧ w = w' := by
  by_cases c1 : m = 1 ∨ m = 3 ∨ m = 5 ∨ m = 7 ∨ m = 8 ∨ m = 10 ∨ m = 12
  · rw [lenI_31 c1]
    rcases c1 with rfl | rfl | rfl | rfl | rfl | rfl | rfl
    all_goals go_enter Tryz.func145, Tryz.ntmps145
    all_goals go_wp2_with fail
    all_goals go_ret
    all_goals exact ⟨rfl, rfl⟩
  by_cases c2 : m = 4 ∨ m = 6 ∨ m = 9 ∨ m = 11
  · rw [lenI_30 c2]
    rcases c2 with rfl | rfl | rfl | rfl
    all_goals clear c1
    all_goals go_enter Tryz.func145, Tryz.ntmps145
    all_goals go_wp2_with fail
    all_goals go_ret
    all_goals exact ⟨rfl, rfl⟩
  by_cases c3 : m = 2
  · subst c3
    clear c1 c2
    have hc := fun W : World => refleap13_any y h0 h1 W
    cases hl : leapI y
    · rw [lenI_feb, hl]
      rw [hl] at hc
      clear hl
      go_enter Tryz.func145, Tryz.ntmps145
      go_wp2_with (go_at_call 146; refine (hc _).mono ?_; rintro e w1 ⟨rfl, rfl⟩)
      go_ret
      exact ⟨rfl, rfl⟩
    · rw [lenI_feb, hl]
      rw [hl] at hc
      clear hl
      go_enter Tryz.func145, Tryz.ntmps145
      go_wp2_with (go_at_call 146; refine (hc _).mono ?_; rintro e w1 ⟨rfl, rfl⟩)
      go_ret
      exact ⟨rfl, rfl⟩
  · rw [lenI_none c1 c2 c3]
    have f1 : (m == 1) = false := by rw [beq_eq_false_iff_ne]; omega
    have f2 : (m == 2) = false := by rw [beq_eq_false_iff_ne]; omega
    have f3 : (m == 3) = false := by rw [beq_eq_false_iff_ne]; omega
    have f4 : (m == 4) = false := by rw [beq_eq_false_iff_ne]; omega
    have f5 : (m == 5) = false := by rw [beq_eq_false_iff_ne]; omega
    have f6 : (m == 6) = false := by rw [beq_eq_false_iff_ne]; omega
    have f7 : (m == 7) = false := by rw [beq_eq_false_iff_ne]; omega
    have f8 : (m == 8) = false := by rw [beq_eq_false_iff_ne]; omega
    have f9 : (m == 9) = false := by rw [beq_eq_false_iff_ne]; omega
    have f10 : (m == 10) = false := by rw [beq_eq_false_iff_ne]; omega
    have f11 : (m == 11) = false := by rw [beq_eq_false_iff_ne]; omega
    have f12 : (m == 12) = false := by rw [beq_eq_false_iff_ne]; omega
    clear c1 c2 c3
    go_enter Tryz.func145, Tryz.ntmps145
    go_wp2_with fail
    go_ret
    exact ⟨rfl, rfl⟩
theorem leaps13_any (y : Nat) (h1 : y ≤ 100000) (w : World) : Calls Tryz.prog 160 #[.int .i64 y] w fun e w' => e = .returned (.int .i64 (lpN y)) ∧ w = w' := by
  have hq := lpN_int y
  have q4 : ((y : Int).tdiv 4) = (y : Int) / 4 := Int.tdiv_eq_ediv_of_nonneg (by omega)
  have q100 : ((y : Int).tdiv 100) = (y : Int) / 100 := Int.tdiv_eq_ediv_of_nonneg (by omega)
  have q400 : ((y : Int).tdiv 400) = (y : Int) / 400 := Int.tdiv_eq_ediv_of_nonneg (by omega)
  replace hq := Lib.hid hq
  go_enter Tryz.func160, Tryz.ntmps160
  go_wp2_with fail
  go_ret
  exact ⟨ret_int (by have := hq.out; omega), rfl⟩
theorem lpN_1969 : lpN 1969 = 477 := by decide
theorem newYear13_any (y : Nat) (h0 : 1970 ≤ y) (h1 : y ≤ 10000) (w : World) : Calls Tryz.prog 144 #[.int .i64 y] w fun e w' => e = .returned (.int .i64 (nyN y)) ∧ w = w' := by
  have hc := fun W : World => leaps13_any (y - 1) (by omega) W
  have hd := fun W : World => leaps13_any 1969 (by omega) W
  rw [show ((y - 1 : Nat) : Int) = (y : Int) - 1 by omega] at hc
  rw [lpN_1969] at hd
  have hn := nyN_int h0
  have hb : lpN (y - 1) ≤ 100000 := by unfold lpN; omega
  generalize lpN (y - 1) = L at *
  generalize nyN y = M at *
  replace hn := Lib.hid hn
  go_enter Tryz.func144, Tryz.ntmps144
  go_wp2_with fail
  refine (hc _).mono ?_; rintro e w1 ⟨rfl, rfl⟩
  go_wp2_with fail
  refine (hd _).mono ?_; rintro e w1 ⟨rfl, rfl⟩
  go_wp2_with fail
  go_ret
  exact ⟨ret_int (by have := hn.out; omega), rfl⟩
end Go.Proofs.YtkjjjbipmobdaaaGreatDoor

/- Layer 13: a day's number. -/
namespace Go.Proofs.YtkjjjbipmobdaaaGreatDoor
open Go.RowKit

theorem vi64 {a b : Int} (h : a = b) : Value.int .i64 a = .int .i64 b := by rw [h]
theorem ret_ib {a b : Int} {p q : Bool} (h : a = b) (h2 : p = q) : Ending.returned (.tuple #[.int .i64 a, .bool p]) = .returned (.tuple #[.int .i64 b, .bool q]) := by rw [h, h2]
theorem daysB_no {y m d : Int} (h : y < 1970 ∨ 9999 < y ∨ d < 1 ∨ lenI y m < d) : daysB y m d = (0, false) := by unfold daysB; rw [if_pos h]
theorem daysB_yes {y m d : Int} (h : ¬ (y < 1970 ∨ 9999 < y ∨ d < 1 ∨ lenI y m < d)) : ∃ Y M D : Nat, y = Y ∧ m = M ∧ d = D ∧ 1970 ≤ Y ∧ Y ≤ 9999 ∧ 1 ≤ M ∧ M ≤ 12 ∧ 1 ≤ D ∧ D ≤ lenN Y M ∧ D ≤ 31 ∧ daysB y m d = (((nyN Y + mdN Y M + D - 1 : Nat) : Int), true) := by
  have hm := lenI_pos (y := y) (m := m) (by omega)
  have hb := lenI_bd y m
  obtain ⟨Y, rfl⟩ : ∃ Y : Nat, y = Y := ⟨y.toNat, by omega⟩
  obtain ⟨M, rfl⟩ : ∃ M : Nat, m = M := ⟨m.toNat, by omega⟩
  obtain ⟨D, rfl⟩ : ∃ D : Nat, d = D := ⟨d.toNat, by omega⟩
  have hl := lenN_int Y M
  refine ⟨Y, M, D, rfl, rfl, rfl, by omega, by omega, by omega, by omega, by omega, by omega, by omega, ?_⟩
  unfold daysB
  rw [if_neg h]
  simp only [Int.toNat_natCast, Prod.mk.injEq, and_true]
  omega
theorem day_bd {Y M : Nat} (h0 : 1970 ≤ Y) (h1 : Y ≤ 9999) (h2 : M ≤ 12) : nyN Y + mdN Y M ≤ 2932896 := by
  have h3 := mdN_le Y h2
  have h4 := nyN_lt (y := Y) (z := 10000) h0 (by omega)
  rw [nyN_last] at h4
  by_cases h5 : M = 0
  · subst h5; have := yrN_bd Y; show nyN Y + 0 ≤ _; omega
  · have := lenN_low (y := Y) (m := M) (by omega) h2; omega

set_option maxHeartbeats 400000 in
theorem days13_any (y m d : Int) (h0 : -9223372036854775808 ≤ y) (h1 : y ≤ 9223372036854775807) (w : World) :
    Calls Tryz.prog 128 #[.int .i64 y, .int .i64 m, .int .i64 d] w fun e w' => e = .returned (.tuple #[.int .i64 (daysB y m d).1, .bool (daysB y m d).2]) ∧ w = w' := by
  by_cases c : y < 1970 ∨ 9999 < y ∨ d < 1 ∨ lenI y m < d
  · rw [daysB_no c]
    have hc := length13_any y m h0 h1 w
    by_cases c1 : y < 1970
    · clear c hc
      go_enter Tryz.func128, Tryz.ntmps128
      go_wp2_with fail
      go_ret2
      exact ⟨rfl, rfl⟩
    by_cases c2 : 9999 < y
    · clear c hc
      go_enter Tryz.func128, Tryz.ntmps128
      go_wp2_with fail
      go_ret2
      exact ⟨rfl, rfl⟩
    by_cases c3 : d < 1
    · clear c hc
      go_enter Tryz.func128, Tryz.ntmps128
      go_wp2_with fail
      go_ret2
      exact ⟨rfl, rfl⟩
    have c4 : lenI y m < d := by omega
    clear c
    generalize lenI y m = L at hc c4
    go_enter Tryz.func128, Tryz.ntmps128
    go_wp2_with fail
    refine hc.mono ?_; rintro e w1 ⟨rfl, rfl⟩
    go_wp2_with fail
    go_ret2
    exact ⟨rfl, rfl⟩
  · obtain ⟨Y, M, D, rfl, rfl, rfl, y1, y2, m1, m2, d1, d2, d3, he⟩ := daysB_yes c
    rw [he]
    clear he c h0 h1
    have hbd := Lib.hid (fun k (hk : k ≤ 12) => day_bd (M := k) y1 y2 hk)
    have hc := length13_any Y M (by omega) (by omega) w
    rw [← lenN_int] at hc
    have hn := newYear13_any Y y1 (by omega) w
    have hl := Lib.hid (fun (k : Nat) (W : World) => length13_any Y k (by omega) (by omega) W)
    have g1 : ¬ ((Y : Int) < 1970) := by omega
    have g2 : ¬ ((9999 : Int) < Y) := by omega
    have g3 : ¬ ((D : Int) < 1) := by omega
    have g4 : ¬ ((lenN Y M : Nat) < (D : Int)) := by omega
    have hx : nyN Y ≤ 2932896 := by have := hbd.out 0 (by omega); rwa [show mdN Y 0 = 0 from rfl, Nat.add_zero] at this
    have hX := Lib.hid (show nyN Y = nyN Y from rfl)
    generalize lenN Y M = L at hc g4 d2
    have g5 : ¬ L < D := by omega
    generalize hXe : nyN Y = X at hn hx
    replace hXe := Lib.hid hXe
    clear hX
    have hs0 := Lib.hid (show X + D - 1 + 1 = X + mdN Y 1 + D by rw [mdN_one]; omega)
    go_enter Tryz.func128, Tryz.ntmps128
    go_wp2_with fail
    refine hc.mono ?_; rintro e w1 ⟨rfl, rfl⟩
    go_wp2_with fail
    refine hn.mono ?_; rintro e w1 ⟨rfl, rfl⟩
    go_wp2_with fail
    clear hc hn
    go_loopw [8, 9] (fun n a wr => ∃ k z : Nat, 1 ≤ k ∧ k ≤ M ∧ z ≤ 3000000 ∧ n = .int .i64 z ∧ a = .int .i64 k ∧ Hid (z + 1 = X + mdN Y k + D) ∧ Hid (w = wr)) (fun _ a _ => M - (intOf a).toNat)
    case atStart => exact ⟨1, X + D - 1, Nat.le_refl _, m1, by omega, vi64 (by omega), rfl, hs0, rfl⟩
    case round =>
      obtain ⟨k, z, hk1, hk, hz, rfl, rfl, hzz, hwr⟩ := hrel
      by_cases hlt : k < M
      · have hcl := hl.out k wr
        rw [← lenN_int] at hcl
        have hl31 := (lenN_low (y := Y) (m := k) (by omega) (by omega)).2
        have hz2 := Lib.hid (show z + lenN Y k + 1 = X + mdN Y (k + 1) + D by show _ = X + (mdN Y k + lenN Y k) + D; have := hzz.out; omega)
        have hz3 : z + lenN Y k ≤ 3000000 := by have := hbd.out (k + 1) (by omega); have := hz2.out; rw [hXe.out] at *; omega
        have hlt1 : (k : Int) < M := by omega
        generalize lenN Y k = L2 at *
        go_wp2_with fail
        refine hcl.mono ?_; rintro e w1 ⟨rfl, rfl⟩
        go_wp2_with fail
        exact ⟨⟨k + 1, z + L2, by omega, by omega, hz3, vi64 (by omega), vi64 (by omega), hz2, hwr⟩, by simp [intOf]; omega⟩
      · have hke : ¬ ((k : Int) < M) := by omega
        have he := Lib.hid (show z = X + mdN Y M + D - 1 by rw [show M = k by omega]; have := hzz.out; omega)
        go_wp2_with fail
        go_ret2
        exact ⟨ret_ib (by rw [he.out]) rfl, hwr.out⟩

set_option maxHeartbeats 400000 in
theorem refdays13_any (y m d : Int) (h0 : -9223372036854775808 ≤ y) (h1 : y ≤ 9223372036854775807) (w : World) :
    Calls Tryz.prog 129 #[.int .i64 y, .int .i64 m, .int .i64 d] w fun e w' => e = .returned (.tuple #[.int .i64 (daysB y m d).1, .bool (daysB y m d).2]) ∧ w = w' := by
  by_cases c : y < 1970 ∨ 9999 < y ∨ d < 1 ∨ lenI y m < d
  · rw [daysB_no c]
    have hc := reflength13_any y m h0 h1 w
    by_cases c1 : y < 1970
    · clear c hc
      go_enter Tryz.func129, Tryz.ntmps129
      go_wp2_with fail
      go_ret2
      exact ⟨rfl, rfl⟩
    by_cases c2 : 9999 < y
    · clear c hc
      go_enter Tryz.func129, Tryz.ntmps129
      go_wp2_with fail
      go_ret2
      exact ⟨rfl, rfl⟩
    by_cases c3 : d < 1
    · clear c hc
      go_enter Tryz.func129, Tryz.ntmps129
      go_wp2_with fail
      go_ret2
      exact ⟨rfl, rfl⟩
    have c4 : lenI y m < d := by omega
    clear c
    generalize lenI y m = L at hc c4
    go_enter Tryz.func129, Tryz.ntmps129
    go_wp2_with fail
    refine hc.mono ?_; rintro e w1 ⟨rfl, rfl⟩
    go_wp2_with fail
    go_ret2
    exact ⟨rfl, rfl⟩
  · obtain ⟨Y, M, D, rfl, rfl, rfl, y1, y2, m1, m2, d1, d2, d3, he⟩ := daysB_yes c
    rw [he]
    clear he c h0 h1
    have hbd := Lib.hid (fun k (hk : k ≤ 12) => day_bd (M := k) y1 y2 hk)
    have hc := reflength13_any Y M (by omega) (by omega) w
    rw [← lenN_int] at hc
    have hl := Lib.hid (fun (k : Nat) (W : World) => reflength13_any Y k (by omega) (by omega) W)
    have hlp := Lib.hid (fun (k : Nat) (hk : k ≤ 10000) (W : World) => refleap13_any k (by omega) (by omega) W)
    have g1 : ¬ ((Y : Int) < 1970) := by omega
    have g2 : ¬ ((9999 : Int) < Y) := by omega
    have g3 : ¬ ((D : Int) < 1) := by omega
    have g4 : ¬ ((lenN Y M : Nat) < (D : Int)) := by omega
    generalize lenN Y M = L at hc g4 d2
    have g5 : ¬ L < D := by omega
    have hs0 := Lib.hid (show D - 1 + 1 = nyN 1970 + D by rw [nyN_first]; omega)
    go_enter Tryz.func129, Tryz.ntmps129
    go_wp2_with fail
    refine hc.mono ?_; rintro e w1 ⟨rfl, rfl⟩
    go_wp2_with fail
    clear hc
    go_loopw [8, 9] (fun n a wr => ∃ k z : Nat, 1970 ≤ k ∧ k ≤ Y ∧ z ≤ 3000000 ∧ n = .int .i64 z ∧ a = .int .i64 k ∧ Hid (z + 1 = nyN k + D) ∧ Hid (w = wr)) (fun _ a _ => Y - (intOf a).toNat)
    case atStart => exact ⟨1970, D - 1, Nat.le_refl _, y1, by omega, vi64 (by omega), rfl, hs0, rfl⟩
    case round =>
      obtain ⟨k, z, hk1, hk, hz, rfl, rfl, hzz, hwr⟩ := hrel
      by_cases hlt : k < Y
      · have hcl := hlp.out k (by omega) wr
        have hz2 : z + yrN k + 1 = nyN (k + 1) + D := by rw [nyN_next hk1]; have := hzz.out; omega
        have hz3 : z + yrN k ≤ 3000000 := by
          have h5 := nyN_lt (y := k) (z := 10000) hk1 (by omega)
          rw [nyN_last] at h5
          have := hzz.out; omega
        unfold yrN at hz2 hz3
        have hlt1 : (k : Int) < Y := by omega
        cases hlb : leapI k
        · rw [hlb] at hz2 hz3 hcl
          simp only [Bool.false_eq_true, if_false] at hz2 hz3
          replace hz2 := Lib.hid hz2
          go_wp2_with fail
          refine hcl.mono ?_; rintro e w1 ⟨rfl, rfl⟩
          go_wp2_with fail
          exact ⟨⟨k + 1, z + 365, by omega, by omega, hz3, vi64 (by omega), vi64 (by omega), hz2, hwr⟩, by simp [intOf]; omega⟩
        · rw [hlb] at hz2 hz3 hcl
          simp only [if_true] at hz2 hz3
          replace hz2 := Lib.hid hz2
          go_wp2_with fail
          refine hcl.mono ?_; rintro e w1 ⟨rfl, rfl⟩
          go_wp2_with fail
          exact ⟨⟨k + 1, z + 366, by omega, by omega, hz3, vi64 (by omega), vi64 (by omega), hz2, hwr⟩, by simp [intOf]; omega⟩
      · have hke : ¬ ((k : Int) < Y) := by omega
        have hs := Lib.hid (show z + 1 = nyN Y + mdN Y 1 + D by
          have e0 := mdN_one Y
          have hk2 : Y = k := by omega
          have h5 := hzz.out
          rw [← hk2] at h5
          generalize nyN Y = a at *
          generalize mdN Y 1 = b at *
          omega)
        clear hzz
        go_wp2_with fail
        obtain ⟨wo, hwo⟩ : ∃ wo : World, wr = wo := ⟨_, rfl⟩
        rw [hwo] at hwr
        rw [hwo]
        clear hwo
        go_loopw [8, 10] (fun n a wr => ∃ k z : Nat, 1 ≤ k ∧ k ≤ M ∧ z ≤ 3000000 ∧ n = .int .i64 z ∧ a = .int .i64 k ∧ Hid (z + 1 = nyN Y + mdN Y k + D) ∧ Hid (w = wr)) (fun _ a _ => M - (intOf a).toNat)
        case atStart => exact ⟨1, z, Nat.le_refl _, m1, hz, rfl, rfl, hs, hwr⟩
        case round =>
          clear hs hwr
          obtain ⟨j, x, hj1, hj, hx, rfl, rfl, hxx, hwr⟩ := hrel
          by_cases hjt : j < M
          · have hcl := hl.out j wr
            rw [← lenN_int] at hcl
            have hl31 := (lenN_low (y := Y) (m := j) (by omega) (by omega)).2
            have hz2 := Lib.hid (show x + lenN Y j + 1 = nyN Y + mdN Y (j + 1) + D by show _ = nyN Y + (mdN Y j + lenN Y j) + D; have := hxx.out; omega)
            have hz3 : x + lenN Y j ≤ 3000000 := by have := hbd.out (j + 1) (by omega); have := hz2.out; omega
            have hlt1 : (j : Int) < M := by omega
            generalize lenN Y j = L2 at *
            go_wp2_with fail
            refine hcl.mono ?_; rintro e w1 ⟨rfl, rfl⟩
            go_wp2_with fail
            exact ⟨⟨j + 1, x + L2, by omega, by omega, hz3, vi64 (by omega), vi64 (by omega), hz2, hwr⟩, by simp [intOf]; omega⟩
          · have hje : ¬ ((j : Int) < M) := by omega
            have he := Lib.hid (show x = nyN Y + mdN Y M + D - 1 by rw [show M = j by omega]; have := hxx.out; omega)
            go_wp2_with fail
            go_ret2
            exact ⟨ret_ib (by rw [he.out]) rfl, hwr.out⟩
end Go.Proofs.YtkjjjbipmobdaaaGreatDoor
