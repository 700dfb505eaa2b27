/- Plain mathematics of layer 13: what a reader cuts off a text; what is read of it. Nothing of the program. -/
import Derived.Lib.Strings
import Derived.Test.YtjkppdjgacnfbaaDoorD13p
namespace Go.Proofs.YtjkppdjgacnfbaaDoor

def monthsL : List (List UInt8) := [[74, 97, 110], [70, 101, 98], [77, 97, 114], [65, 112, 114], [77, 97, 121], [74, 117, 110], [74, 117, 108], [65, 117, 103], [83, 101, 112], [79, 99, 116], [78, 111, 118], [68, 101, 99]]
def weekL : List (List UInt8) := [[77, 111, 110], [84, 117, 101], [87, 101, 100], [84, 104, 117], [70, 114, 105], [83, 97, 116], [83, 117, 110]]

/-- What is left of a text, and whether a piece wasn't there. -/
abbrev RSt := List UInt8 × Bool
def skipC (s : RSt) (p : List UInt8) : Bool × RSt := (Lib.hasPrefix s.1 p, (Lib.trimPrefix s.1 p, s.2))
def signC (s : RSt) (p : List UInt8) : RSt := (Lib.trimPrefix s.1 p, if Lib.hasPrefix s.1 p then s.2 else true)
def dgB (c : UInt8) : Bool := decide (48 ≤ c.toNat) && decide (c.toNat ≤ 57)
/-- How many digits come. -/
def aheadL : List UInt8 → Nat
  | [] => 0
  | c :: t => if dgB c then aheadL t + 1 else 0
theorem aheadL_le (l : List UInt8) : aheadL l ≤ l.length := by
  induction l with
  | nil => simp [aheadL]
  | cons c t ih => unfold aheadL; split <;> simp <;> omega
theorem aheadL_at {l : List UInt8} {k : Nat} (hk : k < l.length) : aheadL (l.drop k) = if 48 ≤ bt l k ∧ bt l k ≤ 57 then aheadL (l.drop (k + 1)) + 1 else 0 := by
  rw [List.drop_eq_getElem_cons hk, aheadL]
  have h : bt l k = ((l[k]).toNat : Int) := by unfold bt; simp [List.getD, hk]
  have hb : dgB l[k] = decide (48 ≤ bt l k ∧ bt l k ≤ 57) := by
    rw [h, Bool.eq_iff_iff, dgB, Bool.and_eq_true, decide_eq_true_eq, decide_eq_true_eq, decide_eq_true_eq]
    omega
  rw [hb]
  by_cases c : 48 ≤ bt l k ∧ bt l k ≤ 57 <;> simp [c]
theorem aheadL_end {l : List UInt8} {k : Nat} (hk : ¬ k < l.length) : aheadL (l.drop k) = 0 := by rw [List.drop_eq_nil_of_le (by omega)]; rfl
theorem aheadL_dg {l : List UInt8} {k : Nat} (h : k < aheadL l) : 48 ≤ bt l k ∧ bt l k ≤ 57 := by
  induction l generalizing k with
  | nil => simp [aheadL] at h
  | cons c t ih =>
    unfold aheadL at h
    split at h
    · rename_i hc
      cases k with
      | zero =>
        rw [dgB, Bool.and_eq_true, decide_eq_true_eq, decide_eq_true_eq] at hc
        unfold bt; simp only [List.getD_cons_zero]; omega
      | succ k =>
        have := ih (k := k) (by omega)
        unfold bt at this ⊢
        simpa only [List.getD_cons_succ] using this
    · omega
/-- The number of digits. -/
def valN (n : Nat) : List UInt8 → Nat
  | [] => n
  | c :: t => valN (n * 10 + (c.toNat - 48)) t
theorem valN_snoc (n : Nat) (l : List UInt8) (c : UInt8) : valN n (l ++ [c]) = valN n l * 10 + (c.toNat - 48) := by
  induction l generalizing n with
  | nil => rfl
  | cons d t ih => exact ih _
theorem valN_next {l : List UInt8} {k : Nat} (hk : k < l.length) (h : 48 ≤ bt l k) : ((valN 0 (l.take (k + 1)) : Nat) : Int) = (valN 0 (l.take k) : Nat) * 10 + (bt l k - 48) := by
  rw [List.take_succ_eq_append_getElem hk, valN_snoc]
  have h1 : bt l k = ((l[k]).toNat : Int) := by unfold bt; simp [List.getD, hk]
  omega
theorem valN_bd {l : List UInt8} {k : Nat} (h : k ≤ aheadL l) : valN 0 (l.take k) < 10 ^ k := by
  induction k with
  | zero => rw [List.take_zero]; exact Nat.pow_pos (n := 0) (by decide : 0 < 10)
  | succ k ih =>
    have h1 := aheadL_dg (l := l) (k := k) (by omega)
    have h2 := valN_next (l := l) (k := k) (by have := aheadL_le l; omega) h1.1
    have h3 := ih (by omega)
    rw [Nat.pow_succ]
    generalize valN 0 (l.take (k + 1)) = a at *
    generalize valN 0 (l.take k) = b at *
    generalize 10 ^ k = c at *
    omega
def numC (k : Nat) (s : RSt) : Nat × RSt := if aheadL s.1 < k then (0, (s.1, true)) else (valN 0 (s.1.take k), (s.1.drop k, s.2))
theorem numC_bd (k : Nat) (s : RSt) : (numC k s).1 < 10 ^ k := by
  unfold numC
  split
  · exact Nat.pow_pos (by omega)
  · exact valN_bd (by omega)
def digitsC (s : RSt) : RSt := (s.1.drop (aheadL s.1), if aheadL s.1 = 0 then true else s.2)
def partC (most : Nat) (s : RSt) : Nat × RSt := if most < (numC 2 s).1 then (0, ((numC 2 s).2.1, true)) else numC 2 s
theorem partC_bd (most : Nat) (s : RSt) : (partC most s).1 ≤ most := by
  unfold partC
  split <;> omega
/-- Behind a day's name, if there is one. -/
def wkF : List (List UInt8) → List UInt8 → List UInt8
  | [], l => l
  | n :: t, l => if Lib.hasPrefix l (n ++ [44, 32]) then Lib.trimPrefix l (n ++ [44, 32]) else wkF t l
def weekdayC (s : RSt) : RSt := (wkF weekL s.1, s.2)
def dayC (s : RSt) : Nat × RSt := if aheadL s.1 = 1 then numC 1 s else numC 2 s
theorem dayC_bd (s : RSt) : (dayC s).1 ≤ 9999 := by
  unfold dayC
  split
  · have := numC_bd 1 s; omega
  · have := numC_bd 2 s; omega
/-- A month's number by its name. -/
def mIx (i : Nat) : List (List UInt8) → List UInt8 → Nat
  | [], _ => 0
  | n :: t, l => if n == l then i + 1 else mIx (i + 1) t l
def monIx (l : List UInt8) : Nat := mIx 0 monthsL l
theorem mIx_le (t : List (List UInt8)) (i : Nat) (l : List UInt8) : mIx i t l ≤ i + t.length := by
  induction t generalizing i with
  | nil => simp [mIx]
  | cons n t ih => unfold mIx; split <;> simp <;> have := ih (i + 1) <;> omega
theorem monIx_le (l : List UInt8) : monIx l ≤ 12 := mIx_le monthsL 0 l
def monF : List (List UInt8) → List UInt8 → Option (Nat × List UInt8)
  | [], _ => none
  | n :: t, l => if Lib.hasPrefix l n then some (monIx n, Lib.trimPrefix l n) else monF t l
def monthC (s : RSt) : Nat × RSt := match monF monthsL s.1 with
  | some (m, t) => (m, (t, s.2))
  | none => (0, (s.1, true))
theorem monF_le (t : List (List UInt8)) {l u : List UInt8} {m : Nat} (h : monF t l = some (m, u)) : m ≤ 12 := by
  induction t with
  | nil => cases h
  | cons n t ih =>
    unfold monF at h
    split at h
    · injection h with h; injection h with h _; rw [← h]; exact monIx_le n
    · exact ih h
theorem monthC_bd (s : RSt) : (monthC s).1 ≤ 12 := by
  unfold monthC
  cases h : monF monthsL s.1 with
  | none => simp
  | some p => obtain ⟨m, u⟩ := p; exact monF_le _ h
def yearC (s : RSt) : Nat × RSt := if aheadL s.1 = 2 then ((if (numC 2 s).1 < 50 then 2000 + (numC 2 s).1 else 1900 + (numC 2 s).1), (numC 2 s).2) else numC 4 s
theorem yearC_bd (s : RSt) : (yearC s).1 ≤ 9999 := by
  unfold yearC
  split
  · have := numC_bd 2 s
    generalize numC 2 s = p at *
    show (if p.1 < 50 then 2000 + p.1 else 1900 + p.1) ≤ 9999
    split <;> omega
  · have := numC_bd 4 s; omega
def hoursC (p : List UInt8) (s : RSt) : Nat × RSt :=
  ((partC 23 s).1 * 3600 + (partC 59 (signC (partC 23 s).2 p)).1 * 60, (partC 59 (signC (partC 23 s).2 p)).2)
theorem hoursC_bd (p : List UInt8) (s : RSt) : (hoursC p s).1 ≤ 86340 := by
  unfold hoursC
  have h1 := partC_bd 23 s
  have h2 := partC_bd 59 (signC (partC 23 s).2 p)
  show _ * 3600 + _ * 60 ≤ _
  omega
def secondsC (s : RSt) : Nat × RSt := partC 59 (signC s [58])
theorem secondsC_bd (s : RSt) : (secondsC s).1 ≤ 59 := partC_bd _ _
def offsetC (p : List UInt8) (s : RSt) : Int × RSt :=
  if (skipC s [45]).1 then (-((hoursC p (skipC s [45]).2).1 : Int), (hoursC p (skipC s [45]).2).2)
  else (((hoursC p (signC (skipC s [45]).2 [43])).1 : Int), (hoursC p (signC (skipC s [45]).2 [43])).2)
theorem offsetC_bd (p : List UInt8) (s : RSt) : -86340 ≤ (offsetC p s).1 ∧ (offsetC p s).1 ≤ 86340 := by
  unfold offsetC
  have h1 := hoursC_bd p (skipC s [45]).2
  have h2 := hoursC_bd p (signC (skipC s [45]).2 [43])
  split
  · exact ⟨by show _ ≤ -((hoursC p (skipC s [45]).2).1 : Int); omega, by show -((hoursC p (skipC s [45]).2).1 : Int) ≤ _; omega⟩
  · exact ⟨by show _ ≤ ((hoursC p (signC (skipC s [45]).2 [43])).1 : Int); omega, by show ((hoursC p (signC (skipC s [45]).2 [43])).1 : Int) ≤ _; omega⟩
/-- A zone's hours by its name. -/
def zoneNm (l : List UInt8) : Option Int :=
  if l == [71, 77, 84] || l == [85, 84] || l == [85, 84, 67] || l == [90] then some 0
  else if l == [69, 68, 84] then some (-4)
  else if l == [69, 83, 84] || l == [67, 68, 84] then some (-5)
  else if l == [67, 83, 84] || l == [77, 68, 84] then some (-6)
  else if l == [77, 83, 84] || l == [80, 68, 84] then some (-7)
  else if l == [80, 83, 84] then some (-8)
  else none
def zoneC (s : RSt) : Int × RSt := match zoneNm s.1 with
  | some z => (z * 3600, ([], s.2))
  | none => offsetC [] s
theorem zoneNm_bd {l : List UInt8} {z : Int} (h : zoneNm l = some z) : -8 ≤ z ∧ z ≤ 0 := by
  unfold zoneNm at h
  repeat' split at h
  all_goals first | (injection h with h; subst h; exact ⟨by decide, by decide⟩) | cases h
theorem zoneC_bd (s : RSt) : -86340 ≤ (zoneC s).1 ∧ (zoneC s).1 ≤ 86340 := by
  unfold zoneC
  cases h : zoneNm s.1 with
  | none => exact offsetC_bd _ _
  | some z =>
    have := zoneNm_bd h
    show _ ≤ z * 3600 ∧ z * 3600 ≤ _
    omega
def dateC (s : RSt) (y m d : Nat) (clock : Int) : Int × Bool :=
  if s.2 = true ∨ s.1 ≠ [] ∨ (daysB y m d).2 = false ∨ (daysB y m d).1 * 86400 + clock < 0 ∨ 253402300799 < (daysB y m d).1 * 86400 + clock then (0, false) else ((daysB y m d).1 * 86400 + clock, true)

/-- What Rfc822 answers, step by step. -/
def r822g (d m y : Nat) (q : Int × RSt) : Int × Bool := dateC (zoneC q.2).2 y m d (q.1 - (zoneC q.2).1)
def r822f (d m y h : Nat) (k : Bool × RSt) : Int × Bool := if k.1 then r822g d m y ((h : Int), k.2) else r822g d m y (((h + (secondsC k.2).1 : Nat) : Int), signC (secondsC k.2).2 [32])
def r822e (d m y : Nat) (h : Nat × RSt) : Int × Bool := r822f d m y h.1 (skipC h.2 [32])
def r822d (d m : Nat) (y : Nat × RSt) : Int × Bool := r822e d m y.1 (hoursC [58] (signC y.2 [32]))
def r822b (d : Nat) (m : Nat × RSt) : Int × Bool := r822d d m.1 (yearC (signC m.2 [32]))
def r822a (d : Nat × RSt) : Int × Bool := r822b d.1 (monthC (signC d.2 [32]))
def r822C (l : List UInt8) : Int × Bool := r822a (dayC (weekdayC (l, false)))
/-- What Rfc3339 answers, step by step. -/
def r3339g (y m d : Nat) (z : Int × RSt) : Int × Bool := dateC z.2 y m d z.1
def r3339f (y m d c : Nat) (s : RSt) : Int × Bool :=
  if (skipC s [90]).1 then r3339g y m d ((c : Int), (skipC s [90]).2)
  else if (skipC (skipC s [90]).2 [122]).1 then r3339g y m d ((c : Int), (skipC (skipC s [90]).2 [122]).2)
  else r3339g y m d ((c : Int) - (offsetC [58] (skipC (skipC s [90]).2 [122]).2).1, (offsetC [58] (skipC (skipC s [90]).2 [122]).2).2)
def r3339e (y m d c : Nat) (k : Bool × RSt) : Int × Bool := if k.1 then r3339f y m d c (digitsC k.2) else r3339f y m d c k.2
def r3339d (y m d h : Nat) (c : Nat × RSt) : Int × Bool := r3339e y m d (h + c.1) (skipC c.2 [46])
def r3339c (y m d : Nat) (h : Nat × RSt) : Int × Bool := r3339d y m d h.1 (secondsC h.2)
/-- Behind the T. -/
def teeC (s : RSt) : RSt := if (skipC s [84]).1 then (skipC s [84]).2 else if (skipC (skipC s [84]).2 [116]).1 then (skipC (skipC s [84]).2 [116]).2 else signC (skipC (skipC s [84]).2 [116]).2 [32]
def r3339b (y m : Nat) (d : Nat × RSt) : Int × Bool := r3339c y m d.1 (hoursC [58] (teeC d.2))
def r3339a (y : Nat) (m : Nat × RSt) : Int × Bool := r3339b y m.1 (numC 2 (signC m.2 [45]))
def r3339y (y : Nat × RSt) : Int × Bool := r3339a y.1 (numC 2 (signC y.2 [45]))
def r3339C (l : List UInt8) : Int × Bool := r3339y (numC 4 (l, false))
end Go.Proofs.YtjkppdjgacnfbaaDoor
