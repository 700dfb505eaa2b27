/- Plain mathematics of layer 13: what a reader cuts off a text; what is read of it. Nothing of the program. -/
import Derived.Lib.Strings
import Derived.Test.YtkjjjbipmobdaaaGreatDoorBR13
import Derived.Test.YtkjjjbipmobdaaaGreatDoorBR08
import Derived.Test.YtkjjjbipmobdaaaGreatDoorBR02
namespace Go.Proofs.YtkjjjbipmobdaaaGreatDoor

def monthsL : List (List UInt8) := [[74, 97, 110], [70, 101, 98], [77, 97, 114], [65, 112, 114], [77, 97, 121], [74, 117, 110], [74, 117, 108], [65, 117, 103], [83, 101, 112], [79, 99, 116], [78, 111, 118], [68, 101, 99]]
def weekL : List (List UInt8) := [[77, 111, 110], [84, 117, 101], [87, 101, 100], [84, 104, 117], [70, 114, 105], [83, 97, 116], [83, 117, 110]]

/-- What is left of a text, and whether a piece wasn't there. -/
abbrev RSt := List UInt8 × Bool
def skipC (s : RSt) (p : List UInt8) : Bool × RSt := (Lib.hasPrefix s.1 p, (Lib.trimPrefix s.1 p, s.2))
def signC (s : RSt) (p : List UInt8) : RSt := (Lib.trimPrefix s.1 p, if Lib.hasPrefix s.1 p then s.2 else true)
def dgB (c : UInt8) : Bool := decide (48 ≤ c.toNat) && decide (c.toNat ≤ 57)
/-- How many digits come. -/
def aheadL : List UInt8 → Nat
  | [] => 0
  | c :: t => if dgB c then aheadL t + 1 else 0
theorem aheadL_le (l : List UInt8) : aheadL l ≤ l.length := by
  induction l with
  | nil => simp [aheadL]
  | cons c t ih => unfold aheadL; split <;> simp <;> omega
theorem aheadL_at {l : List UInt8} {k : Nat} (hk : k < l.length) : aheadL (l.drop k) = if 48 ≤ bt l k ∧ bt l k ≤ 57 then aheadL (l.drop (k + 1)) + 1 else 0 := by
  rw [List.drop_eq_getElem_cons hk, aheadL]
  have h : bt l k = ((l[k]).toNat : Int) := by unfold bt; simp [List.getD, hk]
  have hb : dgB l[k] = decide (48 ≤ bt l k ∧ bt l k ≤ 57) := by
    rw [h, Bool.eq_iff_iff, dgB, Bool.and_eq_true, decide_eq_true_eq, decide_eq_true_eq, decide_eq_true_eq]
    omega
  rw [hb]
  by_cases c : 48 ≤ bt l k ∧ bt l k ≤ 57 <;> simp [c]
theorem aheadL_end {l : List UInt8} {k : Nat} (hk : ¬ k < l.length) : aheadL (l.drop k) = 0 := by rw [List.drop_eq_nil_of_le (by omega)]; rfl
theorem aheadL_dg {l : List UInt8} {k : Nat} (h : k < aheadL l) : 48 ≤ bt l k ∧ bt l k ≤ 57 := by
  induction l generalizing k with
  | nil => simp [aheadL] at h
  | cons c t ih =>
    unfold aheadL at h
    split at h
    · rename_i hc
      cases k with
      | zero =>
        rw [dgB, Bool.and_eq_true, decide_eq_true_eq, decide_eq_true_eq] at hc
        unfold bt; simp only [List.getD_cons_zero]; omega
      | succ k =>
        have := ih (k := k) (by omega)
        unfold bt at this ⊢
        simpa only [List.getD_cons_succ] using this
    · omega
/-- The number of digits. -/
def valN (n : Nat) : List UInt8 → Nat
  | [] => n
  | c :: t => valN (n * 10 + (c.toNat - 48)) t
theorem valN_snoc (n : Nat) (l : List UInt8) (c : UInt8) : valN n (l ++ [c]) = valN n l * 10 + (c.toNat - 48) := by
  induction l generalizing n with
  | nil => rfl
  | cons d t ih => exact ih _
theorem valN_next {l : List UInt8} {k : Nat} (hk : k < l.length) (h : 48 ≤ bt l k) : ((valN 0 (l.take (k + 1)) : Nat) : Int) = (valN 0 (l.take k) : Nat) * 10 + (bt l k - 48) := by
  rw [List.take_succ_eq_append_getElem hk, valN_snoc]
  have h1 : bt l k = ((l[k]).toNat : Int) := by unfold bt; simp [List.getD, hk]
  omega
theorem valN_bd {l : List UInt8} {k : Nat} (h : k ≤ aheadL l) : valN 0 (l.take k) < 10 ^ k := by
  induction k with
  | zero => rw [List.take_zero]; exact Nat.pow_pos (n := 0) (by decide : 0 < 10)
  | succ k ih =>
    have h1 := aheadL_dg (l := l) (k := k) (by omega)
    have h2 := valN_next (l := l) (k := k) (by have := aheadL_le l; omega) h1.1
    have h3 := ih (by omega)
    rw [Nat.pow_succ]
    generalize valN 0 (l.take (k + 1)) = a at *
    generalize valN 0 (l.take k) = b at *
    generalize 10 ^ k = c at *
    omega
def numD (k : Nat) (s : RSt) : Nat × RSt := if aheadL s.1 < k then (0, (s.1, true)) else (valN 0 (s.1.take k), (s.1.drop k, s.2))
theorem numC_bd (k : Nat) (s : RSt) : (numD k s).1 < 10 ^ k := by
  unfold numD
  split
  · exact Nat.pow_pos (by omega)
  · exact valN_bd (by omega)
def digitsC (s : RSt) : RSt := (s.1.drop (aheadL s.1), if aheadL s.1 = 0 then true else s.2)
def partC (most : Nat) (s : RSt) : Nat × RSt := if most < (numD 2 s).1 then (0, ((numD 2 s).2.1, true)) else numD 2 s
theorem partC_bd (most : Nat) (s : RSt) : (partC most s).1 ≤ most := by
  unfold partC
  split <;> omega
/-- Behind a day's name, if there is one. -/
def wkF : List (List UInt8) → List UInt8 → List UInt8
  | [], l => l
  | n :: t, l => if Lib.hasPrefix l (n ++ [44, 32]) then Lib.trimPrefix l (n ++ [44, 32]) else wkF t l
def weekdayC (s : RSt) : RSt := (wkF weekL s.1, s.2)
def dayC (s : RSt) : Nat × RSt := if aheadL s.1 = 1 then numD 1 s else numD 2 s
theorem dayC_bd (s : RSt) : (dayC s).1 ≤ 9999 := by
  unfold dayC
  split
  · have := numC_bd 1 s; omega
  · have := numC_bd 2 s; omega
/-- A month's number by its name. -/
def mIx (i : Nat) : List (List UInt8) → List UInt8 → Nat
  | [], _ => 0
  | n :: t, l => if n == l then i + 1 else mIx (i + 1) t l
def monIx (l : List UInt8) : Nat := mIx 0 monthsL l
theorem mIx_le (t : List (List UInt8)) (i : Nat) (l : List UInt8) : mIx i t l ≤ i + t.length := by
  induction t generalizing i with
  | nil => simp [mIx]
  | cons n t ih => unfold mIx; split <;> simp <;> have := ih (i + 1) <;> omega
theorem monIx_le (l : List UInt8) : monIx l ≤ 12 := mIx_le monthsL 0 l
def monF : List (List UInt8) → List UInt8 → Option (Nat × List UInt8)
  | [], _ => none
  | n :: t, l => if Lib.hasPrefix l n then some (monIx n, Lib.trimPrefix l n) else monF t l
def monthC (s : RSt) : Nat × RSt := match monF monthsL s.1 with
  | some (m, t) => (m, (t, s.2))
  | none => (0, (s.1, true))
theorem monF_le (t : List (List UInt8)) {l u : List UInt8} {m : Nat} (h : monF t l = some (m, u)) : m ≤ 12 := by
  induction t with
  | nil => cases h
  | cons n t ih =>
    unfold monF at h
    split at h
    · injection h with h; injection h with h _; rw [← h]; exact monIx_le n
    · exact ih h
theorem monthC_bd (s : RSt) : (monthC s).1 ≤ 12 := by
  unfold monthC
  cases h : monF monthsL s.1 with
  | none => simp
  | some p => obtain ⟨m, u⟩ := p; exact monF_le _ h
def yearC (s : RSt) : Nat × RSt := if aheadL s.1 = 2 then ((if (numD 2 s).1 < 50 then 2000 + (numD 2 s).1 else 1900 + (numD 2 s).1), (numD 2 s).2) else numD 4 s
theorem yearC_bd (s : RSt) : (yearC s).1 ≤ 9999 := by
  unfold yearC
  split
  · have := numC_bd 2 s
    generalize numD 2 s = p at *
    show (if p.1 < 50 then 2000 + p.1 else 1900 + p.1) ≤ 9999
    split <;> omega
  · have := numC_bd 4 s; omega
def hoursC (p : List UInt8) (s : RSt) : Nat × RSt :=
  ((partC 23 s).1 * 3600 + (partC 59 (signC (partC 23 s).2 p)).1 * 60, (partC 59 (signC (partC 23 s).2 p)).2)
theorem hoursC_bd (p : List UInt8) (s : RSt) : (hoursC p s).1 ≤ 86340 := by
  unfold hoursC
  have h1 := partC_bd 23 s
  have h2 := partC_bd 59 (signC (partC 23 s).2 p)
  show _ * 3600 + _ * 60 ≤ _
  omega
def secondsC (s : RSt) : Nat × RSt := partC 59 (signC s [58])
theorem secondsC_bd (s : RSt) : (secondsC s).1 ≤ 59 := partC_bd _ _
def offsetC (p : List UInt8) (s : RSt) : Int × RSt :=
  if (skipC s [45]).1 then (-((hoursC p (skipC s [45]).2).1 : Int), (hoursC p (skipC s [45]).2).2)
  else (((hoursC p (signC (skipC s [45]).2 [43])).1 : Int), (hoursC p (signC (skipC s [45]).2 [43])).2)
theorem offsetC_bd (p : List UInt8) (s : RSt) : -86340 ≤ (offsetC p s).1 ∧ (offsetC p s).1 ≤ 86340 := by
  unfold offsetC
  have h1 := hoursC_bd p (skipC s [45]).2
  have h2 := hoursC_bd p (signC (skipC s [45]).2 [43])
  split
  · exact ⟨by show _ ≤ -((hoursC p (skipC s [45]).2).1 : Int); omega, by show -((hoursC p (skipC s [45]).2).1 : Int) ≤ _; omega⟩
  · exact ⟨by show _ ≤ ((hoursC p (signC (skipC s [45]).2 [43])).1 : Int); omega, by show ((hoursC p (signC (skipC s [45]).2 [43])).1 : Int) ≤ _; omega⟩
/-- A zone's hours by its name. -/
def zoneNm (l : List UInt8) : Option Int :=
  if l == [71, 77, 84] || l == [85, 84] || l == [85, 84, 67] || l == [90] then some 0
  else if l == [69, 68, 84] then some (-4)
  else if l == [69, 83, 84] || l == [67, 68, 84] then some (-5)
  else if l == [67, 83, 84] || l == [77, 68, 84] then some (-6)
  else if l == [77, 83, 84] || l == [80, 68, 84] then some (-7)
  else if l == [80, 83, 84] then some (-8)
  else none
def zoneC (s : RSt) : Int × RSt := match zoneNm s.1 with
  | some z => (z * 3600, ([], s.2))
  | none => offsetC [] s
theorem zoneNm_bd {l : List UInt8} {z : Int} (h : zoneNm l = some z) : -8 ≤ z ∧ z ≤ 0 := by
  unfold zoneNm at h
  repeat' split at h
  all_goals first | (injection h with h; subst h; exact ⟨by decide, by decide⟩) | cases h
theorem zoneC_bd (s : RSt) : -86340 ≤ (zoneC s).1 ∧ (zoneC s).1 ≤ 86340 := by
  unfold zoneC
  cases h : zoneNm s.1 with
  | none => exact offsetC_bd _ _
  | some z =>
    have := zoneNm_bd h
    show _ ≤ z * 3600 ∧ z * 3600 ≤ _
    omega
def dateC (s : RSt) (y m d : Nat) (clock : Int) : Int × Bool :=
  if s.2 = true ∨ s.1 ≠ [] ∨ (daysB y m d).2 = false ∨ (daysB y m d).1 * 86400 + clock < 0 ∨ 253402300799 < (daysB y m d).1 * 86400 + clock then (0, false) else ((daysB y m d).1 * 86400 + clock, true)

/-- What Rfc822 answers, step by step. -/
def r822g (d m y : Nat) (q : Int × RSt) : Int × Bool := dateC (zoneC q.2).2 y m d (q.1 - (zoneC q.2).1)
def r822f (d m y h : Nat) (k : Bool × RSt) : Int × Bool := if k.1 then r822g d m y ((h : Int), k.2) else r822g d m y (((h + (secondsC k.2).1 : Nat) : Int), signC (secondsC k.2).2 [32])
def r822e (d m y : Nat) (h : Nat × RSt) : Int × Bool := r822f d m y h.1 (skipC h.2 [32])
def r822d (d m : Nat) (y : Nat × RSt) : Int × Bool := r822e d m y.1 (hoursC [58] (signC y.2 [32]))
def r822b (d : Nat) (m : Nat × RSt) : Int × Bool := r822d d m.1 (yearC (signC m.2 [32]))
def r822a (d : Nat × RSt) : Int × Bool := r822b d.1 (monthC (signC d.2 [32]))
def r822C (l : List UInt8) : Int × Bool := r822a (dayC (weekdayC (l, false)))
/-- What Rfc3339 answers, step by step. -/
def r3339g (y m d : Nat) (z : Int × RSt) : Int × Bool := dateC z.2 y m d z.1
def r3339f (y m d c : Nat) (s : RSt) : Int × Bool :=
  if (skipC s [90]).1 then r3339g y m d ((c : Int), (skipC s [90]).2)
  else if (skipC (skipC s [90]).2 [122]).1 then r3339g y m d ((c : Int), (skipC (skipC s [90]).2 [122]).2)
  else r3339g y m d ((c : Int) - (offsetC [58] (skipC (skipC s [90]).2 [122]).2).1, (offsetC [58] (skipC (skipC s [90]).2 [122]).2).2)
def r3339e (y m d c : Nat) (k : Bool × RSt) : Int × Bool := if k.1 then r3339f y m d c (digitsC k.2) else r3339f y m d c k.2
def r3339d (y m d h : Nat) (c : Nat × RSt) : Int × Bool := r3339e y m d (h + c.1) (skipC c.2 [46])
def r3339c (y m d : Nat) (h : Nat × RSt) : Int × Bool := r3339d y m d h.1 (secondsC h.2)
/-- Behind the T. -/
def teeC (s : RSt) : RSt := if (skipC s [84]).1 then (skipC s [84]).2 else if (skipC (skipC s [84]).2 [116]).1 then (skipC (skipC s [84]).2 [116]).2 else signC (skipC (skipC s [84]).2 [116]).2 [32]
def r3339b (y m : Nat) (d : Nat × RSt) : Int × Bool := r3339c y m d.1 (hoursC [58] (teeC d.2))
def r3339a (y : Nat) (m : Nat × RSt) : Int × Bool := r3339b y m.1 (numD 2 (signC m.2 [45]))
def r3339y (y : Nat × RSt) : Int × Bool := r3339a y.1 (numD 2 (signC y.2 [45]))
def r3339C (l : List UInt8) : Int × Bool := r3339y (numD 4 (l, false))
end Go.Proofs.YtkjjjbipmobdaaaGreatDoor

/- Layer 13: a reader: skip, sign, ahead, digits, number, part. -/
namespace Go.Proofs.YtkjjjbipmobdaaaGreatDoor
open Go.RowKit

/-- A reader in its block. -/
def RdC (w : World) (R : Nat) (s : RSt) : Prop := ArrAt w R 119 [.string ⟨s.1.toArray⟩, .bool s.2]
theorem RdC.c0 {w : World} {R : Nat} {s : RSt} (h : RdC w R s) : w.cell? ⟨R, 0, none⟩ = some (.string ⟨s.1.toArray⟩) := by rw [ArrAt.cell h 0]; rfl
theorem RdC.c1 {w : World} {R : Nat} {s : RSt} (h : RdC w R s) : w.cell? ⟨R, 1, none⟩ = some (.bool s.2) := by rw [ArrAt.cell h 1]; rfl
theorem RdC.fz {w : World} {R : Nat} {s : RSt} (h : RdC w R s) (k : Nat) : w.frozen? ⟨R, k, none⟩ = false := ArrAt.soft h k
theorem RdC.rest {w : World} {R : Nat} {s : RSt} (h : RdC w R s) (l : List UInt8) : RdC (w.setCell ⟨R, 0, none⟩ (.string ⟨l.toArray⟩)) R (l, s.2) := ArrAt.set h 0 _
theorem RdC.bad {w : World} {R : Nat} {s : RSt} (h : RdC w R s) (b : Bool) : RdC (w.setCell ⟨R, 1, none⟩ (.bool b)) R (s.1, b) := ArrAt.set h 1 _
/-- Behind a method: what it told, the reader behind it, and nothing else has turned. -/
def RPost (w : World) (R : Nat) (s : RSt) (v : Value) (e : Ending) (w' : World) : Prop := e = .returned v ∧ RdC w' R s ∧ Turned (fun b => b = R) w w'
theorem RPost.mk {w w' : World} {R : Nat} {s s' : RSt} {v : Value} (hs : s = s') (h : RdC w' R s) (ht : Turned (fun b => b = R) w w') : RPost w R s' v (.returned v) w' := by subst hs; exact ⟨rfl, h, ht⟩
theorem RPost.mk2 {w w' : World} {R : Nat} {s s' : RSt} {v v' : Value} (hv : v = v') (hs : s = s') (h : RdC w' R s) (ht : Turned (fun b => b = R) w w') : RPost w R s' v' (.returned v) w' := by subst hs hv; exact ⟨rfl, h, ht⟩
theorem turn_rest (w : World) (R : Nat) (k : Nat) (v : Value) : Turned (fun b => b = R) w (w.setCell ⟨R, k, none⟩ v) := turned_setCell w ⟨R, k, none⟩ v
theorem turn_then {a b c : World} {R : Nat} (h : Turned (fun x => x = R) a b) (k : Turned (fun x => x = R) b c) : Turned (fun x => x = R) a c := h.trans k fun _ _ e => e

theorem skip13_any (R : Nat) (s : RSt) (p : List UInt8) (w : World) (h : RdC w R s) :
    Calls Tryz.prog 85 #[.pointer (some ⟨R, 0, none⟩), .string ⟨p.toArray⟩] w (RPost w R (skipC s p).2 (.bool (skipC s p).1)) := by
  have c0 := h.c0
  have f0 := h.fz 0
  have hr := Lib.hid (h.rest (Lib.trimPrefix s.1 p))
  have hc := fun W : World => cutPrefix_any s.1 p W
  unfold skipC
  simp only
  generalize Lib.trimPrefix s.1 p = t at *
  generalize Lib.hasPrefix s.1 p = b at *
  replace h := Lib.hid h
  go_enter Tryz.func85, Tryz.ntmps85
  go_wp2_with fail
  refine (hc _).mono ?_; rintro e w1 ⟨rfl, rfl⟩
  go_wp2_with fail
  go_ret
  exact ⟨rfl, hr.out, turn_rest _ _ _ _⟩

theorem sign13_any (R : Nat) (s : RSt) (p : List UInt8) (w : World) (h : RdC w R s) :
    Calls Tryz.prog 84 #[.pointer (some ⟨R, 0, none⟩), .string ⟨p.toArray⟩] w (RPost w R (signC s p) (.tuple #[])) := by
  have hk := skip13_any R s p w h
  unfold skipC at hk
  unfold signC
  simp only at hk ⊢
  generalize Lib.trimPrefix s.1 p = t at *
  cases hb : Lib.hasPrefix s.1 p
  · rw [hb] at hk
    simp only [Bool.false_eq_true, if_false]
    replace h := Lib.hid h
    clear hb
    go_enter Tryz.func84, Tryz.ntmps84
    go_wp2_with fail
    refine hk.mono ?_; rintro e w1 ⟨rfl, h1, ht⟩
    have c1 := h1.c1
    have f1 := h1.fz 1
    replace h1 := Lib.hid h1
    replace ht := Lib.hid ht
    go_wp2_with fail
    refine bodyPost_end (v := .tuple #[]) (by simp [results, Tryz.results84, go_sem]) rfl ?_
    exact ⟨rfl, h1.out.bad true, turn_then ht.out (turn_rest _ _ _ _)⟩
  · rw [hb] at hk
    simp only [if_true]
    replace h := Lib.hid h
    clear hb
    go_enter Tryz.func84, Tryz.ntmps84
    go_wp2_with fail
    refine hk.mono ?_; rintro e w1 ⟨rfl, h1, ht⟩
    replace h1 := Lib.hid h1
    replace ht := Lib.hid ht
    go_wp2_with fail
    refine bodyPost_end (v := .tuple #[]) (by simp [results, Tryz.results84, go_sem]) rfl ?_
    exact ⟨rfl, h1.out, ht.out⟩

theorem ahead13_any (R : Nat) (s : RSt) (w : World) (h : RdC w R s) (hl : s.1.length ≤ 100000000) :
    Calls Tryz.prog 125 #[.pointer (some ⟨R, 0, none⟩)] w fun e w' => e = .returned (.int .i64 (aheadL s.1)) ∧ w = w' := by
  have c0 := h.c0
  generalize s.1 = l at *
  replace h := Lib.hid h
  go_enter Tryz.func125, Tryz.ntmps125
  go_wp2_with fail
  go_loopw [3] (fun a wr => ∃ k : Nat, k ≤ l.length ∧ a = .int .i64 k ∧ Hid (aheadL l = k + aheadL (l.drop k)) ∧ Hid (w = wr)) (fun a _ => l.length - (intOf a).toNat)
  case atStart => exact ⟨0, Nat.zero_le _, rfl, by rw [List.drop_zero, Nat.zero_add]; rfl, rfl⟩
  case round =>
    obtain ⟨k, hk, rfl, he, hwr⟩ := hrel
    have c0 : wr.cell? ⟨R, 0, none⟩ = some (.string ⟨l.toArray⟩) := by rw [← hwr.out]; exact c0
    by_cases hlt : k < l.length
    · have hat := aheadL_at hlt
      have hb := bt_lt l k
      have hlt1 : (k : Int) < l.length := by omega
      by_cases h1 : 48 ≤ bt l k
      · by_cases h2 : bt l k ≤ 57
        · rw [if_pos ⟨h1, h2⟩] at hat
          have he2 := Lib.hid (show aheadL l = (k + 1) + aheadL (l.drop (k + 1)) by have := he.out; omega)
          replace hat := Lib.hid hat
          go_wp2_with fail
          exact ⟨⟨k + 1, by omega, vi64 (by omega), he2, hwr⟩, by simp [intOf]; omega⟩
        · rw [if_neg (fun h => h2 h.2)] at hat
          have he2 := Lib.hid (show (k : Int) = aheadL l by have := he.out; omega)
          replace hat := Lib.hid hat
          go_wp2_with fail
          go_ret
          exact ⟨ret_int he2.out, hwr.out⟩
      · rw [if_neg (fun h => h1 h.1)] at hat
        have he2 := Lib.hid (show (k : Int) = aheadL l by have := he.out; omega)
        replace hat := Lib.hid hat
        go_wp2_with fail
        go_ret
        exact ⟨ret_int he2.out, hwr.out⟩
    · have hat := aheadL_end hlt
      have he2 := Lib.hid (show (k : Int) = aheadL l by have := he.out; omega)
      have hlt1 : ¬ ((k : Int) < l.length) := by omega
      replace hat := Lib.hid hat
      go_wp2_with fail
      go_ret
      exact ⟨ret_int he2.out, hwr.out⟩

theorem digits13_any /- where there is 52 -/ (R : Nat) (s : RSt) (w : World) (h : RdC w R s) (hl : s.1.length ≤ 100000000) :
    Calls Tryz.prog 88 #[.pointer (some ⟨R, 0, none⟩)] w (RPost w R (digitsC s) (.tuple #[])) := by
  have ha := ahead13_any R s w h hl
  have hle := aheadL_le s.1
  have c0 := h.c0
  have f0 := h.fz 0
  have f1 := h.fz 1
  have c1 := h.c1
  unfold digitsC
  by_cases h0 : aheadL s.1 = 0
  · rw [if_pos h0, h0]
    rw [h0] at ha
    have hb := Lib.hid (h.bad true)
    have d0 := hb.out.c0
    have g0 := hb.out.fz 0
    have hb2 := Lib.hid (hb.out.rest (s.1.drop 0))
    replace h := Lib.hid h
    generalize aheadL s.1 = A at *
    generalize s.1 = l at *
    clear hle
    go_enter Tryz.func88, Tryz.ntmps88
    go_wp2_with fail
    refine ha.mono ?_; rintro e w1 ⟨rfl, rfl⟩
    go_wp2_with fail
    refine bodyPost_end (v := .tuple #[]) (by simp [results, Tryz.results88, go_sem]) rfl ?_
    exact ⟨rfl, hb2.out, turn_then (turn_rest _ _ _ _) (turn_rest _ _ _ _)⟩
  · rw [if_neg h0]
    have hr := Lib.hid (h.rest (s.1.drop (aheadL s.1)))
    have j0 : ((aheadL s.1 : Int) == 0) = false := by rw [beq_eq_false_iff_ne]; omega
    have j1 : (aheadL s.1 == 0) = false := by rw [beq_eq_false_iff_ne]; exact h0
    replace h := Lib.hid h
    generalize aheadL s.1 = A at *
    generalize s.1 = l at *
    clear h0
    go_enter Tryz.func88, Tryz.ntmps88
    go_wp2_with fail
    refine ha.mono ?_; rintro e w1 ⟨rfl, rfl⟩
    go_wp2_with fail
    refine bodyPost_end (v := .tuple #[]) (by simp [results, Tryz.results88, go_sem]) rfl ?_
    exact ⟨rfl, hr.out, turn_rest _ _ _ _⟩
end Go.Proofs.YtkjjjbipmobdaaaGreatDoor

/- Layer 13: a reader: number, part, day, year, hours, seconds, offset. -/
namespace Go.Proofs.YtkjjjbipmobdaaaGreatDoor
open Go.RowKit

theorem trim_len (l p : List UInt8) : (Lib.trimPrefix l p).length ≤ l.length := by
  unfold Lib.trimPrefix
  split <;> simp
theorem skipC_len (s : RSt) (p : List UInt8) : (skipC s p).2.1.length ≤ s.1.length := trim_len _ _
theorem signC_len (s : RSt) (p : List UInt8) : (signC s p).1.length ≤ s.1.length := trim_len _ _
theorem numC_len (k : Nat) (s : RSt) : (numD k s).2.1.length ≤ s.1.length := by unfold numD; split <;> simp
theorem digitsC_len (s : RSt) : (digitsC s).1.length ≤ s.1.length := by unfold digitsC; simp
theorem partC_len (m : Nat) (s : RSt) : (partC m s).2.1.length ≤ s.1.length := by unfold partC; split <;> exact numC_len _ _
theorem hoursC_len (p : List UInt8) (s : RSt) : (hoursC p s).2.1.length ≤ s.1.length := Nat.le_trans (partC_len _ _) (Nat.le_trans (signC_len _ _) (partC_len _ _))
theorem secondsC_len (s : RSt) : (secondsC s).2.1.length ≤ s.1.length := Nat.le_trans (partC_len _ _) (signC_len _ _)
theorem dayC_len (s : RSt) : (dayC s).2.1.length ≤ s.1.length := by unfold dayC; split <;> exact numC_len _ _
theorem yearC_len (s : RSt) : (yearC s).2.1.length ≤ s.1.length := by unfold yearC; split <;> exact numC_len _ _
theorem offsetC_len (p : List UInt8) (s : RSt) : (offsetC p s).2.1.length ≤ s.1.length := by
  unfold offsetC
  split
  · exact Nat.le_trans (hoursC_len _ _) (skipC_len _ _)
  · exact Nat.le_trans (hoursC_len _ _) (Nat.le_trans (signC_len _ _) (skipC_len _ _))

set_option maxHeartbeats 400000 in
theorem number13_any (R : Nat) (n : Nat) (s : RSt) (w : World) (h : RdC w R s) (hl : s.1.length ≤ 100000000) (hn : n ≤ 4) :
    Calls Tryz.prog 83 #[.pointer (some ⟨R, 0, none⟩), .int .i64 n] w (RPost w R (numD n s).2 (.int .i64 ((numD n s).1 : Nat))) := by
  have ha := ahead13_any R s w h hl
  have hle := aheadL_le s.1
  have c0 := h.c0
  have f0 := h.fz 0
  have f1 := h.fz 1
  have c1 := h.c1
  unfold numD
  by_cases hk : aheadL s.1 < n
  · rw [if_pos hk]
    have hb := Lib.hid (h.bad true)
    have hk1 : (aheadL s.1 : Int) < n := by omega
    replace h := Lib.hid h
    generalize aheadL s.1 = A at *
    go_enter Tryz.func83, Tryz.ntmps83
    go_wp2_with fail
    refine ha.mono ?_; rintro e w1 ⟨rfl, rfl⟩
    go_wp2_with fail
    go_ret
    exact ⟨rfl, hb.out, turn_rest _ _ _ _⟩
  · rw [if_neg hk]
    have hr := Lib.hid (h.rest (s.1.drop n))
    have hdg := Lib.hid (fun k (hkn : k < n) => aheadL_dg (l := s.1) (k := k) (by omega))
    have hbd := Lib.hid (fun k (hkn : k ≤ n) => valN_bd (l := s.1) (k := k) (by omega))
    have hk1 : ¬ ((aheadL s.1 : Int) < n) := by omega
    have hnl : n ≤ s.1.length := by omega
    replace h := Lib.hid h
    generalize aheadL s.1 = A at *
    have hA := Lib.hid hk
    clear hk hle
    generalize s.1 = l at *
    generalize s.2 = bad at *
    go_enter Tryz.func83, Tryz.ntmps83
    go_wp2_with fail
    refine ha.mono ?_; rintro e w1 ⟨rfl, rfl⟩
    go_wp2_with fail
    clear ha
    go_loopw [5, 15] (fun z i wr => ∃ k x : Nat, k ≤ n ∧ x ≤ 9999 ∧ z = .int .i64 x ∧ i = .int .i64 k ∧ Hid (x = valN 0 (l.take k)) ∧ Hid (w = wr)) (fun _ i _ => n - (intOf i).toNat)
    case atStart => exact ⟨0, 0, Nat.zero_le _, by omega, rfl, rfl, by rw [List.take_zero]; rfl, rfl⟩
    case round =>
      obtain ⟨k, x, hkn, hx, rfl, rfl, he, hwr⟩ := hrel
      have c0 : wr.cell? ⟨R, 0, none⟩ = some (.string ⟨l.toArray⟩) := by rw [← hwr.out]; exact c0
      have f0 : wr.frozen? ⟨R, 0, none⟩ = false := by rw [← hwr.out]; exact f0
      by_cases hlt : k < n
      · have hd := hdg.out k hlt
        have hkl : k < l.length := by omega
        have hkl1 : (k : Int) < l.length := by omega
        have hv := valN_next hkl hd.1
        have hb1 := hbd.out k (by omega)
        have hb2 : valN 0 (l.take (k + 1)) ≤ 9999 := by
          have h3 := hbd.out (k + 1) (by omega)
          have h4 : 10 ^ (k + 1) ≤ 10 ^ 4 := Nat.pow_le_pow_right (by decide) (by omega)
          generalize valN 0 (l.take (k + 1)) = a at *
          generalize 10 ^ (k + 1) = b at *
          omega
        obtain ⟨d1, d2⟩ := hd
        rw [← he.out] at hv
        have hx2 := Lib.hid (show ((valN 0 (l.take (k + 1)) : Nat) : Int) = (x : Int) * 10 + (bt l k - 48) from hv)
        clear hb1 hv
        have hlt1 : (k : Int) < n := by omega
        go_wp2_with fail
        exact ⟨⟨k + 1, valN 0 (l.take (k + 1)), by omega, hb2, vi64 (by rw [hx2.out]), vi64 (by omega), rfl, hwr⟩, by simp [intOf]; omega⟩
      · have hlt1 : ¬ ((k : Int) < n) := by omega
        have he2 := Lib.hid (show x = valN 0 (l.take n) by rw [he.out, show k = n by omega])
        obtain rfl := hwr.out
        go_wp2_with fail
        go_ret
        exact RPost.mk2 (vi64 (by rw [he2.out])) rfl hr.out (turn_rest _ _ _ _)

theorem part13_any (R : Nat) (m : Nat) (s : RSt) (w : World) (h : RdC w R s) (hl : s.1.length ≤ 100000000) (_hm : m ≤ 100) :
    Calls Tryz.prog 127 #[.pointer (some ⟨R, 0, none⟩), .int .i64 m] w (RPost w R (partC m s).2 (.int .i64 ((partC m s).1 : Nat))) := by
  have hc := number13_any R 2 s w h hl (by omega)
  unfold partC
  have hbd := numC_bd 2 s
  generalize numD 2 s = q at *
  obtain ⟨x, s1⟩ := q
  simp only at hc hbd ⊢
  replace h := Lib.hid h
  by_cases hx : m < x
  · rw [if_pos hx]
    have hx1 : (m : Int) < x := by omega
    go_enter Tryz.func127, Tryz.ntmps127
    go_wp2_with fail
    refine hc.mono ?_; rintro e w1 ⟨rfl, h1, ht⟩
    have c1 := h1.c1
    have f1 := h1.fz 1
    replace h1 := Lib.hid h1
    replace ht := Lib.hid ht
    go_wp2_with fail
    go_ret
    exact ⟨rfl, h1.out.bad true, turn_then ht.out (turn_rest _ _ _ _)⟩
  · rw [if_neg hx]
    have hx1 : ¬ ((m : Int) < x) := by omega
    go_enter Tryz.func127, Tryz.ntmps127
    go_wp2_with fail
    refine hc.mono ?_; rintro e w1 ⟨rfl, h1, ht⟩
    replace h1 := Lib.hid h1
    replace ht := Lib.hid ht
    go_wp2_with fail
    go_ret
    exact ⟨rfl, h1.out, ht.out⟩

theorem day13_any (R : Nat) (s : RSt) (w : World) (h : RdC w R s) (hl : s.1.length ≤ 100000000) :
    Calls Tryz.prog 114 #[.pointer (some ⟨R, 0, none⟩)] w (RPost w R (dayC s).2 (.int .i64 ((dayC s).1 : Nat))) := by
  have ha := ahead13_any R s w h hl
  unfold dayC
  by_cases h1 : aheadL s.1 = 1
  · have hc := number13_any R 1 s w h hl (by omega)
    rw [if_pos h1]
    rw [h1] at ha
    generalize numD 1 s = q at *
    obtain ⟨x, s1⟩ := q
    simp only at hc ⊢
    replace h := Lib.hid h
    clear h1
    go_enter Tryz.func114, Tryz.ntmps114
    go_wp2_with fail
    refine ha.mono ?_; rintro e w1 ⟨rfl, rfl⟩
    go_wp2_with fail
    refine hc.mono ?_; rintro e w1 ⟨rfl, h1, ht⟩
    replace h1 := Lib.hid h1
    replace ht := Lib.hid ht
    go_wp2_with fail
    go_ret
    exact ⟨rfl, h1.out, ht.out⟩
  · have hc := number13_any R 2 s w h hl (by omega)
    rw [if_neg h1]
    have j0 : ((aheadL s.1 : Int) == 1) = false := by rw [beq_eq_false_iff_ne]; omega
    have j1 : (aheadL s.1 == 1) = false := by rw [beq_eq_false_iff_ne]; exact h1
    generalize aheadL s.1 = A at *
    generalize numD 2 s = q at *
    obtain ⟨x, s1⟩ := q
    simp only at hc ⊢
    replace h := Lib.hid h
    clear h1
    go_enter Tryz.func114, Tryz.ntmps114
    go_wp2_with fail
    refine ha.mono ?_; rintro e w1 ⟨rfl, rfl⟩
    go_wp2_with fail
    refine hc.mono ?_; rintro e w1 ⟨rfl, h1, ht⟩
    replace h1 := Lib.hid h1
    replace ht := Lib.hid ht
    go_wp2_with fail
    go_ret
    exact ⟨rfl, h1.out, ht.out⟩

theorem year13_any (R : Nat) (s : RSt) (w : World) (h : RdC w R s) (hl : s.1.length ≤ 100000000) :
    Calls Tryz.prog 116 #[.pointer (some ⟨R, 0, none⟩)] w (RPost w R (yearC s).2 (.int .i64 ((yearC s).1 : Nat))) := by
  have ha := ahead13_any R s w h hl
  unfold yearC
  by_cases h1 : aheadL s.1 = 2
  · have hc := number13_any R 2 s w h hl (by omega)
    have hbd := numC_bd 2 s
    rw [if_pos h1]
    rw [h1] at ha
    generalize numD 2 s = q at *
    obtain ⟨x, s1⟩ := q
    simp only at hc hbd ⊢
    replace h := Lib.hid h
    clear h1
    by_cases hx : x < 50
    · rw [if_pos hx]
      have hx1 : (x : Int) < 50 := by omega
      go_enter Tryz.func116, Tryz.ntmps116
      go_wp2_with fail
      refine ha.mono ?_; rintro e w1 ⟨rfl, rfl⟩
      go_wp2_with fail
      refine hc.mono ?_; rintro e w1 ⟨rfl, h1, ht⟩
      replace h1 := Lib.hid h1
      replace ht := Lib.hid ht
      go_wp2_with fail
      go_ret
      exact RPost.mk2 (vi64 (by omega)) rfl h1.out ht.out
    · rw [if_neg hx]
      have hx1 : ¬ ((x : Int) < 50) := by omega
      go_enter Tryz.func116, Tryz.ntmps116
      go_wp2_with fail
      refine ha.mono ?_; rintro e w1 ⟨rfl, rfl⟩
      go_wp2_with fail
      refine hc.mono ?_; rintro e w1 ⟨rfl, h1, ht⟩
      replace h1 := Lib.hid h1
      replace ht := Lib.hid ht
      go_wp2_with fail
      go_ret
      exact RPost.mk2 (vi64 (by omega)) rfl h1.out ht.out
  · have hc := number13_any R 4 s w h hl (by omega)
    rw [if_neg h1]
    have j0 : ((aheadL s.1 : Int) != 2) = true := by rw [bne_iff_ne]; omega
    have j1 : (aheadL s.1 != 2) = true := by rw [bne_iff_ne]; exact h1
    generalize aheadL s.1 = A at *
    generalize numD 4 s = q at *
    obtain ⟨x, s1⟩ := q
    simp only at hc ⊢
    replace h := Lib.hid h
    clear h1
    go_enter Tryz.func116, Tryz.ntmps116
    go_wp2_with fail
    refine ha.mono ?_; rintro e w1 ⟨rfl, rfl⟩
    go_wp2_with fail
    refine hc.mono ?_; rintro e w1 ⟨rfl, h1, ht⟩
    replace h1 := Lib.hid h1
    replace ht := Lib.hid ht
    go_wp2_with fail
    go_ret
    exact ⟨rfl, h1.out, ht.out⟩

theorem hours13_any (R : Nat) (p : List UInt8) (s : RSt) (w : World) (h : RdC w R s) (hl : s.1.length ≤ 100000000) :
    Calls Tryz.prog 86 #[.pointer (some ⟨R, 0, none⟩), .string ⟨p.toArray⟩] w (RPost w R (hoursC p s).2 (.int .i64 ((hoursC p s).1 : Nat))) := by
  have hc := part13_any R 23 s w h hl (by omega)
  have hb := partC_bd 23 s
  have hl1 := Nat.le_trans (partC_len 23 s) hl
  unfold hoursC
  generalize partC 23 s = q at *
  obtain ⟨x, s1⟩ := q
  simp only at hc hb hl1 ⊢
  have hl2 := Nat.le_trans (signC_len s1 p) hl1
  have hcs := Lib.hid (fun W (hW : RdC W R s1) => sign13_any R s1 p W hW)
  have hcp := Lib.hid (fun W (hW : RdC W R (signC s1 p)) => part13_any R 59 (signC s1 p) W hW hl2 (by omega))
  have hb2 := partC_bd 59 (signC s1 p)
  generalize partC 59 (signC s1 p) = q2 at *
  obtain ⟨y, s3⟩ := q2
  simp only at hcp hb2 ⊢
  generalize signC s1 p = s2 at *
  replace h := Lib.hid h
  go_enter Tryz.func86, Tryz.ntmps86
  go_wp2_with fail
  refine hc.mono ?_; rintro e w1 ⟨rfl, h1, ht⟩
  replace h1 := Lib.hid h1
  replace ht := Lib.hid ht
  go_wp2_with fail
  refine (hcs.out _ h1.out).mono ?_; rintro e w2 ⟨rfl, h2, ht2⟩
  replace ht := Lib.hid (turn_then ht.out ht2)
  replace h2 := Lib.hid h2
  clear ht2 h1
  go_wp2_with fail
  refine (hcp.out _ h2.out).mono ?_; rintro e w3 ⟨rfl, h3, ht3⟩
  replace ht := Lib.hid (turn_then ht.out ht3)
  replace h3 := Lib.hid h3
  clear ht3 h2
  go_wp2_with fail
  go_ret
  exact RPost.mk2 (vi64 (by omega)) rfl h3.out ht.out

theorem seconds13_any (R : Nat) (s : RSt) (w : World) (h : RdC w R s) (hl : s.1.length ≤ 100000000) :
    Calls Tryz.prog 87 #[.pointer (some ⟨R, 0, none⟩)] w (RPost w R (secondsC s).2 (.int .i64 ((secondsC s).1 : Nat))) := by
  have hc := sign13_any R s [58] w h
  have hl2 := Nat.le_trans (signC_len s [58]) hl
  unfold secondsC
  have hcp := Lib.hid (fun W (hW : RdC W R (signC s [58])) => part13_any R 59 (signC s [58]) W hW hl2 (by omega))
  generalize partC 59 (signC s [58]) = q2 at *
  obtain ⟨y, s3⟩ := q2
  simp only at hcp ⊢
  generalize signC s [58] = s2 at *
  replace h := Lib.hid h
  go_enter Tryz.func87, Tryz.ntmps87
  go_wp2_with fail
  refine hc.mono ?_; rintro e w1 ⟨rfl, h1, ht⟩
  replace h1 := Lib.hid h1
  replace ht := Lib.hid ht
  go_wp2_with fail
  refine (hcp.out _ h1.out).mono ?_; rintro e w3 ⟨rfl, h3, ht3⟩
  replace ht := Lib.hid (turn_then ht.out ht3)
  replace h3 := Lib.hid h3
  clear ht3 h1
  go_wp2_with fail
  go_ret
  exact ⟨rfl, h3.out, ht.out⟩

theorem offset13_any (R : Nat) (p : List UInt8) (s : RSt) (w : World) (h : RdC w R s) (hl : s.1.length ≤ 100000000) :
    Calls Tryz.prog 89 #[.pointer (some ⟨R, 0, none⟩), .string ⟨p.toArray⟩] w (RPost w R (offsetC p s).2 (.int .i64 (offsetC p s).1)) := by
  have hc := skip13_any R s [45] w h
  have hl1 := Nat.le_trans (skipC_len s [45]) hl
  unfold offsetC
  generalize skipC s [45] = q at *
  obtain ⟨b, s1⟩ := q
  simp only at hc hl1 ⊢
  replace h := Lib.hid h
  cases b
  · have hl2 := Nat.le_trans (signC_len s1 [43]) hl1
    have hcs := Lib.hid (fun W (hW : RdC W R s1) => sign13_any R s1 [43] W hW)
    have hcp := Lib.hid (fun W (hW : RdC W R (signC s1 [43])) => hours13_any R p (signC s1 [43]) W hW hl2)
    simp only [Bool.false_eq_true, if_false]
    generalize hoursC p (signC s1 [43]) = q2 at *
    obtain ⟨y, s3⟩ := q2
    simp only at hcp ⊢
    generalize signC s1 [43] = s2 at *
    go_enter Tryz.func89, Tryz.ntmps89
    go_wp2_with fail
    refine hc.mono ?_; rintro e w1 ⟨rfl, h1, ht⟩
    replace h1 := Lib.hid h1
    replace ht := Lib.hid ht
    go_wp2_with fail
    refine (hcs.out _ h1.out).mono ?_; rintro e w2 ⟨rfl, h2, ht2⟩
    replace ht := Lib.hid (turn_then ht.out ht2)
    replace h2 := Lib.hid h2
    clear ht2 h1
    go_wp2_with fail
    refine (hcp.out _ h2.out).mono ?_; rintro e w3 ⟨rfl, h3, ht3⟩
    replace ht := Lib.hid (turn_then ht.out ht3)
    replace h3 := Lib.hid h3
    clear ht3 h2
    go_wp2_with fail
    go_ret
    exact ⟨rfl, h3.out, ht.out⟩
  · have hcp := Lib.hid (fun W (hW : RdC W R s1) => hours13_any R p s1 W hW hl1)
    have hb := hoursC_bd p s1
    simp only [if_true]
    generalize hoursC p s1 = q2 at *
    obtain ⟨y, s3⟩ := q2
    simp only at hcp hb ⊢
    go_enter Tryz.func89, Tryz.ntmps89
    go_wp2_with fail
    refine hc.mono ?_; rintro e w1 ⟨rfl, h1, ht⟩
    replace h1 := Lib.hid h1
    replace ht := Lib.hid ht
    go_wp2_with fail
    refine (hcp.out _ h1.out).mono ?_; rintro e w3 ⟨rfl, h3, ht3⟩
    replace ht := Lib.hid (turn_then ht.out ht3)
    replace h3 := Lib.hid h3
    clear ht3 h1
    go_wp2_with fail
    go_ret
    exact ⟨rfl, h3.out, ht.out⟩
end Go.Proofs.YtkjjjbipmobdaaaGreatDoor
