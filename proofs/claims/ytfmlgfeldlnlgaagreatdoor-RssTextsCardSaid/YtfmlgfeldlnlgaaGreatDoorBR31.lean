/- Layer 13: a reader's zone and date. -/
import Derived.Test.YtfmlgfeldlnlgaaGreatDoorBR30
import Derived.OwnWalk
namespace Go.Proofs.YtfmlgfeldlnlgaaGreatDoor
open Go.RowKit

theorem zoneC_some {s : RSt} {z : Int} (h : zoneNm s.1 = some z) : zoneC s = (z * 3600, ([], s.2)) := by unfold zoneC; rw [h]
theorem zoneC_none {s : RSt} (h : zoneNm s.1 = none) : zoneC s = offsetC [] s := by unfold zoneC; rw [h]

set_option maxHeartbeats 1000000 in
theorem zone_at (R : Nat) (l : List UInt8) (b : Bool) (z : Int)
    (hl : l = [71, 77, 84] ∧ z = 0 ∨ l = [85, 84] ∧ z = 0 ∨ l = [85, 84, 67] ∧ z = 0 ∨ l = [90] ∧ z = 0 ∨ l = [69, 68, 84] ∧ z = -4 ∨ l = [69, 83, 84] ∧ z = -5 ∨ l = [67, 68, 84] ∧ z = -5 ∨ l = [67, 83, 84] ∧ z = -6 ∨ l = [77, 68, 84] ∧ z = -6 ∨ l = [77, 83, 84] ∧ z = -7 ∨ l = [80, 68, 84] ∧ z = -7 ∨ l = [80, 83, 84] ∧ z = -8)
    (w : World) (h : RdC w R (l, b)) :
    Calls Tryz.prog 72 #[.pointer (some ⟨R, 0, none⟩)] w (RPost w R ([], b) (.int .i64 (z * 3600))) := by
  have c0 := h.c0
  have f0 := h.fz 0
  have hr := Lib.hid (h.rest [])
  replace h := Lib.hid h
  rcases hl with ⟨rfl, rfl⟩ | ⟨rfl, rfl⟩ | ⟨rfl, rfl⟩ | ⟨rfl, rfl⟩ | ⟨rfl, rfl⟩ | ⟨rfl, rfl⟩ | ⟨rfl, rfl⟩ | ⟨rfl, rfl⟩ | ⟨rfl, rfl⟩ | ⟨rfl, rfl⟩ | ⟨rfl, rfl⟩ | ⟨rfl, rfl⟩
  all_goals go_enter Tryz.func72, Tryz.ntmps72
  all_goals go_wp2_with fail
  all_goals go_ret
  all_goals exact ⟨rfl, hr.out, turn_rest _ _ _ _⟩
theorem zoneNm_some {l : List UInt8} {z : Int} (h : zoneNm l = some z) : l = [71, 77, 84] ∧ z = 0 ∨ l = [85, 84] ∧ z = 0 ∨ l = [85, 84, 67] ∧ z = 0 ∨ l = [90] ∧ z = 0 ∨ l = [69, 68, 84] ∧ z = -4 ∨ l = [69, 83, 84] ∧ z = -5 ∨ l = [67, 68, 84] ∧ z = -5 ∨ l = [67, 83, 84] ∧ z = -6 ∨ l = [77, 68, 84] ∧ z = -6 ∨ l = [77, 83, 84] ∧ z = -7 ∨ l = [80, 68, 84] ∧ z = -7 ∨ l = [80, 83, 84] ∧ z = -8 := by
  unfold zoneNm at h
  repeat' split at h
  all_goals first | (cases h; done) | skip
  all_goals simp only [Bool.or_eq_true, beq_iff_eq] at *
  all_goals simp only [Option.some.injEq] at h
  all_goals subst h
  all_goals simp_all
  rename_i c
  rcases c with ((c | c) | c) | c <;> simp [c]
theorem zoneNm_none {l : List UInt8} (h : zoneNm l = none) : (l == [71, 77, 84]) = false ∧ (l == [85, 84]) = false ∧ (l == [85, 84, 67]) = false ∧ (l == [90]) = false ∧ (l == [69, 68, 84]) = false ∧ (l == [69, 83, 84]) = false ∧ (l == [67, 68, 84]) = false ∧ (l == [67, 83, 84]) = false ∧ (l == [77, 68, 84]) = false ∧ (l == [77, 83, 84]) = false ∧ (l == [80, 68, 84]) = false ∧ (l == [80, 83, 84]) = false := by
  unfold zoneNm at h
  repeat' split at h
  all_goals first | cases h; done | skip
  simp_all

set_option maxHeartbeats 400000 in
theorem zone13_any (R : Nat) (s : RSt) (w : World) (h : RdC w R s) (hl : s.1.length ≤ 100000000) :
    Calls Tryz.prog 72 #[.pointer (some ⟨R, 0, none⟩)] w (RPost w R (zoneC s).2 (.int .i64 (zoneC s).1)) := by
  cases hz : zoneNm s.1 with
  | some z =>
    rw [zoneC_some hz]
    exact zone_at R s.1 s.2 z (zoneNm_some hz) w h
  | none =>
    rw [zoneC_none hz]
    obtain ⟨e1, e2, e3, e4, e5, e6, e7, e8, e9, e10, e11, e12⟩ := zoneNm_none hz
    have hc := offset13_any R [] s w h hl
    have c0 := h.c0
    generalize offsetC [] s = q at *
    obtain ⟨z, s1⟩ := q
    simp only at hc ⊢
    generalize s.1 = l at *
    replace h := Lib.hid h
    clear hz
    go_enter Tryz.func72, Tryz.ntmps72
    go_wp2_with fail
    refine hc.mono ?_; rintro e w1 ⟨rfl, h1, ht⟩
    replace h1 := Lib.hid h1
    replace ht := Lib.hid ht
    go_wp2_with fail
    go_ret
    exact ⟨rfl, h1.out, ht.out⟩

theorem dateC_no {s : RSt} {y m d : Nat} {c : Int} (h : s.2 = true ∨ s.1 ≠ [] ∨ (daysB y m d).2 = false ∨ (daysB y m d).1 * 86400 + c < 0 ∨ 253402300799 < (daysB y m d).1 * 86400 + c) : dateC s y m d c = (0, false) := by unfold dateC; rw [if_pos h]
theorem dateC_yes {s : RSt} {y m d : Nat} {c : Int} (h : ¬ (s.2 = true ∨ s.1 ≠ [] ∨ (daysB y m d).2 = false ∨ (daysB y m d).1 * 86400 + c < 0 ∨ 253402300799 < (daysB y m d).1 * 86400 + c)) : dateC s y m d c = ((daysB y m d).1 * 86400 + c, true) := by unfold dateC; rw [if_neg h]
theorem ret_ob {o : Int × Bool} {a : Int} {b : Bool} (h : o = (a, b)) : Ending.returned (.tuple #[.int .i64 a, .bool b]) = .returned (.tuple #[.int .i64 o.1, .bool o.2]) := by rw [h]
set_option maxHeartbeats 400000 in
theorem date13_any (R : Nat) (s : RSt) (y m d : Nat) (c : Int) (w : World) (h : RdC w R s) (hy : y ≤ 1000000) (hc0 : -1000000 ≤ c) (hc1 : c ≤ 1000000) :
    Calls Tryz.prog 73 #[.pointer (some ⟨R, 0, none⟩), .int .i64 y, .int .i64 m, .int .i64 d, .int .i64 c] w fun e w' => e = .returned (.tuple #[.int .i64 (dateC s y m d c).1, .bool (dateC s y m d c).2]) ∧ w = w' := by
  have hd := days13_any y m d (by omega) (by omega) w
  have hb := daysB_bd y m d
  have hno := Lib.hid (@dateC_no s y m d c)
  have hyes := Lib.hid (@dateC_yes s y m d c)
  obtain ⟨D, hD⟩ : ∃ D, D = daysB y m d := ⟨_, rfl⟩
  rw [← hD] at hd hb hno hyes
  clear hD
  obtain ⟨x, t⟩ := D
  simp only at hd hb hno hyes
  obtain ⟨hb0, hb1⟩ := hb
  have c0 := h.c0
  have c1 := h.c1
  replace h := Lib.hid h
  generalize dateC s y m d c = o at *
  obtain ⟨l, b⟩ := s
  simp only at c0 c1 hno hyes
  cases b
  · by_cases hl : l = []
    · subst hl
      cases t
      · have ho := Lib.hid (hno.out (Or.inr (Or.inr (Or.inl rfl))))
        clear hno hyes
        go_enter Tryz.func73, Tryz.ntmps73
        go_wp2_with fail
        refine hd.mono ?_; rintro e w1 ⟨rfl, rfl⟩
        go_wp2_with fail
        go_ret2
        exact ⟨ret_ob ho.out, rfl⟩
      · by_cases n0 : x * 86400 + c < 0
        · have ho := Lib.hid (hno.out (Or.inr (Or.inr (Or.inr (Or.inl n0)))))
          clear hno hyes
          go_enter Tryz.func73, Tryz.ntmps73
          go_wp2_with fail
          refine hd.mono ?_; rintro e w1 ⟨rfl, rfl⟩
          go_wp2_with fail
          go_ret2
          exact ⟨ret_ob ho.out, rfl⟩
        · by_cases n1 : 253402300799 < x * 86400 + c
          · have ho := Lib.hid (hno.out (Or.inr (Or.inr (Or.inr (Or.inr n1)))))
            clear hno hyes
            go_enter Tryz.func73, Tryz.ntmps73
            go_wp2_with fail
            refine hd.mono ?_; rintro e w1 ⟨rfl, rfl⟩
            go_wp2_with fail
            go_ret2
            exact ⟨ret_ob ho.out, rfl⟩
          · have ho := Lib.hid (hyes.out (by rintro (e | e | e | e | e); exact Bool.noConfusion e; exact e rfl; exact Bool.noConfusion e; exact n0 e; exact n1 e))
            clear hno hyes
            go_enter Tryz.func73, Tryz.ntmps73
            go_wp2_with fail
            refine hd.mono ?_; rintro e w1 ⟨rfl, rfl⟩
            go_wp2_with fail
            go_ret2
            exact ⟨ret_ob ho.out, rfl⟩
    · have ho := Lib.hid (hno.out (Or.inr (Or.inl hl)))
      have hl1 : l.isEmpty = false := by cases l; exact absurd rfl hl; rfl
      clear hno hyes hl
      go_enter Tryz.func73, Tryz.ntmps73
      go_wp2_with fail
      refine hd.mono ?_; rintro e w1 ⟨rfl, rfl⟩
      go_wp2_with fail
      go_ret2
      exact ⟨ret_ob ho.out, rfl⟩
  · have ho := Lib.hid (hno.out (Or.inl rfl))
    clear hno hyes
    go_enter Tryz.func73, Tryz.ntmps73
    go_wp2_with fail
    refine hd.mono ?_; rintro e w1 ⟨rfl, rfl⟩
    go_wp2_with fail
    go_ret2
    exact ⟨ret_ob ho.out, rfl⟩
end Go.Proofs.YtfmlgfeldlnlgaaGreatDoor

/- Layer 13: Rfc822. -/
namespace Go.Proofs.YtfmlgfeldlnlgaaGreatDoor
open Go.RowKit

theorem wkF_len (t : List (List UInt8)) (l : List UInt8) : (wkF t l).length ≤ l.length := by
  induction t with
  | nil => exact Nat.le_refl _
  | cons n t ih => rw [wkF_cons]; split; exact trim_len _ _; exact ih
theorem weekdayC_len (s : RSt) : (weekdayC s).1.length ≤ s.1.length := wkF_len _ _
theorem monF_len (t : List (List UInt8)) {l u : List UInt8} {m : Nat} (h : monF t l = some (m, u)) : u.length ≤ l.length := by
  induction t with
  | nil => cases h
  | cons n t ih =>
    rw [monF_cons] at h
    split at h
    · injection h with h; injection h with _ h; subst h; exact trim_len _ _
    · exact ih h
theorem monthC_len (s : RSt) : (monthC s).2.1.length ≤ s.1.length := by
  cases h : monF monthsL s.1 with
  | none => rw [monthC_none h]; exact Nat.le_refl _
  | some p => obtain ⟨m, u⟩ := p; rw [monthC_some h]; exact monF_len _ h
/-- A number, and whether it is one. -/
def OBPost (w : World) (o : Int × Bool) (e : Ending) (w' : World) : Prop := e = .returned (.tuple #[.int .i64 o.1, .bool o.2]) ∧ Below w.heap.size w w'
theorem read_below {w w' : World} {o : Obj} (ht : Turned (fun b => b = w.heap.size) (w.alloc o) w') : Below w.heap.size w w' :=
  ((Below.refl _ _).alloc (Nat.le_refl _) o).trans (ht.below (B := w.heap.size) (fun i _ e => by have : i = w.heap.size := e; omega) (by simp))
/-- The reader's state, and that it alone has turned. -/
def RAt (w0 w : World) (R : Nat) (s : RSt) : Prop := RdC w R s ∧ Turned (fun b => b = R) w0 w
theorem RAt.next {w0 w w' : World} {R : Nat} {s s' : RSt} (h : RAt w0 w R s) (h1 : RdC w' R s') (ht : Turned (fun b => b = R) w w') : RAt w0 w' R s' := ⟨h1, turn_then h.2 ht⟩

set_option maxHeartbeats 1000000 in
theorem rfc822_any (l : List UInt8) (w : World) (hE : Env13 w) (hl : l.length ≤ 100000000) : Calls Tryz.prog 38 #[.string ⟨l.toArray⟩] w (OBPost w (r822C l)) := by
  have hoff := hE.off
  have h0 : RAt (w.alloc (.cells #[.string ⟨l.toArray⟩, .bool false] 110)) (w.alloc (.cells #[.string ⟨l.toArray⟩, .bool false] 110)) w.heap.size (l, false) := ⟨arrAt_new w _ _, Turned.refl _ _⟩
  have hE0 := Lib.hid (hE.below ((Below.refl _ _).alloc (Nat.le_refl _) (.cells #[.string ⟨l.toArray⟩, .bool false] 110)))
  have hfin : ∀ w', Turned (fun b => b = w.heap.size) (w.alloc (.cells #[.string ⟨l.toArray⟩, .bool false] 110)) w' → Below w.heap.size w w' := fun w' ht => read_below ht
  replace h0 := Lib.hid h0
  replace hfin := Lib.hid hfin
  have hW := Lib.hid (fun W (e : Env13 W) (hW : RdC W w.heap.size (l, false)) => weekday13_any w.heap.size (l, false) W e hW)
  obtain ⟨o, ho⟩ : ∃ o, r822C l = o := ⟨_, rfl⟩
  rw [ho]
  unfold r822C at ho
  have l1 : (weekdayC (l, false)).1.length ≤ 100000000 := Nat.le_trans (weekdayC_len (l, false)) hl
  generalize hRe : w.heap.size = R at *
  generalize weekdayC (l, false) = s1 at *
  have hD := Lib.hid (fun W (hW : RdC W R s1) => day13_any R s1 W hW l1)
  have bD := dayC_bd s1
  have l2 := Nat.le_trans (dayC_len s1) l1
  generalize dayC s1 = q at *
  obtain ⟨d, s2⟩ := q
  simp only at hD bD l2
  unfold r822a at ho
  simp only at ho
  have hS1 := Lib.hid (fun W (hW : RdC W R s2) => sign13_any R s2 [32] W hW)
  have l3 := Nat.le_trans (signC_len s2 [32]) l2
  generalize signC s2 [32] = s3 at *
  have hM := Lib.hid (fun W (e : Env13 W) (hW : RdC W R s3) => rmonth13_any R s3 W e hoff hW)
  have bM := monthC_bd s3
  have l4 := Nat.le_trans (monthC_len s3) l3
  generalize monthC s3 = q at *
  obtain ⟨m, s4⟩ := q
  simp only at hM bM l4
  unfold r822b at ho
  simp only at ho
  have hS2 := Lib.hid (fun W (hW : RdC W R s4) => sign13_any R s4 [32] W hW)
  have l5 := Nat.le_trans (signC_len s4 [32]) l4
  generalize signC s4 [32] = s5 at *
  have hY := Lib.hid (fun W (hW : RdC W R s5) => year13_any R s5 W hW l5)
  have bY := yearC_bd s5
  have l6 := Nat.le_trans (yearC_len s5) l5
  generalize yearC s5 = q at *
  obtain ⟨y, s6⟩ := q
  simp only at hY bY l6
  unfold r822d at ho
  simp only at ho
  have hS3 := Lib.hid (fun W (hW : RdC W R s6) => sign13_any R s6 [32] W hW)
  have l7 := Nat.le_trans (signC_len s6 [32]) l6
  generalize signC s6 [32] = s7 at *
  have hH := Lib.hid (fun W (hW : RdC W R s7) => hours13_any R [58] s7 W hW l7)
  have bH := hoursC_bd [58] s7
  have l8 := Nat.le_trans (hoursC_len [58] s7) l7
  generalize hoursC [58] s7 = q at *
  obtain ⟨hr, s8⟩ := q
  simp only at hH bH l8
  unfold r822e at ho
  simp only at ho
  have hK := Lib.hid (fun W (hW : RdC W R s8) => skip13_any R s8 [32] W hW)
  have l9 := Nat.le_trans (skipC_len s8 [32]) l8
  generalize skipC s8 [32] = q at *
  obtain ⟨b, s9⟩ := q
  simp only at hK l9
  unfold r822f at ho
  simp only at ho
  clear hE
  cases b
  · simp only [Bool.false_eq_true, if_false] at ho
    have hC := Lib.hid (fun W (hW : RdC W R s9) => seconds13_any R s9 W hW l9)
    have bC := secondsC_bd s9
    have l10 := Nat.le_trans (secondsC_len s9) l9
    generalize secondsC s9 = q at *
    obtain ⟨c, s10⟩ := q
    simp only at hC bC l10
    have hS4 := Lib.hid (fun W (hW : RdC W R s10) => sign13_any R s10 [32] W hW)
    have l11 := Nat.le_trans (signC_len s10 [32]) l10
    simp only at ho
    generalize signC s10 [32] = s11 at *
    unfold r822g at ho
    simp only at ho
    have hZ := Lib.hid (fun W (hW : RdC W R s11) => zone13_any R s11 W hW l11)
    have bZ := zoneC_bd s11
    generalize zoneC s11 = q at *
    obtain ⟨z, s12⟩ := q
    simp only at hZ bZ ho
    obtain ⟨bZ0, bZ1⟩ := bZ
    have hT := Lib.hid (fun W (hW : RdC W R s12) => date13_any R s12 y m d (((hr + c : Nat) : Int) - z) W hW (by omega) (by omega) (by omega))
    rw [ho] at hT
    clear ho
    rw [show (((hr + c : Nat) : Int) - z) = (hr : Int) + c - z by omega] at hT
    go_enter Tryz.func38, Tryz.ntmps38
    go_wp2_with fail
    refine (hW.out _ hE0.out h0.out.1).mono ?_; rintro e w1 ⟨rfl, x1, t1⟩
    replace h0 := Lib.hid (h0.out.next x1 t1)
    clear x1 t1
    go_wp2_with fail
    refine (hD.out _ h0.out.1).mono ?_; rintro e w2 ⟨rfl, x1, t1⟩
    replace h0 := Lib.hid (h0.out.next x1 t1)
    clear x1 t1
    go_wp2_with fail
    refine (hS1.out _ h0.out.1).mono ?_; rintro e w3 ⟨rfl, x1, t1⟩
    replace h0 := Lib.hid (h0.out.next x1 t1)
    clear x1 t1
    go_wp2_with fail
    refine (hM.out _ (hE0.out.turned h0.out.2 hoff) h0.out.1).mono ?_; rintro e w4 ⟨rfl, x1, t1⟩
    replace h0 := Lib.hid (h0.out.next x1 t1)
    clear x1 t1
    go_wp2_with fail
    refine (hS2.out _ h0.out.1).mono ?_; rintro e w5 ⟨rfl, x1, t1⟩
    replace h0 := Lib.hid (h0.out.next x1 t1)
    clear x1 t1
    go_wp2_with fail
    refine (hY.out _ h0.out.1).mono ?_; rintro e w6 ⟨rfl, x1, t1⟩
    replace h0 := Lib.hid (h0.out.next x1 t1)
    clear x1 t1
    go_wp2_with fail
    refine (hS3.out _ h0.out.1).mono ?_; rintro e w7 ⟨rfl, x1, t1⟩
    replace h0 := Lib.hid (h0.out.next x1 t1)
    clear x1 t1
    go_wp2_with fail
    refine (hH.out _ h0.out.1).mono ?_; rintro e w8 ⟨rfl, x1, t1⟩
    replace h0 := Lib.hid (h0.out.next x1 t1)
    clear x1 t1
    go_wp2_with fail
    refine (hK.out _ h0.out.1).mono ?_; rintro e w9 ⟨rfl, x1, t1⟩
    replace h0 := Lib.hid (h0.out.next x1 t1)
    clear x1 t1
    go_wp2_with fail
    refine (hC.out _ h0.out.1).mono ?_; rintro e w10 ⟨rfl, x1, t1⟩
    replace h0 := Lib.hid (h0.out.next x1 t1)
    clear x1 t1
    go_wp2_with fail
    refine (hS4.out _ h0.out.1).mono ?_; rintro e w11 ⟨rfl, x1, t1⟩
    replace h0 := Lib.hid (h0.out.next x1 t1)
    clear x1 t1
    go_wp2_with fail
    refine (hZ.out _ h0.out.1).mono ?_; rintro e w12 ⟨rfl, x1, t1⟩
    replace h0 := Lib.hid (h0.out.next x1 t1)
    clear x1 t1
    go_wp2_with fail
    refine (hT.out _ h0.out.1).mono ?_; rintro e w13 ⟨rfl, rfl⟩
    go_wp2_with fail
    go_ret2
    exact ⟨rfl, by rw [hRe]; exact hfin.out _ h0.out.2⟩
  · simp only [if_true] at ho
    unfold r822g at ho
    simp only at ho
    have hZ := Lib.hid (fun W (hW : RdC W R s9) => zone13_any R s9 W hW l9)
    have bZ := zoneC_bd s9
    generalize zoneC s9 = q at *
    obtain ⟨z, s12⟩ := q
    simp only at hZ bZ ho
    obtain ⟨bZ0, bZ1⟩ := bZ
    have hT := Lib.hid (fun W (hW : RdC W R s12) => date13_any R s12 y m d ((hr : Int) - z) W hW (by omega) (by omega) (by omega))
    rw [ho] at hT
    clear ho
    go_enter Tryz.func38, Tryz.ntmps38
    go_wp2_with fail
    refine (hW.out _ hE0.out h0.out.1).mono ?_; rintro e w1 ⟨rfl, x1, t1⟩
    replace h0 := Lib.hid (h0.out.next x1 t1)
    clear x1 t1
    go_wp2_with fail
    refine (hD.out _ h0.out.1).mono ?_; rintro e w2 ⟨rfl, x1, t1⟩
    replace h0 := Lib.hid (h0.out.next x1 t1)
    clear x1 t1
    go_wp2_with fail
    refine (hS1.out _ h0.out.1).mono ?_; rintro e w3 ⟨rfl, x1, t1⟩
    replace h0 := Lib.hid (h0.out.next x1 t1)
    clear x1 t1
    go_wp2_with fail
    refine (hM.out _ (hE0.out.turned h0.out.2 hoff) h0.out.1).mono ?_; rintro e w4 ⟨rfl, x1, t1⟩
    replace h0 := Lib.hid (h0.out.next x1 t1)
    clear x1 t1
    go_wp2_with fail
    refine (hS2.out _ h0.out.1).mono ?_; rintro e w5 ⟨rfl, x1, t1⟩
    replace h0 := Lib.hid (h0.out.next x1 t1)
    clear x1 t1
    go_wp2_with fail
    refine (hY.out _ h0.out.1).mono ?_; rintro e w6 ⟨rfl, x1, t1⟩
    replace h0 := Lib.hid (h0.out.next x1 t1)
    clear x1 t1
    go_wp2_with fail
    refine (hS3.out _ h0.out.1).mono ?_; rintro e w7 ⟨rfl, x1, t1⟩
    replace h0 := Lib.hid (h0.out.next x1 t1)
    clear x1 t1
    go_wp2_with fail
    refine (hH.out _ h0.out.1).mono ?_; rintro e w8 ⟨rfl, x1, t1⟩
    replace h0 := Lib.hid (h0.out.next x1 t1)
    clear x1 t1
    go_wp2_with fail
    refine (hK.out _ h0.out.1).mono ?_; rintro e w9 ⟨rfl, x1, t1⟩
    replace h0 := Lib.hid (h0.out.next x1 t1)
    clear x1 t1
    go_wp2_with fail
    refine (hZ.out _ h0.out.1).mono ?_; rintro e w12 ⟨rfl, x1, t1⟩
    replace h0 := Lib.hid (h0.out.next x1 t1)
    clear x1 t1
    go_wp2_with fail
    refine (hT.out _ h0.out.1).mono ?_; rintro e w13 ⟨rfl, rfl⟩
    go_wp2_with fail
    go_ret2
    exact ⟨rfl, by rw [hRe]; exact hfin.out _ h0.out.2⟩
end Go.Proofs.YtfmlgfeldlnlgaaGreatDoor

/- Layer 13, the reference: digits, sign, names, Month, year, whole; plain and walked. -/
namespace Go.Proofs.YtfmlgfeldlnlgaaGreatDoor
open Go.RowKit

def digR (k : Nat) (l : List UInt8) : Nat × List UInt8 × Bool := if aheadL l < k then (0, [], false) else (valN 0 (l.take k), l.drop k, true)
theorem digR_bd (k : Nat) (l : List UInt8) : (digR k l).1 < 10 ^ k := by
  unfold digR
  split
  · exact Nat.pow_pos (by omega)
  · exact valN_bd (by omega)
theorem digR_len (k : Nat) (l : List UInt8) : (digR k l).2.1.length ≤ l.length := by unfold digR; split <;> simp
def sgR (l p : List UInt8) : List UInt8 × Bool := if Lib.hasPrefix l p then (l.drop p.length, true) else ([], false)
theorem sgR_len (l p : List UInt8) : (sgR l p).1.length ≤ l.length := by unfold sgR; split <;> simp
theorem sgR_yes {l p : List UInt8} (_h : p.length ≤ l.length) (h2 : (l.take p.length == p) = true) : sgR l p = (l.drop p.length, true) := by
  unfold sgR
  rw [if_pos]
  unfold Lib.hasPrefix
  rw [List.isPrefixOf_iff_prefix]
  rw [beq_iff_eq] at h2
  exact ⟨l.drop p.length, by have := List.take_append_drop p.length l; rw [h2] at this; exact this⟩
theorem sgR_no {l p : List UInt8} (h2 : (l.take p.length == p) = false) : sgR l p = ([], false) := by
  unfold sgR
  rw [if_neg]
  unfold Lib.hasPrefix
  rw [List.isPrefixOf_iff_prefix]
  rintro ⟨t, rfl⟩
  simp at h2
theorem sgR_short {l p : List UInt8} (h : l.length < p.length) : sgR l p = ([], false) := by
  refine sgR_no ?_
  rw [beq_eq_false_iff_ne]
  intro e
  have := congrArg List.length e
  rw [List.length_take] at this
  omega
def yerR (l : List UInt8) : Nat × List UInt8 × Bool :=
  if (digR 4 l).2.2 then ((digR 4 l).1, (digR 4 l).2.1, true)
  else (if (digR 2 l).1 < 50 then 2000 + (digR 2 l).1 else 1900 + (digR 2 l).1, (digR 2 l).2.1, (digR 2 l).2.2)
def wholeR (y m d : Nat) (sec zone : Int) : Int × Bool :=
  (86400 * (daysB y m d).1 + sec - zone, (daysB y m d).2 && decide (0 ≤ 86400 * (daysB y m d).1 + sec - zone) && decide (86400 * (daysB y m d).1 + sec - zone ≤ 253402300799))
/-- A number, what is left, and whether it is one. -/
def trV (o : Nat × List UInt8 × Bool) : Value := .tuple #[.int .i64 o.1, .string ⟨o.2.1.toArray⟩, .bool o.2.2]
theorem ret_tr {o : Nat × List UInt8 × Bool} {a : Int} {l : List UInt8} {b : Bool} {x : Nat} (h : o = (x, l, b)) (hx : a = x) : Ending.returned (.tuple #[.int .i64 a, .string ⟨l.toArray⟩, .bool b]) = .returned (trV o) := by rw [h, hx]; rfl

set_option maxHeartbeats 400000 in
theorem digits13r_any (n : Nat) (l : List UInt8) (w : World) (hl : l.length ≤ 100000000) (hn : n ≤ 4) :
    Calls Tryz.prog 77 #[.string ⟨l.toArray⟩, .int .i64 n] w fun e w' => e = .returned (trV (digR n l)) ∧ Drawn w w' := by
  have hle := aheadL_le l
  by_cases hs : l.length < n
  · have ho := Lib.hid (show digR n l = (0, [], false) by unfold digR; rw [if_pos (by omega)])
    have hs1 : (l.length : Int) < n := by omega
    generalize digR n l = o at *
    clear hle
    go_enter Tryz.func77, Tryz.ntmps77
    go_wp2_with fail
    go_ret3
    exact ⟨ret_tr ho.out rfl, Drawn.refl _⟩
  have hs1 : ¬ ((l.length : Int) < n) := by omega
  have hbd := Lib.hid (fun k (hk : k ≤ aheadL l) => valN_bd (l := l) (k := k) hk)
  have hno := Lib.hid (fun k (hk : aheadL l = k) (hkn : k < n) => (show digR n l = (0, [], false) by unfold digR; rw [if_pos (by omega)]))
  have hyes := Lib.hid (fun (hk : n ≤ aheadL l) => (show digR n l = (valN 0 (l.take n), l.drop n, true) by unfold digR; rw [if_neg (by omega)]))
  generalize digR n l = o at *
  clear hle
  go_enter Tryz.func77, Tryz.ntmps77
  go_wp2_with fail
  go_loopw [7, 8] (fun z i wr => ∃ k x : Nat, k ≤ n ∧ x ≤ 9999 ∧ z = .int .i64 x ∧ i = .int .i64 k ∧ Hid (x = valN 0 (l.take k)) ∧ Hid (aheadL l = k + aheadL (l.drop k)) ∧ Hid (w = wr)) (fun _ i _ => n - (intOf i).toNat)
  case atStart => exact ⟨0, 0, Nat.zero_le _, by omega, rfl, rfl, by rw [List.take_zero]; rfl, by rw [List.drop_zero, Nat.zero_add]; rfl, rfl⟩
  case round =>
    obtain ⟨k, x, hkn, hx, rfl, rfl, he, ha, hwr⟩ := hrel
    by_cases hlt : k < n
    · have hkl : k < l.length := by omega
      have hkl1 : (k : Int) < l.length := by omega
      have hlt1 : (k : Int) < n := by omega
      have hat := aheadL_at hkl
      have hb := bt_lt l k
      by_cases h1 : 48 ≤ bt l k
      · by_cases h2 : bt l k ≤ 57
        · rw [if_pos ⟨h1, h2⟩] at hat
          have ha2 := Lib.hid (show aheadL l = (k + 1) + aheadL (l.drop (k + 1)) by have := ha.out; omega)
          have hv := valN_next hkl h1
          have hb2 : valN 0 (l.take (k + 1)) ≤ 9999 := by
            have h3 := hbd.out (k + 1) (by have := ha2.out; omega)
            have h4 : 10 ^ (k + 1) ≤ 10 ^ 4 := Nat.pow_le_pow_right (by decide) (by omega)
            generalize valN 0 (l.take (k + 1)) = a at *
            generalize 10 ^ (k + 1) = b at *
            omega
          rw [← he.out] at hv
          have hx2 := Lib.hid hv
          replace hat := Lib.hid hat
          clear hv
          go_wp2_with fail
          exact ⟨⟨k + 1, valN 0 (l.take (k + 1)), by omega, hb2, vi64 (by rw [hx2.out]; omega), vi64 (by omega), rfl, ha2, hwr⟩, by simp [intOf]; omega⟩
        · rw [if_neg (fun h => h2 h.2)] at hat
          have ho := Lib.hid (hno.out k (by have := ha.out; omega) hlt)
          replace hat := Lib.hid hat
          go_wp2_with fail
          go_ret3
          exact ⟨ret_tr ho.out rfl, by rw [hwr.out]; exact Drawn.refl _⟩
      · rw [if_neg (fun h => h1 h.1)] at hat
        have ho := Lib.hid (hno.out k (by have := ha.out; omega) hlt)
        replace hat := Lib.hid hat
        go_wp2_with fail
        go_ret3
        exact ⟨ret_tr ho.out rfl, by rw [hwr.out]; exact Drawn.refl _⟩
    · have hlt1 : ¬ ((k : Int) < n) := by omega
      have ho := Lib.hid (hyes.out (by have := ha.out; omega))
      have hx2 := Lib.hid (show x = valN 0 (l.take n) by rw [he.out, show k = n by omega])
      have j1 : (n : Int) ≤ (l.length : Int) := by omega
      have j2 : (0 : Int) ≤ (n : Int) := by omega
      obtain rfl := hwr.out
      go_wp2_with fail
      go_quiet (fail)
      go_wp2_with fail
      go_ret3
      exact ⟨ret_tr ho.out (by rw [hx2.out]), ⟨_, rfl⟩⟩

theorem ret_sb {o : List UInt8 × Bool} {l : List UInt8} {b : Bool} (h : o = (l, b)) : Ending.returned (.tuple #[.string ⟨l.toArray⟩, .bool b]) = .returned (.tuple #[.string ⟨o.1.toArray⟩, .bool o.2]) := by rw [h]
theorem sign13r_any (l p : List UInt8) (w : World) (_hl : l.length ≤ 100000000) (_hp : p.length ≤ 10) :
    Calls Tryz.prog 78 #[.string ⟨l.toArray⟩, .string ⟨p.toArray⟩] w fun e w' => e = .returned (.tuple #[.string ⟨(sgR l p).1.toArray⟩, .bool (sgR l p).2]) ∧ w = w' := by
  by_cases hs : l.length < p.length
  · have ho := Lib.hid (sgR_short hs)
    generalize sgR l p = o at *
    have hs1 : (l.length : Int) < p.length := by omega
    go_enter Tryz.func78, Tryz.ntmps78
    go_wp2_with fail
    go_ret2
    exact ⟨ret_sb ho.out, rfl⟩
  have hs1 : ¬ ((l.length : Int) < p.length) := by omega
  have hs2 : (p.length : Int) ≤ l.length := by omega
  cases hb : (l.take p.length == p)
  · have ho := Lib.hid (sgR_no hb)
    generalize sgR l p = o at *
    go_enter Tryz.func78, Tryz.ntmps78
    go_wp2_with fail
    go_ret2
    exact ⟨ret_sb ho.out, rfl⟩
  · have ho := Lib.hid (sgR_yes (by omega) hb)
    generalize sgR l p = o at *
    go_enter Tryz.func78, Tryz.ntmps78
    go_wp2_with fail
    go_ret2
    exact ⟨ret_sb ho.out, rfl⟩

theorem flat3 {L : List (List UInt8)} (h : ∀ n ∈ L, n.length = 3) (k : Nat) (hk : k < L.length) : (L.flatten.take (3 * k + 3)).drop (3 * k) = L.getD k [] := by
  induction L generalizing k with
  | nil => simp at hk
  | cons n t ih =>
    have hn := h n (by simp)
    cases k with
    | zero => simp [hn]
    | succ k =>
      have := ih (fun m hm => h m (by simp [hm])) k (by simpa using hk)
      rw [List.getD_cons_succ, ← this, List.flatten_cons, List.take_append, List.drop_append, hn]
      rw [show 3 * (k + 1) + 3 - 3 = 3 * k + 3 by omega, show 3 * (k + 1) - (List.take (3 * (k + 1) + 3) n).length = 3 * k by rw [List.length_take]; omega]
      rw [List.drop_eq_nil_of_le (by rw [List.length_take]; omega)]
      rfl
theorem flat_len13 {L : List (List UInt8)} (h : ∀ n ∈ L, n.length = 3) : L.flatten.length = 3 * L.length := by
  induction L with
  | nil => rfl
  | cons n t ih => rw [List.flatten_cons, List.length_append, h n (by simp), ih (fun m hm => h m (by simp [hm])), List.length_cons]; omega
set_option maxHeartbeats 400000 in
theorem names13r_any (L : List (List UInt8)) (hL : ∀ n ∈ L, n.length = 3) (hLn : L.length ≤ 100) (l : List UInt8) (w : World) :
    Calls Tryz.prog 76 #[.string ⟨L.flatten.toArray⟩, .string ⟨l.toArray⟩] w fun e w' => e = .returned (.int .i64 (mIx 0 L l : Nat)) ∧ w = w' := by
  have hfl := flat_len13 hL
  have hf := Lib.hid (fun k hk => flat3 hL k hk)
  generalize L.flatten = A at *
  have hAl : A.length ≤ 300 := by omega
  replace hfl := Lib.hid hfl
  replace hL := Lib.hid hL
  go_enter Tryz.func76, Tryz.ntmps76
  go_wp2_with fail
  go_loopw [5] (fun i wr => ∃ k : Nat, k ≤ L.length ∧ i = .int .i64 k ∧ Hid (mIx 0 L l = mIx k (L.drop k) l) ∧ Hid (w = wr)) (fun i _ => L.length - (intOf i).toNat)
  case atStart => exact ⟨0, Nat.zero_le _, rfl, by rw [List.drop_zero]; rfl, rfl⟩
  case round =>
    obtain ⟨k, hk, rfl, he, hwr⟩ := hrel
    by_cases hlt : k < L.length
    · have hk1 : 3 * (k : Int) + 3 ≤ A.length := by have := hfl.out; omega
      have hk2 : 3 * k + 3 ≤ A.length := by have := hfl.out; omega
      have hsl := hf.out k hlt
      have hwd := drop_get L [] k hlt
      rw [hwd] at he
      clear hwd
      generalize L.getD k [] = n at *
      rw [mIx_cons] at he
      have hix : ∀ W : World, (Instr.slice 9 (.string ⟨A.toArray⟩) (some (.int .i64 (3 * (k : Int)))) (some (.int .i64 (3 * (k : Int) + 3))) none).run Tryz.prog W = .ok (.string ⟨n.toArray⟩) W := fun W => by
        rw [run_slice_string W 9 ⟨A.toArray⟩ .i64 .i64 _ _ Tryz.underlying9 (by omega) (by omega) (by show _ ≤ ((A.length : Nat) : Int); omega), show (3 * (k : Int)).toNat = 3 * k by omega, show (3 * (k : Int) + 3).toNat = 3 * k + 3 by omega, ba_extract, hsl]
      replace hsl := Lib.hid hsl
      cases hb : (n == l)
      · have he2 := he.out
        rw [hb] at he2
        simp only [Bool.false_eq_true, if_false] at he2
        replace he2 := Lib.hid he2
        clear he
        go_wp2_with fail
        exact ⟨⟨k + 1, by omega, vi64 (by omega), he2, hwr⟩, by simp [intOf]; omega⟩
      · have he2 := he.out
        rw [hb] at he2
        simp only [if_true] at he2
        replace he2 := Lib.hid he2
        clear he
        go_wp2_with fail
        go_ret
        exact ⟨ret_int (by rw [he2.out]; omega), hwr.out⟩
    · have he2 := Lib.hid (show mIx 0 L l = 0 by rw [he.out, List.drop_eq_nil_of_le (by omega)]; rfl)
      have hk1 : ¬ (3 * (k : Int) + 3 ≤ A.length) := by have := hfl.out; omega
      have hk2 : ¬ (3 * k + 3 ≤ A.length) := by have := hfl.out; omega
      clear he
      go_wp2_with fail
      go_ret
      exact ⟨ret_int (by rw [he2.out]; rfl), hwr.out⟩
theorem months_three : ∀ n ∈ monthsL, n.length = 3 := by decide
theorem week_three : ∀ n ∈ weekL, n.length = 3 := by decide
theorem rmonthr_any (l : List UInt8) (w : World) : Calls Tryz.prog 79 #[.string ⟨l.toArray⟩] w fun e w' => e = .returned (.int .i64 (monIx l : Nat)) ∧ w = w' := by
  have hc := names13r_any monthsL months_three (by decide) l w
  unfold monIx
  go_enter Tryz.func79, Tryz.ntmps79
  go_wp2_with fail
  refine hc.mono ?_; rintro e w1 ⟨rfl, rfl⟩
  go_wp2_with fail
  go_ret
  exact ⟨rfl, rfl⟩

theorem year13r_any (l : List UInt8) (w : World) (hl : l.length ≤ 100000000) : Calls Tryz.prog 80 #[.string ⟨l.toArray⟩] w fun e w' => e = .returned (trV (yerR l)) ∧ Drawn w w' := by
  have h4 := Lib.hid (fun W : World => digits13r_any 4 l W hl (by omega))
  have h2 := Lib.hid (fun W : World => digits13r_any 2 l W hl (by omega))
  have b4 := digR_bd 4 l
  have b2 := digR_bd 2 l
  unfold yerR
  generalize digR 4 l = p at *
  generalize digR 2 l = q at *
  obtain ⟨x, t, a⟩ := p
  obtain ⟨y, u, b⟩ := q
  unfold trV at h2 h4 ⊢
  simp only at b2 b4 h2 h4 ⊢
  cases a
  · simp only [Bool.false_eq_true, if_false]
    by_cases hy : y < 50
    · have hy1 : (y : Int) < 50 := by omega
      rw [if_pos hy]
      go_enter Tryz.func80, Tryz.ntmps80
      go_wp2_with fail
      refine (h4.out _).mono ?_; rintro e w1 ⟨rfl, d1⟩
      replace d1 := Lib.hid d1
      go_wp2_with fail
      refine (h2.out _).mono ?_; rintro e w2 ⟨rfl, d2⟩
      replace d2 := Lib.hid d2
      go_wp2_with fail
      go_ret3
      exact ⟨ret_tr (o := (2000 + y, u, b)) rfl (by omega), d1.out.trans d2.out⟩
    · have hy1 : ¬ ((y : Int) < 50) := by omega
      rw [if_neg hy]
      go_enter Tryz.func80, Tryz.ntmps80
      go_wp2_with fail
      refine (h4.out _).mono ?_; rintro e w1 ⟨rfl, d1⟩
      replace d1 := Lib.hid d1
      go_wp2_with fail
      refine (h2.out _).mono ?_; rintro e w2 ⟨rfl, d2⟩
      replace d2 := Lib.hid d2
      go_wp2_with fail
      go_ret3
      exact ⟨ret_tr (o := (1900 + y, u, b)) rfl (by omega), d1.out.trans d2.out⟩
  · simp only [if_true]
    go_enter Tryz.func80, Tryz.ntmps80
    go_wp2_with fail
    refine (h4.out _).mono ?_; rintro e w1 ⟨rfl, d1⟩
    replace d1 := Lib.hid d1
    go_wp2_with fail
    go_ret3
    exact ⟨rfl, d1.out⟩

theorem whole13r_any (y m d : Nat) (s z : Int) (w : World) (hy : y ≤ 1000000) (hs0 : 0 ≤ s) (hs1 : s ≤ 1000000) (hz0 : -1000000 ≤ z) (hz1 : z ≤ 1000000) :
    Calls Tryz.prog 83 #[.int .i64 y, .int .i64 m, .int .i64 d, .int .i64 s, .int .i64 z] w fun e w' => e = .returned (.tuple #[.int .i64 (wholeR y m d s z).1, .bool (wholeR y m d s z).2]) ∧ w = w' := by
  have hd := refdays13_any y m d (by omega) (by omega) w
  have hb := daysB_bd y m d
  unfold wholeR
  generalize daysB y m d = D at *
  obtain ⟨x, t⟩ := D
  simp only at hd hb ⊢
  obtain ⟨hb0, hb1⟩ := hb
  cases t
  · go_enter Tryz.func83, Tryz.ntmps83
    go_wp2_with fail
    refine hd.mono ?_; rintro e w1 ⟨rfl, rfl⟩
    go_wp2_with fail
    go_ret2
    exact ⟨ret_ib rfl (by simp), rfl⟩
  · by_cases n0 : 0 ≤ 86400 * x + s - z
    · by_cases n1 : 86400 * x + s - z ≤ 253402300799
      · go_enter Tryz.func83, Tryz.ntmps83
        go_wp2_with fail
        refine hd.mono ?_; rintro e w1 ⟨rfl, rfl⟩
        go_wp2_with fail
        go_ret2
        exact ⟨ret_ib rfl (by rw [decide_eq_true n0, decide_eq_true n1]; rfl), rfl⟩
      · go_enter Tryz.func83, Tryz.ntmps83
        go_wp2_with fail
        refine hd.mono ?_; rintro e w1 ⟨rfl, rfl⟩
        go_wp2_with fail
        go_ret2
        exact ⟨ret_ib rfl (by simp <;> omega), rfl⟩
    · go_enter Tryz.func83, Tryz.ntmps83
      go_wp2_with fail
      refine hd.mono ?_; rintro e w1 ⟨rfl, rfl⟩
      go_wp2_with fail
      go_ret2
      exact ⟨ret_ib rfl (by simp <;> omega), rfl⟩
end Go.Proofs.YtfmlgfeldlnlgaaGreatDoor
