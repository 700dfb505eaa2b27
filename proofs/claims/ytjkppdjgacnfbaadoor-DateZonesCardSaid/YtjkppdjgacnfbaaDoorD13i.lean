/- Layer 13: Rfc822. -/
import Derived.Test.YtjkppdjgacnfbaaDoorD13h
namespace Go.Proofs.YtjkppdjgacnfbaaDoor
open Go.RowKit

theorem wkF_len (t : List (List UInt8)) (l : List UInt8) : (wkF t l).length ≤ l.length := by
  induction t with
  | nil => exact Nat.le_refl _
  | cons n t ih => rw [wkF_cons]; split; exact trim_len _ _; exact ih
theorem weekdayC_len (s : RSt) : (weekdayC s).1.length ≤ s.1.length := wkF_len _ _
theorem monF_len (t : List (List UInt8)) {l u : List UInt8} {m : Nat} (h : monF t l = some (m, u)) : u.length ≤ l.length := by
  induction t with
  | nil => cases h
  | cons n t ih =>
    rw [monF_cons] at h
    split at h
    · injection h with h; injection h with _ h; subst h; exact trim_len _ _
    · exact ih h
theorem monthC_len (s : RSt) : (monthC s).2.1.length ≤ s.1.length := by
  cases h : monF monthsL s.1 with
  | none => rw [monthC_none h]; exact Nat.le_refl _
  | some p => obtain ⟨m, u⟩ := p; rw [monthC_some h]; exact monF_len _ h
/-- A number, and whether it is one. -/
def OBPost (w : World) (o : Int × Bool) (e : Ending) (w' : World) : Prop := e = .returned (.tuple #[.int .i64 o.1, .bool o.2]) ∧ Below w.heap.size w w'
theorem read_below {w w' : World} {o : Obj} (ht : Turned (fun b => b = w.heap.size) (w.alloc o) w') : Below w.heap.size w w' :=
  ((Below.refl _ _).alloc (Nat.le_refl _) o).trans (ht.below (B := w.heap.size) (fun i _ e => by have : i = w.heap.size := e; omega) (by simp))
/-- The reader's state, and that it alone has turned. -/
def RAt (w0 w : World) (R : Nat) (s : RSt) : Prop := RdC w R s ∧ Turned (fun b => b = R) w0 w
theorem RAt.next {w0 w w' : World} {R : Nat} {s s' : RSt} (h : RAt w0 w R s) (h1 : RdC w' R s') (ht : Turned (fun b => b = R) w w') : RAt w0 w' R s' := ⟨h1, turn_then h.2 ht⟩

set_option maxHeartbeats 1000000 in
theorem rfc822_any (l : List UInt8) (w : World) (hE : Env13 w) (hl : l.length ≤ 1000000) : Calls Tryd.prog 10 #[.string ⟨l.toArray⟩] w (OBPost w (r822C l)) := by
  have hoff := hE.off
  have h0 : RAt (w.alloc (.cells #[.string ⟨l.toArray⟩, .bool false] 38)) (w.alloc (.cells #[.string ⟨l.toArray⟩, .bool false] 38)) w.heap.size (l, false) := ⟨arrAt_new w _ _, Turned.refl _ _⟩
  have hE0 := Lib.hid (hE.below ((Below.refl _ _).alloc (Nat.le_refl _) (.cells #[.string ⟨l.toArray⟩, .bool false] 38)))
  have hfin : ∀ w', Turned (fun b => b = w.heap.size) (w.alloc (.cells #[.string ⟨l.toArray⟩, .bool false] 38)) w' → Below w.heap.size w w' := fun w' ht => read_below ht
  replace h0 := Lib.hid h0
  replace hfin := Lib.hid hfin
  have hW := Lib.hid (fun W (e : Env13 W) (hW : RdC W w.heap.size (l, false)) => weekday13_any w.heap.size (l, false) W e hW)
  obtain ⟨o, ho⟩ : ∃ o, r822C l = o := ⟨_, rfl⟩
  rw [ho]
  unfold r822C at ho
  have l1 : (weekdayC (l, false)).1.length ≤ 1000000 := Nat.le_trans (weekdayC_len (l, false)) hl
  generalize hRe : w.heap.size = R at *
  generalize weekdayC (l, false) = s1 at *
  have hD := Lib.hid (fun W (hW : RdC W R s1) => day13_any R s1 W hW l1)
  have bD := dayC_bd s1
  have l2 := Nat.le_trans (dayC_len s1) l1
  generalize dayC s1 = q at *
  obtain ⟨d, s2⟩ := q
  simp only at hD bD l2
  unfold r822a at ho
  simp only at ho
  have hS1 := Lib.hid (fun W (hW : RdC W R s2) => sign13_any R s2 [32] W hW)
  have l3 := Nat.le_trans (signC_len s2 [32]) l2
  generalize signC s2 [32] = s3 at *
  have hM := Lib.hid (fun W (e : Env13 W) (hW : RdC W R s3) => rmonth13_any R s3 W e hoff hW)
  have bM := monthC_bd s3
  have l4 := Nat.le_trans (monthC_len s3) l3
  generalize monthC s3 = q at *
  obtain ⟨m, s4⟩ := q
  simp only at hM bM l4
  unfold r822b at ho
  simp only at ho
  have hS2 := Lib.hid (fun W (hW : RdC W R s4) => sign13_any R s4 [32] W hW)
  have l5 := Nat.le_trans (signC_len s4 [32]) l4
  generalize signC s4 [32] = s5 at *
  have hY := Lib.hid (fun W (hW : RdC W R s5) => year13_any R s5 W hW l5)
  have bY := yearC_bd s5
  have l6 := Nat.le_trans (yearC_len s5) l5
  generalize yearC s5 = q at *
  obtain ⟨y, s6⟩ := q
  simp only at hY bY l6
  unfold r822d at ho
  simp only at ho
  have hS3 := Lib.hid (fun W (hW : RdC W R s6) => sign13_any R s6 [32] W hW)
  have l7 := Nat.le_trans (signC_len s6 [32]) l6
  generalize signC s6 [32] = s7 at *
  have hH := Lib.hid (fun W (hW : RdC W R s7) => hours13_any R [58] s7 W hW l7)
  have bH := hoursC_bd [58] s7
  have l8 := Nat.le_trans (hoursC_len [58] s7) l7
  generalize hoursC [58] s7 = q at *
  obtain ⟨hr, s8⟩ := q
  simp only at hH bH l8
  unfold r822e at ho
  simp only at ho
  have hK := Lib.hid (fun W (hW : RdC W R s8) => skip13_any R s8 [32] W hW)
  have l9 := Nat.le_trans (skipC_len s8 [32]) l8
  generalize skipC s8 [32] = q at *
  obtain ⟨b, s9⟩ := q
  simp only at hK l9
  unfold r822f at ho
  simp only at ho
  clear hE
  cases b
  · simp only [Bool.false_eq_true, if_false] at ho
    have hC := Lib.hid (fun W (hW : RdC W R s9) => seconds13_any R s9 W hW l9)
    have bC := secondsC_bd s9
    have l10 := Nat.le_trans (secondsC_len s9) l9
    generalize secondsC s9 = q at *
    obtain ⟨c, s10⟩ := q
    simp only at hC bC l10
    have hS4 := Lib.hid (fun W (hW : RdC W R s10) => sign13_any R s10 [32] W hW)
    have l11 := Nat.le_trans (signC_len s10 [32]) l10
    simp only at ho
    generalize signC s10 [32] = s11 at *
    unfold r822g at ho
    simp only at ho
    have hZ := Lib.hid (fun W (hW : RdC W R s11) => zone13_any R s11 W hW l11)
    have bZ := zoneC_bd s11
    generalize zoneC s11 = q at *
    obtain ⟨z, s12⟩ := q
    simp only at hZ bZ ho
    obtain ⟨bZ0, bZ1⟩ := bZ
    have hT := Lib.hid (fun W (hW : RdC W R s12) => date13_any R s12 y m d (((hr + c : Nat) : Int) - z) W hW (by omega) (by omega) (by omega))
    rw [ho] at hT
    clear ho
    rw [show (((hr + c : Nat) : Int) - z) = (hr : Int) + c - z by omega] at hT
    go_enter Tryd.func10, Tryd.ntmps10
    go_wp2_with fail
    refine (hW.out _ hE0.out h0.out.1).mono ?_; rintro e w1 ⟨rfl, x1, t1⟩
    replace h0 := Lib.hid (h0.out.next x1 t1)
    clear x1 t1
    go_wp2_with fail
    refine (hD.out _ h0.out.1).mono ?_; rintro e w2 ⟨rfl, x1, t1⟩
    replace h0 := Lib.hid (h0.out.next x1 t1)
    clear x1 t1
    go_wp2_with fail
    refine (hS1.out _ h0.out.1).mono ?_; rintro e w3 ⟨rfl, x1, t1⟩
    replace h0 := Lib.hid (h0.out.next x1 t1)
    clear x1 t1
    go_wp2_with fail
    refine (hM.out _ (hE0.out.turned h0.out.2 hoff) h0.out.1).mono ?_; rintro e w4 ⟨rfl, x1, t1⟩
    replace h0 := Lib.hid (h0.out.next x1 t1)
    clear x1 t1
    go_wp2_with fail
    refine (hS2.out _ h0.out.1).mono ?_; rintro e w5 ⟨rfl, x1, t1⟩
    replace h0 := Lib.hid (h0.out.next x1 t1)
    clear x1 t1
    go_wp2_with fail
    refine (hY.out _ h0.out.1).mono ?_; rintro e w6 ⟨rfl, x1, t1⟩
    replace h0 := Lib.hid (h0.out.next x1 t1)
    clear x1 t1
    go_wp2_with fail
    refine (hS3.out _ h0.out.1).mono ?_; rintro e w7 ⟨rfl, x1, t1⟩
    replace h0 := Lib.hid (h0.out.next x1 t1)
    clear x1 t1
    go_wp2_with fail
    refine (hH.out _ h0.out.1).mono ?_; rintro e w8 ⟨rfl, x1, t1⟩
    replace h0 := Lib.hid (h0.out.next x1 t1)
    clear x1 t1
    go_wp2_with fail
    refine (hK.out _ h0.out.1).mono ?_; rintro e w9 ⟨rfl, x1, t1⟩
    replace h0 := Lib.hid (h0.out.next x1 t1)
    clear x1 t1
    go_wp2_with fail
    refine (hC.out _ h0.out.1).mono ?_; rintro e w10 ⟨rfl, x1, t1⟩
    replace h0 := Lib.hid (h0.out.next x1 t1)
    clear x1 t1
    go_wp2_with fail
    refine (hS4.out _ h0.out.1).mono ?_; rintro e w11 ⟨rfl, x1, t1⟩
    replace h0 := Lib.hid (h0.out.next x1 t1)
    clear x1 t1
    go_wp2_with fail
    refine (hZ.out _ h0.out.1).mono ?_; rintro e w12 ⟨rfl, x1, t1⟩
    replace h0 := Lib.hid (h0.out.next x1 t1)
    clear x1 t1
    go_wp2_with fail
    refine (hT.out _ h0.out.1).mono ?_; rintro e w13 ⟨rfl, rfl⟩
    go_wp2_with fail
    go_ret2
    exact ⟨rfl, by rw [hRe]; exact hfin.out _ h0.out.2⟩
  · simp only [if_true] at ho
    unfold r822g at ho
    simp only at ho
    have hZ := Lib.hid (fun W (hW : RdC W R s9) => zone13_any R s9 W hW l9)
    have bZ := zoneC_bd s9
    generalize zoneC s9 = q at *
    obtain ⟨z, s12⟩ := q
    simp only at hZ bZ ho
    obtain ⟨bZ0, bZ1⟩ := bZ
    have hT := Lib.hid (fun W (hW : RdC W R s12) => date13_any R s12 y m d ((hr : Int) - z) W hW (by omega) (by omega) (by omega))
    rw [ho] at hT
    clear ho
    go_enter Tryd.func10, Tryd.ntmps10
    go_wp2_with fail
    refine (hW.out _ hE0.out h0.out.1).mono ?_; rintro e w1 ⟨rfl, x1, t1⟩
    replace h0 := Lib.hid (h0.out.next x1 t1)
    clear x1 t1
    go_wp2_with fail
    refine (hD.out _ h0.out.1).mono ?_; rintro e w2 ⟨rfl, x1, t1⟩
    replace h0 := Lib.hid (h0.out.next x1 t1)
    clear x1 t1
    go_wp2_with fail
    refine (hS1.out _ h0.out.1).mono ?_; rintro e w3 ⟨rfl, x1, t1⟩
    replace h0 := Lib.hid (h0.out.next x1 t1)
    clear x1 t1
    go_wp2_with fail
    refine (hM.out _ (hE0.out.turned h0.out.2 hoff) h0.out.1).mono ?_; rintro e w4 ⟨rfl, x1, t1⟩
    replace h0 := Lib.hid (h0.out.next x1 t1)
    clear x1 t1
    go_wp2_with fail
    refine (hS2.out _ h0.out.1).mono ?_; rintro e w5 ⟨rfl, x1, t1⟩
    replace h0 := Lib.hid (h0.out.next x1 t1)
    clear x1 t1
    go_wp2_with fail
    refine (hY.out _ h0.out.1).mono ?_; rintro e w6 ⟨rfl, x1, t1⟩
    replace h0 := Lib.hid (h0.out.next x1 t1)
    clear x1 t1
    go_wp2_with fail
    refine (hS3.out _ h0.out.1).mono ?_; rintro e w7 ⟨rfl, x1, t1⟩
    replace h0 := Lib.hid (h0.out.next x1 t1)
    clear x1 t1
    go_wp2_with fail
    refine (hH.out _ h0.out.1).mono ?_; rintro e w8 ⟨rfl, x1, t1⟩
    replace h0 := Lib.hid (h0.out.next x1 t1)
    clear x1 t1
    go_wp2_with fail
    refine (hK.out _ h0.out.1).mono ?_; rintro e w9 ⟨rfl, x1, t1⟩
    replace h0 := Lib.hid (h0.out.next x1 t1)
    clear x1 t1
    go_wp2_with fail
    refine (hZ.out _ h0.out.1).mono ?_; rintro e w12 ⟨rfl, x1, t1⟩
    replace h0 := Lib.hid (h0.out.next x1 t1)
    clear x1 t1
    go_wp2_with fail
    refine (hT.out _ h0.out.1).mono ?_; rintro e w13 ⟨rfl, rfl⟩
    go_wp2_with fail
    go_ret2
    exact ⟨rfl, by rw [hRe]; exact hfin.out _ h0.out.2⟩
end Go.Proofs.YtjkppdjgacnfbaaDoor
