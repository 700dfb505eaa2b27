/- Layer 13: a reader: skip, sign, ahead, digits, number, part. -/
import Derived.Test.YtjkppdjgacnfbaaDoorCp
import Derived.Test.YtjkppdjgacnfbaaDoorTn
import Derived.Test.YtjkppdjgacnfbaaDoorD13c
import Derived.Test.YtjkppdjgacnfbaaDoorD13q
namespace Go.Proofs.YtjkppdjgacnfbaaDoor
open Go.RowKit

/-- A reader in its block. -/
def RdC (w : World) (R : Nat) (s : RSt) : Prop := ArrAt w R 38 [.string ⟨s.1.toArray⟩, .bool s.2]
theorem RdC.c0 {w : World} {R : Nat} {s : RSt} (h : RdC w R s) : w.cell? ⟨R, 0, none⟩ = some (.string ⟨s.1.toArray⟩) := by rw [ArrAt.cell h 0]; rfl
theorem RdC.c1 {w : World} {R : Nat} {s : RSt} (h : RdC w R s) : w.cell? ⟨R, 1, none⟩ = some (.bool s.2) := by rw [ArrAt.cell h 1]; rfl
theorem RdC.fz {w : World} {R : Nat} {s : RSt} (h : RdC w R s) (k : Nat) : w.frozen? ⟨R, k, none⟩ = false := ArrAt.soft h k
theorem RdC.rest {w : World} {R : Nat} {s : RSt} (h : RdC w R s) (l : List UInt8) : RdC (w.setCell ⟨R, 0, none⟩ (.string ⟨l.toArray⟩)) R (l, s.2) := ArrAt.set h 0 _
theorem RdC.bad {w : World} {R : Nat} {s : RSt} (h : RdC w R s) (b : Bool) : RdC (w.setCell ⟨R, 1, none⟩ (.bool b)) R (s.1, b) := ArrAt.set h 1 _
/-- Behind a method: what it told, the reader behind it, and nothing else has turned. -/
def RPost (w : World) (R : Nat) (s : RSt) (v : Value) (e : Ending) (w' : World) : Prop := e = .returned v ∧ RdC w' R s ∧ Turned (fun b => b = R) w w'
theorem RPost.mk {w w' : World} {R : Nat} {s s' : RSt} {v : Value} (hs : s = s') (h : RdC w' R s) (ht : Turned (fun b => b = R) w w') : RPost w R s' v (.returned v) w' := by subst hs; exact ⟨rfl, h, ht⟩
theorem RPost.mk2 {w w' : World} {R : Nat} {s s' : RSt} {v v' : Value} (hv : v = v') (hs : s = s') (h : RdC w' R s) (ht : Turned (fun b => b = R) w w') : RPost w R s' v' (.returned v) w' := by subst hs hv; exact ⟨rfl, h, ht⟩
theorem turn_rest (w : World) (R : Nat) (k : Nat) (v : Value) : Turned (fun b => b = R) w (w.setCell ⟨R, k, none⟩ v) := turned_setCell w ⟨R, k, none⟩ v
theorem turn_then {a b c : World} {R : Nat} (h : Turned (fun x => x = R) a b) (k : Turned (fun x => x = R) b c) : Turned (fun x => x = R) a c := h.trans k fun _ _ e => e

theorem skip13_any (R : Nat) (s : RSt) (p : List UInt8) (w : World) (h : RdC w R s) :
    Calls Tryd.prog 34 #[.pointer (some ⟨R, 0, none⟩), .string ⟨p.toArray⟩] w (RPost w R (skipC s p).2 (.bool (skipC s p).1)) := by
  have c0 := h.c0
  have f0 := h.fz 0
  have hr := Lib.hid (h.rest (Lib.trimPrefix s.1 p))
  have hc := fun W : World => cutPrefix_any s.1 p W
  unfold skipC
  simp only
  generalize Lib.trimPrefix s.1 p = t at *
  generalize Lib.hasPrefix s.1 p = b at *
  replace h := Lib.hid h
  go_enter Tryd.func34, Tryd.ntmps34
  go_wp2_with fail
  refine (hc _).mono ?_; rintro e w1 ⟨rfl, rfl⟩
  go_wp2_with fail
  go_ret
  exact ⟨rfl, hr.out, turn_rest _ _ _ _⟩

theorem sign13_any (R : Nat) (s : RSt) (p : List UInt8) (w : World) (h : RdC w R s) :
    Calls Tryd.prog 30 #[.pointer (some ⟨R, 0, none⟩), .string ⟨p.toArray⟩] w (RPost w R (signC s p) (.tuple #[])) := by
  have hk := skip13_any R s p w h
  unfold skipC at hk
  unfold signC
  simp only at hk ⊢
  generalize Lib.trimPrefix s.1 p = t at *
  cases hb : Lib.hasPrefix s.1 p
  · rw [hb] at hk
    simp only [Bool.false_eq_true, if_false]
    replace h := Lib.hid h
    clear hb
    go_enter Tryd.func30, Tryd.ntmps30
    go_wp2_with fail
    refine hk.mono ?_; rintro e w1 ⟨rfl, h1, ht⟩
    have c1 := h1.c1
    have f1 := h1.fz 1
    replace h1 := Lib.hid h1
    replace ht := Lib.hid ht
    go_wp2_with fail
    refine bodyPost_end (v := .tuple #[]) (by simp [results, Tryd.results30, go_sem]) rfl ?_
    exact ⟨rfl, h1.out.bad true, turn_then ht.out (turn_rest _ _ _ _)⟩
  · rw [hb] at hk
    simp only [if_true]
    replace h := Lib.hid h
    clear hb
    go_enter Tryd.func30, Tryd.ntmps30
    go_wp2_with fail
    refine hk.mono ?_; rintro e w1 ⟨rfl, h1, ht⟩
    replace h1 := Lib.hid h1
    replace ht := Lib.hid ht
    go_wp2_with fail
    refine bodyPost_end (v := .tuple #[]) (by simp [results, Tryd.results30, go_sem]) rfl ?_
    exact ⟨rfl, h1.out, ht.out⟩

theorem ahead13_any (R : Nat) (s : RSt) (w : World) (h : RdC w R s) (hl : s.1.length ≤ 1000000) :
    Calls Tryd.prog 55 #[.pointer (some ⟨R, 0, none⟩)] w fun e w' => e = .returned (.int .i64 (aheadL s.1)) ∧ w = w' := by
  have c0 := h.c0
  generalize s.1 = l at *
  replace h := Lib.hid h
  go_enter Tryd.func55, Tryd.ntmps55
  go_wp2_with fail
  go_loopw [3] (fun a wr => ∃ k : Nat, k ≤ l.length ∧ a = .int .i64 k ∧ Hid (aheadL l = k + aheadL (l.drop k)) ∧ Hid (w = wr)) (fun a _ => l.length - (intOf a).toNat)
  case atStart => exact ⟨0, Nat.zero_le _, rfl, by rw [List.drop_zero, Nat.zero_add]; rfl, rfl⟩
  case round =>
    obtain ⟨k, hk, rfl, he, hwr⟩ := hrel
    have c0 : wr.cell? ⟨R, 0, none⟩ = some (.string ⟨l.toArray⟩) := by rw [← hwr.out]; exact c0
    by_cases hlt : k < l.length
    · have hat := aheadL_at hlt
      have hb := bt_lt l k
      have hlt1 : (k : Int) < l.length := by omega
      by_cases h1 : 48 ≤ bt l k
      · by_cases h2 : bt l k ≤ 57
        · rw [if_pos ⟨h1, h2⟩] at hat
          have he2 := Lib.hid (show aheadL l = (k + 1) + aheadL (l.drop (k + 1)) by have := he.out; omega)
          replace hat := Lib.hid hat
          go_wp2_with fail
          exact ⟨⟨k + 1, by omega, vi64 (by omega), he2, hwr⟩, by simp [intOf]; omega⟩
        · rw [if_neg (fun h => h2 h.2)] at hat
          have he2 := Lib.hid (show (k : Int) = aheadL l by have := he.out; omega)
          replace hat := Lib.hid hat
          go_wp2_with fail
          go_ret
          exact ⟨ret_int he2.out, hwr.out⟩
      · rw [if_neg (fun h => h1 h.1)] at hat
        have he2 := Lib.hid (show (k : Int) = aheadL l by have := he.out; omega)
        replace hat := Lib.hid hat
        go_wp2_with fail
        go_ret
        exact ⟨ret_int he2.out, hwr.out⟩
    · have hat := aheadL_end hlt
      have he2 := Lib.hid (show (k : Int) = aheadL l by have := he.out; omega)
      have hlt1 : ¬ ((k : Int) < l.length) := by omega
      replace hat := Lib.hid hat
      go_wp2_with fail
      go_ret
      exact ⟨ret_int he2.out, hwr.out⟩

theorem digits13_any (R : Nat) (s : RSt) (w : World) (h : RdC w R s) (hl : s.1.length ≤ 1000000) :
    Calls Tryd.prog 46 #[.pointer (some ⟨R, 0, none⟩)] w (RPost w R (digitsC s) (.tuple #[])) := by
  have ha := ahead13_any R s w h hl
  have hle := aheadL_le s.1
  have c0 := h.c0
  have f0 := h.fz 0
  have f1 := h.fz 1
  have c1 := h.c1
  unfold digitsC
  by_cases h0 : aheadL s.1 = 0
  · rw [if_pos h0, h0]
    rw [h0] at ha
    have hb := Lib.hid (h.bad true)
    have d0 := hb.out.c0
    have g0 := hb.out.fz 0
    have hb2 := Lib.hid (hb.out.rest (s.1.drop 0))
    replace h := Lib.hid h
    generalize aheadL s.1 = A at *
    generalize s.1 = l at *
    clear hle
    go_enter Tryd.func46, Tryd.ntmps46
    go_wp2_with fail
    refine ha.mono ?_; rintro e w1 ⟨rfl, rfl⟩
    go_wp2_with fail
    refine bodyPost_end (v := .tuple #[]) (by simp [results, Tryd.results46, go_sem]) rfl ?_
    exact ⟨rfl, hb2.out, turn_then (turn_rest _ _ _ _) (turn_rest _ _ _ _)⟩
  · rw [if_neg h0]
    have hr := Lib.hid (h.rest (s.1.drop (aheadL s.1)))
    have j0 : ((aheadL s.1 : Int) == 0) = false := by rw [beq_eq_false_iff_ne]; omega
    have j1 : (aheadL s.1 == 0) = false := by rw [beq_eq_false_iff_ne]; exact h0
    replace h := Lib.hid h
    generalize aheadL s.1 = A at *
    generalize s.1 = l at *
    clear h0
    go_enter Tryd.func46, Tryd.ntmps46
    go_wp2_with fail
    refine ha.mono ?_; rintro e w1 ⟨rfl, rfl⟩
    go_wp2_with fail
    refine bodyPost_end (v := .tuple #[]) (by simp [results, Tryd.results46, go_sem]) rfl ?_
    exact ⟨rfl, hr.out, turn_rest _ _ _ _⟩
end Go.Proofs.YtjkppdjgacnfbaaDoor
