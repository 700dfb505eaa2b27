/- Layer 13: a reader's zone and date. -/
import Derived.Test.YtjkppdjgacnfbaaDoorD13g
namespace Go.Proofs.YtjkppdjgacnfbaaDoor
open Go.RowKit

theorem zoneC_some {s : RSt} {z : Int} (h : zoneNm s.1 = some z) : zoneC s = (z * 3600, ([], s.2)) := by unfold zoneC; rw [h]
theorem zoneC_none {s : RSt} (h : zoneNm s.1 = none) : zoneC s = offsetC [] s := by unfold zoneC; rw [h]

set_option maxHeartbeats 1000000 in
theorem zone_at (R : Nat) (l : List UInt8) (b : Bool) (z : Int)
    (hl : l = [71, 77, 84] ∧ z = 0 ∨ l = [85, 84] ∧ z = 0 ∨ l = [85, 84, 67] ∧ z = 0 ∨ l = [90] ∧ z = 0 ∨ l = [69, 68, 84] ∧ z = -4 ∨ l = [69, 83, 84] ∧ z = -5 ∨ l = [67, 68, 84] ∧ z = -5 ∨ l = [67, 83, 84] ∧ z = -6 ∨ l = [77, 68, 84] ∧ z = -6 ∨ l = [77, 83, 84] ∧ z = -7 ∨ l = [80, 68, 84] ∧ z = -7 ∨ l = [80, 83, 84] ∧ z = -8)
    (w : World) (h : RdC w R (l, b)) :
    Calls Tryd.prog 36 #[.pointer (some ⟨R, 0, none⟩)] w (RPost w R ([], b) (.int .i64 (z * 3600))) := by
  have c0 := h.c0
  have f0 := h.fz 0
  have hr := Lib.hid (h.rest [])
  replace h := Lib.hid h
  rcases hl with ⟨rfl, rfl⟩ | ⟨rfl, rfl⟩ | ⟨rfl, rfl⟩ | ⟨rfl, rfl⟩ | ⟨rfl, rfl⟩ | ⟨rfl, rfl⟩ | ⟨rfl, rfl⟩ | ⟨rfl, rfl⟩ | ⟨rfl, rfl⟩ | ⟨rfl, rfl⟩ | ⟨rfl, rfl⟩ | ⟨rfl, rfl⟩
  all_goals go_enter Tryd.func36, Tryd.ntmps36
  all_goals go_wp2_with fail
  all_goals go_ret
  all_goals exact ⟨rfl, hr.out, turn_rest _ _ _ _⟩
theorem zoneNm_some {l : List UInt8} {z : Int} (h : zoneNm l = some z) : l = [71, 77, 84] ∧ z = 0 ∨ l = [85, 84] ∧ z = 0 ∨ l = [85, 84, 67] ∧ z = 0 ∨ l = [90] ∧ z = 0 ∨ l = [69, 68, 84] ∧ z = -4 ∨ l = [69, 83, 84] ∧ z = -5 ∨ l = [67, 68, 84] ∧ z = -5 ∨ l = [67, 83, 84] ∧ z = -6 ∨ l = [77, 68, 84] ∧ z = -6 ∨ l = [77, 83, 84] ∧ z = -7 ∨ l = [80, 68, 84] ∧ z = -7 ∨ l = [80, 83, 84] ∧ z = -8 := by
  unfold zoneNm at h
  repeat' split at h
  all_goals first | (cases h; done) | skip
  all_goals simp only [Bool.or_eq_true, beq_iff_eq] at *
  all_goals simp only [Option.some.injEq] at h
  all_goals subst h
  all_goals simp_all
  rename_i c
  rcases c with ((c | c) | c) | c <;> simp [c]
theorem zoneNm_none {l : List UInt8} (h : zoneNm l = none) : (l == [71, 77, 84]) = false ∧ (l == [85, 84]) = false ∧ (l == [85, 84, 67]) = false ∧ (l == [90]) = false ∧ (l == [69, 68, 84]) = false ∧ (l == [69, 83, 84]) = false ∧ (l == [67, 68, 84]) = false ∧ (l == [67, 83, 84]) = false ∧ (l == [77, 68, 84]) = false ∧ (l == [77, 83, 84]) = false ∧ (l == [80, 68, 84]) = false ∧ (l == [80, 83, 84]) = false := by
  unfold zoneNm at h
  repeat' split at h
  all_goals first | cases h; done | skip
  simp_all

set_option maxHeartbeats 400000 in
theorem zone13_any (R : Nat) (s : RSt) (w : World) (h : RdC w R s) (hl : s.1.length ≤ 1000000) :
    Calls Tryd.prog 36 #[.pointer (some ⟨R, 0, none⟩)] w (RPost w R (zoneC s).2 (.int .i64 (zoneC s).1)) := by
  cases hz : zoneNm s.1 with
  | some z =>
    rw [zoneC_some hz]
    exact zone_at R s.1 s.2 z (zoneNm_some hz) w h
  | none =>
    rw [zoneC_none hz]
    obtain ⟨e1, e2, e3, e4, e5, e6, e7, e8, e9, e10, e11, e12⟩ := zoneNm_none hz
    have hc := offset13_any R [] s w h hl
    have c0 := h.c0
    generalize offsetC [] s = q at *
    obtain ⟨z, s1⟩ := q
    simp only at hc ⊢
    generalize s.1 = l at *
    replace h := Lib.hid h
    clear hz
    go_enter Tryd.func36, Tryd.ntmps36
    go_wp2_with fail
    refine hc.mono ?_; rintro e w1 ⟨rfl, h1, ht⟩
    replace h1 := Lib.hid h1
    replace ht := Lib.hid ht
    go_wp2_with fail
    go_ret
    exact ⟨rfl, h1.out, ht.out⟩

theorem dateC_no {s : RSt} {y m d : Nat} {c : Int} (h : s.2 = true ∨ s.1 ≠ [] ∨ (daysB y m d).2 = false ∨ (daysB y m d).1 * 86400 + c < 0 ∨ 253402300799 < (daysB y m d).1 * 86400 + c) : dateC s y m d c = (0, false) := by unfold dateC; rw [if_pos h]
theorem dateC_yes {s : RSt} {y m d : Nat} {c : Int} (h : ¬ (s.2 = true ∨ s.1 ≠ [] ∨ (daysB y m d).2 = false ∨ (daysB y m d).1 * 86400 + c < 0 ∨ 253402300799 < (daysB y m d).1 * 86400 + c)) : dateC s y m d c = ((daysB y m d).1 * 86400 + c, true) := by unfold dateC; rw [if_neg h]
theorem ret_ob {o : Int × Bool} {a : Int} {b : Bool} (h : o = (a, b)) : Ending.returned (.tuple #[.int .i64 a, .bool b]) = .returned (.tuple #[.int .i64 o.1, .bool o.2]) := by rw [h]
set_option maxHeartbeats 400000 in
theorem date13_any (R : Nat) (s : RSt) (y m d : Nat) (c : Int) (w : World) (h : RdC w R s) (hy : y ≤ 1000000) (hc0 : -1000000 ≤ c) (hc1 : c ≤ 1000000) :
    Calls Tryd.prog 37 #[.pointer (some ⟨R, 0, none⟩), .int .i64 y, .int .i64 m, .int .i64 d, .int .i64 c] w fun e w' => e = .returned (.tuple #[.int .i64 (dateC s y m d c).1, .bool (dateC s y m d c).2]) ∧ w = w' := by
  have hd := days13_any y m d (by omega) (by omega) w
  have hb := daysB_bd y m d
  have hno := Lib.hid (@dateC_no s y m d c)
  have hyes := Lib.hid (@dateC_yes s y m d c)
  obtain ⟨D, hD⟩ : ∃ D, D = daysB y m d := ⟨_, rfl⟩
  rw [← hD] at hd hb hno hyes
  clear hD
  obtain ⟨x, t⟩ := D
  simp only at hd hb hno hyes
  obtain ⟨hb0, hb1⟩ := hb
  have c0 := h.c0
  have c1 := h.c1
  replace h := Lib.hid h
  generalize dateC s y m d c = o at *
  obtain ⟨l, b⟩ := s
  simp only at c0 c1 hno hyes
  cases b
  · by_cases hl : l = []
    · subst hl
      cases t
      · have ho := Lib.hid (hno.out (Or.inr (Or.inr (Or.inl rfl))))
        clear hno hyes
        go_enter Tryd.func37, Tryd.ntmps37
        go_wp2_with fail
        refine hd.mono ?_; rintro e w1 ⟨rfl, rfl⟩
        go_wp2_with fail
        go_ret2
        exact ⟨ret_ob ho.out, rfl⟩
      · by_cases n0 : x * 86400 + c < 0
        · have ho := Lib.hid (hno.out (Or.inr (Or.inr (Or.inr (Or.inl n0)))))
          clear hno hyes
          go_enter Tryd.func37, Tryd.ntmps37
          go_wp2_with fail
          refine hd.mono ?_; rintro e w1 ⟨rfl, rfl⟩
          go_wp2_with fail
          go_ret2
          exact ⟨ret_ob ho.out, rfl⟩
        · by_cases n1 : 253402300799 < x * 86400 + c
          · have ho := Lib.hid (hno.out (Or.inr (Or.inr (Or.inr (Or.inr n1)))))
            clear hno hyes
            go_enter Tryd.func37, Tryd.ntmps37
            go_wp2_with fail
            refine hd.mono ?_; rintro e w1 ⟨rfl, rfl⟩
            go_wp2_with fail
            go_ret2
            exact ⟨ret_ob ho.out, rfl⟩
          · have ho := Lib.hid (hyes.out (by rintro (e | e | e | e | e); exact Bool.noConfusion e; exact e rfl; exact Bool.noConfusion e; exact n0 e; exact n1 e))
            clear hno hyes
            go_enter Tryd.func37, Tryd.ntmps37
            go_wp2_with fail
            refine hd.mono ?_; rintro e w1 ⟨rfl, rfl⟩
            go_wp2_with fail
            go_ret2
            exact ⟨ret_ob ho.out, rfl⟩
    · have ho := Lib.hid (hno.out (Or.inr (Or.inl hl)))
      have hl1 : l.isEmpty = false := by cases l; exact absurd rfl hl; rfl
      clear hno hyes hl
      go_enter Tryd.func37, Tryd.ntmps37
      go_wp2_with fail
      refine hd.mono ?_; rintro e w1 ⟨rfl, rfl⟩
      go_wp2_with fail
      go_ret2
      exact ⟨ret_ob ho.out, rfl⟩
  · have ho := Lib.hid (hno.out (Or.inl rfl))
    clear hno hyes
    go_enter Tryd.func37, Tryd.ntmps37
    go_wp2_with fail
    refine hd.mono ?_; rintro e w1 ⟨rfl, rfl⟩
    go_wp2_with fail
    go_ret2
    exact ⟨ret_ob ho.out, rfl⟩
end Go.Proofs.YtjkppdjgacnfbaaDoor
