/- Layer 13: the names in memory; weekday, Month, month, zone, date. -/
import Derived.Lib.ItoaMem
import Derived.WalkSmall
import Derived.Test.YtkjjjbipmobdaaaGreatDoorBR01
import Derived.Test.YtkjjjbipmobdaaaGreatDoorBR14
namespace Go.Proofs.YtkjjjbipmobdaaaGreatDoor
open Go.RowKit

/-- What the listed variables hold. -/
structure Env13 (w : World) : Prop where
  mon : w.rangeAt 2 0 (monthsL.map strV)
  wk : w.rangeAt 1 0 (weekL.map strV)
theorem range_below {w w' : World} {b : Nat} {cs : List Value} (h : w.rangeAt b 0 cs) (hb : Below w.heap.size w w') : w'.rangeAt b 0 cs := fun j v hv =>
  (hb.cell (p := ⟨b, 0 + j, none⟩) (World.block_lt_of_cell? w _ (h j v hv))).trans (h j v hv)
theorem Env13.below {w w' : World} (h : Env13 w) (hb : Below w.heap.size w w') : Env13 w' :=
  ⟨range_below h.mon hb, range_below h.wk hb⟩
/-- A block that holds no listed variable. -/
structure Off13 (R : Nat) : Prop where
  m : 2 ≠ R
  k : 1 ≠ R
theorem Env13.off {w : World} (h : Env13 w) : Off13 w.heap.size :=
  ⟨Nat.ne_of_lt (World.block_lt_of_cell? w _ (h.mon 0 _ rfl)), Nat.ne_of_lt (World.block_lt_of_cell? w _ (h.wk 0 _ rfl))⟩
/-- Where only a block that holds no listed variable has turned. -/
theorem Env13.turned {w w' : World} {R : Nat} (h : Env13 w) (ht : Turned (fun b => b = R) w w') (hR : Off13 R) : Env13 w' := by
  have hb : ∀ g, g ≠ R → ∀ j, ∀ v, w.cell? ⟨g, j, none⟩ = some v → w'.cell? ⟨g, j, none⟩ = some v := fun g hg j v hv =>
    (World.cell?_of_block (ht.block g (World.block_lt_of_cell? w _ hv) hg)).trans hv
  exact ⟨fun j v hv => hb _ hR.m _ _ (h.mon j v hv), fun j v hv => hb _ hR.k _ _ (h.wk j v hv)⟩

theorem info_week : (Tryz.prog.info? 168).map (·.size) = some 7 := by kernel_rfl
theorem info_months : (Tryz.prog.info? 169).map (·.size) = some 12 := by kernel_rfl
theorem run_index_week {w : World} (cs : Array Value) (i : Nat) (v : Value) (hi : i < 7) (hv : cs[i]? = some v) :
    (Instr.index 168 (.agg cs) (.int .i64 i)).run Tryz.prog w = .ok v w := by
  simp [Instr.index, Tryz.sizeOf9, Tryz.isAgg9, part, asIntOf, hi, hv, go_sem]
theorem run_index_months {w : World} (cs : Array Value) (i : Nat) (v : Value) (hi : i < 12) (hv : cs[i]? = some v) :
    (Instr.index 169 (.agg cs) (.int .i64 i)).run Tryz.prog w = .ok v w := by
  simp [Instr.index, Tryz.sizeOf9, Tryz.isAgg9, part, asIntOf, hi, hv, go_sem]
def weekV : Array Value := (weekL.map strV).toArray
def monthsV : Array Value := (monthsL.map strV).toArray
theorem week_len : ∀ k, k < 7 → (weekL.getD k []).length = 3 := by decide
theorem months_len : ∀ k, k < 12 → (monthsL.getD k []).length = 3 := by decide
theorem weekV_at {k : Nat} (h : k < 7) : weekV[k]? = some (.string ⟨(weekL.getD k []).toArray⟩) := by
  have hk : k < weekL.length := h
  simp [weekV, List.getD, hk, strV]
theorem monthsV_at {k : Nat} (h : k < 12) : monthsV[k]? = some (.string ⟨(monthsL.getD k []).toArray⟩) := by
  have hk : k < monthsL.length := h
  simp [monthsV, List.getD, hk, strV]
theorem drop_get {α : Type} (l : List α) (d : α) (k : Nat) (h : k < l.length) : l.drop k = l.getD k d :: l.drop (k + 1) := by
  rw [List.drop_eq_getElem_cons h]
  simp [List.getD, h]
theorem trim_no {l p : List UInt8} (h : Lib.hasPrefix l p = false) : Lib.trimPrefix l p = l := by unfold Lib.trimPrefix; rw [h]; simp

theorem wkF_cons (n : List UInt8) (t : List (List UInt8)) (l : List UInt8) : wkF (n :: t) l = if Lib.hasPrefix l (n ++ [44, 32]) then Lib.trimPrefix l (n ++ [44, 32]) else wkF t l := rfl
theorem mIx_cons (i : Nat) (n : List UInt8) (t : List (List UInt8)) (l : List UInt8) : mIx i (n :: t) l = if n == l then i + 1 else mIx (i + 1) t l := rfl
theorem monF_cons (n : List UInt8) (t : List (List UInt8)) (l : List UInt8) : monF (n :: t) l = if Lib.hasPrefix l n then some (monIx n, Lib.trimPrefix l n) else monF t l := rfl

set_option maxHeartbeats 400000 in
theorem weekday13_any (R : Nat) (s : RSt) (w : World) (hE : Env13 w) (h : RdC w R s) :
    Calls Tryz.prog 113 #[.pointer (some ⟨R, 0, none⟩)] w (RPost w R (weekdayC s) (.tuple #[])) := by
  unfold weekdayC
  have hwk := hE.wk
  clear hE
  have hat := fun (k : Nat) (hk : k < 7) (W : World) => run_index_week (w := W) weekV k _ hk (weekV_at hk)
  unfold weekV at hat
  have hlen : (Tryz.prog.info? 168).map (·.size) = some (weekL.map strV).length := info_week
  replace hat := Lib.hid hat
  replace hlen := Lib.hid hlen
  generalize weekL.map strV = V at *
  have hst := Lib.hid h
  clear h
  go_enter Tryz.func113, Tryz.ntmps113
  go_wp2_with (refine wpList_load_mid rfl 168 (.global 1) rfl 1 0 rfl V (.array 7 9) hwk Tryz.underlying168 rfl hlen.out ?_)
  clear hwk
  go_loopw [5] (fun i wr => ∃ k : Nat, k ≤ 7 ∧ i = .int .i64 k ∧ Hid (wkF weekL s.1 = wkF (weekL.drop k) s.1) ∧ Hid (RdC wr R s ∧ Turned (fun b => b = R) w wr)) (fun i _ => 7 - (intOf i).toNat)
  case atStart => exact ⟨0, by omega, rfl, by rw [List.drop_zero]; rfl, hst.out, Turned.refl _ _⟩
  case round =>
    clear hst
    obtain ⟨k, hk, rfl, he, hq⟩ := hrel
    by_cases hlt : k < 7
    · have hix := hat.out k hlt
      have hn3 := week_len k hlt
      have hwd := drop_get weekL [] k hlt
      rw [hwd] at he
      generalize weekL.getD k [] = n at *
      clear hwd
      have hsk := skip13_any R s (n ++ [44, 32]) wr hq.out.1
      unfold skipC at hsk
      rw [wkF_cons] at he
      have hlt1 : (k : Int) < 7 := by omega
      cases hb : Lib.hasPrefix s.1 (n ++ [44, 32])
      · have he2 := he.out
        rw [hb] at he2 hsk
        simp only [Bool.false_eq_true, if_false] at he2
        rw [trim_no hb] at hsk
        replace he2 := Lib.hid he2
        replace hsk := Lib.hid hsk
        replace hb := Lib.hid hb
        clear he
        go_wp2_with fail
        refine hsk.out.mono ?_; rintro e w1 ⟨rfl, h1, ht⟩
        replace h1 := Lib.hid (And.intro h1 (turn_then hq.out.2 ht))
        clear ht hq
        go_wp2_with fail
        exact ⟨⟨k + 1, by omega, vi64 (by omega), he2, h1⟩, by simp [intOf]; omega⟩
      · have he2 := he.out
        rw [hb] at he2 hsk
        simp only [if_true] at he2
        replace he2 := Lib.hid he2
        replace hsk := Lib.hid hsk
        replace hb := Lib.hid hb
        clear he
        go_wp2_with fail
        refine hsk.out.mono ?_; rintro e w1 ⟨rfl, h1, ht⟩
        replace h1 := Lib.hid (And.intro h1 (turn_then hq.out.2 ht))
        clear ht hq
        go_wp2_with fail
        refine bodyPost_end (v := .tuple #[]) (by simp [results, Tryz.results113, go_sem]) rfl ?_
        exact ⟨rfl, by rw [he2.out]; exact h1.out.1, h1.out.2⟩
    · have hlt1 : ¬ ((k : Int) < 7) := by omega
      have he2 := Lib.hid (show wkF weekL s.1 = s.1 by rw [he.out, show k = 7 by omega]; rfl)
      clear he
      go_wp2_with fail
      refine bodyPost_end (v := .tuple #[]) (by simp [results, Tryz.results113, go_sem]) rfl ?_
      exact ⟨rfl, by rw [he2.out]; exact hq.out.1, hq.out.2⟩

set_option maxHeartbeats 400000 in
theorem month13_any (l : List UInt8) (w : World) (hE : Env13 w) :
    Calls Tryz.prog 140 #[.string ⟨l.toArray⟩] w fun e w' => e = .returned (.int .i64 (monIx l : Nat)) ∧ w = w' := by
  unfold monIx
  have hwk := hE.mon
  clear hE
  have hat := fun (k : Nat) (hk : k < 12) (W : World) => run_index_months (w := W) monthsV k _ hk (monthsV_at hk)
  unfold monthsV at hat
  have hlen : (Tryz.prog.info? 169).map (·.size) = some (monthsL.map strV).length := info_months
  replace hat := Lib.hid hat
  replace hlen := Lib.hid hlen
  generalize monthsL.map strV = V at *
  go_enter Tryz.func140, Tryz.ntmps140
  go_wp2_with (refine wpList_load_mid rfl 169 (.global 2) rfl 2 0 rfl V (.array 12 9) hwk Tryz.underlying169 rfl hlen.out ?_)
  clear hwk
  go_loopw [6] (fun i wr => ∃ k : Nat, k ≤ 12 ∧ i = .int .i64 k ∧ Hid (mIx 0 monthsL l = mIx k (monthsL.drop k) l) ∧ Hid (w = wr)) (fun i _ => 12 - (intOf i).toNat)
  case atStart => exact ⟨0, by omega, rfl, by rw [List.drop_zero]; rfl, rfl⟩
  case round =>
    obtain ⟨k, hk, rfl, he, hwr⟩ := hrel
    by_cases hlt : k < 12
    · have hix := hat.out k hlt
      have hwd := drop_get monthsL [] k hlt
      rw [hwd] at he
      generalize monthsL.getD k [] = n at *
      clear hwd
      rw [mIx_cons] at he
      have hlt1 : (k : Int) < 12 := by omega
      cases hb : (n == l)
      · have he2 := he.out
        rw [hb] at he2
        simp only [Bool.false_eq_true, if_false] at he2
        replace he2 := Lib.hid he2
        clear he
        go_wp2_with fail
        exact ⟨⟨k + 1, by omega, vi64 (by omega), he2, hwr⟩, by simp [intOf]; omega⟩
      · have he2 := he.out
        rw [hb] at he2
        simp only [if_true] at he2
        replace he2 := Lib.hid he2
        clear he
        go_wp2_with fail
        go_ret
        exact ⟨ret_int (by rw [he2.out]; omega), hwr.out⟩
    · have hlt1 : ¬ ((k : Int) < 12) := by omega
      have he2 := Lib.hid (show mIx 0 monthsL l = 0 by rw [he.out, show k = 12 by omega]; rfl)
      clear he
      go_wp2_with fail
      go_ret
      exact ⟨ret_int (by rw [he2.out]; rfl), hwr.out⟩
theorem monthC_some {s : RSt} {m : Nat} {t : List UInt8} (h : monF monthsL s.1 = some (m, t)) : monthC s = (m, (t, s.2)) := by unfold monthC; rw [h]
theorem monthC_none {s : RSt} (h : monF monthsL s.1 = none) : monthC s = (0, (s.1, true)) := by unfold monthC; rw [h]

set_option maxHeartbeats 400000 in
theorem rmonth13_any (R : Nat) (s : RSt) (w : World) (hE : Env13 w) (hR : Off13 R) (h : RdC w R s) :
    Calls Tryz.prog 115 #[.pointer (some ⟨R, 0, none⟩)] w (RPost w R (monthC s).2 (.int .i64 ((monthC s).1 : Nat))) := by
  have hwk := hE.mon
  have hat := fun (k : Nat) (hk : k < 12) (W : World) => run_index_months (w := W) monthsV k _ hk (monthsV_at hk)
  unfold monthsV at hat
  have hlen : (Tryz.prog.info? 169).map (·.size) = some (monthsL.map strV).length := info_months
  replace hat := Lib.hid hat
  replace hlen := Lib.hid hlen
  generalize monthsL.map strV = V at *
  have hst := Lib.hid h
  replace hE := Lib.hid hE
  clear h
  go_enter Tryz.func115, Tryz.ntmps115
  go_wp2_with (refine wpList_load_mid rfl 169 (.global 2) rfl 2 0 rfl V (.array 12 9) hwk Tryz.underlying169 rfl hlen.out ?_)
  clear hwk
  go_loopw [6] (fun i wr => ∃ k : Nat, k ≤ 12 ∧ i = .int .i64 k ∧ Hid (monF monthsL s.1 = monF (monthsL.drop k) s.1) ∧ Hid (RdC wr R s ∧ Turned (fun b => b = R) w wr)) (fun i _ => 12 - (intOf i).toNat)
  case atStart => exact ⟨0, by omega, rfl, by rw [List.drop_zero]; rfl, hst.out, Turned.refl _ _⟩
  case round =>
    clear hst
    obtain ⟨k, hk, rfl, he, hq⟩ := hrel
    by_cases hlt : k < 12
    · have hix := hat.out k hlt
      have hwd := drop_get monthsL [] k hlt
      rw [hwd] at he
      generalize monthsL.getD k [] = n at *
      clear hwd
      have hsk := skip13_any R s n wr hq.out.1
      unfold skipC at hsk
      rw [monF_cons] at he
      have hlt1 : (k : Int) < 12 := by omega
      cases hb : Lib.hasPrefix s.1 n
      · have he2 := he.out
        rw [hb] at he2 hsk
        simp only [Bool.false_eq_true, if_false] at he2
        rw [trim_no hb] at hsk
        replace he2 := Lib.hid he2
        replace hsk := Lib.hid hsk
        replace hb := Lib.hid hb
        clear he
        go_wp2_with fail
        refine hsk.out.mono ?_; rintro e w1 ⟨rfl, h1, ht⟩
        replace h1 := Lib.hid (And.intro h1 (turn_then hq.out.2 ht))
        clear ht hq
        go_wp2_with fail
        exact ⟨⟨k + 1, by omega, vi64 (by omega), he2, h1⟩, by simp [intOf]; omega⟩
      · have he2 := he.out
        rw [hb] at he2 hsk
        simp only [if_true] at he2
        replace he2 := Lib.hid he2
        replace hsk := Lib.hid hsk
        replace hb := Lib.hid hb
        clear he
        have hmc := Lib.hid (fun W (hW : Env13 W) => month13_any n W hW)
        generalize monIx n = M at *
        go_wp2_with fail
        refine hsk.out.mono ?_; rintro e w1 ⟨rfl, h1, ht⟩
        replace h1 := Lib.hid (And.intro h1 (turn_then hq.out.2 ht))
        clear ht hq
        go_wp2_with fail
        refine (hmc.out w1 (hE.out.turned h1.out.2 hR)).mono ?_; rintro e w2 ⟨rfl, rfl⟩
        go_wp2_with fail
        go_ret
        rw [monthC_some he2.out]
        exact ⟨rfl, h1.out.1, h1.out.2⟩
    · have hlt1 : ¬ ((k : Int) < 12) := by omega
      have he2 := Lib.hid (show monF monthsL s.1 = none by rw [he.out, show k = 12 by omega]; rfl)
      have c1 := hq.out.1.c1
      have f1 := hq.out.1.fz 1
      clear he
      go_wp2_with fail
      go_ret
      rw [monthC_none he2.out]
      exact ⟨rfl, hq.out.1.bad true, turn_then hq.out.2 (turn_rest _ _ _ _)⟩
end Go.Proofs.YtkjjjbipmobdaaaGreatDoor

/- Layer 13: a reader's zone and date. -/
namespace Go.Proofs.YtkjjjbipmobdaaaGreatDoor
open Go.RowKit

theorem zoneC_some {s : RSt} {z : Int} (h : zoneNm s.1 = some z) : zoneC s = (z * 3600, ([], s.2)) := by unfold zoneC; rw [h]
theorem zoneC_none {s : RSt} (h : zoneNm s.1 = none) : zoneC s = offsetC [] s := by unfold zoneC; rw [h]

set_option maxHeartbeats 1000000 in
theorem zone_at (R : Nat) (l : List UInt8) (b : Bool) (z : Int)
    (hl : l = [71, 77, 84] ∧ z = 0 ∨ l = [85, 84] ∧ z = 0 ∨ l = [85, 84, 67] ∧ z = 0 ∨ l = [90] ∧ z = 0 ∨ l = [69, 68, 84] ∧ z = -4 ∨ l = [69, 83, 84] ∧ z = -5 ∨ l = [67, 68, 84] ∧ z = -5 ∨ l = [67, 83, 84] ∧ z = -6 ∨ l = [77, 68, 84] ∧ z = -6 ∨ l = [77, 83, 84] ∧ z = -7 ∨ l = [80, 68, 84] ∧ z = -7 ∨ l = [80, 83, 84] ∧ z = -8)
    (w : World) (h : RdC w R (l, b)) :
    Calls Tryz.prog 117 #[.pointer (some ⟨R, 0, none⟩)] w (RPost w R ([], b) (.int .i64 (z * 3600))) := by
  have c0 := h.c0
  have f0 := h.fz 0
  have hr := Lib.hid (h.rest [])
  replace h := Lib.hid h
  rcases hl with ⟨rfl, rfl⟩ | ⟨rfl, rfl⟩ | ⟨rfl, rfl⟩ | ⟨rfl, rfl⟩ | ⟨rfl, rfl⟩ | ⟨rfl, rfl⟩ | ⟨rfl, rfl⟩ | ⟨rfl, rfl⟩ | ⟨rfl, rfl⟩ | ⟨rfl, rfl⟩ | ⟨rfl, rfl⟩ | ⟨rfl, rfl⟩
  all_goals go_enter Tryz.func117, Tryz.ntmps117
  all_goals go_wp2_with fail
  all_goals go_ret
  all_goals exact ⟨rfl, hr.out, turn_rest _ _ _ _⟩
theorem zoneNm_some {l : List UInt8} {z : Int} (h : zoneNm l = some z) : l = [71, 77, 84] ∧ z = 0 ∨ l = [85, 84] ∧ z = 0 ∨ l = [85, 84, 67] ∧ z = 0 ∨ l = [90] ∧ z = 0 ∨ l = [69, 68, 84] ∧ z = -4 ∨ l = [69, 83, 84] ∧ z = -5 ∨ l = [67, 68, 84] ∧ z = -5 ∨ l = [67, 83, 84] ∧ z = -6 ∨ l = [77, 68, 84] ∧ z = -6 ∨ l = [77, 83, 84] ∧ z = -7 ∨ l = [80, 68, 84] ∧ z = -7 ∨ l = [80, 83, 84] ∧ z = -8 := by
  unfold zoneNm at h
  repeat' split at h
  all_goals first | (cases h; done) | skip
  all_goals simp only [Bool.or_eq_true, beq_iff_eq] at *
  all_goals simp only [Option.some.injEq] at h
  all_goals subst h
  all_goals simp_all
  rename_i c
  rcases c with ((c | c) | c) | c <;> simp [c]
theorem zoneNm_none {l : List UInt8} (h : zoneNm l = none) : (l == [71, 77, 84]) = false ∧ (l == [85, 84]) = false ∧ (l == [85, 84, 67]) = false ∧ (l == [90]) = false ∧ (l == [69, 68, 84]) = false ∧ (l == [69, 83, 84]) = false ∧ (l == [67, 68, 84]) = false ∧ (l == [67, 83, 84]) = false ∧ (l == [77, 68, 84]) = false ∧ (l == [77, 83, 84]) = false ∧ (l == [80, 68, 84]) = false ∧ (l == [80, 83, 84]) = false := by
  unfold zoneNm at h
  repeat' split at h
  all_goals first | cases h; done | skip
  simp_all

set_option maxHeartbeats 400000 in
theorem zone13_any (R : Nat) (s : RSt) (w : World) (h : RdC w R s) (hl : s.1.length ≤ 100000000) :
    Calls Tryz.prog 117 #[.pointer (some ⟨R, 0, none⟩)] w (RPost w R (zoneC s).2 (.int .i64 (zoneC s).1)) := by
  cases hz : zoneNm s.1 with
  | some z =>
    rw [zoneC_some hz]
    exact zone_at R s.1 s.2 z (zoneNm_some hz) w h
  | none =>
    rw [zoneC_none hz]
    obtain ⟨e1, e2, e3, e4, e5, e6, e7, e8, e9, e10, e11, e12⟩ := zoneNm_none hz
    have hc := offset13_any R [] s w h hl
    have c0 := h.c0
    generalize offsetC [] s = q at *
    obtain ⟨z, s1⟩ := q
    simp only at hc ⊢
    generalize s.1 = l at *
    replace h := Lib.hid h
    clear hz
    go_enter Tryz.func117, Tryz.ntmps117
    go_wp2_with fail
    refine hc.mono ?_; rintro e w1 ⟨rfl, h1, ht⟩
    replace h1 := Lib.hid h1
    replace ht := Lib.hid ht
    go_wp2_with fail
    go_ret
    exact ⟨rfl, h1.out, ht.out⟩

theorem dateC_no {s : RSt} {y m d : Nat} {c : Int} (h : s.2 = true ∨ s.1 ≠ [] ∨ (daysB y m d).2 = false ∨ (daysB y m d).1 * 86400 + c < 0 ∨ 253402300799 < (daysB y m d).1 * 86400 + c) : dateC s y m d c = (0, false) := by unfold dateC; rw [if_pos h]
theorem dateC_yes {s : RSt} {y m d : Nat} {c : Int} (h : ¬ (s.2 = true ∨ s.1 ≠ [] ∨ (daysB y m d).2 = false ∨ (daysB y m d).1 * 86400 + c < 0 ∨ 253402300799 < (daysB y m d).1 * 86400 + c)) : dateC s y m d c = ((daysB y m d).1 * 86400 + c, true) := by unfold dateC; rw [if_neg h]
theorem ret_ob {o : Int × Bool} {a : Int} {b : Bool} (h : o = (a, b)) : Ending.returned (.tuple #[.int .i64 a, .bool b]) = .returned (.tuple #[.int .i64 o.1, .bool o.2]) := by rw [h]
set_option maxHeartbeats 400000 in
theorem date13_any (R : Nat) (s : RSt) (y m d : Nat) (c : Int) (w : World) (h : RdC w R s) (hy : y ≤ 1000000) (hc0 : -1000000 ≤ c) (hc1 : c ≤ 1000000) :
    Calls Tryz.prog 90 #[.pointer (some ⟨R, 0, none⟩), .int .i64 y, .int .i64 m, .int .i64 d, .int .i64 c] w fun e w' => e = .returned (.tuple #[.int .i64 (dateC s y m d c).1, .bool (dateC s y m d c).2]) ∧ w = w' := by
  have hd := days13_any y m d (by omega) (by omega) w
  have hb := daysB_bd y m d
  have hno := Lib.hid (@dateC_no s y m d c)
  have hyes := Lib.hid (@dateC_yes s y m d c)
  obtain ⟨D, hD⟩ : ∃ D, D = daysB y m d := ⟨_, rfl⟩
  rw [← hD] at hd hb hno hyes
  clear hD
  obtain ⟨x, t⟩ := D
  simp only at hd hb hno hyes
  obtain ⟨hb0, hb1⟩ := hb
  have c0 := h.c0
  have c1 := h.c1
  replace h := Lib.hid h
  generalize dateC s y m d c = o at *
  obtain ⟨l, b⟩ := s
  simp only at c0 c1 hno hyes
  cases b
  · by_cases hl : l = []
    · subst hl
      cases t
      · have ho := Lib.hid (hno.out (Or.inr (Or.inr (Or.inl rfl))))
        clear hno hyes
        go_enter Tryz.func90, Tryz.ntmps90
        go_wp2_with fail
        refine hd.mono ?_; rintro e w1 ⟨rfl, rfl⟩
        go_wp2_with fail
        go_ret2
        exact ⟨ret_ob ho.out, rfl⟩
      · by_cases n0 : x * 86400 + c < 0
        · have ho := Lib.hid (hno.out (Or.inr (Or.inr (Or.inr (Or.inl n0)))))
          clear hno hyes
          go_enter Tryz.func90, Tryz.ntmps90
          go_wp2_with fail
          refine hd.mono ?_; rintro e w1 ⟨rfl, rfl⟩
          go_wp2_with fail
          go_ret2
          exact ⟨ret_ob ho.out, rfl⟩
        · by_cases n1 : 253402300799 < x * 86400 + c
          · have ho := Lib.hid (hno.out (Or.inr (Or.inr (Or.inr (Or.inr n1)))))
            clear hno hyes
            go_enter Tryz.func90, Tryz.ntmps90
            go_wp2_with fail
            refine hd.mono ?_; rintro e w1 ⟨rfl, rfl⟩
            go_wp2_with fail
            go_ret2
            exact ⟨ret_ob ho.out, rfl⟩
          · have ho := Lib.hid (hyes.out (by rintro (e | e | e | e | e); exact Bool.noConfusion e; exact e rfl; exact Bool.noConfusion e; exact n0 e; exact n1 e))
            clear hno hyes
            go_enter Tryz.func90, Tryz.ntmps90
            go_wp2_with fail
            refine hd.mono ?_; rintro e w1 ⟨rfl, rfl⟩
            go_wp2_with fail
            go_ret2
            exact ⟨ret_ob ho.out, rfl⟩
    · have ho := Lib.hid (hno.out (Or.inr (Or.inl hl)))
      have hl1 : l.isEmpty = false := by cases l; exact absurd rfl hl; rfl
      clear hno hyes hl
      go_enter Tryz.func90, Tryz.ntmps90
      go_wp2_with fail
      refine hd.mono ?_; rintro e w1 ⟨rfl, rfl⟩
      go_wp2_with fail
      go_ret2
      exact ⟨ret_ob ho.out, rfl⟩
  · have ho := Lib.hid (hno.out (Or.inl rfl))
    clear hno hyes
    go_enter Tryz.func90, Tryz.ntmps90
    go_wp2_with fail
    refine hd.mono ?_; rintro e w1 ⟨rfl, rfl⟩
    go_wp2_with fail
    go_ret2
    exact ⟨ret_ob ho.out, rfl⟩
end Go.Proofs.YtkjjjbipmobdaaaGreatDoor

/- Layer 13: Rfc822. -/
namespace Go.Proofs.YtkjjjbipmobdaaaGreatDoor
open Go.RowKit

theorem wkF_len (t : List (List UInt8)) (l : List UInt8) : (wkF t l).length ≤ l.length := by
  induction t with
  | nil => exact Nat.le_refl _
  | cons n t ih => rw [wkF_cons]; split; exact trim_len _ _; exact ih
theorem weekdayC_len (s : RSt) : (weekdayC s).1.length ≤ s.1.length := wkF_len _ _
theorem monF_len (t : List (List UInt8)) {l u : List UInt8} {m : Nat} (h : monF t l = some (m, u)) : u.length ≤ l.length := by
  induction t with
  | nil => cases h
  | cons n t ih =>
    rw [monF_cons] at h
    split at h
    · injection h with h; injection h with _ h; subst h; exact trim_len _ _
    · exact ih h
theorem monthC_len (s : RSt) : (monthC s).2.1.length ≤ s.1.length := by
  cases h : monF monthsL s.1 with
  | none => rw [monthC_none h]; exact Nat.le_refl _
  | some p => obtain ⟨m, u⟩ := p; rw [monthC_some h]; exact monF_len _ h
/-- A number, and whether it is one. -/
def OBPost (w : World) (o : Int × Bool) (e : Ending) (w' : World) : Prop := e = .returned (.tuple #[.int .i64 o.1, .bool o.2]) ∧ Below w.heap.size w w'
theorem read_below {w w' : World} {o : Obj} (ht : Turned (fun b => b = w.heap.size) (w.alloc o) w') : Below w.heap.size w w' :=
  ((Below.refl _ _).alloc (Nat.le_refl _) o).trans (ht.below (B := w.heap.size) (fun i _ e => by have : i = w.heap.size := e; omega) (by simp))
/-- The reader's state, and that it alone has turned. -/
def RAt (w0 w : World) (R : Nat) (s : RSt) : Prop := RdC w R s ∧ Turned (fun b => b = R) w0 w
theorem RAt.next {w0 w w' : World} {R : Nat} {s s' : RSt} (h : RAt w0 w R s) (h1 : RdC w' R s') (ht : Turned (fun b => b = R) w w') : RAt w0 w' R s' := ⟨h1, turn_then h.2 ht⟩

set_option maxHeartbeats 1000000 in
theorem rfc822_any (l : List UInt8) (w : World) (hE : Env13 w) (hl : l.length ≤ 100000000) : Calls Tryz.prog 71 #[.string ⟨l.toArray⟩] w (OBPost w (r822C l)) := by
  have hoff := hE.off
  have h0 : RAt (w.alloc (.cells #[.string ⟨l.toArray⟩, .bool false] 119)) (w.alloc (.cells #[.string ⟨l.toArray⟩, .bool false] 119)) w.heap.size (l, false) := ⟨arrAt_new w _ _, Turned.refl _ _⟩
  have hE0 := Lib.hid (hE.below ((Below.refl _ _).alloc (Nat.le_refl _) (.cells #[.string ⟨l.toArray⟩, .bool false] 119)))
  have hfin : ∀ w', Turned (fun b => b = w.heap.size) (w.alloc (.cells #[.string ⟨l.toArray⟩, .bool false] 119)) w' → Below w.heap.size w w' := fun w' ht => read_below ht
  replace h0 := Lib.hid h0
  replace hfin := Lib.hid hfin
  have hW := Lib.hid (fun W (e : Env13 W) (hW : RdC W w.heap.size (l, false)) => weekday13_any w.heap.size (l, false) W e hW)
  obtain ⟨o, ho⟩ : ∃ o, r822C l = o := ⟨_, rfl⟩
  rw [ho]
  unfold r822C at ho
  have l1 : (weekdayC (l, false)).1.length ≤ 100000000 := Nat.le_trans (weekdayC_len (l, false)) hl
  generalize hRe : w.heap.size = R at *
  generalize weekdayC (l, false) = s1 at *
  have hD := Lib.hid (fun W (hW : RdC W R s1) => day13_any R s1 W hW l1)
  have bD := dayC_bd s1
  have l2 := Nat.le_trans (dayC_len s1) l1
  generalize dayC s1 = q at *
  obtain ⟨d, s2⟩ := q
  simp only at hD bD l2
  unfold r822a at ho
  simp only at ho
  have hS1 := Lib.hid (fun W (hW : RdC W R s2) => sign13_any R s2 [32] W hW)
  have l3 := Nat.le_trans (signC_len s2 [32]) l2
  generalize signC s2 [32] = s3 at *
  have hM := Lib.hid (fun W (e : Env13 W) (hW : RdC W R s3) => rmonth13_any R s3 W e hoff hW)
  have bM := monthC_bd s3
  have l4 := Nat.le_trans (monthC_len s3) l3
  generalize monthC s3 = q at *
  obtain ⟨m, s4⟩ := q
  simp only at hM bM l4
  unfold r822b at ho
  simp only at ho
  have hS2 := Lib.hid (fun W (hW : RdC W R s4) => sign13_any R s4 [32] W hW)
  have l5 := Nat.le_trans (signC_len s4 [32]) l4
  generalize signC s4 [32] = s5 at *
  have hY := Lib.hid (fun W (hW : RdC W R s5) => year13_any R s5 W hW l5)
  have bY := yearC_bd s5
  have l6 := Nat.le_trans (yearC_len s5) l5
  generalize yearC s5 = q at *
  obtain ⟨y, s6⟩ := q
  simp only at hY bY l6
  unfold r822d at ho
  simp only at ho
  have hS3 := Lib.hid (fun W (hW : RdC W R s6) => sign13_any R s6 [32] W hW)
  have l7 := Nat.le_trans (signC_len s6 [32]) l6
  generalize signC s6 [32] = s7 at *
  have hH := Lib.hid (fun W (hW : RdC W R s7) => hours13_any R [58] s7 W hW l7)
  have bH := hoursC_bd [58] s7
  have l8 := Nat.le_trans (hoursC_len [58] s7) l7
  generalize hoursC [58] s7 = q at *
  obtain ⟨hr, s8⟩ := q
  simp only at hH bH l8
  unfold r822e at ho
  simp only at ho
  have hK := Lib.hid (fun W (hW : RdC W R s8) => skip13_any R s8 [32] W hW)
  have l9 := Nat.le_trans (skipC_len s8 [32]) l8
  generalize skipC s8 [32] = q at *
  obtain ⟨b, s9⟩ := q
  simp only at hK l9
  unfold r822f at ho
  simp only at ho
  clear hE
  cases b
  · simp only [Bool.false_eq_true, if_false] at ho
    have hC := Lib.hid (fun W (hW : RdC W R s9) => seconds13_any R s9 W hW l9)
    have bC := secondsC_bd s9
    have l10 := Nat.le_trans (secondsC_len s9) l9
    generalize secondsC s9 = q at *
    obtain ⟨c, s10⟩ := q
    simp only at hC bC l10
    have hS4 := Lib.hid (fun W (hW : RdC W R s10) => sign13_any R s10 [32] W hW)
    have l11 := Nat.le_trans (signC_len s10 [32]) l10
    simp only at ho
    generalize signC s10 [32] = s11 at *
    unfold r822g at ho
    simp only at ho
    have hZ := Lib.hid (fun W (hW : RdC W R s11) => zone13_any R s11 W hW l11)
    have bZ := zoneC_bd s11
    generalize zoneC s11 = q at *
    obtain ⟨z, s12⟩ := q
    simp only at hZ bZ ho
    obtain ⟨bZ0, bZ1⟩ := bZ
    have hT := Lib.hid (fun W (hW : RdC W R s12) => date13_any R s12 y m d (((hr + c : Nat) : Int) - z) W hW (by omega) (by omega) (by omega))
    rw [ho] at hT
    clear ho
    rw [show (((hr + c : Nat) : Int) - z) = (hr : Int) + c - z by omega] at hT
    go_enter Tryz.func71, Tryz.ntmps71
    go_wp2_with fail
    refine (hW.out _ hE0.out h0.out.1).mono ?_; rintro e w1 ⟨rfl, x1, t1⟩
    replace h0 := Lib.hid (h0.out.next x1 t1)
    clear x1 t1
    go_wp2_with fail
    refine (hD.out _ h0.out.1).mono ?_; rintro e w2 ⟨rfl, x1, t1⟩
    replace h0 := Lib.hid (h0.out.next x1 t1)
    clear x1 t1
    go_wp2_with fail
    refine (hS1.out _ h0.out.1).mono ?_; rintro e w3 ⟨rfl, x1, t1⟩
    replace h0 := Lib.hid (h0.out.next x1 t1)
    clear x1 t1
    go_wp2_with fail
    refine (hM.out _ (hE0.out.turned h0.out.2 hoff) h0.out.1).mono ?_; rintro e w4 ⟨rfl, x1, t1⟩
    replace h0 := Lib.hid (h0.out.next x1 t1)
    clear x1 t1
    go_wp2_with fail
    refine (hS2.out _ h0.out.1).mono ?_; rintro e w5 ⟨rfl, x1, t1⟩
    replace h0 := Lib.hid (h0.out.next x1 t1)
    clear x1 t1
    go_wp2_with fail
    refine (hY.out _ h0.out.1).mono ?_; rintro e w6 ⟨rfl, x1, t1⟩
    replace h0 := Lib.hid (h0.out.next x1 t1)
    clear x1 t1
    go_wp2_with fail
    refine (hS3.out _ h0.out.1).mono ?_; rintro e w7 ⟨rfl, x1, t1⟩
    replace h0 := Lib.hid (h0.out.next x1 t1)
    clear x1 t1
    go_wp2_with fail
    refine (hH.out _ h0.out.1).mono ?_; rintro e w8 ⟨rfl, x1, t1⟩
    replace h0 := Lib.hid (h0.out.next x1 t1)
    clear x1 t1
    go_wp2_with fail
    refine (hK.out _ h0.out.1).mono ?_; rintro e w9 ⟨rfl, x1, t1⟩
    replace h0 := Lib.hid (h0.out.next x1 t1)
    clear x1 t1
    go_wp2_with fail
    refine (hC.out _ h0.out.1).mono ?_; rintro e w10 ⟨rfl, x1, t1⟩
    replace h0 := Lib.hid (h0.out.next x1 t1)
    clear x1 t1
    go_wp2_with fail
    refine (hS4.out _ h0.out.1).mono ?_; rintro e w11 ⟨rfl, x1, t1⟩
    replace h0 := Lib.hid (h0.out.next x1 t1)
    clear x1 t1
    go_wp2_with fail
    refine (hZ.out _ h0.out.1).mono ?_; rintro e w12 ⟨rfl, x1, t1⟩
    replace h0 := Lib.hid (h0.out.next x1 t1)
    clear x1 t1
    go_wp2_with fail
    refine (hT.out _ h0.out.1).mono ?_; rintro e w13 ⟨rfl, rfl⟩
    go_wp2_with fail
    go_ret2
    exact ⟨rfl, by rw [hRe]; exact hfin.out _ h0.out.2⟩
  · simp only [if_true] at ho
    unfold r822g at ho
    simp only at ho
    have hZ := Lib.hid (fun W (hW : RdC W R s9) => zone13_any R s9 W hW l9)
    have bZ := zoneC_bd s9
    generalize zoneC s9 = q at *
    obtain ⟨z, s12⟩ := q
    simp only at hZ bZ ho
    obtain ⟨bZ0, bZ1⟩ := bZ
    have hT := Lib.hid (fun W (hW : RdC W R s12) => date13_any R s12 y m d ((hr : Int) - z) W hW (by omega) (by omega) (by omega))
    rw [ho] at hT
    clear ho
    go_enter Tryz.func71, Tryz.ntmps71
    go_wp2_with fail
    refine (hW.out _ hE0.out h0.out.1).mono ?_; rintro e w1 ⟨rfl, x1, t1⟩
    replace h0 := Lib.hid (h0.out.next x1 t1)
    clear x1 t1
    go_wp2_with fail
    refine (hD.out _ h0.out.1).mono ?_; rintro e w2 ⟨rfl, x1, t1⟩
    replace h0 := Lib.hid (h0.out.next x1 t1)
    clear x1 t1
    go_wp2_with fail
    refine (hS1.out _ h0.out.1).mono ?_; rintro e w3 ⟨rfl, x1, t1⟩
    replace h0 := Lib.hid (h0.out.next x1 t1)
    clear x1 t1
    go_wp2_with fail
    refine (hM.out _ (hE0.out.turned h0.out.2 hoff) h0.out.1).mono ?_; rintro e w4 ⟨rfl, x1, t1⟩
    replace h0 := Lib.hid (h0.out.next x1 t1)
    clear x1 t1
    go_wp2_with fail
    refine (hS2.out _ h0.out.1).mono ?_; rintro e w5 ⟨rfl, x1, t1⟩
    replace h0 := Lib.hid (h0.out.next x1 t1)
    clear x1 t1
    go_wp2_with fail
    refine (hY.out _ h0.out.1).mono ?_; rintro e w6 ⟨rfl, x1, t1⟩
    replace h0 := Lib.hid (h0.out.next x1 t1)
    clear x1 t1
    go_wp2_with fail
    refine (hS3.out _ h0.out.1).mono ?_; rintro e w7 ⟨rfl, x1, t1⟩
    replace h0 := Lib.hid (h0.out.next x1 t1)
    clear x1 t1
    go_wp2_with fail
    refine (hH.out _ h0.out.1).mono ?_; rintro e w8 ⟨rfl, x1, t1⟩
    replace h0 := Lib.hid (h0.out.next x1 t1)
    clear x1 t1
    go_wp2_with fail
    refine (hK.out _ h0.out.1).mono ?_; rintro e w9 ⟨rfl, x1, t1⟩
    replace h0 := Lib.hid (h0.out.next x1 t1)
    clear x1 t1
    go_wp2_with fail
    refine (hZ.out _ h0.out.1).mono ?_; rintro e w12 ⟨rfl, x1, t1⟩
    replace h0 := Lib.hid (h0.out.next x1 t1)
    clear x1 t1
    go_wp2_with fail
    refine (hT.out _ h0.out.1).mono ?_; rintro e w13 ⟨rfl, rfl⟩
    go_wp2_with fail
    go_ret2
    exact ⟨rfl, by rw [hRe]; exact hfin.out _ h0.out.2⟩
end Go.Proofs.YtkjjjbipmobdaaaGreatDoor
