/- Layer 13: the names in memory; weekday, Month, month, zone, date. -/
import Derived.Lib.ItoaMem
import Derived.WalkSmall
import Derived.Test.YtjkppdjgacnfbaaDoorSl
import Derived.Test.YtjkppdjgacnfbaaDoorD13f
namespace Go.Proofs.YtjkppdjgacnfbaaDoor
open Go.RowKit

/-- What the listed variables hold. -/
structure Env13 (w : World) : Prop where
  mon : w.rangeAt 0 0 (monthsL.map strV)
  wk : w.rangeAt 1 0 (weekL.map strV)
  pow : Lib.TabIs Tryd.prog w "internal/strconv.uint64pow10" .u64 Lib.pow10Tab
theorem range_below {w w' : World} {b : Nat} {cs : List Value} (h : w.rangeAt b 0 cs) (hb : Below w.heap.size w w') : w'.rangeAt b 0 cs := fun j v hv =>
  (hb.cell (p := ⟨b, 0 + j, none⟩) (World.block_lt_of_cell? w _ (h j v hv))).trans (h j v hv)
theorem g_pow : Tryd.prog.globalNamed "internal/strconv.uint64pow10" = some 2 := by kernel_rfl
theorem Env13.below {w w' : World} (h : Env13 w) (hb : Below w.heap.size w w') : Env13 w' :=
  ⟨range_below h.mon hb, range_below h.wk hb, var?_below hb g_pow (World.block_lt_of_cell? w _ (h.pow.cell g_pow 0 (by decide))) h.pow⟩
/-- A block that holds no listed variable. -/
structure Off13 (R : Nat) : Prop where
  m : 0 ≠ R
  k : 1 ≠ R
  p : 2 ≠ R
theorem Env13.off {w : World} (h : Env13 w) : Off13 w.heap.size :=
  ⟨Nat.ne_of_lt (World.block_lt_of_cell? w _ (h.mon 0 _ rfl)), Nat.ne_of_lt (World.block_lt_of_cell? w _ (h.wk 0 _ rfl)), Nat.ne_of_lt (World.block_lt_of_cell? w _ (h.pow.cell g_pow 0 (by decide)))⟩
/-- Where only a block that holds no listed variable has turned. -/
theorem Env13.turned {w w' : World} {R : Nat} (h : Env13 w) (ht : Turned (fun b => b = R) w w') (hR : Off13 R) : Env13 w' := by
  have hb : ∀ g, g ≠ R → ∀ j, ∀ v, w.cell? ⟨g, j, none⟩ = some v → w'.cell? ⟨g, j, none⟩ = some v := fun g hg j v hv =>
    (World.cell?_of_block (ht.block g (World.block_lt_of_cell? w _ hv) hg)).trans hv
  refine ⟨fun j v hv => hb _ hR.m _ _ (h.mon j v hv), fun j v hv => hb _ hR.k _ _ (h.wk j v hv), ?_⟩
  have hc := h.pow.cell g_pow 0 (by decide)
  have hbl := ht.block 2 (World.block_lt_of_cell? w _ hc) hR.p
  have hp := h.pow
  unfold Lib.TabIs World.var? at hp ⊢
  simp only [g_pow, Option.bind_some] at hp ⊢
  rw [hbl]
  exact hp

theorem info_week : (Tryd.prog.info? 53).map (·.size) = some 7 := by kernel_rfl
theorem info_months : (Tryd.prog.info? 52).map (·.size) = some 12 := by kernel_rfl
theorem run_index_week {w : World} (cs : Array Value) (i : Nat) (v : Value) (hi : i < 7) (hv : cs[i]? = some v) :
    (Instr.index 53 (.agg cs) (.int .i64 i)).run Tryd.prog w = .ok v w := by
  simp [Instr.index, Tryd.sizeOf9, Tryd.isAgg9, part, asIntOf, hi, hv, go_sem]
theorem run_index_months {w : World} (cs : Array Value) (i : Nat) (v : Value) (hi : i < 12) (hv : cs[i]? = some v) :
    (Instr.index 52 (.agg cs) (.int .i64 i)).run Tryd.prog w = .ok v w := by
  simp [Instr.index, Tryd.sizeOf9, Tryd.isAgg9, part, asIntOf, hi, hv, go_sem]
def weekV : Array Value := (weekL.map strV).toArray
def monthsV : Array Value := (monthsL.map strV).toArray
theorem week_len : ∀ k, k < 7 → (weekL.getD k []).length = 3 := by decide
theorem months_len : ∀ k, k < 12 → (monthsL.getD k []).length = 3 := by decide
theorem weekV_at {k : Nat} (h : k < 7) : weekV[k]? = some (.string ⟨(weekL.getD k []).toArray⟩) := by
  have hk : k < weekL.length := h
  simp [weekV, List.getD, hk, strV]
theorem monthsV_at {k : Nat} (h : k < 12) : monthsV[k]? = some (.string ⟨(monthsL.getD k []).toArray⟩) := by
  have hk : k < monthsL.length := h
  simp [monthsV, List.getD, hk, strV]
theorem drop_get {α : Type} (l : List α) (d : α) (k : Nat) (h : k < l.length) : l.drop k = l.getD k d :: l.drop (k + 1) := by
  rw [List.drop_eq_getElem_cons h]
  simp [List.getD, h]
theorem trim_no {l p : List UInt8} (h : Lib.hasPrefix l p = false) : Lib.trimPrefix l p = l := by unfold Lib.trimPrefix; rw [h]; simp

theorem wkF_cons (n : List UInt8) (t : List (List UInt8)) (l : List UInt8) : wkF (n :: t) l = if Lib.hasPrefix l (n ++ [44, 32]) then Lib.trimPrefix l (n ++ [44, 32]) else wkF t l := rfl
theorem mIx_cons (i : Nat) (n : List UInt8) (t : List (List UInt8)) (l : List UInt8) : mIx i (n :: t) l = if n == l then i + 1 else mIx (i + 1) t l := rfl
theorem monF_cons (n : List UInt8) (t : List (List UInt8)) (l : List UInt8) : monF (n :: t) l = if Lib.hasPrefix l n then some (monIx n, Lib.trimPrefix l n) else monF t l := rfl

set_option maxHeartbeats 400000 in
theorem weekday13_any (R : Nat) (s : RSt) (w : World) (hE : Env13 w) (h : RdC w R s) :
    Calls Tryd.prog 28 #[.pointer (some ⟨R, 0, none⟩)] w (RPost w R (weekdayC s) (.tuple #[])) := by
  unfold weekdayC
  have hwk := hE.wk
  clear hE
  have hat := fun (k : Nat) (hk : k < 7) (W : World) => run_index_week (w := W) weekV k _ hk (weekV_at hk)
  unfold weekV at hat
  have hlen : (Tryd.prog.info? 53).map (·.size) = some (weekL.map strV).length := info_week
  replace hat := Lib.hid hat
  replace hlen := Lib.hid hlen
  generalize weekL.map strV = V at *
  have hst := Lib.hid h
  clear h
  go_enter Tryd.func28, Tryd.ntmps28
  go_wp2_with (refine wpList_load_mid rfl 53 (.global 1) rfl 1 0 rfl V (.array 7 9) hwk Tryd.underlying53 rfl hlen.out ?_)
  clear hwk
  go_loopw [5] (fun i wr => ∃ k : Nat, k ≤ 7 ∧ i = .int .i64 k ∧ Hid (wkF weekL s.1 = wkF (weekL.drop k) s.1) ∧ Hid (RdC wr R s ∧ Turned (fun b => b = R) w wr)) (fun i _ => 7 - (intOf i).toNat)
  case atStart => exact ⟨0, by omega, rfl, by rw [List.drop_zero]; rfl, hst.out, Turned.refl _ _⟩
  case round =>
    clear hst
    obtain ⟨k, hk, rfl, he, hq⟩ := hrel
    by_cases hlt : k < 7
    · have hix := hat.out k hlt
      have hn3 := week_len k hlt
      have hwd := drop_get weekL [] k hlt
      rw [hwd] at he
      generalize weekL.getD k [] = n at *
      clear hwd
      have hsk := skip13_any R s (n ++ [44, 32]) wr hq.out.1
      unfold skipC at hsk
      rw [wkF_cons] at he
      have hlt1 : (k : Int) < 7 := by omega
      cases hb : Lib.hasPrefix s.1 (n ++ [44, 32])
      · have he2 := he.out
        rw [hb] at he2 hsk
        simp only [Bool.false_eq_true, if_false] at he2
        rw [trim_no hb] at hsk
        replace he2 := Lib.hid he2
        replace hsk := Lib.hid hsk
        replace hb := Lib.hid hb
        clear he
        go_wp2_with fail
        refine hsk.out.mono ?_; rintro e w1 ⟨rfl, h1, ht⟩
        replace h1 := Lib.hid (And.intro h1 (turn_then hq.out.2 ht))
        clear ht hq
        go_wp2_with fail
        exact ⟨⟨k + 1, by omega, vi64 (by omega), he2, h1⟩, by simp [intOf]; omega⟩
      · have he2 := he.out
        rw [hb] at he2 hsk
        simp only [if_true] at he2
        replace he2 := Lib.hid he2
        replace hsk := Lib.hid hsk
        replace hb := Lib.hid hb
        clear he
        go_wp2_with fail
        refine hsk.out.mono ?_; rintro e w1 ⟨rfl, h1, ht⟩
        replace h1 := Lib.hid (And.intro h1 (turn_then hq.out.2 ht))
        clear ht hq
        go_wp2_with fail
        refine bodyPost_end (v := .tuple #[]) (by simp [results, Tryd.results28, go_sem]) rfl ?_
        exact ⟨rfl, by rw [he2.out]; exact h1.out.1, h1.out.2⟩
    · have hlt1 : ¬ ((k : Int) < 7) := by omega
      have he2 := Lib.hid (show wkF weekL s.1 = s.1 by rw [he.out, show k = 7 by omega]; rfl)
      clear he
      go_wp2_with fail
      refine bodyPost_end (v := .tuple #[]) (by simp [results, Tryd.results28, go_sem]) rfl ?_
      exact ⟨rfl, by rw [he2.out]; exact hq.out.1, hq.out.2⟩

set_option maxHeartbeats 400000 in
theorem month13_any (l : List UInt8) (w : World) (hE : Env13 w) :
    Calls Tryd.prog 14 #[.string ⟨l.toArray⟩] w fun e w' => e = .returned (.int .i64 (monIx l : Nat)) ∧ w = w' := by
  unfold monIx
  have hwk := hE.mon
  clear hE
  have hat := fun (k : Nat) (hk : k < 12) (W : World) => run_index_months (w := W) monthsV k _ hk (monthsV_at hk)
  unfold monthsV at hat
  have hlen : (Tryd.prog.info? 52).map (·.size) = some (monthsL.map strV).length := info_months
  replace hat := Lib.hid hat
  replace hlen := Lib.hid hlen
  generalize monthsL.map strV = V at *
  go_enter Tryd.func14, Tryd.ntmps14
  go_wp2_with (refine wpList_load_mid rfl 52 (.global 0) rfl 0 0 rfl V (.array 12 9) hwk Tryd.underlying52 rfl hlen.out ?_)
  clear hwk
  go_loopw [6] (fun i wr => ∃ k : Nat, k ≤ 12 ∧ i = .int .i64 k ∧ Hid (mIx 0 monthsL l = mIx k (monthsL.drop k) l) ∧ Hid (w = wr)) (fun i _ => 12 - (intOf i).toNat)
  case atStart => exact ⟨0, by omega, rfl, by rw [List.drop_zero]; rfl, rfl⟩
  case round =>
    obtain ⟨k, hk, rfl, he, hwr⟩ := hrel
    by_cases hlt : k < 12
    · have hix := hat.out k hlt
      have hwd := drop_get monthsL [] k hlt
      rw [hwd] at he
      generalize monthsL.getD k [] = n at *
      clear hwd
      rw [mIx_cons] at he
      have hlt1 : (k : Int) < 12 := by omega
      cases hb : (n == l)
      · have he2 := he.out
        rw [hb] at he2
        simp only [Bool.false_eq_true, if_false] at he2
        replace he2 := Lib.hid he2
        clear he
        go_wp2_with fail
        exact ⟨⟨k + 1, by omega, vi64 (by omega), he2, hwr⟩, by simp [intOf]; omega⟩
      · have he2 := he.out
        rw [hb] at he2
        simp only [if_true] at he2
        replace he2 := Lib.hid he2
        clear he
        go_wp2_with fail
        go_ret
        exact ⟨ret_int (by rw [he2.out]; omega), hwr.out⟩
    · have hlt1 : ¬ ((k : Int) < 12) := by omega
      have he2 := Lib.hid (show mIx 0 monthsL l = 0 by rw [he.out, show k = 12 by omega]; rfl)
      clear he
      go_wp2_with fail
      go_ret
      exact ⟨ret_int (by rw [he2.out]; rfl), hwr.out⟩
theorem monthC_some {s : RSt} {m : Nat} {t : List UInt8} (h : monF monthsL s.1 = some (m, t)) : monthC s = (m, (t, s.2)) := by unfold monthC; rw [h]
theorem monthC_none {s : RSt} (h : monF monthsL s.1 = none) : monthC s = (0, (s.1, true)) := by unfold monthC; rw [h]

set_option maxHeartbeats 400000 in
theorem rmonth13_any (R : Nat) (s : RSt) (w : World) (hE : Env13 w) (hR : Off13 R) (h : RdC w R s) :
    Calls Tryd.prog 31 #[.pointer (some ⟨R, 0, none⟩)] w (RPost w R (monthC s).2 (.int .i64 ((monthC s).1 : Nat))) := by
  have hwk := hE.mon
  have hat := fun (k : Nat) (hk : k < 12) (W : World) => run_index_months (w := W) monthsV k _ hk (monthsV_at hk)
  unfold monthsV at hat
  have hlen : (Tryd.prog.info? 52).map (·.size) = some (monthsL.map strV).length := info_months
  replace hat := Lib.hid hat
  replace hlen := Lib.hid hlen
  generalize monthsL.map strV = V at *
  have hst := Lib.hid h
  replace hE := Lib.hid hE
  clear h
  go_enter Tryd.func31, Tryd.ntmps31
  go_wp2_with (refine wpList_load_mid rfl 52 (.global 0) rfl 0 0 rfl V (.array 12 9) hwk Tryd.underlying52 rfl hlen.out ?_)
  clear hwk
  go_loopw [6] (fun i wr => ∃ k : Nat, k ≤ 12 ∧ i = .int .i64 k ∧ Hid (monF monthsL s.1 = monF (monthsL.drop k) s.1) ∧ Hid (RdC wr R s ∧ Turned (fun b => b = R) w wr)) (fun i _ => 12 - (intOf i).toNat)
  case atStart => exact ⟨0, by omega, rfl, by rw [List.drop_zero]; rfl, hst.out, Turned.refl _ _⟩
  case round =>
    clear hst
    obtain ⟨k, hk, rfl, he, hq⟩ := hrel
    by_cases hlt : k < 12
    · have hix := hat.out k hlt
      have hwd := drop_get monthsL [] k hlt
      rw [hwd] at he
      generalize monthsL.getD k [] = n at *
      clear hwd
      have hsk := skip13_any R s n wr hq.out.1
      unfold skipC at hsk
      rw [monF_cons] at he
      have hlt1 : (k : Int) < 12 := by omega
      cases hb : Lib.hasPrefix s.1 n
      · have he2 := he.out
        rw [hb] at he2 hsk
        simp only [Bool.false_eq_true, if_false] at he2
        rw [trim_no hb] at hsk
        replace he2 := Lib.hid he2
        replace hsk := Lib.hid hsk
        replace hb := Lib.hid hb
        clear he
        go_wp2_with fail
        refine hsk.out.mono ?_; rintro e w1 ⟨rfl, h1, ht⟩
        replace h1 := Lib.hid (And.intro h1 (turn_then hq.out.2 ht))
        clear ht hq
        go_wp2_with fail
        exact ⟨⟨k + 1, by omega, vi64 (by omega), he2, h1⟩, by simp [intOf]; omega⟩
      · have he2 := he.out
        rw [hb] at he2 hsk
        simp only [if_true] at he2
        replace he2 := Lib.hid he2
        replace hsk := Lib.hid hsk
        replace hb := Lib.hid hb
        clear he
        have hmc := Lib.hid (fun W (hW : Env13 W) => month13_any n W hW)
        generalize monIx n = M at *
        go_wp2_with fail
        refine hsk.out.mono ?_; rintro e w1 ⟨rfl, h1, ht⟩
        replace h1 := Lib.hid (And.intro h1 (turn_then hq.out.2 ht))
        clear ht hq
        go_wp2_with fail
        refine (hmc.out w1 (hE.out.turned h1.out.2 hR)).mono ?_; rintro e w2 ⟨rfl, rfl⟩
        go_wp2_with fail
        go_ret
        rw [monthC_some he2.out]
        exact ⟨rfl, h1.out.1, h1.out.2⟩
    · have hlt1 : ¬ ((k : Int) < 12) := by omega
      have he2 := Lib.hid (show monF monthsL s.1 = none by rw [he.out, show k = 12 by omega]; rfl)
      have c1 := hq.out.1.c1
      have f1 := hq.out.1.fz 1
      clear he
      go_wp2_with fail
      go_ret
      rw [monthC_none he2.out]
      exact ⟨rfl, hq.out.1.bad true, turn_then hq.out.2 (turn_rest _ _ _ _)⟩
end Go.Proofs.YtjkppdjgacnfbaaDoor
