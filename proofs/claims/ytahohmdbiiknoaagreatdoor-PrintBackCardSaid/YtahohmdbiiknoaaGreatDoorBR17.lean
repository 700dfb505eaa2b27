/- strconv.Itoa at this program, by the library's contract (made by wip/tools/shelf2tpl.py): any number, and one below 100, for which no table is asked. -/
import Derived.Shelf.Strconv.Itoa3
import Derived.Test.YtahohmdbiiknoaaGreatDoorBR01
import Derived.Lib.ItoaMem
import Derived.WalkSmall
import Derived.Test.YtahohmdbiiknoaaGreatDoorBR07
import Derived.Test.YtahohmdbiiknoaaGreatDoorBR14
namespace Go.Proofs.YtahohmdbiiknoaaGreatDoor
open Go.RowKit Go.Shelf Go.Lib Go.Sort
def Laid.laysM171_ren : Go.Shelf.Ren := ⟨fun | 171 => 62 | 243 => 84 | 246 => 92 | 283 => 96 | 284 => 97 | 285 => 98 | 286 => 99 | 129 => 101 | 317 => 100 | 318 => 102 | 319 => 103 | 320 => 104 | 337 => 105 | 338 => 106 | n => n, fun | 3 => 3 | 9 => 9 | 2 => 2 | 4 => 4 | 171 => 119 | 0 => 0 | 53 => 120 | 37 => 51 | 5 => 5 | 173 => 123 | 212 => 126 | 51 => 127 | 20 => 20 | 213 => 128 | 46 => 92 | 232 => 131 | 233 => 132 | n => n, fun | 17 => 2 | 18 => 3 | 19 => 4 | n => n⟩
theorem Laid.laysM171 : Go.Proofs.LaysM.n171 Tryz.prog Laid.laysM171_ren := {
  mixed := by kernel_rfl
  f129 := Tryz.func101.trans (congrArg some (by kernel_rfl))
  f171 := Tryz.func62.trans (congrArg some (by kernel_rfl))
  f243 := Tryz.func84.trans (congrArg some (by kernel_rfl))
  f246 := Tryz.func92.trans (congrArg some (by kernel_rfl))
  f283 := Tryz.func96.trans (congrArg some (by kernel_rfl))
  f284 := Tryz.func97.trans (congrArg some (by kernel_rfl))
  f285 := Tryz.func98.trans (congrArg some (by kernel_rfl))
  f286 := Tryz.func99.trans (congrArg some (by kernel_rfl))
  f317 := Tryz.func100.trans (congrArg some (by kernel_rfl))
  f318 := Tryz.func102.trans (congrArg some (by kernel_rfl))
  f319 := Tryz.func103.trans (congrArg some (by kernel_rfl))
  f320 := Tryz.func104.trans (congrArg some (by kernel_rfl))
  f337 := Tryz.func105.trans (congrArg some (by kernel_rfl))
  f338 := Tryz.func106.trans (congrArg some (by kernel_rfl))
  t0 := Tryz.underlying0
  a0 := Tryz.isAgg0
  z0 := Tryz.sizeOf0
  v0 := Tryz.zeroValue0
  t2 := Tryz.underlying2
  a2 := Tryz.isAgg2
  z2 := Tryz.sizeOf2
  v2 := Tryz.zeroValue2
  t3 := Tryz.underlying3
  a3 := Tryz.isAgg3
  z3 := Tryz.sizeOf3
  v3 := Tryz.zeroValue3
  t4 := Tryz.underlying4
  a4 := Tryz.isAgg4
  z4 := Tryz.sizeOf4
  v4 := Tryz.zeroValue4
  t5 := Tryz.underlying5
  a5 := Tryz.isAgg5
  z5 := Tryz.sizeOf5
  v5 := Tryz.zeroValue5
  t9 := Tryz.underlying9
  a9 := Tryz.isAgg9
  z9 := Tryz.sizeOf9
  v9 := Tryz.zeroValue9
  t20 := Tryz.underlying20
  a20 := Tryz.isAgg20
  z20 := Tryz.sizeOf20
  v20 := Tryz.zeroValue20
  t37 := Tryz.underlying51
  a37 := Tryz.isAgg51
  z37 := Tryz.sizeOf51
  v37 := Tryz.zeroValue51
  t46 := Tryz.underlying92
  a46 := Tryz.isAgg92
  z46 := Tryz.sizeOf92
  v46 := Tryz.zeroValue92
  t51 := Tryz.underlying127
  a51 := Tryz.isAgg127
  z51 := Tryz.sizeOf127
  v51 := Tryz.zeroValue127
  t53 := Tryz.underlying120
  a53 := Tryz.isAgg120
  z53 := Tryz.sizeOf120
  v53 := Tryz.zeroValue120
  t171 := Tryz.underlying119
  a171 := Tryz.isAgg119
  z171 := Tryz.sizeOf119
  v171 := Tryz.zeroValue119
  t173 := Tryz.underlying123
  a173 := Tryz.isAgg123
  z173 := Tryz.sizeOf123
  v173 := Tryz.zeroValue123
  t212 := Tryz.underlying126
  a212 := Tryz.isAgg126
  z212 := Tryz.sizeOf126
  v212 := Tryz.zeroValue126
  t213 := Tryz.underlying128
  a213 := Tryz.isAgg128
  z213 := Tryz.sizeOf128
  t232 := Tryz.underlying131
  a232 := Tryz.isAgg131
  z232 := Tryz.sizeOf131
  v232 := Tryz.zeroValue131
  t233 := Tryz.underlying132
  a233 := Tryz.isAgg132
  z233 := Tryz.sizeOf132
  v233 := Tryz.zeroValue132
  g17 := by kernel_rfl
  g18 := by kernel_rfl
  g19 := by kernel_rfl
  i0 := by kernel_rfl
  i2 := by kernel_rfl
  i3 := by kernel_rfl
  i4 := by kernel_rfl
  i5 := by kernel_rfl
  i9 := by kernel_rfl
  i20 := by kernel_rfl
  i37 := by kernel_rfl
  i46 := by kernel_rfl
  i51 := by kernel_rfl
  i53 := by kernel_rfl
  i171 := by kernel_rfl
  i173 := by kernel_rfl
  i212 := by kernel_rfl
  i232 := by kernel_rfl
  i233 := by kernel_rfl
  m17 := by kernel_rfl
  m18 := by kernel_rfl
  m19 := by kernel_rfl }
open Go.RowKit Go.Sort Go.Lib in
theorem Laid.strconv_Itoa (n : Int) (h0 : -9223372036854775808 ≤ n) (h1 : n ≤ 9223372036854775807) (w : World) (htab : Lib.TabIs Tryz.prog w "internal/strconv.uint64pow10" .u64 Lib.pow10Tab) :
    Calls Tryz.prog 62 #[.int .i64 n] w fun e w' => e = .returned (.string ⟨(Lib.itoa n).toArray⟩) ∧ ∃ k os, w' = grow (w.drewN k) os := Any.strconv_Itoa Laid.laysM171 n h0 h1 w htab
def Laid.lays171_ren : Go.Shelf.Ren := ⟨fun | 171 => 62 | 243 => 84 | 246 => 92 | 283 => 96 | 284 => 97 | 285 => 98 | 286 => 99 | 129 => 101 | 317 => 100 | 318 => 102 | 319 => 103 | 320 => 104 | 337 => 105 | 338 => 106 | n => n, fun | 3 => 3 | 9 => 9 | 2 => 2 | 4 => 4 | 171 => 119 | 0 => 0 | 53 => 120 | 37 => 51 | 5 => 5 | 173 => 123 | 212 => 126 | 51 => 127 | 20 => 20 | 213 => 128 | 46 => 92 | 232 => 131 | 233 => 132 | n => n, fun | 17 => 2 | 18 => 3 | 19 => 4 | n => n⟩
theorem Laid.lays171 : Go.Proofs.Lays.n171 Tryz.prog Laid.lays171_ren := {
  mixed := by kernel_rfl
  f129 := Tryz.func101.trans (congrArg some (by kernel_rfl))
  f171 := Tryz.func62.trans (congrArg some (by kernel_rfl))
  f243 := Tryz.func84.trans (congrArg some (by kernel_rfl))
  f246 := Tryz.func92.trans (congrArg some (by kernel_rfl))
  f283 := Tryz.func96.trans (congrArg some (by kernel_rfl))
  f284 := Tryz.func97.trans (congrArg some (by kernel_rfl))
  f285 := Tryz.func98.trans (congrArg some (by kernel_rfl))
  f286 := Tryz.func99.trans (congrArg some (by kernel_rfl))
  f317 := Tryz.func100.trans (congrArg some (by kernel_rfl))
  f318 := Tryz.func102.trans (congrArg some (by kernel_rfl))
  f319 := Tryz.func103.trans (congrArg some (by kernel_rfl))
  f320 := Tryz.func104.trans (congrArg some (by kernel_rfl))
  f337 := Tryz.func105.trans (congrArg some (by kernel_rfl))
  f338 := Tryz.func106.trans (congrArg some (by kernel_rfl))
  t0 := Tryz.underlying0
  a0 := Tryz.isAgg0
  z0 := Tryz.sizeOf0
  v0 := Tryz.zeroValue0
  t2 := Tryz.underlying2
  a2 := Tryz.isAgg2
  z2 := Tryz.sizeOf2
  v2 := Tryz.zeroValue2
  t3 := Tryz.underlying3
  a3 := Tryz.isAgg3
  z3 := Tryz.sizeOf3
  v3 := Tryz.zeroValue3
  t4 := Tryz.underlying4
  a4 := Tryz.isAgg4
  z4 := Tryz.sizeOf4
  v4 := Tryz.zeroValue4
  t5 := Tryz.underlying5
  a5 := Tryz.isAgg5
  z5 := Tryz.sizeOf5
  v5 := Tryz.zeroValue5
  t9 := Tryz.underlying9
  a9 := Tryz.isAgg9
  z9 := Tryz.sizeOf9
  v9 := Tryz.zeroValue9
  t20 := Tryz.underlying20
  a20 := Tryz.isAgg20
  z20 := Tryz.sizeOf20
  v20 := Tryz.zeroValue20
  t37 := Tryz.underlying51
  a37 := Tryz.isAgg51
  z37 := Tryz.sizeOf51
  v37 := Tryz.zeroValue51
  t46 := Tryz.underlying92
  a46 := Tryz.isAgg92
  z46 := Tryz.sizeOf92
  v46 := Tryz.zeroValue92
  t51 := Tryz.underlying127
  a51 := Tryz.isAgg127
  z51 := Tryz.sizeOf127
  v51 := Tryz.zeroValue127
  t53 := Tryz.underlying120
  a53 := Tryz.isAgg120
  z53 := Tryz.sizeOf120
  v53 := Tryz.zeroValue120
  t171 := Tryz.underlying119
  a171 := Tryz.isAgg119
  z171 := Tryz.sizeOf119
  v171 := Tryz.zeroValue119
  t173 := Tryz.underlying123
  a173 := Tryz.isAgg123
  z173 := Tryz.sizeOf123
  v173 := Tryz.zeroValue123
  t212 := Tryz.underlying126
  a212 := Tryz.isAgg126
  z212 := Tryz.sizeOf126
  v212 := Tryz.zeroValue126
  t213 := Tryz.underlying128
  a213 := Tryz.isAgg128
  z213 := Tryz.sizeOf128
  t232 := Tryz.underlying131
  a232 := Tryz.isAgg131
  z232 := Tryz.sizeOf131
  v232 := Tryz.zeroValue131
  t233 := Tryz.underlying132
  a233 := Tryz.isAgg132
  z233 := Tryz.sizeOf132
  v233 := Tryz.zeroValue132
  g17 := by kernel_rfl
  g18 := by kernel_rfl
  g19 := by kernel_rfl }
open Go.RowKit Go.Sort Go.Lib in
theorem Laid.strconv_Itoa_small (i : Nat) (hi : i < 100) (w : World) :
    Calls Tryz.prog 62 #[.int .i64 i] w fun e w' => e = .returned (.string ⟨(Lib.decDigits i).toArray⟩) ∧ w' = w := Any.strconv_Itoa_small Laid.lays171 i hi w

theorem itoa_any (n : Int) (h0 : -9223372036854775808 ≤ n) (h1 : n ≤ 9223372036854775807) (w : World) (htab : Lib.TabIs Tryz.prog w "internal/strconv.uint64pow10" .u64 Lib.pow10Tab) :
    Calls Tryz.prog 62 #[.int .i64 n] w fun e w' => e = .returned (.string ⟨(Lib.itoa n).toArray⟩) ∧ Below w.heap.size w w' := by
  refine (Laid.strconv_Itoa n h0 h1 w htab).mono ?_
  rintro e w' ⟨rfl, k, os, rfl⟩
  exact ⟨rfl, rfl, rfl, rfl, by simp [grow], fun g hg => by simp [grow, Array.getElem?_append, hg]⟩
theorem itoa_small (i : Nat) (hi : i < 100) (w : World) :
    Calls Tryz.prog 62 #[.int .i64 i] w fun e w' => e = .returned (.string ⟨(Lib.decDigits i).toArray⟩) ∧ w = w' :=
  (Laid.strconv_Itoa_small i hi w).mono fun _ _ h => ⟨h.1, h.2.symm⟩
end Go.Proofs.YtahohmdbiiknoaaGreatDoor

/- Layer 13: the names of days and months in memory. -/
namespace Go.Proofs.YtahohmdbiiknoaaGreatDoor
open Go.RowKit

/-- What the listed variables hold. -/
structure Env13 (w : World) : Prop where
  mon : w.rangeAt 1 0 (monthsL.map strV)
  wk : w.rangeAt 0 0 (weekL.map strV)
  pow : Lib.TabIs Tryz.prog w "internal/strconv.uint64pow10" .u64 Lib.pow10Tab
theorem range_below {w w' : World} {b : Nat} {cs : List Value} (h : w.rangeAt b 0 cs) (hb : Below w.heap.size w w') : w'.rangeAt b 0 cs := fun j v hv =>
  (hb.cell (p := ⟨b, 0 + j, none⟩) (World.block_lt_of_cell? w _ (h j v hv))).trans (h j v hv)
theorem g_pow : Tryz.prog.globalNamed "internal/strconv.uint64pow10" = some 2 := by kernel_rfl
theorem Env13.below {w w' : World} (h : Env13 w) (hb : Below w.heap.size w w') : Env13 w' :=
  ⟨range_below h.mon hb, range_below h.wk hb, var?_below hb g_pow (World.block_lt_of_cell? w _ (h.pow.cell g_pow 0 (by decide))) h.pow⟩
/-- A block that holds no listed variable. -/
structure Off13 (R : Nat) : Prop where
  m : 1 ≠ R
  k : 0 ≠ R
  p : 2 ≠ R
theorem Env13.off {w : World} (h : Env13 w) : Off13 w.heap.size :=
  ⟨Nat.ne_of_lt (World.block_lt_of_cell? w _ (h.mon 0 _ rfl)), Nat.ne_of_lt (World.block_lt_of_cell? w _ (h.wk 0 _ rfl)), Nat.ne_of_lt (World.block_lt_of_cell? w _ (h.pow.cell g_pow 0 (by decide)))⟩
/-- Where only a block that holds no listed variable has turned. -/
theorem Env13.turned {w w' : World} {R : Nat} (h : Env13 w) (ht : Turned (fun b => b = R) w w') (hR : Off13 R) : Env13 w' := by
  have hb : ∀ g, g ≠ R → ∀ j, ∀ v, w.cell? ⟨g, j, none⟩ = some v → w'.cell? ⟨g, j, none⟩ = some v := fun g hg j v hv =>
    (World.cell?_of_block (ht.block g (World.block_lt_of_cell? w _ hv) hg)).trans hv
  refine ⟨fun j v hv => hb _ hR.m _ _ (h.mon j v hv), fun j v hv => hb _ hR.k _ _ (h.wk j v hv), ?_⟩
  have hc := h.pow.cell g_pow 0 (by decide)
  have hbl := ht.block 2 (World.block_lt_of_cell? w _ hc) hR.p
  have hp := h.pow
  unfold Lib.TabIs World.var? at hp ⊢
  simp only [g_pow, Option.bind_some] at hp ⊢
  rw [hbl]
  exact hp

theorem info_week : (Tryz.prog.info? 89).map (·.size) = some 7 := by kernel_rfl
theorem info_months : (Tryz.prog.info? 90).map (·.size) = some 12 := by kernel_rfl
theorem run_index_week {w : World} (cs : Array Value) (i : Nat) (v : Value) (hi : i < 7) (hv : cs[i]? = some v) :
    (Instr.index 89 (.agg cs) (.int .i64 i)).run Tryz.prog w = .ok v w := by
  simp [Instr.index, Tryz.sizeOf9, Tryz.isAgg9, part, asIntOf, hi, hv, go_sem]
theorem run_index_months {w : World} (cs : Array Value) (i : Nat) (v : Value) (hi : i < 12) (hv : cs[i]? = some v) :
    (Instr.index 90 (.agg cs) (.int .i64 i)).run Tryz.prog w = .ok v w := by
  simp [Instr.index, Tryz.sizeOf9, Tryz.isAgg9, part, asIntOf, hi, hv, go_sem]
def weekV : Array Value := (weekL.map strV).toArray
def monthsV : Array Value := (monthsL.map strV).toArray
theorem weekV_at {k : Nat} (h : k < 7) : weekV[k]? = some (.string ⟨(weekL.getD k []).toArray⟩) := by
  have hk : k < weekL.length := h
  simp [weekV, List.getD, hk, strV]
theorem monthsV_at {k : Nat} (h : k < 12) : monthsV[k]? = some (.string ⟨(monthsL.getD k []).toArray⟩) := by
  have hk : k < monthsL.length := h
  simp [monthsV, List.getD, hk, strV]
end Go.Proofs.YtahohmdbiiknoaaGreatDoor

/- Layer 13: years, months, days. -/
namespace Go.Proofs.YtahohmdbiiknoaaGreatDoor
open Go.RowKit

theorem leap13_any (y : Int) (_h0 : -9223372036854775808 ≤ y) (_h1 : y ≤ 9223372036854775807) (w : World) : Calls Tryz.prog 91 #[.int .i64 y] w fun e w' => e = .returned (.bool (leapI y)) ∧ w = w' := by
  have e4 := tm_zero y 4
  have e100 : (y.tmod 100 != 0) = !decide (y % 100 = 0) := by rw [bne, tm_zero]
  have e400 := tm_zero y 400
  have hl : leapI y = (decide (y % 4 = 0) && (!decide (y % 100 = 0) || decide (y % 400 = 0))) := by simp [leapI]
  have i1 : y % 400 = 0 → y % 4 = 0 := by omega
  by_cases a4 : y % 4 = 0 <;> by_cases a1 : y % 100 = 0 <;> by_cases a2 : y % 400 = 0
  all_goals simp only [a4, a1, a2, decide_true, decide_false, Bool.not_true, Bool.not_false, Bool.and_true, Bool.and_false, Bool.or_true, Bool.or_false] at e4 e100 e400 hl
  all_goals (try (exact absurd (i1 a2) a4))
  all_goals rw [hl]
  all_goals clear hl i1 a4 a1 a2
  all_goals go_enter Tryz.func91, Tryz.ntmps91
  all_goals go_wp2_with fail
  all_goals go_ret
  all_goals exact ⟨rfl, rfl⟩
theorem refleap13_any (y : Int) (_h0 : -9223372036854775808 ≤ y) (_h1 : y ≤ 9223372036854775807) (w : World) : Calls Tryz.prog 95 #[.int .i64 y] w fun e w' => e = .returned (.bool (leapI y)) ∧ w = w' := by
  have e4 := tm_zero y 4
  have e100 : (y.tmod 100 != 0) = !decide (y % 100 = 0) := by rw [bne, tm_zero]
  have e400 := tm_zero y 400
  have hl : leapI y = (decide (y % 4 = 0) && (!decide (y % 100 = 0) || decide (y % 400 = 0))) := by simp [leapI]
  have i1 : y % 400 = 0 → y % 4 = 0 := by omega
  by_cases a4 : y % 4 = 0 <;> by_cases a1 : y % 100 = 0 <;> by_cases a2 : y % 400 = 0
  all_goals simp only [a4, a1, a2, decide_true, decide_false, Bool.not_true, Bool.not_false, Bool.and_true, Bool.and_false, Bool.or_true, Bool.or_false] at e4 e100 e400 hl
  all_goals (try (exact absurd (i1 a2) a4))
  all_goals rw [hl]
  all_goals clear hl i1 a4 a1 a2
  all_goals go_enter Tryz.func95, Tryz.ntmps95
  all_goals go_wp2_with fail
  all_goals go_ret
  all_goals exact ⟨rfl, rfl⟩
end Go.Proofs.YtahohmdbiiknoaaGreatDoor

/- Layer 13: a month's days; a year's first day. -/
namespace Go.Proofs.YtahohmdbiiknoaaGreatDoor
open Go.RowKit

theorem lenI_31 {y m : Int} (h : m = 1 ∨ m = 3 ∨ m = 5 ∨ m = 7 ∨ m = 8 ∨ m = 10 ∨ m = 12) : lenI y m = 31 := by unfold lenI; rw [if_pos h]
theorem lenI_30 {y m : Int} (h : m = 4 ∨ m = 6 ∨ m = 9 ∨ m = 11) : lenI y m = 30 := by unfold lenI; rw [if_neg (by omega), if_pos h]
theorem lenI_feb (y : Int) : lenI y 2 = if leapI y then 29 else 28 := by unfold lenI; rw [if_neg (by omega), if_neg (by omega), if_pos rfl]
theorem lenI_none {y m : Int} (h : ¬ (m = 1 ∨ m = 3 ∨ m = 5 ∨ m = 7 ∨ m = 8 ∨ m = 10 ∨ m = 12)) (h2 : ¬ (m = 4 ∨ m = 6 ∨ m = 9 ∨ m = 11)) (h3 : m ≠ 2) : lenI y m = 0 := by unfold lenI; rw [if_neg h, if_neg h2, if_neg h3]

theorem length13_any (y m : Int) (h0 : -9223372036854775808 ≤ y) (h1 : y ≤ 9223372036854775807) (w : World) : Calls Tryz.prog 83 #[.int .i64 y, .int .i64 m] w fun e w' => e = .returned (.int .i64 (lenI y m)) ∧ w = w' := by
  by_cases c1 : m = 1 ∨ m = 3 ∨ m = 5 ∨ m = 7 ∨ m = 8 ∨ m = 10 ∨ m = 12
  · rw [lenI_31 c1]
    rcases c1 with rfl | rfl | rfl | rfl | rfl | rfl | rfl
    all_goals go_enter Tryz.func83, Tryz.ntmps83
    all_goals go_wp2_with fail
    all_goals go_ret
    all_goals exact ⟨rfl, rfl⟩
  by_cases c2 : m = 4 ∨ m = 6 ∨ m = 9 ∨ m = 11
  · rw [lenI_30 c2]
    rcases c2 with rfl | rfl | rfl | rfl
    all_goals clear c1
    all_goals go_enter Tryz.func83, Tryz.ntmps83
    all_goals go_wp2_with fail
    all_goals go_ret
    all_goals exact ⟨rfl, rfl⟩
  by_cases c3 : m = 2
  · subst c3
    clear c1 c2
    have hc := fun W : World => leap13_any y h0 h1 W
    cases hl : leapI y
    · rw [lenI_feb, hl]
      rw [hl] at hc
      clear hl
      go_enter Tryz.func83, Tryz.ntmps83
      go_wp2_with (go_at_call 91; refine (hc _).mono ?_; rintro e w1 ⟨rfl, rfl⟩)
      go_ret
      exact ⟨rfl, rfl⟩
    · rw [lenI_feb, hl]
      rw [hl] at hc
      clear hl
      go_enter Tryz.func83, Tryz.ntmps83
      go_wp2_with (go_at_call 91; refine (hc _).mono ?_; rintro e w1 ⟨rfl, rfl⟩)
      go_ret
      exact ⟨rfl, rfl⟩
  · rw [lenI_none c1 c2 c3]
    have f1 : (m == 1) = false := by rw [beq_eq_false_iff_ne]; omega
    have f2 : (m == 2) = false := by rw [beq_eq_false_iff_ne]; omega
    have f3 : (m == 3) = false := by rw [beq_eq_false_iff_ne]; omega
    have f4 : (m == 4) = false := by rw [beq_eq_false_iff_ne]; omega
    have f5 : (m == 5) = false := by rw [beq_eq_false_iff_ne]; omega
    have f6 : (m == 6) = false := by rw [beq_eq_false_iff_ne]; omega
    have f7 : (m == 7) = false := by rw [beq_eq_false_iff_ne]; omega
    have f8 : (m == 8) = false := by rw [beq_eq_false_iff_ne]; omega
    have f9 : (m == 9) = false := by rw [beq_eq_false_iff_ne]; omega
    have f10 : (m == 10) = false := by rw [beq_eq_false_iff_ne]; omega
    have f11 : (m == 11) = false := by rw [beq_eq_false_iff_ne]; omega
    have f12 : (m == 12) = false := by rw [beq_eq_false_iff_ne]; omega
    clear c1 c2 c3
    go_enter Tryz.func83, Tryz.ntmps83
    go_wp2_with fail
    go_ret
    exact ⟨rfl, rfl⟩
theorem reflength13_any (y m : Int) (h0 : -9223372036854775808 ≤ y) (h1 : y ≤ 9223372036854775807) (w : World) : Calls Tryz.prog 94 #[.int .i64 y, .int .i64 m] w fun e w' => e = .returned (.int .i64 (lenI y m)) ∧ w = w' := by
  by_cases c1 : m = 1 ∨ m = 3 ∨ m = 5 ∨ m = 7 ∨ m = 8 ∨ m = 10 ∨ m = 12
  · rw [lenI_31 c1]
    rcases c1 with rfl | rfl | rfl | rfl | rfl | rfl | rfl
    all_goals go_enter Tryz.func94, Tryz.ntmps94
    all_goals go_wp2_with fail
    all_goals go_ret
    all_goals exact ⟨rfl, rfl⟩
  by_cases c2 : m = 4 ∨ m = 6 ∨ m = 9 ∨ m = 11
  · rw [lenI_30 c2]
    rcases c2 with rfl | rfl | rfl | rfl
    all_goals clear c1
    all_goals go_enter Tryz.func94, Tryz.ntmps94
    all_goals go_wp2_with fail
    all_goals go_ret
    all_goals exact ⟨rfl, rfl⟩
  by_cases c3 : m = 2
  · subst c3
    clear c1 c2
    have hc := fun W : World => refleap13_any y h0 h1 W
    cases hl : leapI y
    · rw [lenI_feb, hl]
      rw [hl] at hc
      clear hl
      go_enter Tryz.func94, Tryz.ntmps94
      go_wp2_with (go_at_call 95; refine (hc _).mono ?_; rintro e w1 ⟨rfl, rfl⟩)
      go_ret
      exact ⟨rfl, rfl⟩
    · rw [lenI_feb, hl]
      rw [hl] at hc
      clear hl
      go_enter Tryz.func94, Tryz.ntmps94
      go_wp2_with (go_at_call 95; refine (hc _).mono ?_; rintro e w1 ⟨rfl, rfl⟩)
      go_ret
      exact ⟨rfl, rfl⟩
  · rw [lenI_none c1 c2 c3]
    have f1 : (m == 1) = false := by rw [beq_eq_false_iff_ne]; omega
    have f2 : (m == 2) = false := by rw [beq_eq_false_iff_ne]; omega
    have f3 : (m == 3) = false := by rw [beq_eq_false_iff_ne]; omega
    have f4 : (m == 4) = false := by rw [beq_eq_false_iff_ne]; omega
    have f5 : (m == 5) = false := by rw [beq_eq_false_iff_ne]; omega
    have f6 : (m == 6) = false := by rw [beq_eq_false_iff_ne]; omega
    have f7 : (m == 7) = false := by rw [beq_eq_false_iff_ne]; omega
    have f8 : (m == 8) = false := by rw [beq_eq_false_iff_ne]; omega
    have f9 : (m == 9) = false := by rw [beq_eq_false_iff_ne]; omega
    have f10 : (m == 10) = false := by rw [beq_eq_false_iff_ne]; omega
    have f11 : (m == 11) = false := by rw [beq_eq_false_iff_ne]; omega
    have f12 : (m == 12) = false := by rw [beq_eq_false_iff_ne]; omega
    clear c1 c2 c3
    go_enter Tryz.func94, Tryz.ntmps94
    go_wp2_with fail
    go_ret
    exact ⟨rfl, rfl⟩
theorem leaps13_any (y : Nat) (h1 : y ≤ 100000) (w : World) : Calls Tryz.prog 90 #[.int .i64 y] w fun e w' => e = .returned (.int .i64 (lpN y)) ∧ w = w' := by
  have hq := lpN_int y
  have q4 : ((y : Int).tdiv 4) = (y : Int) / 4 := Int.tdiv_eq_ediv_of_nonneg (by omega)
  have q100 : ((y : Int).tdiv 100) = (y : Int) / 100 := Int.tdiv_eq_ediv_of_nonneg (by omega)
  have q400 : ((y : Int).tdiv 400) = (y : Int) / 400 := Int.tdiv_eq_ediv_of_nonneg (by omega)
  replace hq := Lib.hid hq
  go_enter Tryz.func90, Tryz.ntmps90
  go_wp2_with fail
  go_ret
  exact ⟨ret_int (by have := hq.out; omega), rfl⟩
theorem lpN_1969 : lpN 1969 = 477 := by decide
theorem newYear13_any (y : Nat) (h0 : 1970 ≤ y) (h1 : y ≤ 10000) (w : World) : Calls Tryz.prog 82 #[.int .i64 y] w fun e w' => e = .returned (.int .i64 (nyN y)) ∧ w = w' := by
  have hc := fun W : World => leaps13_any (y - 1) (by omega) W
  have hd := fun W : World => leaps13_any 1969 (by omega) W
  rw [show ((y - 1 : Nat) : Int) = (y : Int) - 1 by omega] at hc
  rw [lpN_1969] at hd
  have hn := nyN_int h0
  have hb : lpN (y - 1) ≤ 100000 := by unfold lpN; omega
  generalize lpN (y - 1) = L at *
  generalize nyN y = M at *
  replace hn := Lib.hid hn
  go_enter Tryz.func82, Tryz.ntmps82
  go_wp2_with fail
  refine (hc _).mono ?_; rintro e w1 ⟨rfl, rfl⟩
  go_wp2_with fail
  refine (hd _).mono ?_; rintro e w1 ⟨rfl, rfl⟩
  go_wp2_with fail
  go_ret
  exact ⟨ret_int (by have := hn.out; omega), rfl⟩
end Go.Proofs.YtahohmdbiiknoaaGreatDoor

/- Layer 13: a day's number. -/
namespace Go.Proofs.YtahohmdbiiknoaaGreatDoor
open Go.RowKit

theorem daysB_no {y m d : Int} (h : y < 1970 ∨ 9999 < y ∨ d < 1 ∨ lenI y m < d) : daysB y m d = (0, false) := by unfold daysB; rw [if_pos h]
theorem daysB_yes {y m d : Int} (h : ¬ (y < 1970 ∨ 9999 < y ∨ d < 1 ∨ lenI y m < d)) : ∃ Y M D : Nat, y = Y ∧ m = M ∧ d = D ∧ 1970 ≤ Y ∧ Y ≤ 9999 ∧ 1 ≤ M ∧ M ≤ 12 ∧ 1 ≤ D ∧ D ≤ lenN Y M ∧ D ≤ 31 ∧ daysB y m d = (((nyN Y + mdN Y M + D - 1 : Nat) : Int), true) := by
  have hm := lenI_pos (y := y) (m := m) (by omega)
  have hb := lenI_bd y m
  obtain ⟨Y, rfl⟩ : ∃ Y : Nat, y = Y := ⟨y.toNat, by omega⟩
  obtain ⟨M, rfl⟩ : ∃ M : Nat, m = M := ⟨m.toNat, by omega⟩
  obtain ⟨D, rfl⟩ : ∃ D : Nat, d = D := ⟨d.toNat, by omega⟩
  have hl := lenN_int Y M
  refine ⟨Y, M, D, rfl, rfl, rfl, by omega, by omega, by omega, by omega, by omega, by omega, by omega, ?_⟩
  unfold daysB
  rw [if_neg h]
  simp only [Int.toNat_natCast, Prod.mk.injEq, and_true]
  omega
theorem day_bd {Y M : Nat} (h0 : 1970 ≤ Y) (h1 : Y ≤ 9999) (h2 : M ≤ 12) : nyN Y + mdN Y M ≤ 2932896 := by
  have h3 := mdN_le Y h2
  have h4 := nyN_lt (y := Y) (z := 10000) h0 (by omega)
  rw [nyN_last] at h4
  by_cases h5 : M = 0
  · subst h5; have := yrN_bd Y; show nyN Y + 0 ≤ _; omega
  · have := lenN_low (y := Y) (m := M) (by omega) h2; omega

set_option maxHeartbeats 400000 in
theorem refdays13_any (y m d : Int) (h0 : -9223372036854775808 ≤ y) (h1 : y ≤ 9223372036854775807) (w : World) :
    Calls Tryz.prog 89 #[.int .i64 y, .int .i64 m, .int .i64 d] w fun e w' => e = .returned (.tuple #[.int .i64 (daysB y m d).1, .bool (daysB y m d).2]) ∧ w = w' := by
  by_cases c : y < 1970 ∨ 9999 < y ∨ d < 1 ∨ lenI y m < d
  · rw [daysB_no c]
    have hc := reflength13_any y m h0 h1 w
    by_cases c1 : y < 1970
    · clear c hc
      go_enter Tryz.func89, Tryz.ntmps89
      go_wp2_with fail
      go_ret2
      exact ⟨rfl, rfl⟩
    by_cases c2 : 9999 < y
    · clear c hc
      go_enter Tryz.func89, Tryz.ntmps89
      go_wp2_with fail
      go_ret2
      exact ⟨rfl, rfl⟩
    by_cases c3 : d < 1
    · clear c hc
      go_enter Tryz.func89, Tryz.ntmps89
      go_wp2_with fail
      go_ret2
      exact ⟨rfl, rfl⟩
    have c4 : lenI y m < d := by omega
    clear c
    generalize lenI y m = L at hc c4
    go_enter Tryz.func89, Tryz.ntmps89
    go_wp2_with fail
    refine hc.mono ?_; rintro e w1 ⟨rfl, rfl⟩
    go_wp2_with fail
    go_ret2
    exact ⟨rfl, rfl⟩
  · obtain ⟨Y, M, D, rfl, rfl, rfl, y1, y2, m1, m2, d1, d2, d3, he⟩ := daysB_yes c
    rw [he]
    clear he c h0 h1
    have hbd := Lib.hid (fun k (hk : k ≤ 12) => day_bd (M := k) y1 y2 hk)
    have hc := reflength13_any Y M (by omega) (by omega) w
    rw [← lenN_int] at hc
    have hl := Lib.hid (fun (k : Nat) (W : World) => reflength13_any Y k (by omega) (by omega) W)
    have hlp := Lib.hid (fun (k : Nat) (hk : k ≤ 10000) (W : World) => refleap13_any k (by omega) (by omega) W)
    have g1 : ¬ ((Y : Int) < 1970) := by omega
    have g2 : ¬ ((9999 : Int) < Y) := by omega
    have g3 : ¬ ((D : Int) < 1) := by omega
    have g4 : ¬ ((lenN Y M : Nat) < (D : Int)) := by omega
    generalize lenN Y M = L at hc g4 d2
    have g5 : ¬ L < D := by omega
    have hs0 := Lib.hid (show D - 1 + 1 = nyN 1970 + D by rw [nyN_first]; omega)
    go_enter Tryz.func89, Tryz.ntmps89
    go_wp2_with fail
    refine hc.mono ?_; rintro e w1 ⟨rfl, rfl⟩
    go_wp2_with fail
    clear hc
    go_loopw [8, 9] (fun n a wr => ∃ k z : Nat, 1970 ≤ k ∧ k ≤ Y ∧ z ≤ 3000000 ∧ n = .int .i64 z ∧ a = .int .i64 k ∧ Hid (z + 1 = nyN k + D) ∧ Hid (w = wr)) (fun _ a _ => Y - (intOf a).toNat)
    case atStart => exact ⟨1970, D - 1, Nat.le_refl _, y1, by omega, vi64 (by omega), rfl, hs0, rfl⟩
    case round =>
      obtain ⟨k, z, hk1, hk, hz, rfl, rfl, hzz, hwr⟩ := hrel
      by_cases hlt : k < Y
      · have hcl := hlp.out k (by omega) wr
        have hz2 : z + yrN k + 1 = nyN (k + 1) + D := by rw [nyN_next hk1]; have := hzz.out; omega
        have hz3 : z + yrN k ≤ 3000000 := by
          have h5 := nyN_lt (y := k) (z := 10000) hk1 (by omega)
          rw [nyN_last] at h5
          have := hzz.out; omega
        unfold yrN at hz2 hz3
        have hlt1 : (k : Int) < Y := by omega
        cases hlb : leapI k
        · rw [hlb] at hz2 hz3 hcl
          simp only [Bool.false_eq_true, if_false] at hz2 hz3
          replace hz2 := Lib.hid hz2
          go_wp2_with fail
          refine hcl.mono ?_; rintro e w1 ⟨rfl, rfl⟩
          go_wp2_with fail
          exact ⟨⟨k + 1, z + 365, by omega, by omega, hz3, vi64 (by omega), vi64 (by omega), hz2, hwr⟩, by simp [intOf]; omega⟩
        · rw [hlb] at hz2 hz3 hcl
          simp only [if_true] at hz2 hz3
          replace hz2 := Lib.hid hz2
          go_wp2_with fail
          refine hcl.mono ?_; rintro e w1 ⟨rfl, rfl⟩
          go_wp2_with fail
          exact ⟨⟨k + 1, z + 366, by omega, by omega, hz3, vi64 (by omega), vi64 (by omega), hz2, hwr⟩, by simp [intOf]; omega⟩
      · have hke : ¬ ((k : Int) < Y) := by omega
        have hs := Lib.hid (show z + 1 = nyN Y + mdN Y 1 + D by
          have e0 := mdN_one Y
          have hk2 : Y = k := by omega
          have h5 := hzz.out
          rw [← hk2] at h5
          generalize nyN Y = a at *
          generalize mdN Y 1 = b at *
          omega)
        clear hzz
        go_wp2_with fail
        obtain ⟨wo, hwo⟩ : ∃ wo : World, wr = wo := ⟨_, rfl⟩
        rw [hwo] at hwr
        rw [hwo]
        clear hwo
        go_loopw [8, 10] (fun n a wr => ∃ k z : Nat, 1 ≤ k ∧ k ≤ M ∧ z ≤ 3000000 ∧ n = .int .i64 z ∧ a = .int .i64 k ∧ Hid (z + 1 = nyN Y + mdN Y k + D) ∧ Hid (w = wr)) (fun _ a _ => M - (intOf a).toNat)
        case atStart => exact ⟨1, z, Nat.le_refl _, m1, hz, rfl, rfl, hs, hwr⟩
        case round =>
          clear hs hwr
          obtain ⟨j, x, hj1, hj, hx, rfl, rfl, hxx, hwr⟩ := hrel
          by_cases hjt : j < M
          · have hcl := hl.out j wr
            rw [← lenN_int] at hcl
            have hl31 := (lenN_low (y := Y) (m := j) (by omega) (by omega)).2
            have hz2 := Lib.hid (show x + lenN Y j + 1 = nyN Y + mdN Y (j + 1) + D by show _ = nyN Y + (mdN Y j + lenN Y j) + D; have := hxx.out; omega)
            have hz3 : x + lenN Y j ≤ 3000000 := by have := hbd.out (j + 1) (by omega); have := hz2.out; omega
            have hlt1 : (j : Int) < M := by omega
            generalize lenN Y j = L2 at *
            go_wp2_with fail
            refine hcl.mono ?_; rintro e w1 ⟨rfl, rfl⟩
            go_wp2_with fail
            exact ⟨⟨j + 1, x + L2, by omega, by omega, hz3, vi64 (by omega), vi64 (by omega), hz2, hwr⟩, by simp [intOf]; omega⟩
          · have hje : ¬ ((j : Int) < M) := by omega
            have he := Lib.hid (show x = nyN Y + mdN Y M + D - 1 by rw [show M = j by omega]; have := hxx.out; omega)
            go_wp2_with fail
            go_ret2
            exact ⟨ret_ib (by rw [he.out]) rfl, hwr.out⟩
end Go.Proofs.YtahohmdbiiknoaaGreatDoor
