/- Layer 11: first: of two faults of one text the one that stands first. -/
import Derived.Test.YtkgjbamkinfmeaaGreatDoorBR27
import Derived.Test.YtkgjbamkinfmeaaGreatDoorBR02
import Derived.Test.YtkgjbamkinfmeaaGreatDoorBR11
import Derived.Test.YtkgjbamkinfmeaaGreatDoorBR25
import Derived.Test.YtkgjbamkinfmeaaGreatDoorBR16
import Derived.Test.YtkgjbamkinfmeaaGreatDoorBR10
namespace Go.Proofs.YtkgjbamkinfmeaaGreatDoor
open Go.RowKit

theorem first11_nil (b : Value) (w : World) : Calls Tryz.prog 56 #[.nilIface, b] w fun e w' => e = .returned b ∧ Below w.heap.size w w' := by
  have hb : Below w.heap.size w ((w.alloc (.cells #[.pointer none] 38)).alloc (.cells #[.pointer none] 38)) := ((Below.refl _ _).alloc (Nat.le_refl _) _).alloc (by simp) _
  replace hb := Lib.hid hb
  go_enter Tryz.func56, Tryz.ntmps56
  go_wp2_with fail
  refine (as11_nil _ _).mono ?_; rintro e w1 ⟨rfl, rfl⟩
  go_wp2_with fail
  go_ret
  exact ⟨rfl, hb.out⟩
theorem first_cells {w3 : World} {F G fa fb p q : Nat} (hFG : F ≠ G) (hfG : fa ≠ G) (hbG : fb ≠ G) (hf : w3.cell? ⟨F, 0, none⟩ = some (.pointer (some ⟨fa, 0, none⟩))) (hp : w3.cell? ⟨fa, 0, none⟩ = some (.int .i64 p)) (hq : w3.cell? ⟨fb, 0, none⟩ = some (.int .i64 q)) (hg : w3.cell? ⟨G, 0, none⟩ = some (.pointer none)) :
    (w3.setCell ⟨G, 0, none⟩ (.pointer (some ⟨fb, 0, none⟩))).cell? ⟨F, 0, none⟩ = some (.pointer (some ⟨fa, 0, none⟩)) ∧ (w3.setCell ⟨G, 0, none⟩ (.pointer (some ⟨fb, 0, none⟩))).cell? ⟨G, 0, none⟩ = some (.pointer (some ⟨fb, 0, none⟩)) ∧
    (w3.setCell ⟨G, 0, none⟩ (.pointer (some ⟨fb, 0, none⟩))).cell? ⟨fa, 0, none⟩ = some (.int .i64 p) ∧ (w3.setCell ⟨G, 0, none⟩ (.pointer (some ⟨fb, 0, none⟩))).cell? ⟨fb, 0, none⟩ = some (.int .i64 q) := by
  have ho : ∀ b, b ≠ G → (w3.setCell ⟨G, 0, none⟩ (.pointer (some ⟨fb, 0, none⟩))).cell? ⟨b, 0, none⟩ = w3.cell? ⟨b, 0, none⟩ := fun b hb => World.cell?_of_block (Below.heap_setCell w3 ⟨G, 0, none⟩ _ b hb)
  refine ⟨(ho F hFG).trans hf, ?_, (ho fa hfG).trans hp, (ho fb hbG).trans hq⟩
  simp [go_sem, hg]

/-- What first has come to behind its first errors.As. -/
structure FirstAt (w w2 : World) (fa p : Nat) : Prop where
  below : Below w.heap.size w w2
  size : w.heap.size + 2 ≤ w2.heap.size
  f : w2.cell? ⟨w.heap.size, 0, none⟩ = some (.pointer (some ⟨fa, 0, none⟩))
  g : w2.cell? ⟨w.heap.size + 1, 0, none⟩ = some (.pointer none)
  gf : w2.frozen? ⟨w.heap.size + 1, 0, none⟩ = false
theorem first_at (w : World) (w1 : World) (fa p : Nat) (hb : Below ((w.alloc (.cells #[.pointer none] 38)).alloc (.cells #[.pointer none] 38)).heap.size ((w.alloc (.cells #[.pointer none] 38)).alloc (.cells #[.pointer none] 38)) w1) :
    FirstAt w (w1.setCell ⟨w.heap.size, 0, none⟩ (.pointer (some ⟨fa, 0, none⟩))) fa p := by
  have hF := arrAt_new w 38 [.pointer none]
  have hG := arrAt_new (w.alloc (.cells #[.pointer none] 38)) 38 [.pointer none]
  have hs : (w.alloc (.cells #[.pointer none] 38)).heap.size = w.heap.size + 1 := by simp
  have hs2 : ((w.alloc (.cells #[.pointer none] 38)).alloc (.cells #[.pointer none] 38)).heap.size = w.heap.size + 1 + 1 := by simp
  rw [hs] at hG
  have hF1 : ArrAt w1 w.heap.size 38 [.pointer none] := (hF.next ((Below.refl _ _).alloc (Nat.le_refl _) _)).below hb (by omega)
  have hG1 : ArrAt w1 (w.heap.size + 1) 38 [.pointer none] := hG.below hb (by omega)
  have hF2 := hF1.set 0 (.pointer (some ⟨fa, 0, none⟩))
  have hG2 := hG1.turned (turned_setCell w1 ⟨w.heap.size, 0, none⟩ (.pointer (some ⟨fa, 0, none⟩))) (by show ¬ (w.heap.size + 1 = w.heap.size); omega)
  have hsz := hb.size
  refine ⟨?_, ?_, by rw [hF2.cell]; rfl, by rw [hG2.cell]; rfl, hG2.soft 0⟩
  · exact ((((Below.refl w.heap.size w).alloc (Nat.le_refl _) _).alloc (by omega) _).trans (hb.mono (by omega))).setCell (p := ⟨w.heap.size, 0, none⟩) (Nat.le_refl _) _
  · simp [World.setCell]; omega
def FirstPost (w : World) (v : Value) (e : Ending) (w' : World) : Prop := e = .returned v ∧ Below w.heap.size w w'

set_option maxRecDepth 100000 in
set_option maxHeartbeats 2000000 in
theorem first11_one (fa p : Nat) (va : Value) (w : World) (hT : EnvT w) (_ha : FaultAt w fa p va) : Calls Tryz.prog 56 #[faultV fa, .nilIface] w (FirstPost w (faultV fa)) := by
  have hb0 : Below w.heap.size w ((w.alloc (.cells #[.pointer none] 38)).alloc (.cells #[.pointer none] 38)) := ((Below.refl _ _).alloc (Nat.le_refl _) _).alloc (by simp) _
  have hT0 := hT.below hb0
  have hF0 : ((w.alloc (.cells #[.pointer none] 38)).alloc (.cells #[.pointer none] 38)).cell? ⟨w.heap.size, 0, none⟩ = some (.pointer none) ∧ ((w.alloc (.cells #[.pointer none] 38)).alloc (.cells #[.pointer none] 38)).frozen? ⟨w.heap.size, 0, none⟩ = false := by
    have hF := (arrAt_new w 38 [.pointer none]).next ((Below.refl _ _).alloc (Nat.le_refl _) (.cells #[.pointer none] 38))
    exact ⟨by rw [hF.cell]; rfl, hF.soft 0⟩
  replace hb0 := Lib.hid hb0
  replace hT0 := Lib.hid hT0
  replace hF0 := Lib.hid hF0
  clear hT
  unfold faultV
  go_enter Tryz.func56, Tryz.ntmps56
  go_wp2_with fail
  refine (as11_fault fa w.heap.size _ (.pointer none) hF0.out.1 hF0.out.2 hT0.out).mono ?_; rintro e w' ⟨rfl, w1, hb1, rfl⟩
  have hat := first_at w w1 fa p hb1
  clear hb1 hF0 hT0 hb0
  generalize w1.setCell ⟨w.heap.size, 0, none⟩ (.pointer (some ⟨fa, 0, none⟩)) = w2 at hat ⊢
  replace hat := Lib.hid hat
  go_wp2_with fail
  refine wp_region_any (by kernel_rfl) ?_
  try (change wpAny _ _ _ _ _ _ _ (World.drew _))
  refine wpAny_take (i := 0) (v := ?_) rfl (by kernel_rfl) (by kernel_rfl) (by kernel_rfl) (fun _ _ _ h => h) (Or.inl ⟨by rfl, ?_⟩) ?_
  rotate_left
  · (intro w; go_simp; all_goals (with_reducible rfl))
  try simp only [Act.put, List.setIfInBounds_toArray]
  refine wpAny_take (i := 1) (v := ?_) rfl (by kernel_rfl) (by kernel_rfl) (by kernel_rfl) (fun _ _ _ h => h) (Or.inl ⟨by rfl, ?_⟩) ?_
  rotate_left
  · (intro w; go_simp; all_goals (with_reducible rfl))
  try simp only [Act.put]
  refine wpAny_ready (rs := [2]) (by kernel_rfl) (by simp) ?_
  refine AllReady.cons rfl (fun K hK => ?_) AllReady.nil
  go_simp
  go_at_call 29
  refine (as11_nil (.iface 81 (.pointer (some ⟨w.heap.size + 1, 0, none⟩))) _).mono ?_
  rintro e w' ⟨rfl, rfl⟩
  refine hK _ _ ?_
  clear hK K
  try simp only [Act.put, List.setIfInBounds_toArray, List.set_cons_zero, List.set_cons_succ]
  refine wpAny_of_held (S := fun _ => True) _ _ _ _ ?_
  have hHeld := trivial
  refine held_take 3 (v := ?_) rfl (by kernel_rfl) (by kernel_rfl) (by kernel_rfl) (fun _ _ _ h => h) (by rfl) ?_ hHeld ?_
  rotate_left
  · (intro w hSw; (try dsimp only at hSw); go_simp; all_goals (with_reducible rfl))
  try simp only [Act.put, List.setIfInBounds_toArray, List.set_cons_zero, List.set_cons_succ]
  refine held_skip 4 rfl (by kernel_rfl) (by kernel_rfl) (by kernel_rfl) (fun _ _ _ h => h) (by rfl) hHeld ?_
  try simp only [Act.put, List.setIfInBounds_toArray, List.set_cons_zero, List.set_cons_succ]
  refine held_skip 5 rfl (by kernel_rfl) (by kernel_rfl) (by kernel_rfl) (fun _ _ _ h => h) (by rfl) hHeld ?_
  try simp only [Act.put, List.setIfInBounds_toArray, List.set_cons_zero, List.set_cons_succ]
  refine held_skip 6 rfl (by kernel_rfl) (by kernel_rfl) (by kernel_rfl) (fun _ _ _ h => h) (by rfl) hHeld ?_
  try simp only [Act.put, List.setIfInBounds_toArray, List.set_cons_zero, List.set_cons_succ]
  refine held_skip 7 rfl (by kernel_rfl) (by kernel_rfl) (by kernel_rfl) (fun _ _ _ h => h) (by rfl) hHeld ?_
  try simp only [Act.put, List.setIfInBounds_toArray, List.set_cons_zero, List.set_cons_succ]
  refine held_skip 8 rfl (by kernel_rfl) (by kernel_rfl) (by kernel_rfl) (fun _ _ _ h => h) (by rfl) hHeld ?_
  try simp only [Act.put, List.setIfInBounds_toArray, List.set_cons_zero, List.set_cons_succ]
  refine held_skip 9 rfl (by kernel_rfl) (by kernel_rfl) (by kernel_rfl) (fun _ _ _ h => h) (by rfl) hHeld ?_
  try simp only [Act.put, List.setIfInBounds_toArray, List.set_cons_zero, List.set_cons_succ]
  refine held_skip 10 rfl (by kernel_rfl) (by kernel_rfl) (by kernel_rfl) (fun _ _ _ h => h) (by rfl) hHeld ?_
  try simp only [Act.put, List.setIfInBounds_toArray, List.set_cons_zero, List.set_cons_succ]
  refine held_skip 11 rfl (by kernel_rfl) (by kernel_rfl) (by kernel_rfl) (fun _ _ _ h => h) (by rfl) hHeld ?_
  try simp only [Act.put, List.setIfInBounds_toArray, List.set_cons_zero, List.set_cons_succ]
  refine held_skip 12 rfl (by kernel_rfl) (by kernel_rfl) (by kernel_rfl) (fun _ _ _ h => h) (by rfl) hHeld ?_
  try simp only [Act.put, List.setIfInBounds_toArray, List.set_cons_zero, List.set_cons_succ]
  refine held_take 13 (v := ?_) rfl (by kernel_rfl) (by kernel_rfl) (by kernel_rfl) (fun _ _ _ h => h) (by rfl) ?_ hHeld ?_
  rotate_left
  · (intro w hSw; (try dsimp only at hSw); go_simp; all_goals (with_reducible rfl))
  try simp only [Act.put, List.setIfInBounds_toArray, List.set_cons_zero, List.set_cons_succ]
  refine wpAnyH_done (by kernel_rfl) ?_ _
  go_wp2_with fail
  go_ret
  exact ⟨rfl, hat.out.below.trans ((drawn_drew _).below _)⟩
set_option maxRecDepth 100000 in
set_option maxHeartbeats 4000000 in
theorem first11_two (fa p fb q : Nat) (va vb : Value) (w : World) (hT : EnvT w) (ha : FaultAt w fa p va) (hb : FaultAt w fb q vb) : Calls Tryz.prog 56 #[faultV fa, faultV fb] w (FirstPost w (if q < p then faultV fb else faultV fa)) := by
  have hb0 : Below w.heap.size w ((w.alloc (.cells #[.pointer none] 38)).alloc (.cells #[.pointer none] 38)) := ((Below.refl _ _).alloc (Nat.le_refl _) _).alloc (by simp) _
  have hT0 := hT.below hb0
  have hF0 : ((w.alloc (.cells #[.pointer none] 38)).alloc (.cells #[.pointer none] 38)).cell? ⟨w.heap.size, 0, none⟩ = some (.pointer none) ∧ ((w.alloc (.cells #[.pointer none] 38)).alloc (.cells #[.pointer none] 38)).frozen? ⟨w.heap.size, 0, none⟩ = false := by
    have hF := (arrAt_new w 38 [.pointer none]).next ((Below.refl _ _).alloc (Nat.le_refl _) (.cells #[.pointer none] 38))
    exact ⟨by rw [hF.cell]; rfl, hF.soft 0⟩
  have hfa := ArrAt.lt ha
  have hfb := ArrAt.lt hb
  replace hb0 := Lib.hid hb0
  replace hT0 := Lib.hid hT0
  replace hF0 := Lib.hid hF0
  replace hT := Lib.hid hT
  replace ha := Lib.hid ha
  replace hb := Lib.hid hb
  unfold faultV
  by_cases hlt : q < p
  case' pos => rw [if_pos hlt]
  case' neg => rw [if_neg hlt]
  case' pos => have hl1 : decide ((q : Int) < p) = true := by rw [decide_eq_true_eq]; omega
  case' pos => have hl2 : decide (q < p) = true := by rw [decide_eq_true_eq]; omega
  case' neg => have hl1 : decide ((q : Int) < p) = false := by rw [decide_eq_false_iff_not]; omega
  case' neg => have hl2 : decide (q < p) = false := by rw [decide_eq_false_iff_not]; omega
  all_goals
    replace hlt := Lib.hid hlt
    go_enter Tryz.func56, Tryz.ntmps56
    go_wp2_with fail
    refine (as11_fault fa w.heap.size _ (.pointer none) hF0.out.1 hF0.out.2 hT0.out).mono ?_; rintro e w' ⟨rfl, w1, hb1, rfl⟩
    have hat := first_at w w1 fa p hb1
    clear hb1 hF0 hT0 hb0
    generalize w1.setCell ⟨w.heap.size, 0, none⟩ (.pointer (some ⟨fa, 0, none⟩)) = w2 at hat ⊢
    replace hat := Lib.hid hat
    go_wp2_with fail
    have hbd := hat.out.below.trans ((drawn_drew w2).below _)
    have f2 : w2.drew.cell? ⟨w.heap.size, 0, none⟩ = some (.pointer (some ⟨fa, 0, none⟩)) := hat.out.f
    have g2 : w2.drew.cell? ⟨w.heap.size + 1, 0, none⟩ = some (.pointer none) := hat.out.g
    have gf2 : w2.drew.frozen? ⟨w.heap.size + 1, 0, none⟩ = false := hat.out.gf
    have hT2 := hT.out.below hbd
    have pa2 : w2.drew.cell? ⟨fa, 0, none⟩ = some (.int .i64 p) := (hbd.cell (p := ⟨fa, 0, none⟩) hfa).trans (ArrAt.cell ha.out 0)
    have pb2 : w2.drew.cell? ⟨fb, 0, none⟩ = some (.int .i64 q) := (hbd.cell (p := ⟨fb, 0, none⟩) hfb).trans (ArrAt.cell hb.out 0)
    have hsz2 : w.heap.size + 2 ≤ w2.drew.heap.size := hat.out.size
    have hF2 : w.heap.size < w2.drew.heap.size := by omega
    have hfa2 : fa < w2.drew.heap.size := by omega
    have hfb2 : fb < w2.drew.heap.size := by omega
    have hFG : w.heap.size ≠ w.heap.size + 1 := by omega
    have hfG : fa ≠ w.heap.size + 1 := by omega
    have hbG : fb ≠ w.heap.size + 1 := by omega
    replace hbd := Lib.hid hbd
    replace f2 := Lib.hid f2
    replace g2 := Lib.hid g2
    replace gf2 := Lib.hid gf2
    replace pa2 := Lib.hid pa2
    replace pb2 := Lib.hid pb2
    replace hT2 := Lib.hid hT2
    replace hFG := Lib.hid hFG
    replace hfG := Lib.hid hfG
    replace hbG := Lib.hid hbG
    replace hsz2 := Lib.hid hsz2
    replace hF2 := Lib.hid hF2
    replace hfa2 := Lib.hid hfa2
    replace hfb2 := Lib.hid hfb2
    refine wp_region_any (by kernel_rfl) ?_
    try (change wpAny _ _ _ _ _ _ _ (World.drew _))
    refine wpAny_take (i := 0) (v := ?_) rfl (by kernel_rfl) (by kernel_rfl) (by kernel_rfl) (fun _ _ _ h => h) (Or.inl ⟨by rfl, ?_⟩) ?_
    rotate_left
    · (intro w; go_simp; all_goals (with_reducible rfl))
    try simp only [Act.put, List.setIfInBounds_toArray]
    refine wpAny_take (i := 1) (v := ?_) rfl (by kernel_rfl) (by kernel_rfl) (by kernel_rfl) (fun _ _ _ h => h) (Or.inl ⟨by rfl, ?_⟩) ?_
    rotate_left
    · (intro w; go_simp; all_goals (with_reducible rfl))
    try simp only [Act.put]
    refine wpAny_ready (rs := [2]) (by kernel_rfl) (by simp) ?_
    refine AllReady.cons rfl (fun K hK => ?_) AllReady.nil
    go_simp
    go_at_call 29
    refine (as11_fault fb (w.heap.size + 1) w2.drew (.pointer none) g2.out gf2.out hT2.out).mono ?_
    rintro e w' ⟨rfl, w3, hb3, rfl⟩
    have hf3 := (hb3.cell (p := ⟨w.heap.size, 0, none⟩) hF2.out).trans f2.out
    have hp3 := (hb3.cell (p := ⟨fa, 0, none⟩) hfa2.out).trans pa2.out
    have hq3 := (hb3.cell (p := ⟨fb, 0, none⟩) hfb2.out).trans pb2.out
    have hsz3 := hb3.size
    have hg3 := (hb3.cell (p := ⟨w.heap.size + 1, 0, none⟩) (by have := hsz2.out; show w.heap.size + 1 < w2.drew.heap.size; omega)).trans g2.out
    have hSc := first_cells (w3 := w3) (p := p) (q := q) hFG.out hfG.out hbG.out hf3 hp3 hq3 hg3
    have hbel := (hbd.out.trans (hb3.mono (by have := hsz2.out; omega : w.heap.size ≤ w2.drew.heap.size))).setCell (p := ⟨w.heap.size + 1, 0, none⟩) (by show w.heap.size ≤ w.heap.size + 1; omega) (.pointer (some ⟨fb, 0, none⟩))
    replace hb3 := Lib.hid hb3
    replace hf3 := Lib.hid hf3
    replace hp3 := Lib.hid hp3
    replace hq3 := Lib.hid hq3
    replace hg3 := Lib.hid hg3
    replace hbel := Lib.hid hbel
    clear hsz3
    generalize w3.setCell ⟨w.heap.size + 1, 0, none⟩ (.pointer (some ⟨fb, 0, none⟩)) = w4 at hSc hbel ⊢
    refine hK _ _ ?_
    clear hK K
    try simp only [Act.put, List.setIfInBounds_toArray, List.set_cons_zero, List.set_cons_succ]
    refine wpAny_of_held (S := fun W => W.cell? ⟨w.heap.size, 0, none⟩ = some (.pointer (some ⟨fa, 0, none⟩)) ∧ W.cell? ⟨w.heap.size + 1, 0, none⟩ = some (.pointer (some ⟨fb, 0, none⟩)) ∧ W.cell? ⟨fa, 0, none⟩ = some (.int .i64 (p : Nat)) ∧ W.cell? ⟨fb, 0, none⟩ = some (.int .i64 (q : Nat))) _ _ _ _ ?_
    have hHeld := hSc
    refine held_take 3 (v := ?_) rfl (by kernel_rfl) (by kernel_rfl) (by kernel_rfl) (fun _ _ _ h => h) (by rfl) ?_ hHeld ?_
    rotate_left
    · (intro w hSw; (try dsimp only at hSw); go_simp; all_goals (with_reducible rfl))
    try simp only [Act.put, List.setIfInBounds_toArray, List.set_cons_zero, List.set_cons_succ]
    refine held_take 4 (v := ?_) rfl (by kernel_rfl) (by kernel_rfl) (by kernel_rfl) (fun _ _ _ h => h) (by rfl) ?_ hHeld ?_
    rotate_left
    · (intro w hSw; (try dsimp only at hSw); go_simp; all_goals (with_reducible rfl))
    try simp only [Act.put, List.setIfInBounds_toArray, List.set_cons_zero, List.set_cons_succ]
    refine held_take 5 (v := ?_) rfl (by kernel_rfl) (by kernel_rfl) (by kernel_rfl) (fun _ _ _ h => h) (by rfl) ?_ hHeld ?_
    rotate_left
    · (intro w hSw; (try dsimp only at hSw); go_simp; all_goals (with_reducible rfl))
    try simp only [Act.put, List.setIfInBounds_toArray, List.set_cons_zero, List.set_cons_succ]
    refine held_take 6 (v := ?_) rfl (by kernel_rfl) (by kernel_rfl) (by kernel_rfl) (fun _ _ _ h => h) (by rfl) ?_ hHeld ?_
    rotate_left
    · (intro w hSw; (try dsimp only at hSw); go_simp; all_goals (with_reducible rfl))
    try simp only [Act.put, List.setIfInBounds_toArray, List.set_cons_zero, List.set_cons_succ]
    refine held_take 7 (v := ?_) rfl (by kernel_rfl) (by kernel_rfl) (by kernel_rfl) (fun _ _ _ h => h) (by rfl) ?_ hHeld ?_
    rotate_left
    · (intro w hSw; (try dsimp only at hSw); go_simp; all_goals (with_reducible rfl))
    try simp only [Act.put, List.setIfInBounds_toArray, List.set_cons_zero, List.set_cons_succ]
    refine held_take 8 (v := ?_) rfl (by kernel_rfl) (by kernel_rfl) (by kernel_rfl) (fun _ _ _ h => h) (by rfl) ?_ hHeld ?_
    rotate_left
    · (intro w hSw; (try dsimp only at hSw); go_simp; all_goals (with_reducible rfl))
    try simp only [Act.put, List.setIfInBounds_toArray, List.set_cons_zero, List.set_cons_succ]
    refine held_take 9 (v := ?_) rfl (by kernel_rfl) (by kernel_rfl) (by kernel_rfl) (fun _ _ _ h => h) (by rfl) ?_ hHeld ?_
    rotate_left
    · (intro w hSw; (try dsimp only at hSw); go_simp; all_goals (with_reducible rfl))
    try simp only [Act.put, List.setIfInBounds_toArray, List.set_cons_zero, List.set_cons_succ]
    refine held_take 10 (v := ?_) rfl (by kernel_rfl) (by kernel_rfl) (by kernel_rfl) (fun _ _ _ h => h) (by rfl) ?_ hHeld ?_
    rotate_left
    · (intro w hSw; (try dsimp only at hSw); go_simp; all_goals (with_reducible rfl))
    try simp only [Act.put, List.setIfInBounds_toArray, List.set_cons_zero, List.set_cons_succ]
    refine held_take 11 (v := ?_) rfl (by kernel_rfl) (by kernel_rfl) (by kernel_rfl) (fun _ _ _ h => h) (by rfl) ?_ hHeld ?_
    rotate_left
    · (intro w hSw; (try dsimp only at hSw); go_simp; all_goals (with_reducible rfl))
    try simp only [Act.put, List.setIfInBounds_toArray, List.set_cons_zero, List.set_cons_succ]
    refine held_take 12 (v := ?_) rfl (by kernel_rfl) (by kernel_rfl) (by kernel_rfl) (fun _ _ _ h => h) (by rfl) ?_ hHeld ?_
    rotate_left
    · (intro w hSw; (try dsimp only at hSw); go_simp; all_goals (with_reducible rfl))
    try simp only [Act.put, List.setIfInBounds_toArray, List.set_cons_zero, List.set_cons_succ]
    refine held_take 13 (v := ?_) rfl (by kernel_rfl) (by kernel_rfl) (by kernel_rfl) (fun _ _ _ h => h) (by rfl) ?_ hHeld ?_
    rotate_left
    · (intro w hSw; (try dsimp only at hSw); go_simp; all_goals (with_reducible rfl))
    try simp only [Act.put, List.setIfInBounds_toArray, List.set_cons_zero, List.set_cons_succ]
    refine wpAnyH_done (by kernel_rfl) ?_ _
    go_wp2_with fail
    go_ret
    exact ⟨rfl, hbel.out⟩
end Go.Proofs.YtkgjbamkinfmeaaGreatDoor

/- Layer 11: Tokens. -/
namespace Go.Proofs.YtkgjbamkinfmeaaGreatDoor
open Go.RowKit

/-- What lies there of the program's own variables. -/
structure Laid11 (w : World) (A : Addr) : Prop where
  maxl : MaxL w
  ende : w.cell? ⟨2, 0, none⟩ = some (.iface 224 (.pointer (some A)))
  ty : EnvT w
theorem Laid11.env {w : World} {A : Addr} (h : Laid11 w A) : Env w w.heap.size A := by
  obtain ⟨m, hm⟩ := h.maxl
  exact ⟨h.maxl, h.ende, World.block_lt_of_cell? w ⟨5, 0, none⟩ hm, World.block_lt_of_cell? w ⟨2, 0, none⟩ h.ende⟩
theorem Laid11.below {w w' : World} {A : Addr} (h : Laid11 w A) (hb : Below w.heap.size w w') : Laid11 w' A := ⟨(h.env.below hb).maxl, (h.env.below hb).ende, h.ty.below hb⟩
/-- What Tokens comes to. -/
def TokPost (w : World) : Out → Ending → World → Prop
  | .toks t, e, w' => ∃ v P, e = .returned (.tuple #[v, .nilIface]) ∧ Tks w' w.heap.size v P ∧ P.map Prod.fst = t ∧ Below w.heap.size w w'
  | .syn, e, w' => ∃ f q, e = .returned (.tuple #[.slice none 0 0, faultV f]) ∧ w.heap.size ≤ f ∧ FaultAt w' f q synV ∧ Below w.heap.size w w'
  | .deep, e, w' => ∃ f q, e = .returned (.tuple #[.slice none 0 0, faultV f]) ∧ w.heap.size ≤ f ∧ FaultAt w' f q deepV ∧ Below w.heap.size w w'
section
variable {w w' : World} {o : Out} {e : Ending} {f q : Nat}
theorem TokPost.ok {t : List Tk} {v : Value} {P : List (Tk × Value)} (ho : o = .toks t) (he : e = .returned (.tuple #[v, .nilIface])) (h : Tks w' w.heap.size v P) (hP : P.map Prod.fst = t) (hb : Below w.heap.size w w') : TokPost w o e w' := by subst ho; exact ⟨v, P, he, h, hP, hb⟩
theorem TokPost.syn (ho : o = .syn) (he : e = .returned (.tuple #[.slice none 0 0, faultV f])) (hf : w.heap.size ≤ f) (h : FaultAt w' f q synV) (hb : Below w.heap.size w w') : TokPost w o e w' := by subst ho; exact ⟨f, q, he, hf, h, hb⟩
theorem TokPost.deep (ho : o = .deep) (he : e = .returned (.tuple #[.slice none 0 0, faultV f])) (hf : w.heap.size ≤ f) (h : FaultAt w' f q deepV) (hb : Below w.heap.size w w') : TokPost w o e w' := by subst ho; exact ⟨f, q, he, hf, h, hb⟩
end
theorem rdM_new (l : List UInt8) (dep : Int) (w : World) : RdM (w.alloc (.cells #[.string ⟨l.toArray⟩, .int .i64 0, .int .i64 dep, .bool false, .slice none 0 0, .slice none 0 0, .slice none 0 0] 119)) w.heap.size w.heap.size ⟨l, dep, false, .slice none 0 0, .slice none 0 0, .slice none 0 0⟩ 0 sc0 [] :=
  ⟨arrAt_new w _ [.string ⟨l.toArray⟩, .int .i64 (0 : Nat), .int .i64 dep, .bool false, .slice none 0 0, .slice none 0 0, .slice none 0 0], rfl, World.ownsRow_nil _ _ _ _, txt_nil _ _, tks_nil _ _, rfl, Nat.le_refl _⟩

set_option maxHeartbeats 2000000 in
theorem tokens11_any (l : List UInt8) (dep : Int) (A : Addr) (w : World) (hL : Laid11 w A) (hl : l.length ≤ 20000) :
    Calls Tryz.prog 36 #[.string ⟨l.toArray⟩, .int .i64 dep] w (TokPost w (tokB dep l)) := by
  obtain ⟨o, ho⟩ : ∃ o, tokB dep l = o := ⟨_, rfl⟩
  rw [ho]
  have hB0 : Below w.heap.size w (w.alloc (.cells #[.string ⟨l.toArray⟩, .int .i64 0, .int .i64 dep, .bool false, .slice none 0 0, .slice none 0 0, .slice none 0 0] 119)) := (Below.refl _ _).alloc (Nat.le_refl _) _
  have hdoc : Calls _ _ _ _ (DocPost _ w.heap.size w.heap.size l dep (docB dep l)) := document11_any w.heap.size w.heap.size _ A _ (hL.env.below hB0) (rdM_new l dep w) hl (by simp)
  have hrun := fun W : World => runes11_any l W hl
  unfold tokB at ho
  obtain ⟨od, hod⟩ : ∃ od, docB dep l = od := ⟨_, rfl⟩
  obtain ⟨orr, hor⟩ : ∃ orr, runesB l = orr := ⟨_, rfl⟩
  rw [hod, hor] at ho
  rw [hod] at hdoc
  rw [hor] at hrun
  replace ho := Lib.hid ho
  replace hod := Lib.hid hod
  replace hor := Lib.hid hor
  replace hdoc := Lib.hid hdoc
  replace hrun := Lib.hid hrun
  replace hL := Lib.hid hL
  replace hB0 := Lib.hid hB0
  cases od with
  | toks t =>
    cases orr with
    | none =>
      go_enter Tryz.func36, Tryz.ntmps36
      go_wp2_with fail
      refine hdoc.out.mono ?_; rintro e w1 ⟨rfl, ⟨c1, k1, s1, P1, e1, e2, m1⟩, b1⟩
      have hb1 := Lib.hid (hB0.out.trans b1)
      replace m1 := Lib.hid m1
      replace b1 := Lib.hid b1
      clear hdoc
      go_wp2_with fail
      refine (hrun.out _).mono ?_; rintro e w2 ⟨rfl, b2⟩
      have m2 := m1.out.below b2
      have hb2 := hb1.out.trans (b2.mono m1.out.base)
      replace b2 := Lib.hid b2
      clear m1 hb1
      replace m2 := Lib.hid m2
      replace hb2 := Lib.hid hb2
      go_wp2_with fail
      refine (first11_nil .nilIface _).mono ?_; rintro e w3 ⟨rfl, b3⟩
      have m3 := m2.out.below b3
      have hb3 := hb2.out.trans (b3.mono m2.out.base)
      have c6 := m3.rd.c6
      replace b3 := Lib.hid b3
      clear m2 hb2
      replace m3 := Lib.hid m3
      replace hb3 := Lib.hid hb3
      replace e1 := Lib.hid e1
      replace e2 := Lib.hid e2
      go_wp2_with fail
      go_ret2
      exact TokPost.ok ho.out.symm rfl m3.out.tks (m3.out.ptk.trans e2.out) hb3.out
    | some q =>
      go_enter Tryz.func36, Tryz.ntmps36
      go_wp2_with fail
      refine hdoc.out.mono ?_; rintro e w1 ⟨rfl, ⟨c1, k1, s1, P1, e1, e2, m1⟩, b1⟩
      have hb1 := hB0.out.trans b1
      have hs1 := hb1.size
      replace hb1 := Lib.hid hb1
      replace m1 := Lib.hid m1
      replace b1 := Lib.hid b1
      clear hdoc
      go_wp2_with fail
      refine (hrun.out _).mono ?_; rintro e w2 ⟨f, rfl, hf, hfa, b2⟩
      have hb2 := hb1.out.trans (b2.mono hs1)
      have hs2 := b2.size
      replace b2 := Lib.hid b2
      replace hb2 := Lib.hid hb2
      replace hfa := Lib.hid hfa
      go_wp2_with fail
      refine (first11_nil (faultV f) _).mono ?_; rintro e w3 ⟨rfl, b3⟩
      have hfa3 := hfa.out.below b3
      have hb3 := hb2.out.trans (b3.mono (by omega))
      replace b3 := Lib.hid b3
      replace hb3 := Lib.hid hb3
      replace hfa3 := Lib.hid hfa3
      unfold faultV
      go_wp2_with fail
      go_ret2
      exact TokPost.syn ho.out.symm rfl (by omega) hfa3.out hb3.out
  | syn =>
    cases orr with
    | none =>
      go_enter Tryz.func36, Tryz.ntmps36
      go_wp2_with fail
      refine hdoc.out.mono ?_; rintro e w1 ⟨f1, q1, rfl, hf1, fd, b1⟩
      have hb1 := hB0.out.trans b1
      have hs1 := hb1.size
      replace hb1 := Lib.hid hb1
      replace b1 := Lib.hid b1
      replace fd := Lib.hid fd
      clear hdoc
      unfold faultV
      go_wp2_with fail
      refine (hrun.out _).mono ?_; rintro e w2 ⟨rfl, b2⟩
      have fd2 := fd.out.below b2
      have hb2 := hb1.out.trans (b2.mono hs1)
      have hs2 := b2.size
      have ht2 := hL.out.ty.below hb2
      replace b2 := Lib.hid b2
      replace hb2 := Lib.hid hb2
      go_wp2_with fail
      refine (first11_one f1 _ _ _ ht2 fd2).mono ?_; rintro e w3 ⟨rfl, b3⟩
      have fd3 := fd2.below b3
      have hb3 := hb2.out.trans (b3.mono (by omega))
      clear fd2 ht2
      replace b3 := Lib.hid b3
      replace hb3 := Lib.hid hb3
      replace fd3 := Lib.hid fd3
      unfold faultV
      go_wp2_with fail
      go_ret2
      exact TokPost.syn ho.out.symm rfl hf1 fd3.out hb3.out
    | some q =>
      go_enter Tryz.func36, Tryz.ntmps36
      go_wp2_with fail
      refine hdoc.out.mono ?_; rintro e w1 ⟨f1, q1, rfl, hf1, fd, b1⟩
      have hb1 := hB0.out.trans b1
      have hs1 := hb1.size
      replace hb1 := Lib.hid hb1
      replace b1 := Lib.hid b1
      replace fd := Lib.hid fd
      clear hdoc
      unfold faultV
      go_wp2_with fail
      refine (hrun.out _).mono ?_; rintro e w2 ⟨f2, rfl, hf2, fr2, b2⟩
      have fd2 := fd.out.below b2
      have hb2 := hb1.out.trans (b2.mono hs1)
      have hs2 := b2.size
      have ht2 := hL.out.ty.below hb2
      replace b2 := Lib.hid b2
      replace hb2 := Lib.hid hb2
      unfold faultV
      go_wp2_with fail
      refine (first11_two f1 _ f2 _ _ _ _ ht2 fd2 fr2).mono ?_; rintro e w3 ⟨rfl, b3⟩
      have fd3 := fd2.below b3
      have fr3 := fr2.below b3
      have hb3 := hb2.out.trans (b3.mono (by omega))
      clear fd2 fr2 ht2
      replace b3 := Lib.hid b3
      replace hb3 := Lib.hid hb3
      replace fd3 := Lib.hid fd3
      replace fr3 := Lib.hid fr3
      have hf2w : w.heap.size ≤ f2 := by omega
      by_cases hlt : q < q1
      · rw [if_pos hlt]
        unfold faultV
        go_wp2_with fail
        go_ret2
        exact TokPost.syn (ho.out.symm) rfl hf2w fr3.out hb3.out
      · rw [if_neg hlt]
        unfold faultV
        go_wp2_with fail
        go_ret2
        exact TokPost.syn (ho.out.symm) rfl hf1 fd3.out hb3.out
  | deep k =>
    cases orr with
    | none =>
      go_enter Tryz.func36, Tryz.ntmps36
      go_wp2_with fail
      refine hdoc.out.mono ?_; rintro e w1 ⟨f1, rfl, hf1, fd, b1⟩
      have hb1 := hB0.out.trans b1
      have hs1 := hb1.size
      replace hb1 := Lib.hid hb1
      replace b1 := Lib.hid b1
      replace fd := Lib.hid fd
      clear hdoc
      unfold faultV
      go_wp2_with fail
      refine (hrun.out _).mono ?_; rintro e w2 ⟨rfl, b2⟩
      have fd2 := fd.out.below b2
      have hb2 := hb1.out.trans (b2.mono hs1)
      have hs2 := b2.size
      have ht2 := hL.out.ty.below hb2
      replace b2 := Lib.hid b2
      replace hb2 := Lib.hid hb2
      go_wp2_with fail
      refine (first11_one f1 _ _ _ ht2 fd2).mono ?_; rintro e w3 ⟨rfl, b3⟩
      have fd3 := fd2.below b3
      have hb3 := hb2.out.trans (b3.mono (by omega))
      clear fd2 ht2
      replace b3 := Lib.hid b3
      replace hb3 := Lib.hid hb3
      replace fd3 := Lib.hid fd3
      unfold faultV
      go_wp2_with fail
      go_ret2
      exact TokPost.deep ho.out.symm rfl hf1 fd3.out hb3.out
    | some q =>
      go_enter Tryz.func36, Tryz.ntmps36
      go_wp2_with fail
      refine hdoc.out.mono ?_; rintro e w1 ⟨f1, rfl, hf1, fd, b1⟩
      have hb1 := hB0.out.trans b1
      have hs1 := hb1.size
      replace hb1 := Lib.hid hb1
      replace b1 := Lib.hid b1
      replace fd := Lib.hid fd
      clear hdoc
      unfold faultV
      go_wp2_with fail
      refine (hrun.out _).mono ?_; rintro e w2 ⟨f2, rfl, hf2, fr2, b2⟩
      have fd2 := fd.out.below b2
      have hb2 := hb1.out.trans (b2.mono hs1)
      have hs2 := b2.size
      have ht2 := hL.out.ty.below hb2
      replace b2 := Lib.hid b2
      replace hb2 := Lib.hid hb2
      unfold faultV
      go_wp2_with fail
      refine (first11_two f1 _ f2 _ _ _ _ ht2 fd2 fr2).mono ?_; rintro e w3 ⟨rfl, b3⟩
      have fd3 := fd2.below b3
      have fr3 := fr2.below b3
      have hb3 := hb2.out.trans (b3.mono (by omega))
      clear fd2 fr2 ht2
      replace b3 := Lib.hid b3
      replace hb3 := Lib.hid hb3
      replace fd3 := Lib.hid fd3
      replace fr3 := Lib.hid fr3
      have hf2w : w.heap.size ≤ f2 := by omega
      by_cases hlt : q < k
      · rw [if_pos hlt]
        unfold faultV
        go_wp2_with fail
        go_ret2
        exact TokPost.syn (ho.out.symm.trans (if_pos hlt)) rfl hf2w fr3.out hb3.out
      · rw [if_neg hlt]
        unfold faultV
        go_wp2_with fail
        go_ret2
        exact TokPost.deep (ho.out.symm.trans (if_neg hlt)) rfl hf1 fd3.out hb3.out
end Go.Proofs.YtkgjbamkinfmeaaGreatDoor

/- Layer 12: a builder in memory; element. -/
namespace Go.Proofs.YtkgjbamkinfmeaaGreatDoor
open Go.RowKit

theorem t_nb : 56 ≠ 124 := by decide
theorem t_ab : 166 ≠ 124 := by decide
/-- A builder, and what it holds. -/
structure BdM (w : World) (B R : Nat) (s : Bs) (P : List (Nd × Value)) (v : Value) : Prop where
  bd : ArrAt w R 124 [v, .int .i64 s.up]
  row : OwnN w B v P
  nds : nodes P = s.nds
  ats : ∀ p ∈ P, Ats w B p.2 p.1.attrs
  low : B ≤ R
section
variable {w w' : World} {B R : Nat} {s : Bs} {P : List (Nd × Value)} {v : Value}
theorem BdM.c0 (h : BdM w B R s P v) : w.cell? ⟨R, 0, none⟩ = some v := by rw [h.bd.cell]; rfl
theorem BdM.c1 (h : BdM w B R s P v) : w.cell? ⟨R, 1, none⟩ = some (.int .i64 s.up) := by rw [h.bd.cell]; rfl
theorem BdM.base (h : BdM w B R s P v) : B ≤ w.heap.size := by have := h.low; have := h.bd.lt; omega
theorem BdM.plen (h : BdM w B R s P v) : P.length = s.nds.length := by rw [← h.nds]; unfold nodes; simp
theorem BdM.turned {S : Nat → Prop} {u : Int} (h : BdM w B R s P v) (hr : ArrAt w' R 124 [v, .int .i64 u]) (ht : Turned S w w') (hS : ∀ b, S b → b = R) : BdM w' B R ⟨s.nds, u⟩ P v :=
  ⟨hr, ownsRow_turned h.row ht fun b hb hs => own_ne_arr h.row h.bd t_nb (by rw [hb, hS b hs]), h.nds,
    fun p hp => ownsRow_turned (h.ats p hp) ht fun b hb hs => own_ne_arr (h.ats p hp) h.bd t_ab (by rw [hb, hS b hs]), h.low⟩
theorem BdM.below (h : BdM w B R s P v) (hb : Below w.heap.size w w') : BdM w' B R s P v :=
  h.turned (S := fun _ => False) (u := s.up) (h.bd.next hb) (Turned.of_below hb) (fun _ e => e.elim)
theorem BdM.setUp (h : BdM w B R s P v) (u : Int) : BdM (w.setCell ⟨R, 1, none⟩ (.int .i64 u)) B R ⟨s.nds, u⟩ P v ∧ Below B w (w.setCell ⟨R, 1, none⟩ (.int .i64 u)) :=
  ⟨h.turned (h.bd.set 1 _) (turned_setCell w ⟨R, 1, none⟩ _) (fun _ e => e), (Below.refl B w).setCell h.low _⟩
/-- A node more. -/
theorem BdM.push {w1 : World} {v1 : Value} {y : Nd} {va : Value} (h : BdM w B R s P v) (ha : Ats w B va y.attrs) (ho : w1.ownsRow B 56 4 v1 (P.length + 1) (cellsN P ++ ndV (y, va))) (hg : w.grownBy w1 v.ownBlock) :
    BdM (w1.setCell ⟨R, 0, none⟩ v1) B R ⟨s.nds ++ [y], s.up⟩ (P ++ [(y, va)]) v1 ∧ Below B w (w1.setCell ⟨R, 0, none⟩ v1) := by
  have hT := Turned.of_grown (S := fun b => v.ownBlock = some b) hg fun _ e => e
  have hr1 := h.bd.turned hT (own_ne_arr h.row h.bd t_nb)
  have hst := turned_setCell w1 ⟨R, 0, none⟩ v1
  have ho2 : OwnN w1 B v1 (P ++ [(y, va)]) := by
    unfold OwnN
    rw [List.length_append, cellsN_app]
    have e : cellsN [(y, va)] = ndV (y, va) := by simp [cellsN]
    rw [e]; exact ho
  have k3 : ∀ u a, Ats w B u a → Ats w1 B u a := fun u a hu => ownsRow_turned hu hT fun b hb e => own_apart hu h.row t_an hb e
  refine ⟨⟨hr1.set 0 v1, ?_, ?_, ?_, h.low⟩, ?_⟩
  · exact ownsRow_turned ho2 hst fun b hb e => own_ne_arr ho2 hr1 t_nb (by rw [hb]; exact congrArg some e)
  · show nodes (P ++ [(y, va)]) = s.nds ++ [y]
    unfold nodes
    rw [List.map_append, ← h.nds]
    rfl
  · intro p hp
    have hp1 : Ats w1 B p.2 p.1.attrs := by
      rcases List.mem_append.1 hp with hp | hp
      · exact k3 _ _ (h.ats p hp)
      · rw [List.mem_singleton] at hp; subst hp; exact k3 _ _ ha
    exact ownsRow_turned hp1 hst fun b hb e => own_ne_arr hp1 hr1 t_ab (by rw [hb]; exact congrArg some e)
  · exact (((Below.refl B w).grown hg h.base fun k hk => (World.ownsRow.lt h.row k hk).1)).setCell h.low _
end
/-- A builder in some state. -/
def BdE (w : World) (B R : Nat) (s : Bs) : Prop := ∃ P v, BdM w B R s P v
/-- What a builder's call comes to. -/
def BdPost (w : World) (B R : Nat) (s : Bs) (u : Value) (e : Ending) (w' : World) : Prop := e = .returned u ∧ BdE w' B R s ∧ Below B w w'
theorem BdPost.mk {w w' : World} {B R : Nat} {s s' : Bs} {u : Value} {P : List (Nd × Value)} {v : Value} (hs : s = s') (h : BdM w' B R s' P v) (hb : Below B w w') : BdPost w B R s u (.returned u) w' := by subst hs; exact ⟨rfl, ⟨P, v, h⟩, hb⟩

set_option maxRecDepth 100000 in
set_option maxHeartbeats 4000000 in
theorem element12_any (B R : Nat) (s : Bs) (P : List (Nd × Value)) (v : Value) (x : Tk) (va : Value) (w : World) (h : BdM w B R s P v) (ha : AtSl w va x.attrs) (hn : P.length ≤ 1000000) (hx : x.attrs.length * 32 ≤ 140737488355328) :
    Calls Tryz.prog 86 #[.pointer (some ⟨R, 0, none⟩), tkA x va] w (BdPost w B R ⟨s.nds ++ [elemN x s.up], s.up⟩ (.tuple #[])) := by
  obtain ⟨a0, c0', rfl⟩ := own_form h.row
  obtain ⟨va0, vc0, rfl⟩ := ha.form
  have hb0 : Below w.heap.size w (w.alloc (.cells #[.int .i64 x.kind, .string ⟨x.name.toArray⟩, .slice va0 x.attrs.length vc0, .string ⟨x.text.toArray⟩] 83)) := (Below.refl _ _).alloc (Nat.le_refl _) _
  have hA := h.below hb0
  have haA := ha.next hb0
  have hbx : ArrAt (w.alloc (.cells #[.int .i64 x.kind, .string ⟨x.name.toArray⟩, .slice va0 x.attrs.length vc0, .string ⟨x.text.toArray⟩] 83)) w.heap.size 83 [.int .i64 x.kind, .string ⟨x.name.toArray⟩, .slice va0 x.attrs.length vc0, .string ⟨x.text.toArray⟩] := arrAt_new w _ _
  have hbB := h.base
  have hsz1 : (w.alloc (.cells #[.int .i64 x.kind, .string ⟨x.name.toArray⟩, .slice va0 x.attrs.length vc0, .string ⟨x.text.toArray⟩] 83)).heap.size = w.heap.size + 1 := by simp
  clear h ha
  replace hsz1 := Lib.hid hsz1
  unfold tkA
  replace hb0 := Lib.hid hb0
  replace hA := Lib.hid hA
  replace haA := Lib.hid haA
  replace hbx := Lib.hid hbx
  go_enter Tryz.func86, Tryz.ntmps86
  go_wp2_with (at_builtin; go_must (refine wpList_append_at rfl _ _ 54 166 rfl Tryz.underlying54 (.agg #[.string ⟨#[]⟩, .string ⟨#[]⟩]) 32 info_attr12 rfl (by decide) _ (.slice none 0 0) 0 [] (World.ownsRow_nil _ _ _ _) _ x.attrs haA.out rfl rfl (by omega) (Nat.le_refl _) ?_))
  intro v2 w2 ho2 hb2
  have ha2 : Ats w2 B v2 x.attrs := ownsRow_mono (by simpa using ho2) (Nat.le_succ_of_le hbB)
  rw [← hsz1.out] at hb2
  have h2 := hA.out.below hb2
  have hx2 := hbx.out.next hb2
  have hb02 := hb0.out.andThen hb2
  obtain ⟨a2, c2, rfl⟩ := own_form ha2
  clear ho2 hb2
  have c0 := h2.c0
  have c1 := h2.c1
  have f0 := h2.bd.soft 0
  have x1 : w2.cell? ⟨w.heap.size, 1, none⟩ = some (.string ⟨x.name.toArray⟩) := by rw [hx2.cell]; rfl
  have c0y := (h2.below ((Below.refl _ _).alloc (Nat.le_refl _) (.cells #[.string ⟨x.name.toArray⟩, .slice a2 x.attrs.length c2, .string ⟨#[]⟩, .int .i64 s.up] 56))).c0
  have hd := drawn_drew w2
  have h3 := h2.below (hd.below _)
  have ha3 : Ats w2.drew B (.slice a2 x.attrs.length c2) x.attrs := ownsRow_drawn ha2 hd
  have hlow := h3.base
  have hball := (hb02.mono hbB).trans (hd.below B)
  clear hx2 h2 ha2 hb02 hd
  replace h3 := Lib.hid h3
  replace ha3 := Lib.hid ha3
  replace hball := Lib.hid hball
  go_wp2_with fail
  go_region_law (refine step_append1 rfl (.tmp 12) (.tmp 21) 51 56 rfl Tryz.underlying51 (.agg #[.string ⟨#[]⟩, .slice none 0 0, .string ⟨#[]⟩, .int .i64 0]) 4 64 info_node rfl (by decide) (by decide) B _ P.length (cellsN P) [.string ⟨x.name.toArray⟩, .slice a2 x.attrs.length c2, .string ⟨#[]⟩, .int .i64 s.up] rfl h3.out.row (by simp [Act.eval]) (by simp [Act.eval]) (by intro u hu; simp at hu; rcases hu with rfl | rfl | rfl | rfl <;> rfl) (by omega) (by simpa using hlow) ?_; intro v1 w1 hown1 hgr1 hwh1; obtain ⟨a1, e1, rfl⟩ := own_form hown1.out; have r1 := h3.out.bd.turned (Turned.of_grown (S := fun b => (Value.slice a0 P.length c0').ownBlock = some b) hgr1.out fun _ e => e) (own_ne_arr h3.out.row h3.out.bd t_nb); have c0' : w1.cell? ⟨R, 0, none⟩ = some _ := (by rw [r1.cell]; rfl); have f0' := r1.soft 0; replace r1 := Lib.hid r1)
  all_goals go_wp2_with fail
  all_goals
    have hfin := h3.out.push (y := elemN x s.up) ha3.out hown1.out hgr1.out
    refine bodyPost_end (v := .tuple #[]) (by simp [results, Tryz.results86, go_sem]) rfl ?_
    exact BdPost.mk rfl hfin.1 (hball.out.trans hfin.2)
end Go.Proofs.YtkgjbamkinfmeaaGreatDoor
