/- Layer 11: first: of two faults of one text the one that stands first. -/
import Derived.Test.YtldnigkaagcciaaDoorD11u
import Derived.Test.YtldnigkaagcciaaDoorEs
import Derived.Test.YtldnigkaagcciaaDoorHl
namespace Go.Proofs.YtldnigkaagcciaaDoor
open Go.RowKit

/-- What errors.As asks: the type of errors lies as laid. -/
def EnvT (w : World) : Prop := w.cell? ⟨1, 0, none⟩ = some (.iface 79 (.agg #[.pointer (some ⟨3, 26, none⟩)]))
theorem EnvT.below {w w' : World} (h : EnvT w) (hb : Below w.heap.size w w') : EnvT w' := (hb.cell (p := ⟨1, 0, none⟩) (World.block_lt_of_cell? w ⟨1, 0, none⟩ h)).trans h

theorem first11_nil (b : Value) (w : World) : Calls Tryd.prog 18 #[.nilIface, b] w fun e w' => e = .returned b ∧ Below w.heap.size w w' := by
  have hb : Below w.heap.size w ((w.alloc (.cells #[.pointer none] 50)).alloc (.cells #[.pointer none] 50)) := ((Below.refl _ _).alloc (Nat.le_refl _) _).alloc (by simp) _
  replace hb := Lib.hid hb
  go_enter Tryd.func18, Tryd.ntmps18
  go_wp2_with fail
  refine (as11_nil _ _).mono ?_; rintro e w1 ⟨rfl, rfl⟩
  go_wp2_with fail
  go_ret
  exact ⟨rfl, hb.out⟩
theorem first_cells {w3 : World} {F G fa fb p q : Nat} (hFG : F ≠ G) (hfG : fa ≠ G) (hbG : fb ≠ G) (hf : w3.cell? ⟨F, 0, none⟩ = some (.pointer (some ⟨fa, 0, none⟩))) (hp : w3.cell? ⟨fa, 0, none⟩ = some (.int .i64 p)) (hq : w3.cell? ⟨fb, 0, none⟩ = some (.int .i64 q)) (hg : w3.cell? ⟨G, 0, none⟩ = some (.pointer none)) :
    (w3.setCell ⟨G, 0, none⟩ (.pointer (some ⟨fb, 0, none⟩))).cell? ⟨F, 0, none⟩ = some (.pointer (some ⟨fa, 0, none⟩)) ∧ (w3.setCell ⟨G, 0, none⟩ (.pointer (some ⟨fb, 0, none⟩))).cell? ⟨G, 0, none⟩ = some (.pointer (some ⟨fb, 0, none⟩)) ∧
    (w3.setCell ⟨G, 0, none⟩ (.pointer (some ⟨fb, 0, none⟩))).cell? ⟨fa, 0, none⟩ = some (.int .i64 p) ∧ (w3.setCell ⟨G, 0, none⟩ (.pointer (some ⟨fb, 0, none⟩))).cell? ⟨fb, 0, none⟩ = some (.int .i64 q) := by
  have ho : ∀ b, b ≠ G → (w3.setCell ⟨G, 0, none⟩ (.pointer (some ⟨fb, 0, none⟩))).cell? ⟨b, 0, none⟩ = w3.cell? ⟨b, 0, none⟩ := fun b hb => World.cell?_of_block (Below.heap_setCell w3 ⟨G, 0, none⟩ _ b hb)
  refine ⟨(ho F hFG).trans hf, ?_, (ho fa hfG).trans hp, (ho fb hbG).trans hq⟩
  simp [go_sem, hg]

/-- What first has come to behind its first errors.As. -/
structure FirstAt (w w2 : World) (fa p : Nat) : Prop where
  below : Below w.heap.size w w2
  size : w.heap.size + 2 ≤ w2.heap.size
  f : w2.cell? ⟨w.heap.size, 0, none⟩ = some (.pointer (some ⟨fa, 0, none⟩))
  g : w2.cell? ⟨w.heap.size + 1, 0, none⟩ = some (.pointer none)
  gf : w2.frozen? ⟨w.heap.size + 1, 0, none⟩ = false
theorem first_at (w : World) (w1 : World) (fa p : Nat) (hb : Below ((w.alloc (.cells #[.pointer none] 50)).alloc (.cells #[.pointer none] 50)).heap.size ((w.alloc (.cells #[.pointer none] 50)).alloc (.cells #[.pointer none] 50)) w1) :
    FirstAt w (w1.setCell ⟨w.heap.size, 0, none⟩ (.pointer (some ⟨fa, 0, none⟩))) fa p := by
  have hF := arrAt_new w 50 [.pointer none]
  have hG := arrAt_new (w.alloc (.cells #[.pointer none] 50)) 50 [.pointer none]
  have hs : (w.alloc (.cells #[.pointer none] 50)).heap.size = w.heap.size + 1 := by simp
  have hs2 : ((w.alloc (.cells #[.pointer none] 50)).alloc (.cells #[.pointer none] 50)).heap.size = w.heap.size + 1 + 1 := by simp
  rw [hs] at hG
  have hF1 : ArrAt w1 w.heap.size 50 [.pointer none] := (hF.next ((Below.refl _ _).alloc (Nat.le_refl _) _)).below hb (by omega)
  have hG1 : ArrAt w1 (w.heap.size + 1) 50 [.pointer none] := hG.below hb (by omega)
  have hF2 := hF1.set 0 (.pointer (some ⟨fa, 0, none⟩))
  have hG2 := hG1.turned (turned_setCell w1 ⟨w.heap.size, 0, none⟩ (.pointer (some ⟨fa, 0, none⟩))) (by show ¬ (w.heap.size + 1 = w.heap.size); omega)
  have hsz := hb.size
  refine ⟨?_, ?_, by rw [hF2.cell]; rfl, by rw [hG2.cell]; rfl, hG2.soft 0⟩
  · exact ((((Below.refl w.heap.size w).alloc (Nat.le_refl _) _).alloc (by omega) _).trans (hb.mono (by omega))).setCell (p := ⟨w.heap.size, 0, none⟩) (Nat.le_refl _) _
  · simp [World.setCell]; omega
def FirstPost (w : World) (v : Value) (e : Ending) (w' : World) : Prop := e = .returned v ∧ Below w.heap.size w w'

set_option maxRecDepth 100000 in
set_option maxHeartbeats 2000000 in
theorem first11_one (fa p : Nat) (va : Value) (w : World) (hT : EnvT w) (_ha : FaultAt w fa p va) : Calls Tryd.prog 18 #[faultV fa, .nilIface] w (FirstPost w (faultV fa)) := by
  have hb0 : Below w.heap.size w ((w.alloc (.cells #[.pointer none] 50)).alloc (.cells #[.pointer none] 50)) := ((Below.refl _ _).alloc (Nat.le_refl _) _).alloc (by simp) _
  have hT0 := hT.below hb0
  have hF0 : ((w.alloc (.cells #[.pointer none] 50)).alloc (.cells #[.pointer none] 50)).cell? ⟨w.heap.size, 0, none⟩ = some (.pointer none) ∧ ((w.alloc (.cells #[.pointer none] 50)).alloc (.cells #[.pointer none] 50)).frozen? ⟨w.heap.size, 0, none⟩ = false := by
    have hF := (arrAt_new w 50 [.pointer none]).next ((Below.refl _ _).alloc (Nat.le_refl _) (.cells #[.pointer none] 50))
    exact ⟨by rw [hF.cell]; rfl, hF.soft 0⟩
  replace hb0 := Lib.hid hb0
  replace hT0 := Lib.hid hT0
  replace hF0 := Lib.hid hF0
  clear hT
  unfold faultV
  go_enter Tryd.func18, Tryd.ntmps18
  go_wp2_with fail
  refine (as11_fault fa w.heap.size _ (.pointer none) hF0.out.1 hF0.out.2 hT0.out).mono ?_; rintro e w' ⟨rfl, w1, hb1, rfl⟩
  have hat := first_at w w1 fa p hb1
  clear hb1 hF0 hT0 hb0
  generalize w1.setCell ⟨w.heap.size, 0, none⟩ (.pointer (some ⟨fa, 0, none⟩)) = w2 at hat ⊢
  replace hat := Lib.hid hat
  go_wp2_with fail
  refine wp_region_any (by kernel_rfl) ?_
  try (change wpAny _ _ _ _ _ _ _ (World.drew _))
  refine wpAny_take (i := 0) (v := ?_) rfl (by kernel_rfl) (by kernel_rfl) (by kernel_rfl) (fun _ _ _ h => h) (Or.inl ⟨by rfl, ?_⟩) ?_
  rotate_left
  · (intro w; go_simp; all_goals (with_reducible rfl))
  try simp only [Act.put, List.setIfInBounds_toArray]
  refine wpAny_take (i := 1) (v := ?_) rfl (by kernel_rfl) (by kernel_rfl) (by kernel_rfl) (fun _ _ _ h => h) (Or.inl ⟨by rfl, ?_⟩) ?_
  rotate_left
  · (intro w; go_simp; all_goals (with_reducible rfl))
  try simp only [Act.put]
  refine wpAny_ready (rs := [2]) (by kernel_rfl) (by simp) ?_
  refine AllReady.cons rfl (fun K hK => ?_) AllReady.nil
  go_simp
  go_at_call 22
  refine (as11_nil (.iface 52 (.pointer (some ⟨w.heap.size + 1, 0, none⟩))) _).mono ?_
  rintro e w' ⟨rfl, rfl⟩
  refine hK _ _ ?_
  clear hK K
  try simp only [Act.put, List.setIfInBounds_toArray, List.set_cons_zero, List.set_cons_succ]
  refine wpAny_of_held (S := fun _ => True) _ _ _ _ ?_
  have hHeld := trivial
  refine held_take 3 (v := ?_) rfl (by kernel_rfl) (by kernel_rfl) (by kernel_rfl) (fun _ _ _ h => h) (by rfl) ?_ hHeld ?_
  rotate_left
  · (intro w hSw; (try dsimp only at hSw); go_simp; all_goals (with_reducible rfl))
  try simp only [Act.put, List.setIfInBounds_toArray, List.set_cons_zero, List.set_cons_succ]
  refine held_skip 4 rfl (by kernel_rfl) (by kernel_rfl) (by kernel_rfl) (fun _ _ _ h => h) (by rfl) hHeld ?_
  try simp only [Act.put, List.setIfInBounds_toArray, List.set_cons_zero, List.set_cons_succ]
  refine held_skip 5 rfl (by kernel_rfl) (by kernel_rfl) (by kernel_rfl) (fun _ _ _ h => h) (by rfl) hHeld ?_
  try simp only [Act.put, List.setIfInBounds_toArray, List.set_cons_zero, List.set_cons_succ]
  refine held_skip 6 rfl (by kernel_rfl) (by kernel_rfl) (by kernel_rfl) (fun _ _ _ h => h) (by rfl) hHeld ?_
  try simp only [Act.put, List.setIfInBounds_toArray, List.set_cons_zero, List.set_cons_succ]
  refine held_skip 7 rfl (by kernel_rfl) (by kernel_rfl) (by kernel_rfl) (fun _ _ _ h => h) (by rfl) hHeld ?_
  try simp only [Act.put, List.setIfInBounds_toArray, List.set_cons_zero, List.set_cons_succ]
  refine held_skip 8 rfl (by kernel_rfl) (by kernel_rfl) (by kernel_rfl) (fun _ _ _ h => h) (by rfl) hHeld ?_
  try simp only [Act.put, List.setIfInBounds_toArray, List.set_cons_zero, List.set_cons_succ]
  refine held_skip 9 rfl (by kernel_rfl) (by kernel_rfl) (by kernel_rfl) (fun _ _ _ h => h) (by rfl) hHeld ?_
  try simp only [Act.put, List.setIfInBounds_toArray, List.set_cons_zero, List.set_cons_succ]
  refine held_skip 10 rfl (by kernel_rfl) (by kernel_rfl) (by kernel_rfl) (fun _ _ _ h => h) (by rfl) hHeld ?_
  try simp only [Act.put, List.setIfInBounds_toArray, List.set_cons_zero, List.set_cons_succ]
  refine held_skip 11 rfl (by kernel_rfl) (by kernel_rfl) (by kernel_rfl) (fun _ _ _ h => h) (by rfl) hHeld ?_
  try simp only [Act.put, List.setIfInBounds_toArray, List.set_cons_zero, List.set_cons_succ]
  refine held_skip 12 rfl (by kernel_rfl) (by kernel_rfl) (by kernel_rfl) (fun _ _ _ h => h) (by rfl) hHeld ?_
  try simp only [Act.put, List.setIfInBounds_toArray, List.set_cons_zero, List.set_cons_succ]
  refine held_take 13 (v := ?_) rfl (by kernel_rfl) (by kernel_rfl) (by kernel_rfl) (fun _ _ _ h => h) (by rfl) ?_ hHeld ?_
  rotate_left
  · (intro w hSw; (try dsimp only at hSw); go_simp; all_goals (with_reducible rfl))
  try simp only [Act.put, List.setIfInBounds_toArray, List.set_cons_zero, List.set_cons_succ]
  refine wpAnyH_done (by kernel_rfl) ?_ _
  go_wp2_with fail
  go_ret
  exact ⟨rfl, hat.out.below.trans ((drawn_drew _).below _)⟩
set_option maxRecDepth 100000 in
set_option maxHeartbeats 4000000 in
theorem first11_two (fa p fb q : Nat) (va vb : Value) (w : World) (hT : EnvT w) (ha : FaultAt w fa p va) (hb : FaultAt w fb q vb) : Calls Tryd.prog 18 #[faultV fa, faultV fb] w (FirstPost w (if q < p then faultV fb else faultV fa)) := by
  have hb0 : Below w.heap.size w ((w.alloc (.cells #[.pointer none] 50)).alloc (.cells #[.pointer none] 50)) := ((Below.refl _ _).alloc (Nat.le_refl _) _).alloc (by simp) _
  have hT0 := hT.below hb0
  have hF0 : ((w.alloc (.cells #[.pointer none] 50)).alloc (.cells #[.pointer none] 50)).cell? ⟨w.heap.size, 0, none⟩ = some (.pointer none) ∧ ((w.alloc (.cells #[.pointer none] 50)).alloc (.cells #[.pointer none] 50)).frozen? ⟨w.heap.size, 0, none⟩ = false := by
    have hF := (arrAt_new w 50 [.pointer none]).next ((Below.refl _ _).alloc (Nat.le_refl _) (.cells #[.pointer none] 50))
    exact ⟨by rw [hF.cell]; rfl, hF.soft 0⟩
  have hfa := ArrAt.lt ha
  have hfb := ArrAt.lt hb
  replace hb0 := Lib.hid hb0
  replace hT0 := Lib.hid hT0
  replace hF0 := Lib.hid hF0
  replace hT := Lib.hid hT
  replace ha := Lib.hid ha
  replace hb := Lib.hid hb
  unfold faultV
  by_cases hlt : q < p
  case' pos => rw [if_pos hlt]
  case' neg => rw [if_neg hlt]
  case' pos => have hl1 : decide ((q : Int) < p) = true := by rw [decide_eq_true_eq]; omega
  case' pos => have hl2 : decide (q < p) = true := by rw [decide_eq_true_eq]; omega
  case' neg => have hl1 : decide ((q : Int) < p) = false := by rw [decide_eq_false_iff_not]; omega
  case' neg => have hl2 : decide (q < p) = false := by rw [decide_eq_false_iff_not]; omega
  all_goals
    replace hlt := Lib.hid hlt
    go_enter Tryd.func18, Tryd.ntmps18
    go_wp2_with fail
    refine (as11_fault fa w.heap.size _ (.pointer none) hF0.out.1 hF0.out.2 hT0.out).mono ?_; rintro e w' ⟨rfl, w1, hb1, rfl⟩
    have hat := first_at w w1 fa p hb1
    clear hb1 hF0 hT0 hb0
    generalize w1.setCell ⟨w.heap.size, 0, none⟩ (.pointer (some ⟨fa, 0, none⟩)) = w2 at hat ⊢
    replace hat := Lib.hid hat
    go_wp2_with fail
    have hbd := hat.out.below.trans ((drawn_drew w2).below _)
    have f2 : w2.drew.cell? ⟨w.heap.size, 0, none⟩ = some (.pointer (some ⟨fa, 0, none⟩)) := hat.out.f
    have g2 : w2.drew.cell? ⟨w.heap.size + 1, 0, none⟩ = some (.pointer none) := hat.out.g
    have gf2 : w2.drew.frozen? ⟨w.heap.size + 1, 0, none⟩ = false := hat.out.gf
    have hT2 := hT.out.below hbd
    have pa2 : w2.drew.cell? ⟨fa, 0, none⟩ = some (.int .i64 p) := (hbd.cell (p := ⟨fa, 0, none⟩) hfa).trans (ArrAt.cell ha.out 0)
    have pb2 : w2.drew.cell? ⟨fb, 0, none⟩ = some (.int .i64 q) := (hbd.cell (p := ⟨fb, 0, none⟩) hfb).trans (ArrAt.cell hb.out 0)
    have hsz2 : w.heap.size + 2 ≤ w2.drew.heap.size := hat.out.size
    have hF2 : w.heap.size < w2.drew.heap.size := by omega
    have hfa2 : fa < w2.drew.heap.size := by omega
    have hfb2 : fb < w2.drew.heap.size := by omega
    have hFG : w.heap.size ≠ w.heap.size + 1 := by omega
    have hfG : fa ≠ w.heap.size + 1 := by omega
    have hbG : fb ≠ w.heap.size + 1 := by omega
    replace hbd := Lib.hid hbd
    replace f2 := Lib.hid f2
    replace g2 := Lib.hid g2
    replace gf2 := Lib.hid gf2
    replace pa2 := Lib.hid pa2
    replace pb2 := Lib.hid pb2
    replace hT2 := Lib.hid hT2
    replace hFG := Lib.hid hFG
    replace hfG := Lib.hid hfG
    replace hbG := Lib.hid hbG
    replace hsz2 := Lib.hid hsz2
    replace hF2 := Lib.hid hF2
    replace hfa2 := Lib.hid hfa2
    replace hfb2 := Lib.hid hfb2
    refine wp_region_any (by kernel_rfl) ?_
    try (change wpAny _ _ _ _ _ _ _ (World.drew _))
    refine wpAny_take (i := 0) (v := ?_) rfl (by kernel_rfl) (by kernel_rfl) (by kernel_rfl) (fun _ _ _ h => h) (Or.inl ⟨by rfl, ?_⟩) ?_
    rotate_left
    · (intro w; go_simp; all_goals (with_reducible rfl))
    try simp only [Act.put, List.setIfInBounds_toArray]
    refine wpAny_take (i := 1) (v := ?_) rfl (by kernel_rfl) (by kernel_rfl) (by kernel_rfl) (fun _ _ _ h => h) (Or.inl ⟨by rfl, ?_⟩) ?_
    rotate_left
    · (intro w; go_simp; all_goals (with_reducible rfl))
    try simp only [Act.put]
    refine wpAny_ready (rs := [2]) (by kernel_rfl) (by simp) ?_
    refine AllReady.cons rfl (fun K hK => ?_) AllReady.nil
    go_simp
    go_at_call 22
    refine (as11_fault fb (w.heap.size + 1) w2.drew (.pointer none) g2.out gf2.out hT2.out).mono ?_
    rintro e w' ⟨rfl, w3, hb3, rfl⟩
    have hf3 := (hb3.cell (p := ⟨w.heap.size, 0, none⟩) hF2.out).trans f2.out
    have hp3 := (hb3.cell (p := ⟨fa, 0, none⟩) hfa2.out).trans pa2.out
    have hq3 := (hb3.cell (p := ⟨fb, 0, none⟩) hfb2.out).trans pb2.out
    have hsz3 := hb3.size
    have hg3 := (hb3.cell (p := ⟨w.heap.size + 1, 0, none⟩) (by have := hsz2.out; show w.heap.size + 1 < w2.drew.heap.size; omega)).trans g2.out
    have hSc := first_cells (w3 := w3) (p := p) (q := q) hFG.out hfG.out hbG.out hf3 hp3 hq3 hg3
    have hbel := (hbd.out.trans (hb3.mono (by have := hsz2.out; omega : w.heap.size ≤ w2.drew.heap.size))).setCell (p := ⟨w.heap.size + 1, 0, none⟩) (by show w.heap.size ≤ w.heap.size + 1; omega) (.pointer (some ⟨fb, 0, none⟩))
    replace hb3 := Lib.hid hb3
    replace hf3 := Lib.hid hf3
    replace hp3 := Lib.hid hp3
    replace hq3 := Lib.hid hq3
    replace hg3 := Lib.hid hg3
    replace hbel := Lib.hid hbel
    clear hsz3
    generalize w3.setCell ⟨w.heap.size + 1, 0, none⟩ (.pointer (some ⟨fb, 0, none⟩)) = w4 at hSc hbel ⊢
    refine hK _ _ ?_
    clear hK K
    try simp only [Act.put, List.setIfInBounds_toArray, List.set_cons_zero, List.set_cons_succ]
    refine wpAny_of_held (S := fun W => W.cell? ⟨w.heap.size, 0, none⟩ = some (.pointer (some ⟨fa, 0, none⟩)) ∧ W.cell? ⟨w.heap.size + 1, 0, none⟩ = some (.pointer (some ⟨fb, 0, none⟩)) ∧ W.cell? ⟨fa, 0, none⟩ = some (.int .i64 (p : Nat)) ∧ W.cell? ⟨fb, 0, none⟩ = some (.int .i64 (q : Nat))) _ _ _ _ ?_
    have hHeld := hSc
    refine held_take 3 (v := ?_) rfl (by kernel_rfl) (by kernel_rfl) (by kernel_rfl) (fun _ _ _ h => h) (by rfl) ?_ hHeld ?_
    rotate_left
    · (intro w hSw; (try dsimp only at hSw); go_simp; all_goals (with_reducible rfl))
    try simp only [Act.put, List.setIfInBounds_toArray, List.set_cons_zero, List.set_cons_succ]
    refine held_take 4 (v := ?_) rfl (by kernel_rfl) (by kernel_rfl) (by kernel_rfl) (fun _ _ _ h => h) (by rfl) ?_ hHeld ?_
    rotate_left
    · (intro w hSw; (try dsimp only at hSw); go_simp; all_goals (with_reducible rfl))
    try simp only [Act.put, List.setIfInBounds_toArray, List.set_cons_zero, List.set_cons_succ]
    refine held_take 5 (v := ?_) rfl (by kernel_rfl) (by kernel_rfl) (by kernel_rfl) (fun _ _ _ h => h) (by rfl) ?_ hHeld ?_
    rotate_left
    · (intro w hSw; (try dsimp only at hSw); go_simp; all_goals (with_reducible rfl))
    try simp only [Act.put, List.setIfInBounds_toArray, List.set_cons_zero, List.set_cons_succ]
    refine held_take 6 (v := ?_) rfl (by kernel_rfl) (by kernel_rfl) (by kernel_rfl) (fun _ _ _ h => h) (by rfl) ?_ hHeld ?_
    rotate_left
    · (intro w hSw; (try dsimp only at hSw); go_simp; all_goals (with_reducible rfl))
    try simp only [Act.put, List.setIfInBounds_toArray, List.set_cons_zero, List.set_cons_succ]
    refine held_take 7 (v := ?_) rfl (by kernel_rfl) (by kernel_rfl) (by kernel_rfl) (fun _ _ _ h => h) (by rfl) ?_ hHeld ?_
    rotate_left
    · (intro w hSw; (try dsimp only at hSw); go_simp; all_goals (with_reducible rfl))
    try simp only [Act.put, List.setIfInBounds_toArray, List.set_cons_zero, List.set_cons_succ]
    refine held_take 8 (v := ?_) rfl (by kernel_rfl) (by kernel_rfl) (by kernel_rfl) (fun _ _ _ h => h) (by rfl) ?_ hHeld ?_
    rotate_left
    · (intro w hSw; (try dsimp only at hSw); go_simp; all_goals (with_reducible rfl))
    try simp only [Act.put, List.setIfInBounds_toArray, List.set_cons_zero, List.set_cons_succ]
    refine held_take 9 (v := ?_) rfl (by kernel_rfl) (by kernel_rfl) (by kernel_rfl) (fun _ _ _ h => h) (by rfl) ?_ hHeld ?_
    rotate_left
    · (intro w hSw; (try dsimp only at hSw); go_simp; all_goals (with_reducible rfl))
    try simp only [Act.put, List.setIfInBounds_toArray, List.set_cons_zero, List.set_cons_succ]
    refine held_take 10 (v := ?_) rfl (by kernel_rfl) (by kernel_rfl) (by kernel_rfl) (fun _ _ _ h => h) (by rfl) ?_ hHeld ?_
    rotate_left
    · (intro w hSw; (try dsimp only at hSw); go_simp; all_goals (with_reducible rfl))
    try simp only [Act.put, List.setIfInBounds_toArray, List.set_cons_zero, List.set_cons_succ]
    refine held_take 11 (v := ?_) rfl (by kernel_rfl) (by kernel_rfl) (by kernel_rfl) (fun _ _ _ h => h) (by rfl) ?_ hHeld ?_
    rotate_left
    · (intro w hSw; (try dsimp only at hSw); go_simp; all_goals (with_reducible rfl))
    try simp only [Act.put, List.setIfInBounds_toArray, List.set_cons_zero, List.set_cons_succ]
    refine held_take 12 (v := ?_) rfl (by kernel_rfl) (by kernel_rfl) (by kernel_rfl) (fun _ _ _ h => h) (by rfl) ?_ hHeld ?_
    rotate_left
    · (intro w hSw; (try dsimp only at hSw); go_simp; all_goals (with_reducible rfl))
    try simp only [Act.put, List.setIfInBounds_toArray, List.set_cons_zero, List.set_cons_succ]
    refine held_take 13 (v := ?_) rfl (by kernel_rfl) (by kernel_rfl) (by kernel_rfl) (fun _ _ _ h => h) (by rfl) ?_ hHeld ?_
    rotate_left
    · (intro w hSw; (try dsimp only at hSw); go_simp; all_goals (with_reducible rfl))
    try simp only [Act.put, List.setIfInBounds_toArray, List.set_cons_zero, List.set_cons_succ]
    refine wpAnyH_done (by kernel_rfl) ?_ _
    go_wp2_with fail
    go_ret
    exact ⟨rfl, hbel.out⟩
end Go.Proofs.YtldnigkaagcciaaDoor

/- Layer 11: Tokens. -/
namespace Go.Proofs.YtldnigkaagcciaaDoor
open Go.RowKit

/-- What lies there of the program's own variables. -/
structure Laid11 (w : World) (A : Addr) : Prop where
  maxl : MaxL w
  ende : w.cell? ⟨0, 0, none⟩ = some (.iface 123 (.pointer (some A)))
  ty : EnvT w
theorem Laid11.env {w : World} {A : Addr} (h : Laid11 w A) : Env w w.heap.size A := by
  obtain ⟨m, hm⟩ := h.maxl
  exact ⟨h.maxl, h.ende, World.block_lt_of_cell? w ⟨2, 0, none⟩ hm, World.block_lt_of_cell? w ⟨0, 0, none⟩ h.ende⟩
theorem Laid11.below {w w' : World} {A : Addr} (h : Laid11 w A) (hb : Below w.heap.size w w') : Laid11 w' A := ⟨(h.env.below hb).maxl, (h.env.below hb).ende, h.ty.below hb⟩
/-- What Tokens comes to. -/
def TokPost (w : World) : Out → Ending → World → Prop
  | .toks t, e, w' => ∃ v P, e = .returned (.tuple #[v, .nilIface]) ∧ Tks w' w.heap.size v P ∧ P.map Prod.fst = t ∧ Below w.heap.size w w'
  | .syn, e, w' => ∃ f q, e = .returned (.tuple #[.slice none 0 0, faultV f]) ∧ w.heap.size ≤ f ∧ FaultAt w' f q synV ∧ Below w.heap.size w w'
  | .deep, e, w' => ∃ f q, e = .returned (.tuple #[.slice none 0 0, faultV f]) ∧ w.heap.size ≤ f ∧ FaultAt w' f q deepV ∧ Below w.heap.size w w'
section
variable {w w' : World} {o : Out} {e : Ending} {f q : Nat}
theorem TokPost.ok {t : List Tk} {v : Value} {P : List (Tk × Value)} (ho : o = .toks t) (he : e = .returned (.tuple #[v, .nilIface])) (h : Tks w' w.heap.size v P) (hP : P.map Prod.fst = t) (hb : Below w.heap.size w w') : TokPost w o e w' := by subst ho; exact ⟨v, P, he, h, hP, hb⟩
theorem TokPost.syn (ho : o = .syn) (he : e = .returned (.tuple #[.slice none 0 0, faultV f])) (hf : w.heap.size ≤ f) (h : FaultAt w' f q synV) (hb : Below w.heap.size w w') : TokPost w o e w' := by subst ho; exact ⟨f, q, he, hf, h, hb⟩
theorem TokPost.deep (ho : o = .deep) (he : e = .returned (.tuple #[.slice none 0 0, faultV f])) (hf : w.heap.size ≤ f) (h : FaultAt w' f q deepV) (hb : Below w.heap.size w w') : TokPost w o e w' := by subst ho; exact ⟨f, q, he, hf, h, hb⟩
theorem FaultAt.below {w w' : World} {v : Value} (h : FaultAt w f q v) (hb : Below w.heap.size w w') : FaultAt w' f q v := ArrAt.next h hb
end
theorem rdM_new (l : List UInt8) (dep : Int) (w : World) : RdM (w.alloc (.cells #[.string ⟨l.toArray⟩, .int .i64 0, .int .i64 dep, .bool false, .slice none 0 0, .slice none 0 0, .slice none 0 0] 45)) w.heap.size w.heap.size ⟨l, dep, false, .slice none 0 0, .slice none 0 0, .slice none 0 0⟩ 0 sc0 [] :=
  ⟨arrAt_new w _ [.string ⟨l.toArray⟩, .int .i64 (0 : Nat), .int .i64 dep, .bool false, .slice none 0 0, .slice none 0 0, .slice none 0 0], rfl, World.ownsRow_nil _ _ _ _, txt_nil _ _, tks_nil _ _, rfl, Nat.le_refl _⟩

set_option maxHeartbeats 2000000 in
theorem tokens11_any (l : List UInt8) (dep : Int) (A : Addr) (w : World) (hL : Laid11 w A) (hl : l.length ≤ 20000) :
    Calls Tryd.prog 11 #[.string ⟨l.toArray⟩, .int .i64 dep] w (TokPost w (tokB dep l)) := by
  obtain ⟨o, ho⟩ : ∃ o, tokB dep l = o := ⟨_, rfl⟩
  rw [ho]
  have hB0 : Below w.heap.size w (w.alloc (.cells #[.string ⟨l.toArray⟩, .int .i64 0, .int .i64 dep, .bool false, .slice none 0 0, .slice none 0 0, .slice none 0 0] 45)) := (Below.refl _ _).alloc (Nat.le_refl _) _
  have hdoc : Calls _ _ _ _ (DocPost _ w.heap.size w.heap.size l dep (docB dep l)) := document11_any w.heap.size w.heap.size _ A _ (hL.env.below hB0) (rdM_new l dep w) hl (by simp)
  have hrun := fun W : World => runes11_any l W hl
  unfold tokB at ho
  obtain ⟨od, hod⟩ : ∃ od, docB dep l = od := ⟨_, rfl⟩
  obtain ⟨orr, hor⟩ : ∃ orr, runesB l = orr := ⟨_, rfl⟩
  rw [hod, hor] at ho
  rw [hod] at hdoc
  rw [hor] at hrun
  replace ho := Lib.hid ho
  replace hod := Lib.hid hod
  replace hor := Lib.hid hor
  replace hdoc := Lib.hid hdoc
  replace hrun := Lib.hid hrun
  replace hL := Lib.hid hL
  replace hB0 := Lib.hid hB0
  cases od with
  | toks t =>
    cases orr with
    | none =>
      go_enter Tryd.func11, Tryd.ntmps11
      go_wp2_with fail
      refine hdoc.out.mono ?_; rintro e w1 ⟨rfl, ⟨c1, k1, s1, P1, e1, e2, m1⟩, b1⟩
      have hb1 := Lib.hid (hB0.out.trans b1)
      replace m1 := Lib.hid m1
      replace b1 := Lib.hid b1
      clear hdoc
      go_wp2_with fail
      refine (hrun.out _).mono ?_; rintro e w2 ⟨rfl, b2⟩
      have m2 := m1.out.below b2
      have hb2 := hb1.out.trans (b2.mono m1.out.base)
      replace b2 := Lib.hid b2
      clear m1 hb1
      replace m2 := Lib.hid m2
      replace hb2 := Lib.hid hb2
      go_wp2_with fail
      refine (first11_nil .nilIface _).mono ?_; rintro e w3 ⟨rfl, b3⟩
      have m3 := m2.out.below b3
      have hb3 := hb2.out.trans (b3.mono m2.out.base)
      have c6 := m3.rd.c6
      replace b3 := Lib.hid b3
      clear m2 hb2
      replace m3 := Lib.hid m3
      replace hb3 := Lib.hid hb3
      replace e1 := Lib.hid e1
      replace e2 := Lib.hid e2
      go_wp2_with fail
      go_ret2
      exact TokPost.ok ho.out.symm rfl m3.out.tks (m3.out.ptk.trans e2.out) hb3.out
    | some q =>
      go_enter Tryd.func11, Tryd.ntmps11
      go_wp2_with fail
      refine hdoc.out.mono ?_; rintro e w1 ⟨rfl, ⟨c1, k1, s1, P1, e1, e2, m1⟩, b1⟩
      have hb1 := hB0.out.trans b1
      have hs1 := hb1.size
      replace hb1 := Lib.hid hb1
      replace m1 := Lib.hid m1
      replace b1 := Lib.hid b1
      clear hdoc
      go_wp2_with fail
      refine (hrun.out _).mono ?_; rintro e w2 ⟨f, rfl, hf, hfa, b2⟩
      have hb2 := hb1.out.trans (b2.mono hs1)
      have hs2 := b2.size
      replace b2 := Lib.hid b2
      replace hb2 := Lib.hid hb2
      replace hfa := Lib.hid hfa
      go_wp2_with fail
      refine (first11_nil (faultV f) _).mono ?_; rintro e w3 ⟨rfl, b3⟩
      have hfa3 := hfa.out.below b3
      have hb3 := hb2.out.trans (b3.mono (by omega))
      replace b3 := Lib.hid b3
      replace hb3 := Lib.hid hb3
      replace hfa3 := Lib.hid hfa3
      unfold faultV
      go_wp2_with fail
      go_ret2
      exact TokPost.syn ho.out.symm rfl (by omega) hfa3.out hb3.out
  | syn =>
    cases orr with
    | none =>
      go_enter Tryd.func11, Tryd.ntmps11
      go_wp2_with fail
      refine hdoc.out.mono ?_; rintro e w1 ⟨f1, q1, rfl, hf1, fd, b1⟩
      have hb1 := hB0.out.trans b1
      have hs1 := hb1.size
      replace hb1 := Lib.hid hb1
      replace b1 := Lib.hid b1
      replace fd := Lib.hid fd
      clear hdoc
      unfold faultV
      go_wp2_with fail
      refine (hrun.out _).mono ?_; rintro e w2 ⟨rfl, b2⟩
      have fd2 := fd.out.below b2
      have hb2 := hb1.out.trans (b2.mono hs1)
      have hs2 := b2.size
      have ht2 := hL.out.ty.below hb2
      replace b2 := Lib.hid b2
      replace hb2 := Lib.hid hb2
      go_wp2_with fail
      refine (first11_one f1 _ _ _ ht2 fd2).mono ?_; rintro e w3 ⟨rfl, b3⟩
      have fd3 := fd2.below b3
      have hb3 := hb2.out.trans (b3.mono (by omega))
      clear fd2 ht2
      replace b3 := Lib.hid b3
      replace hb3 := Lib.hid hb3
      replace fd3 := Lib.hid fd3
      unfold faultV
      go_wp2_with fail
      go_ret2
      exact TokPost.syn ho.out.symm rfl hf1 fd3.out hb3.out
    | some q =>
      go_enter Tryd.func11, Tryd.ntmps11
      go_wp2_with fail
      refine hdoc.out.mono ?_; rintro e w1 ⟨f1, q1, rfl, hf1, fd, b1⟩
      have hb1 := hB0.out.trans b1
      have hs1 := hb1.size
      replace hb1 := Lib.hid hb1
      replace b1 := Lib.hid b1
      replace fd := Lib.hid fd
      clear hdoc
      unfold faultV
      go_wp2_with fail
      refine (hrun.out _).mono ?_; rintro e w2 ⟨f2, rfl, hf2, fr2, b2⟩
      have fd2 := fd.out.below b2
      have hb2 := hb1.out.trans (b2.mono hs1)
      have hs2 := b2.size
      have ht2 := hL.out.ty.below hb2
      replace b2 := Lib.hid b2
      replace hb2 := Lib.hid hb2
      unfold faultV
      go_wp2_with fail
      refine (first11_two f1 _ f2 _ _ _ _ ht2 fd2 fr2).mono ?_; rintro e w3 ⟨rfl, b3⟩
      have fd3 := fd2.below b3
      have fr3 := fr2.below b3
      have hb3 := hb2.out.trans (b3.mono (by omega))
      clear fd2 fr2 ht2
      replace b3 := Lib.hid b3
      replace hb3 := Lib.hid hb3
      replace fd3 := Lib.hid fd3
      replace fr3 := Lib.hid fr3
      have hf2w : w.heap.size ≤ f2 := by omega
      by_cases hlt : q < q1
      · rw [if_pos hlt]
        unfold faultV
        go_wp2_with fail
        go_ret2
        exact TokPost.syn (ho.out.symm) rfl hf2w fr3.out hb3.out
      · rw [if_neg hlt]
        unfold faultV
        go_wp2_with fail
        go_ret2
        exact TokPost.syn (ho.out.symm) rfl hf1 fd3.out hb3.out
  | deep k =>
    cases orr with
    | none =>
      go_enter Tryd.func11, Tryd.ntmps11
      go_wp2_with fail
      refine hdoc.out.mono ?_; rintro e w1 ⟨f1, rfl, hf1, fd, b1⟩
      have hb1 := hB0.out.trans b1
      have hs1 := hb1.size
      replace hb1 := Lib.hid hb1
      replace b1 := Lib.hid b1
      replace fd := Lib.hid fd
      clear hdoc
      unfold faultV
      go_wp2_with fail
      refine (hrun.out _).mono ?_; rintro e w2 ⟨rfl, b2⟩
      have fd2 := fd.out.below b2
      have hb2 := hb1.out.trans (b2.mono hs1)
      have hs2 := b2.size
      have ht2 := hL.out.ty.below hb2
      replace b2 := Lib.hid b2
      replace hb2 := Lib.hid hb2
      go_wp2_with fail
      refine (first11_one f1 _ _ _ ht2 fd2).mono ?_; rintro e w3 ⟨rfl, b3⟩
      have fd3 := fd2.below b3
      have hb3 := hb2.out.trans (b3.mono (by omega))
      clear fd2 ht2
      replace b3 := Lib.hid b3
      replace hb3 := Lib.hid hb3
      replace fd3 := Lib.hid fd3
      unfold faultV
      go_wp2_with fail
      go_ret2
      exact TokPost.deep ho.out.symm rfl hf1 fd3.out hb3.out
    | some q =>
      go_enter Tryd.func11, Tryd.ntmps11
      go_wp2_with fail
      refine hdoc.out.mono ?_; rintro e w1 ⟨f1, rfl, hf1, fd, b1⟩
      have hb1 := hB0.out.trans b1
      have hs1 := hb1.size
      replace hb1 := Lib.hid hb1
      replace b1 := Lib.hid b1
      replace fd := Lib.hid fd
      clear hdoc
      unfold faultV
      go_wp2_with fail
      refine (hrun.out _).mono ?_; rintro e w2 ⟨f2, rfl, hf2, fr2, b2⟩
      have fd2 := fd.out.below b2
      have hb2 := hb1.out.trans (b2.mono hs1)
      have hs2 := b2.size
      have ht2 := hL.out.ty.below hb2
      replace b2 := Lib.hid b2
      replace hb2 := Lib.hid hb2
      unfold faultV
      go_wp2_with fail
      refine (first11_two f1 _ f2 _ _ _ _ ht2 fd2 fr2).mono ?_; rintro e w3 ⟨rfl, b3⟩
      have fd3 := fd2.below b3
      have fr3 := fr2.below b3
      have hb3 := hb2.out.trans (b3.mono (by omega))
      clear fd2 fr2 ht2
      replace b3 := Lib.hid b3
      replace hb3 := Lib.hid hb3
      replace fd3 := Lib.hid fd3
      replace fr3 := Lib.hid fr3
      have hf2w : w.heap.size ≤ f2 := by omega
      by_cases hlt : q < k
      · rw [if_pos hlt]
        unfold faultV
        go_wp2_with fail
        go_ret2
        exact TokPost.syn (ho.out.symm.trans (if_pos hlt)) rfl hf2w fr3.out hb3.out
      · rw [if_neg hlt]
        unfold faultV
        go_wp2_with fail
        go_ret2
        exact TokPost.deep (ho.out.symm.trans (if_neg hlt)) rfl hf1 fd3.out hb3.out
end Go.Proofs.YtldnigkaagcciaaDoor
