/- Layer 16: a document's numbers: Check, upTo; a fault, wrapped once more. -/
import Derived.Test.YtkgjbamkinfmeaaGreatDoorD16p
import Derived.Test.YtkgjbamkinfmeaaGreatDoorD16f
namespace Go.Proofs.YtkgjbamkinfmeaaGreatDoor
open Go.RowKit

/-- The model's numbers. -/
structure Prm where
  entries : Int
  doc : Int
  dep : Int
  feeds : Int
  many : Int
  most : Int
  page : Int
  tick : Int
  window : Int
  dist : Int
  words : Int
def prmC (p : Prm) : List Value := [.int .i64 p.entries, .int .i64 p.doc, .int .i64 p.dep, .int .i64 p.feeds, .int .i64 p.many, .int .i64 p.most, .int .i64 p.page, .int .i64 p.tick, .int .i64 p.window, .int .i64 p.dist, .int .i64 p.words]
def prmV (p : Prm) : Value := .agg (prmC p).toArray
def upB (most n : Int) : Bool := decide (1 ≤ n) && decide (n ≤ most)
theorem upto16_any (most n : Int) (w : World) : Calls Tryz.prog 24 #[.int .i64 most, .int .i64 n] w fun e w' => e = .returned (.bool (upB most n)) ∧ w = w' := by
  unfold upB
  cases h1 : decide (1 ≤ n)
  · go_enter Tryz.func24, Tryz.ntmps24
    go_wp2_with fail
    go_ret
    exact ⟨rfl, rfl⟩
  · cases h2 : decide (n ≤ most)
    all_goals
      go_enter Tryz.func24, Tryz.ntmps24
      go_wp2_with fail
      go_ret
      exact ⟨rfl, rfl⟩
theorem checkB_up (p : Prm) : checkB p.doc p.dep p.many p.most = (upB 65536 p.doc && upB 64 p.dep && upB 64 p.many && upB 1024 p.most) := by
  unfold checkB upB
  simp only [Bool.and_assoc]
set_option maxRecDepth 100000 in
set_option maxHeartbeats 1000000 in
theorem check16_any (p : Prm) (w : World) : Calls Tryz.prog 12 #[prmV p] w fun e w' => e = .returned (.bool (checkB p.doc p.dep p.many p.most)) ∧ Below w.heap.size w w' := by
  rw [checkB_up]
  obtain ⟨p0, p1, p2, p3, p4, p5, p6, p7, p8, p9, p10⟩ := p
  have hb : ∀ c : Array Value, Below w.heap.size w (w.alloc (.cells c 23)) := fun c => (Below.refl _ _).alloc (Nat.le_refl _) _
  unfold prmV prmC
  simp only
  have k1 := fun W => upto16_any 65536 p1 W
  have k2 := fun W => upto16_any 64 p2 W
  have k3 := fun W => upto16_any 64 p4 W
  have k4 := fun W => upto16_any 1024 p5 W
  generalize upB 65536 p1 = b1 at k1 ⊢
  generalize upB 64 p2 = b2 at k2 ⊢
  generalize upB 64 p4 = b3 at k3 ⊢
  generalize upB 1024 p5 = b4 at k4 ⊢
  replace hb := Lib.hid hb
  replace k1 := Lib.hid k1
  replace k2 := Lib.hid k2
  replace k3 := Lib.hid k3
  replace k4 := Lib.hid k4
  cases b1
  · go_enter Tryz.func12, Tryz.ntmps12
    go_wp2_with (((with_reducible refine (k1.out _).mono ?_); rintro e w' ⟨rfl, rfl⟩))
    go_ret
    exact ⟨rfl, hb.out _⟩
  cases b2
  · go_enter Tryz.func12, Tryz.ntmps12
    go_wp2_with (first | ((with_reducible refine (k1.out _).mono ?_); rintro e w' ⟨rfl, rfl⟩) | ((with_reducible refine (k2.out _).mono ?_); rintro e w' ⟨rfl, rfl⟩))
    go_ret
    exact ⟨rfl, hb.out _⟩
  cases b3
  · go_enter Tryz.func12, Tryz.ntmps12
    go_wp2_with (first | ((with_reducible refine (k1.out _).mono ?_); rintro e w' ⟨rfl, rfl⟩) | ((with_reducible refine (k2.out _).mono ?_); rintro e w' ⟨rfl, rfl⟩) | ((with_reducible refine (k3.out _).mono ?_); rintro e w' ⟨rfl, rfl⟩))
    go_ret
    exact ⟨rfl, hb.out _⟩
  cases b4
  all_goals
    go_enter Tryz.func12, Tryz.ntmps12
    go_wp2_with (first | ((with_reducible refine (k1.out _).mono ?_); rintro e w' ⟨rfl, rfl⟩) | ((with_reducible refine (k2.out _).mono ?_); rintro e w' ⟨rfl, rfl⟩) | ((with_reducible refine (k3.out _).mono ?_); rintro e w' ⟨rfl, rfl⟩) | ((with_reducible refine (k4.out _).mono ?_); rintro e w' ⟨rfl, rfl⟩))
    go_ret
    exact ⟨rfl, hb.out _⟩
/-- A number that is wrapped once more. -/
def WrapPost (w : World) (q : Int) (n : Nat) (e : Ending) (w' : World) : Prop := ∃ f, e = .returned (faultV f) ∧ Chain w' q (n + 1) (faultV f) ∧ Below w.heap.size w w'
set_option maxRecDepth 100000 in
set_option maxHeartbeats 1000000 in
theorem fault16_bare (q : Int) (w : World) (hT : EnvT w) : Calls Tryz.prog 20 #[cdV q] w (WrapPost w q 0) := by
  obtain ⟨wf, hwf⟩ : ∃ wf, w.alloc (.cells #[.int .i64 0, cdV q] 40) = wf := ⟨_, rfl⟩
  obtain ⟨wa, hwa⟩ : ∃ wa, wf.alloc (.cells #[.pointer none] 38) = wa := ⟨_, rfl⟩
  have hf : FaultAt wf w.heap.size 0 (cdV q) := by rw [← hwf]; exact arrAt_new w _ [.int .i64 0, cdV q]
  have hbf : Below w.heap.size w wf := by rw [← hwf]; exact (Below.refl _ _).alloc (Nat.le_refl _) _
  have hba : Below wf.heap.size wf wa := by rw [← hwa]; exact (Below.refl _ _).alloc (Nat.le_refl _) _
  have hra : ArrAt wa wf.heap.size 38 [.pointer none] := by rw [← hwa]; exact arrAt_new wf _ [.pointer none]
  have hA := Lib.hid (as16_bare q wf.heap.size wa _ (hra.cell 0) (hT.below (hbf.andThen hba)))
  have hsf : wf.heap.size = w.heap.size + 1 := by rw [← hwf]; simp
  replace hwf := Lib.hid hwf
  replace hwa := Lib.hid hwa
  replace hf := Lib.hid (hf.below hba)
  have hb := Lib.hid (hbf.andThen hba)
  clear hra hbf hba hT
  replace hsf := Lib.hid hsf
  unfold cdV at hwf hA ⊢
  go_enter Tryz.func20, Tryz.ntmps20
  go_wp2_with fail
  try rw [hwf.out]
  try rw [hwa.out]
  try rw [← hsf.out]
  refine hA.out.mono ?_
  rintro e w1 ⟨rfl, hb1⟩
  replace hf := Lib.hid (hf.out.below hb1)
  replace hb := Lib.hid (hb.out.andThen hb1)
  clear hb1 hA
  go_wp2_with fail
  go_ret
  exact ⟨_, rfl, ⟨_, 0, _, rfl, hf.out, rfl⟩, hb.out⟩
set_option maxRecDepth 100000 in
set_option maxHeartbeats 1000000 in
theorem fault16_more (n : Nat) (f p : Nat) (u : Value) (q : Int) (w : World) (h : FaultAt w f p u) (hu : Chain w q n u) (hT : EnvT w) : Calls Tryz.prog 20 #[faultV f] w (WrapPost w q (n + 1)) := by
  obtain ⟨wf, hwf⟩ : ∃ wf, w.alloc (.cells #[.int .i64 0, faultV f] 40) = wf := ⟨_, rfl⟩
  obtain ⟨wa, hwa⟩ : ∃ wa, wf.alloc (.cells #[.pointer none] 38) = wa := ⟨_, rfl⟩
  have hf : FaultAt wf w.heap.size 0 (faultV f) := by rw [← hwf]; exact arrAt_new w _ [.int .i64 0, faultV f]
  have hbf : Below w.heap.size w wf := by rw [← hwf]; exact (Below.refl _ _).alloc (Nat.le_refl _) _
  have hba : Below wf.heap.size wf wa := by rw [← hwa]; exact (Below.refl _ _).alloc (Nat.le_refl _) _
  have hra : ArrAt wa wf.heap.size 38 [.pointer none] := by rw [← hwa]; exact arrAt_new wf _ [.pointer none]
  have hA := Lib.hid (as11_fault f wf.heap.size wa _ (hra.cell 0) (hra.soft 0) (hT.below (hbf.andThen hba)))
  have hsf : wf.heap.size = w.heap.size + 1 := by rw [← hwf]; simp
  have hfl : f < w.heap.size := ArrAt.lt h
  have hb := hbf.andThen hba
  have h0 := h.below hb
  replace hu := Lib.hid (show Chain w q (n + 1) (faultV f) from ⟨f, p, u, rfl, h, hu⟩)
  replace h0 := Lib.hid h0
  replace hwf := Lib.hid hwf
  replace hwa := Lib.hid hwa
  replace hf := Lib.hid (hf.below hba)
  replace hra := Lib.hid hra
  replace hb := Lib.hid hb
  clear hbf hba hT h
  replace hsf := Lib.hid hsf
  unfold faultV at hwf hA ⊢
  go_enter Tryz.func20, Tryz.ntmps20
  go_wp2_with fail
  try rw [hwf.out]
  try rw [hwa.out]
  try rw [← hsf.out]
  refine hA.out.mono ?_
  rintro e w' ⟨rfl, w1, hb1, rfl⟩
  have ha1 := (hra.out.next hb1).set 0 (.pointer (some ⟨f, 0, none⟩))
  have hf1 : ArrAt (w1.setCell ⟨wf.heap.size, 0, none⟩ (.pointer (some ⟨f, 0, none⟩))) w.heap.size 40 [.int .i64 (0 : Nat), faultV f] := ArrAt.far (hf.out.below hb1) 0 _ (by rw [hsf.out]; omega)
  have h01 : ArrAt (w1.setCell ⟨wf.heap.size, 0, none⟩ (.pointer (some ⟨f, 0, none⟩))) f 40 [.int .i64 p, u] := ArrAt.far (h0.out.below hb1) 0 _ (by rw [hsf.out]; omega)
  have hbs : Below w.heap.size w (w1.setCell ⟨wf.heap.size, 0, none⟩ (.pointer (some ⟨f, 0, none⟩))) := (hb.out.andThen hb1).setCell (p := ⟨wf.heap.size, 0, none⟩) (by rw [hsf.out]; simp) _
  generalize w1.setCell ⟨wf.heap.size, 0, none⟩ (.pointer (some ⟨f, 0, none⟩)) = w2 at ha1 hf1 h01 hbs
  have a0 := ha1.cell 0
  have f0 := hf1.cell 0
  have f1 := hf1.soft 0
  have g0 := h01.cell 0
  simp only [List.set_cons_zero, List.getElem?_cons_zero] at a0 f0 g0
  have hend : Hid (FaultAt (w2.setCell ⟨w.heap.size, 0, none⟩ (.int .i64 p)) w.heap.size p (faultV f)) := Lib.hid (by
    have := hf1.set 0 (.int .i64 p)
    simp only [List.set_cons_zero] at this
    exact this)
  have hbe := Lib.hid (hbs.setCell (p := ⟨w.heap.size, 0, none⟩) (Nat.le_refl _) (.int .i64 p))
  clear hA hb1 h0 hf hra hb ha1 hf1 h01 hbs
  go_wp2_with fail
  go_ret
  exact ⟨_, rfl, ⟨_, p, _, rfl, hend.out, hu.out.below hbe.out⟩, hbe.out⟩
theorem fault16_any (n : Nat) (v : Value) (q : Int) (w : World) (h : Chain w q n v) (hT : EnvT w) : Calls Tryz.prog 20 #[v] w (WrapPost w q n) := by
  cases n with
  | zero =>
    have e : v = cdV q := h
    subst e
    exact fault16_bare q w hT
  | succ n =>
    obtain ⟨f, p, u, rfl, h1, h2⟩ := h
    exact fault16_more n f p u q w h1 h2 hT
end Go.Proofs.YtkgjbamkinfmeaaGreatDoor
