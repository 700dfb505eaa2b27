/- Layer 16: Code: the number that is wrapped. -/
import Derived.Test.YtkgjbamkinfmeaaGreatDoorD16b
namespace Go.Proofs.YtkgjbamkinfmeaaGreatDoor
open Go.RowKit

/-- What is deferred, of a call that returns: nothing is recovered. -/
theorem idle16_any (p : Addr) (w : World) : CallsD Tryz.prog 27 #[.pointer (some p)] .returning w fun e u' w' => e = .returned (.tuple #[]) ∧ u' = .returning ∧ w' = w := by
  refine callsD_of_wpS Tryz.func27 rfl fun c₀ cs hu => ?_
  apply wpS_seq
  apply wpS_region
  simp [wpOpsS, go_sem, recoverD, hu, Tryz.ntmps27, Exit.thenS]
  refine wpS_cond (t := false) (by simp [Act.eval, Array.replicate]) ?_
  simp only [Bool.false_eq_true, if_false]
  refine wpS_of_wp (wp_skip ?_)
  cases c₀
  simp_all [bodyPostS, results, Tryz.results27]
theorem code16_nil (w : World) : Calls Tryz.prog 16 #[.nilIface] w fun e w' => e = .returned (.int .i64 0) ∧ Below w.heap.size w w' := by
  have hb : Below w.heap.size w (w.alloc (.cells #[.int .i64 0] 30)) := (Below.refl _ _).alloc (Nat.le_refl _) _
  replace hb := Lib.hid hb
  go_enter_defers Tryz.func16, Tryz.ntmps16
  go_wp2_with fail
  simp [bodyPostD, Leaves, results, Tryz.results16, go_sem]
  exact hb.out
set_option maxRecDepth 100000 in
set_option maxHeartbeats 1000000 in
theorem code16_any (n : Nat) (v : Value) (x : Int) (w : World) (h : Chain w x n v) (hn : n ≤ 1000000) (hT : EnvT w) :
    Calls Tryz.prog 16 #[v] w fun e w' => e = .returned (.int .i64 x) ∧ Below w.heap.size w w' := by
  have hmf : ∀ (fn : Fn) (first cap : Array Value) (w : World), (Instr.makeFunc fn first cap).run Tryz.prog w = .ok (.func fn first cap) w := fun _ _ _ _ => rfl
  have hnil := eq_nil16
  obtain ⟨T, y, rfl⟩ := h.form
  have hb0 : Below w.heap.size w (w.alloc (.cells #[.int .i64 0] 30)) := (Below.refl _ _).alloc (Nat.le_refl _) _
  have hr0 := arrAt_new w 30 [.int .i64 0]
  have hE := Lib.hid (ends16_any n _ x _ (h.below hb0) hn)
  replace h := Lib.hid h
  replace hT := Lib.hid hT
  replace hb0 := Lib.hid hb0
  replace hr0 := Lib.hid hr0
  go_enter_defers Tryz.func16, Tryz.ntmps16
  go_wp2_with fail
  refine hE.out.mono ?_
  rintro e w1 ⟨rfl, hb1⟩
  have hb2 := hb0.out.andThen hb1
  have hr1 := hr0.out.next hb1
  have hA := Lib.hid (as16_any n _ x w.heap.size w1 _ (h.out.below hb2) (hr1.cell 0) (hr1.soft 0) (hT.out.below hb2))
  replace hr1 := Lib.hid hr1
  replace hb2 := Lib.hid hb2
  clear hE hb1 hr0 hb0
  go_wp2_with fail
  refine hA.out.mono ?_
  rintro e w2 ⟨rfl, w3, hb3, rfl⟩
  have hr3 := (hr1.out.next hb3).set 0 (.int .i64 x)
  have c0 := hr3.cell 0
  have c1 := hr3.soft 0
  have hr4 := hr3.set 0 (.int .i64 x)
  have c2 := hr4.cell 0
  simp only [List.set_cons_zero, List.getElem?_cons_zero] at c0 c2
  have hb4 := Lib.hid ((hb2.out.andThen hb3).setCell (p := ⟨w.heap.size, 0, none⟩) (Nat.le_refl _) (.int .i64 x))
  have hb5 := Lib.hid (hb4.out.setCell (p := ⟨w.heap.size, 0, none⟩) (Nat.le_refl _) (.int .i64 x))
  clear hA hr1 hb2 hb3 hr3 hr4
  go_wp2_with fail
  refine leaves_cons (f := 27) (args := #[.pointer (some ⟨w.heap.size, 0, none⟩)]) (by simp) (by simp [go_sem]) ?_
  refine (idle16_any _ _).mono ?_
  rintro e u' w'' ⟨rfl, rfl, rfl⟩
  simp [Leaves, settle, results, Tryz.results16, go_sem, c2]
  exact hb5.out
end Go.Proofs.YtkgjbamkinfmeaaGreatDoor
