/- The walk of layer 9's reference: New. -/
import Derived.Test.YtkegealaagphgaaD09f
import Derived.Test.YtkegealaagphgaaNi
namespace Go.Proofs.Ytkegealaagphgaa
open Go.RowKit

def RNewPost9 (w : World) (n : Nat) (e : Ending) (w' : World) : Prop :=
  ∃ Y h, e = .returned (.pointer (some ⟨Y, 0, none⟩)) ∧ RfAt w' Y h n (fun i => i) ∧ (w.heap.size ≤ Y ∧ w.heap.size ≤ h) ∧ Below w.heap.size w w'
/-- The numbers below k. -/
def upL (k : Nat) : List Value := (List.range k).map fun i : Nat => .int .i64 i
theorem upL_succ (k : Nat) : upL (k + 1) = upL k ++ [.int .i64 k] := by simp [upL, List.range_succ]
/-- What the loop of New keeps. -/
structure RNewAt (w wr : World) (Y k : Nat) (v : Value) : Prop where
  cells : ArrAt wr Y 45 [v]
  own : wr.ownsRow w.heap.size 3 1 v k (upL k)
  low : w.heap.size ≤ Y
  below : Below w.heap.size w wr
theorem RNewAt.fin {w wr : World} {Y n : Nat} {v : Value} (h : RNewAt w wr Y n v) (hn : n ≤ 1048576) : RNewPost9 w n (.returned (.pointer (some ⟨Y, 0, none⟩))) wr := by
  have hY := h.cells.lt
  rcases Nat.eq_zero_or_pos n with h0 | h0
  · subst h0
    obtain ⟨a, c, rfl⟩ : ∃ a c, v = .slice a 0 c := by
      rcases h.own.2 with ⟨hv, _⟩ | ⟨g, cap, cur, hv, _⟩
      · exact ⟨_, _, hv⟩
      · exact ⟨_, _, hv⟩
    exact ⟨Y, Y, rfl, ⟨Nat.zero_le _, Lab.start 0, hY, hY, Or.inl ⟨rfl, a, c, h.cells⟩⟩, ⟨h.low, h.low⟩, h.below⟩
  · have hl := h.own.lt
    rcases id h.own.2 with ⟨_, e⟩ | ⟨g, cap, cur, rfl, hb, hg, hnc, _, hcs, htk⟩
    · omega
    · have hgl := (hl g rfl).2
      refine ⟨Y, g, rfl, ⟨hn, Lab.start n, hY, hgl, Or.inr ⟨h0, cap, fun i => i, ⟨h.cells, hnc, cur.toList, by unfold ArrAt; simpa using hg, by simp only [Array.length_toList]; omega, fun i hi => ?_⟩, Alike.start n⟩⟩, ⟨h.low, hb⟩, h.below⟩
      have e : (cur.toList.take (n * 1))[i]? = (upL n)[i]? := by rw [htk]
      rw [List.getElem?_take, if_pos (by omega)] at e
      rw [e]
      simp [upL, hi]
theorem own_arr_apart {w : World} {B n z g : Nat} {E t : TypeId} {v : Value} {xs c : List Value} (h : w.ownsRow B E z v n xs) (ha : ArrAt w g t c) (ht : t ≠ E) : v.ownBlock ≠ some g := fun e => by
  obtain ⟨cur, h1⟩ := own_heap h e
  unfold ArrAt at ha
  rw [ha] at h1
  injection h1 with h1
  injection h1 with _ h1
  exact ht h1
theorem RNewAt.next {w wr w2 : World} {Y k : Nat} {v v2 : Value} (h : RNewAt w wr Y k v) (ho : w2.ownsRow w.heap.size 3 1 v2 (k + 1) (upL k ++ [.int .i64 k])) (hg : wr.grownBy w2 v.ownBlock) (hb : Below w.heap.size wr w2) :
    w2.cell? ⟨Y, 0, none⟩ = some v ∧ w2.frozen? ⟨Y, 0, none⟩ = false ∧ RNewAt w (w2.setCell ⟨Y, 0, none⟩ v2) Y (k + 1) v2 := by
  have hc := h.cells.grown hg (fun e => own_arr_apart h.own h.cells (by decide) e.symm)
  refine ⟨by rw [hc.cell]; rfl, hc.soft 0, hc.set 0 v2, ?_, h.low, (h.below.trans hb).setCell (p := ⟨Y, 0, none⟩) h.low _⟩
  rw [upL_succ]
  exact ownsRow_turned ho (turned_setCell w2 ⟨Y, 0, none⟩ v2) fun b e hS => own_arr_apart ho hc (by decide) (by rw [e, show b = Y from hS])
set_option maxHeartbeats 1000000 in
theorem rnew9_yes (n : Nat) (w : World) (hn : n ≤ 1048576) : Calls Try.prog 8 #[.int .i64 n] w (RNewPost9 w n) := by
  have hst : Hid (RNewAt w (w.alloc (.cells #[.slice none 0 0] 45)) w.heap.size 0 (.slice none 0 0)) :=
    ⟨arrAt_new w _ _, World.ownsRow_nil _ _ _ _, Nat.le_refl _, (Below.refl _ _).alloc (Nat.le_refl _) _⟩
  have hn2 : (n : Int) ≤ 1048576 := by omega
  go_enter Try.func8, Try.ntmps8
  go_wp2_with fail
  go_loopw [4] (fun i wr => ∃ (k : Nat) (v : Value), i = .int .i64 k ∧ k ≤ n ∧ Hid (RNewAt w wr w.heap.size k v)) (fun i _ => n - (intOf i).toNat)
  case atStart => exact ⟨0, _, rfl, Nat.zero_le _, hst.out⟩
  case round =>
    clear hst
    obtain ⟨k, v, rfl, hk, hr⟩ := hrel
    by_cases hlt : k < n
    · have c0 : wr.cell? ⟨w.heap.size, 0, none⟩ = some v := by rw [hr.out.cells.cell]; rfl
      have k0 : (0 : Int) ≤ k := by omega
      have k1 : (k : Int) < n := by omega
      have hsz := hr.out.below.size
      have hYl := hr.out.cells.lt
      go_wp2_with (at_builtin; go_must (refine wpList_append1 rfl _ _ 37 3 rfl Try.underlying37 (.int .i64 0) 8 info_int rfl (by decide) w.heap.size _ k _ (.int .i64 k) hr.out.own rfl rfl rfl (by omega) (by omega) ?_))
      intro v2 w2 ho2 hb2 hg2
      obtain ⟨a2, c2, rfl⟩ := own_form ho2
      obtain ⟨c1, f1, hn1⟩ := hr.out.next ho2 hg2 hb2
      replace hn1 := Lib.hid hn1
      clear ho2 hg2 hb2 hr c0
      go_wp2_with fail
      exact ⟨⟨k + 1, _, by go_num, hlt, hn1.out⟩, by simp [intOf]; omega⟩
    · obtain rfl : k = n := by omega
      have hke : ¬ ((k : Int) < k) := by omega
      have hfin := Lib.hid (hr.out.fin hn)
      clear hr
      go_wp2_with fail
      go_ret
      exact hfin.out
end Go.Proofs.Ytkegealaagphgaa
