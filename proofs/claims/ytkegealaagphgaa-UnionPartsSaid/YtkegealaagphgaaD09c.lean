/- The walk of layer 9's New. -/
import Derived.Test.YtkegealaagphgaaD09b
namespace Go.Proofs.Ytkegealaagphgaa
open Go.RowKit

def NewPost9 (w : World) (n : Nat) (e : Ending) (w' : World) : Prop :=
  ∃ X g, e = .returned (.pointer (some ⟨X, 0, none⟩)) ∧ UfAt w' X g n (fun i => i) ∧ (w.heap.size ≤ X ∧ w.heap.size ≤ g) ∧ Below w.heap.size w w'
theorem new9_fin {w wr : World} {n : Nat} {U L : Nat → Nat} {T : Nat → Int} (h : NodeRow wr w.heap.size n U T L) (hU : ∀ i, i < n → U i = i) (hL : ∀ i, i < n → L i = i) (hn : n ≤ 1048576) (hb : Below w.heap.size w wr) :
    NewPost9 w n (.returned (.pointer (some ⟨wr.heap.size, 0, none⟩))) (wr.alloc (.cells #[.slice (some ⟨w.heap.size, 0, none⟩) n n] 41)) := by
  have hl := h.lt
  refine ⟨wr.heap.size, w.heap.size, rfl, ⟨hn, Lab.start n, by simp, by simp; omega, ?_⟩, ⟨hb.size, Nat.le_refl _⟩, hb.alloc hb.size _⟩
  rcases Nat.eq_zero_or_pos n with h0 | h0
  · subst h0
    exact Or.inl ⟨rfl, _, _, arrAt_new wr _ _⟩
  · refine Or.inr ⟨h0, U, T, L, fun i => i, fun _ => 0, ⟨arrAt_new wr _ _, ?_⟩, ?_⟩
    · exact h.turned (S := fun _ => False) (Turned.of_below ((Below.refl _ _).alloc (Nat.le_refl _) _)) fun h => h
    · exact ⟨fun i hi => by rw [hU i hi]; exact hi, fun i hi => hU i hi, fun _ _ _ => rfl, fun _ h => h, fun i hi => hU i hi, fun i hi h => absurd (hU i hi) h, fun i hi => hL i hi, fun _ _ _ _ h => h, Lab.start n⟩
theorem node_zero (w : World) (n : Nat) : NodeRow (w.alloc (.cells (List.replicate (n * 3) (.int .i64 0)).toArray 43)) w.heap.size n (fun i => if i < 0 then i else 0) (fun _ => 0) (fun i => if i < 0 then i else 0) := by
  refine ⟨_, arrAt_new w _ _, by simp, fun i hi => ?_⟩
  rw [List.getElem?_replicate, List.getElem?_replicate, List.getElem?_replicate, if_pos (by omega), if_pos (by omega), if_pos (by omega)]
  exact ⟨rfl, rfl, rfl⟩
theorem new9_no (x : Int) (w : World) (hx : x < 0 ∨ 1048576 < x) : Calls Try.prog 7 #[.int .i64 x] w (NewPost9 w 0) := by
  have hfin : Hid (NewPost9 w 0 (.returned (.pointer (some ⟨w.heap.size, 0, none⟩))) (w.alloc (.cells #[.slice none 0 0] 41))) := by
    refine ⟨w.heap.size, w.heap.size, rfl, ⟨Nat.zero_le _, Lab.start 0, by simp, by simp, Or.inl ⟨rfl, _, _, arrAt_new w _ _⟩⟩, ⟨Nat.le_refl _, Nat.le_refl _⟩, (Below.refl _ _).alloc (Nat.le_refl _) _⟩
  by_cases h0 : x < 0
  · clear hx
    go_enter Try.func7, Try.ntmps7
    go_wp2_with fail
    go_ret
    exact hfin.out
  · have h1 : 1048576 < x := by omega
    clear hx
    go_enter Try.func7, Try.ntmps7
    go_wp2_with fail
    go_ret
    exact hfin.out
theorem upto_more (k : Nat) : updN (fun i => if i < k then i else 0) k k = (fun i => if i < k + 1 then i else 0) ∧ updN (fun _ : Nat => (0 : Int)) k 0 = fun _ => 0 := by
  constructor
  · funext i
    unfold updN
    by_cases e : i = k
    · rw [if_pos e, if_pos (by omega), e]
    · rw [if_neg e]
      show (if i < k then i else 0) = _
      by_cases h : i < k
      · rw [if_pos h, if_pos (by omega)]
      · rw [if_neg h, if_neg (by omega)]
  · funext i
    unfold updN
    split <;> rfl
set_option maxHeartbeats 1000000 in
theorem new9_yes (n : Nat) (w : World) (hn : n ≤ 1048576) : Calls Try.prog 7 #[.int .i64 n] w (NewPost9 w n) := by
  have hmk := fun W => run_make_nodes n n rfl hn W
  have hz := Lib.hid (node_zero w n)
  have hb0 := Lib.hid ((Below.refl w.heap.size w).alloc (Nat.le_refl _) (.cells (List.replicate (n * 3) (.int .i64 0)).toArray 43))
  have h0 : ¬ ((n : Int) < 0) := by omega
  have h1 : ¬ (1048576 < (n : Int)) := by omega
  generalize hE : (List.replicate (n * 3) (Value.int .i64 0)).toArray = E at hmk hz hb0
  clear hE
  go_enter Try.func7, Try.ntmps7
  go_wp2_with fail
  go_loopw [17] (fun i wr => ∃ k : Nat, i = .int .i64 k ∧ k ≤ n ∧ Hid (NodeRow wr w.heap.size n (fun i => if i < k then i else 0) (fun _ => 0) (fun i => if i < k then i else 0)) ∧ Hid (Below w.heap.size w wr)) (fun i _ => n - (intOf i).toNat)
  case atStart => exact ⟨0, rfl, Nat.zero_le _, hz.out, hb0.out⟩
  case round =>
    clear hz hb0 hmk
    obtain ⟨k, rfl, hk, hr, hb⟩ := hrel
    by_cases hlt : k < n
    · obtain ⟨c0, c1, c2⟩ := hr.out.at hlt
      have f0 := hr.out.soft (k * 3)
      have f1 := hr.out.soft (k * 3 + 1)
      have f2 := hr.out.soft (k * 3 + 2)
      have k0 : (0 : Int) ≤ k := by omega
      have k1 : (k : Int) < n := by omega
      go_wp2_with fail
      obtain ⟨e1, e2⟩ := upto_more k
      have h1 := ((hr.out.setU hlt k).setT hlt 0).setL hlt k
      rw [e1, e2] at h1
      exact ⟨⟨k + 1, by go_num, hlt, h1, ((hb.out.setCell (p := ⟨w.heap.size, k * 3, none⟩) (Nat.le_refl _) _).setCell (p := ⟨w.heap.size, k * 3 + 1, none⟩) (Nat.le_refl _) _).setCell (p := ⟨w.heap.size, k * 3 + 2, none⟩) (Nat.le_refl _) _⟩, by simp [intOf]; omega⟩
    · have hke : ¬ ((k : Int) < n) := by omega
      have hfin := Lib.hid (new9_fin hr.out (fun i hi => if_pos (by omega)) (fun i hi => if_pos (by omega)) hn hb.out)
      clear hr hb
      go_wp2_with fail
      go_ret
      exact hfin.out
end Go.Proofs.Ytkegealaagphgaa
