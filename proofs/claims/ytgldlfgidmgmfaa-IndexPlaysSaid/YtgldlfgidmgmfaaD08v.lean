/- Layer 8's reference: Add. -/
import Derived.Test.YtgldlfgidmgmfaaD08u
namespace Go.Proofs.Ytgldlfgidmgmfaa
open Go.RowKit
variable {w : World} {B Y d : Nat} {L : List (Int × Int)} {v : Value}

set_option maxHeartbeats 1000000 in
set_option maxRecDepth 100000 in
theorem refadd_mid {g cap k : Nat} {id s : Int} (h : RefAt w B Y d L (.slice (some ⟨g, 0, none⟩) L.length cap)) (hcap : L.length ≤ cap) (hcm : cap ≤ 9223372036854775807) (hm : L.length < 50000) (hpos : posL L id = k) (hnk : k < L.length) {x : Int} (hx : w.cell? ⟨g, k * 2, none⟩ = some (.int .i64 x)) (hxi : (x == id) = false) (hne : Calls Try.prog 30 #[.pointer (some ⟨Y, 0, none⟩), .int .i64 id] w fun e w' => e = .returned (.int .i64 (k : Nat)) ∧ w = w') :
    Calls Try.prog 12 #[.pointer (some ⟨Y, 0, none⟩), .int .i64 id, .int .u64 s] w (AddRPost B Y d (addL L id s) w) := by
  have c1 := h.c1
  have k0 : (0 : Int) ≤ k := by omega
  have k1 : (k : Int) ≤ cap := by omega
  have k4 : k ≤ L.length := by omega
  have k2 : (k : Int) < L.length := by omega
  have k3 : ¬ cap = k := by omega
  replace hpos := Lib.hid hpos
  have hkeep := Lib.hid (fun w' (hb : Below w.heap.size w w') => h.kept hb)
  replace h := Lib.hid h
  replace hne := Lib.hid hne
  go_enter Try.func12, Try.ntmps12
  go_wp2_with (go_at_call 30; refine hne.out.mono ?_; rintro e w' ⟨rfl, rfl⟩)
  refine zgo_begin 23 (fun w' => w'.cell? ⟨Y, 1, none⟩ = some (.slice (some ⟨g, 0, none⟩) L.length cap) ∧ w'.frozen? ⟨Y, 1, none⟩ = false ∧ Hid (RefAt w' B Y d L (.slice (some ⟨g, 0, none⟩) L.length cap)) ∧ Hid (Below w.heap.size w w')) (by kernel_rfl) (hkeep.out _ (Drawn.below ⟨1, rfl⟩ _)) ?_
  intro hHeld
  refine zgo_take 0 (v := ?_) rfl (by kernel_rfl) (by kernel_rfl) (by kernel_rfl) (by kernel_rfl) (fun _ _ _ h => h) (by rfl) ?_ (by assumption) ?_
  rotate_left
  · (intro w hSw; (try dsimp only at hSw); go_simp; all_goals (with_reducible rfl))
  try simp only [Act.put, List.setIfInBounds_toArray, List.set_cons_zero, List.set_cons_succ]
  refine zgo_take 2 (v := ?_) rfl (by kernel_rfl) (by kernel_rfl) (by kernel_rfl) (by kernel_rfl) (fun _ _ _ h => h) (by rfl) ?_ (by assumption) ?_
  rotate_left
  · (intro w hSw; (try dsimp only at hSw); go_simp; all_goals (with_reducible rfl))
  try simp only [Act.put, List.setIfInBounds_toArray, List.set_cons_zero, List.set_cons_succ]
  refine zgo_take 3 (v := ?_) rfl (by kernel_rfl) (by kernel_rfl) (by kernel_rfl) (by kernel_rfl) (fun _ _ _ h => h) (by rfl) ?_ (by assumption) ?_
  rotate_left
  · (intro w hSw; (try dsimp only at hSw); go_simp; all_goals (with_reducible rfl))
  try simp only [Act.put, List.setIfInBounds_toArray, List.set_cons_zero, List.set_cons_succ]
  refine zgo_take 4 (v := ?_) rfl (by kernel_rfl) (by kernel_rfl) (by kernel_rfl) (by kernel_rfl) (fun _ _ _ h => h) (by rfl) ?_ (by assumption) ?_
  rotate_left
  · (intro w hSw; (try dsimp only at hSw); go_simp; all_goals (with_reducible rfl))
  try simp only [Act.put, List.setIfInBounds_toArray, List.set_cons_zero, List.set_cons_succ]
  refine zgo_take 5 (v := ?_) rfl (by kernel_rfl) (by kernel_rfl) (by kernel_rfl) (by kernel_rfl) (fun _ _ _ h => h) (by rfl) ?_ (by assumption) ?_
  rotate_left
  · (intro w hSw; (try dsimp only at hSw); go_simp; all_goals (with_reducible rfl))
  try simp only [Act.put, List.setIfInBounds_toArray, List.set_cons_zero, List.set_cons_succ]
  refine zgo_take 6 (v := ?_) rfl (by kernel_rfl) (by kernel_rfl) (by kernel_rfl) (by kernel_rfl) (fun _ _ _ h => h) (by rfl) ?_ (by assumption) ?_
  rotate_left
  · (intro w hSw; (try dsimp only at hSw); go_simp; all_goals (with_reducible rfl))
  try simp only [Act.put, List.setIfInBounds_toArray, List.set_cons_zero, List.set_cons_succ]
  refine zgo_take 7 (v := ?_) rfl (by kernel_rfl) (by kernel_rfl) (by kernel_rfl) (by kernel_rfl) (fun _ _ _ h => h) (by rfl) ?_ (by assumption) ?_
  rotate_left
  · (intro w hSw; (try dsimp only at hSw); go_simp; all_goals (with_reducible rfl))
  try simp only [Act.put, List.setIfInBounds_toArray, List.set_cons_zero, List.set_cons_succ]
  refine zgo_take 9 (v := ?_) rfl (by kernel_rfl) (by kernel_rfl) (by kernel_rfl) (by kernel_rfl) (fun _ _ _ h => h) (by rfl) ?_ (by assumption) ?_
  rotate_left
  · (intro w hSw; (try dsimp only at hSw); go_simp; all_goals (with_reducible rfl))
  try simp only [Act.put, List.setIfInBounds_toArray, List.set_cons_zero, List.set_cons_succ]
  refine zgo_take 10 (v := ?_) rfl (by kernel_rfl) (by kernel_rfl) (by kernel_rfl) (by kernel_rfl) (fun _ _ _ h => h) (by rfl) ?_ (by assumption) ?_
  rotate_left
  · (intro w hSw; (try dsimp only at hSw); go_simp; all_goals (with_reducible rfl))
  try simp only [Act.put, List.setIfInBounds_toArray, List.set_cons_zero, List.set_cons_succ]
  refine zgo_take 11 (v := ?_) rfl (by kernel_rfl) (by kernel_rfl) (by kernel_rfl) (by kernel_rfl) (fun _ _ _ h => h) (by rfl) ?_ (by assumption) ?_
  rotate_left
  · (intro w hSw; (try dsimp only at hSw); go_simp; all_goals (with_reducible rfl))
  try simp only [Act.put, List.setIfInBounds_toArray, List.set_cons_zero, List.set_cons_succ]
  refine zgo_take 14 (v := ?_) rfl (by kernel_rfl) (by kernel_rfl) (by kernel_rfl) (by kernel_rfl) (fun _ _ _ h => h) (by rfl) ?_ (by assumption) ?_
  rotate_left
  · (intro w hSw; (try dsimp only at hSw); go_simp; all_goals (with_reducible rfl))
  try simp only [Act.put, List.setIfInBounds_toArray, List.set_cons_zero, List.set_cons_succ]
  refine zgo_take 15 (v := ?_) rfl (by kernel_rfl) (by kernel_rfl) (by kernel_rfl) (by kernel_rfl) (fun _ _ _ h => h) (by rfl) ?_ (by assumption) ?_
  rotate_left
  · (intro w hSw; (try dsimp only at hSw); go_simp; all_goals (with_reducible rfl))
  try simp only [Act.put, List.setIfInBounds_toArray, List.set_cons_zero, List.set_cons_succ]
  refine zgo_take 16 (v := ?_) rfl (by kernel_rfl) (by kernel_rfl) (by kernel_rfl) (by kernel_rfl) (fun _ _ _ h => h) (by rfl) ?_ (by assumption) ?_
  rotate_left
  · (intro w hSw; (try dsimp only at hSw); go_simp; all_goals (with_reducible rfl))
  try simp only [Act.put, List.setIfInBounds_toArray, List.set_cons_zero, List.set_cons_succ]
  refine zgo_take 17 (v := ?_) rfl (by kernel_rfl) (by kernel_rfl) (by kernel_rfl) (by kernel_rfl) (fun _ _ _ h => h) (by rfl) ?_ (by assumption) ?_
  rotate_left
  · (intro w hSw; (try dsimp only at hSw); go_simp; all_goals (with_reducible rfl))
  try simp only [Act.put, List.setIfInBounds_toArray, List.set_cons_zero, List.set_cons_succ]
  refine zgo_take 18 (v := ?_) rfl (by kernel_rfl) (by kernel_rfl) (by kernel_rfl) (by kernel_rfl) (fun _ _ _ h => h) (by rfl) ?_ (by assumption) ?_
  rotate_left
  · (intro w hSw; (try dsimp only at hSw); go_simp; all_goals (with_reducible rfl))
  try simp only [Act.put, List.setIfInBounds_toArray, List.set_cons_zero, List.set_cons_succ]
  refine zgo_take 19 (v := ?_) rfl (by kernel_rfl) (by kernel_rfl) (by kernel_rfl) (by kernel_rfl) (fun _ _ _ h => h) (by rfl) ?_ (by assumption) ?_
  rotate_left
  · (intro w hSw; (try dsimp only at hSw); go_simp; all_goals (with_reducible rfl))
  try simp only [Act.put, List.setIfInBounds_toArray, List.set_cons_zero, List.set_cons_succ]
  refine zgo_ready [1, 12] (by kernel_rfl) (by simp) ?_
  refine ZAll.cons rfl (fun K hK => ?_) (ZAll.cons rfl (fun K hK => ?_) ZAll.nil)
  · go_simp
    refine hide_world (R := fun w' => ArrAt w' w.heap.size 63 [] ∧ Below w.heap.size w w' ∧ Below w.heap.size w w') (new_in_drew 63 [] (Below.refl _ _) (Nat.le_refl _)) ?_
    intro w1 hw1
    refine hK.out _ _ (hkeep.out _ (hw1.out.2.1)) (fun hHeld => ?_)
    clear hK K
    try simp only [Act.put, List.setIfInBounds_toArray, List.set_cons_zero, List.set_cons_succ]
    refine zgo_ready [8, 12] (by kernel_rfl) (by simp) ?_
    refine ZAll.cons rfl (fun K hK => ?_) (ZAll.cons rfl (fun K hK => ?_) ZAll.nil)
    · refine step_append_part rfl _ _ 53 rfl w.heap.size 63 (.agg #[.int .i64 0, .int .u64 0]) 2 16 Try.underlying53 info_p rfl (by decide) (.slice (some ⟨w.heap.size, 0, none⟩) 0 0) 0 [] rfl (empty_own hw1.out.1 (Nat.le_refl _)) (some ⟨g, 0, none⟩) k cap (cellsP (L.take k)) rfl (by rw [cellsP_len, List.length_take]; omega) ((h.out.below (hw1.out.2.1)).front k k4) (cellsP_one _) (k) (by omega) (by unfold maxLen; omega) (by omega) (by have := (hw1.out.2.1).size; omega) ?_
      intro aw2 cw2 w2 how2 hbw2 hgw2
      have hbw2' := Lib.hid ((hw1.out.2.1).trans hbw2.out)
      refine hK.out _ _ (hkeep.out _ (hbw2'.out)) (fun hHeld => ?_)
      clear hK K
      try simp only [Act.put, List.setIfInBounds_toArray, List.set_cons_zero, List.set_cons_succ]
      refine zgo_ready [12] (by kernel_rfl) (by simp) ?_
      refine ZAll.cons rfl (fun K hK => ?_) ZAll.nil
      go_simp
      refine hide_world (R := fun w' => ArrAt w' w2.heap.size 63 [.int .i64 id, .int .u64 s] ∧ Below w.heap.size w w' ∧ Below w2.heap.size w2 w') (new_in 63 [.int .i64 id, .int .u64 s] (hbw2'.out) (hbw2'.out.size)) ?_
      intro w3 hw3
      refine hK.out _ _ (hkeep.out _ (hw3.out.2.1)) (fun hHeld => ?_)
      clear hK K
      try simp only [Act.put, List.setIfInBounds_toArray, List.set_cons_zero, List.set_cons_succ]
      refine zgo_ready [13] (by kernel_rfl) (by simp) ?_
      refine ZAll.cons rfl (fun K hK => ?_) ZAll.nil
      refine step_append_part rfl _ _ 53 rfl w.heap.size 63 (.agg #[.int .i64 0, .int .u64 0]) 2 16 Try.underlying53 info_p rfl (by decide) (.slice aw2 k cw2) k (cellsP (L.take k)) rfl (ownsRow_below how2.out hw3.out.2.2) (some ⟨w2.heap.size, 0, none⟩) 1 1 [.int .i64 id, .int .u64 s] rfl (rfl) (part_one (hw3.out.1)) (one_p id s) (k + 1) (by omega) (by unfold maxLen; omega) (by omega) (by have := (hw3.out.2.1).size; omega) ?_
      intro aw5 cw5 w5 how5 hbw5 hgw5
      have hbw5' := Lib.hid ((hw3.out.2.1).trans hbw5.out)
      refine hK.out _ _ (hkeep.out _ (hbw5'.out)) (fun hHeld => ?_)
      clear hK K
      try simp only [Act.put, List.setIfInBounds_toArray, List.set_cons_zero, List.set_cons_succ]
      refine zgo_ready [20] (by kernel_rfl) (by simp) ?_
      refine ZAll.cons rfl (fun K hK => ?_) ZAll.nil
      refine step_append_part rfl _ _ 53 rfl w.heap.size 63 (.agg #[.int .i64 0, .int .u64 0]) 2 16 Try.underlying53 info_p rfl (by decide) (.slice aw5 (k + 1) cw5) (k + 1) ((cellsP (L.take k)) ++ [.int .i64 id, .int .u64 s]) rfl (how5.out) (some ⟨g, k * 2, none⟩) (L.length - k) (cap - k) (cellsP (L.drop k)) rfl (by rw [cellsP_len, List.length_drop]) ((h.out.below (hbw5'.out)).back k k4) (cellsP_one _) (L.length + 1) (by omega) (by unfold maxLen; omega) (by omega) (by have := (hbw5'.out).size; omega) ?_
      intro aw6 cw6 w6 how6 hbw6 hgw6
      have hbw6' := Lib.hid ((hbw5'.out).trans hbw6.out)
      refine hK.out _ _ (hkeep.out _ (hbw6'.out)) (fun hHeld => ?_)
      clear hK K
      try simp only [Act.put, List.setIfInBounds_toArray, List.set_cons_zero, List.set_cons_succ]
      refine zgo_take 21 (v := ?_) rfl (by kernel_rfl) (by kernel_rfl) (by kernel_rfl) (by kernel_rfl) (fun _ _ _ h => h) (by rfl) ?_ (by assumption) ?_
      rotate_left
      · (intro w hSw; (try dsimp only at hSw); go_simp; all_goals (with_reducible rfl))
      try simp only [Act.put, List.setIfInBounds_toArray, List.set_cons_zero, List.set_cons_succ]
      refine zgo_take 22 (v := ?_) rfl (by kernel_rfl) (by kernel_rfl) (by kernel_rfl) (by kernel_rfl) (fun _ _ _ h => h) (by rfl) ?_ (by assumption) ?_
      rotate_left
      · (intro w hSw; (try dsimp only at hSw); go_simp; all_goals (with_reducible rfl))
      try simp only [Act.put, List.setIfInBounds_toArray, List.set_cons_zero, List.set_cons_succ]
      refine zgo_last (by kernel_rfl) (by kernel_rfl) rfl (fun K hK => ?_)
      go_simp
      refine hK.out _ _ ?_
      clear hK K
      go_wp2_with fail
      go_ret
      have how7 : w6.ownsRow w.heap.size 63 2 (.slice aw6 (L.length + 1) cw6) (addL L id s).length (cellsP (addL L id s)) := by
        rw [len_addL, cells_addL, hpos.out]; exact how6.out
      exact ⟨_, rfl, h.out.store hbw6'.out how7 (Nat.le_trans h.out.low (Nat.le_of_lt h.out.cells.lt))⟩
    · go_simp
      refine hide_world (R := fun w' => ArrAt w' w1.heap.size 63 [.int .i64 id, .int .u64 s] ∧ Below w.heap.size w w' ∧ Below w1.heap.size w1 w') (new_in 63 [.int .i64 id, .int .u64 s] (hw1.out.2.1) (hw1.out.2.1.size)) ?_
      intro w2 hw2
      refine hK.out _ _ (hkeep.out _ (hw2.out.2.1)) (fun hHeld => ?_)
      clear hK K
      try simp only [Act.put, List.setIfInBounds_toArray, List.set_cons_zero, List.set_cons_succ]
      refine zgo_ready [8] (by kernel_rfl) (by simp) ?_
      refine ZAll.cons rfl (fun K hK => ?_) ZAll.nil
      refine step_append_part rfl _ _ 53 rfl w.heap.size 63 (.agg #[.int .i64 0, .int .u64 0]) 2 16 Try.underlying53 info_p rfl (by decide) (.slice (some ⟨w.heap.size, 0, none⟩) 0 0) 0 [] rfl (empty_own (hw1.out.1.next hw2.out.2.2) (Nat.le_refl _)) (some ⟨g, 0, none⟩) k cap (cellsP (L.take k)) rfl (by rw [cellsP_len, List.length_take]; omega) ((h.out.below (hw2.out.2.1)).front k k4) (cellsP_one _) (k) (by omega) (by unfold maxLen; omega) (by omega) (by have := (hw2.out.2.1).size; omega) ?_
      intro aw3 cw3 w3 how3 hbw3 hgw3
      have hbw3' := Lib.hid ((hw2.out.2.1).trans hbw3.out)
      refine hK.out _ _ (hkeep.out _ (hbw3'.out)) (fun hHeld => ?_)
      clear hK K
      try simp only [Act.put, List.setIfInBounds_toArray, List.set_cons_zero, List.set_cons_succ]
      refine zgo_ready [13] (by kernel_rfl) (by simp) ?_
      refine ZAll.cons rfl (fun K hK => ?_) ZAll.nil
      refine step_append_part rfl _ _ 53 rfl w.heap.size 63 (.agg #[.int .i64 0, .int .u64 0]) 2 16 Try.underlying53 info_p rfl (by decide) (.slice aw3 k cw3) k (cellsP (L.take k)) rfl (how3.out) (some ⟨w1.heap.size, 0, none⟩) 1 1 [.int .i64 id, .int .u64 s] rfl (rfl) (part_one (hw2.out.1.grown hgw3.out (by have := hw1.out.1.lt; intro e; injection e with e; simp at e; omega))) (one_p id s) (k + 1) (by omega) (by unfold maxLen; omega) (by omega) (by have := (hbw3'.out).size; omega) ?_
      intro aw5 cw5 w5 how5 hbw5 hgw5
      have hbw5' := Lib.hid ((hbw3'.out).trans hbw5.out)
      refine hK.out _ _ (hkeep.out _ (hbw5'.out)) (fun hHeld => ?_)
      clear hK K
      try simp only [Act.put, List.setIfInBounds_toArray, List.set_cons_zero, List.set_cons_succ]
      refine zgo_ready [20] (by kernel_rfl) (by simp) ?_
      refine ZAll.cons rfl (fun K hK => ?_) ZAll.nil
      refine step_append_part rfl _ _ 53 rfl w.heap.size 63 (.agg #[.int .i64 0, .int .u64 0]) 2 16 Try.underlying53 info_p rfl (by decide) (.slice aw5 (k + 1) cw5) (k + 1) ((cellsP (L.take k)) ++ [.int .i64 id, .int .u64 s]) rfl (how5.out) (some ⟨g, k * 2, none⟩) (L.length - k) (cap - k) (cellsP (L.drop k)) rfl (by rw [cellsP_len, List.length_drop]) ((h.out.below (hbw5'.out)).back k k4) (cellsP_one _) (L.length + 1) (by omega) (by unfold maxLen; omega) (by omega) (by have := (hbw5'.out).size; omega) ?_
      intro aw6 cw6 w6 how6 hbw6 hgw6
      have hbw6' := Lib.hid ((hbw5'.out).trans hbw6.out)
      refine hK.out _ _ (hkeep.out _ (hbw6'.out)) (fun hHeld => ?_)
      clear hK K
      try simp only [Act.put, List.setIfInBounds_toArray, List.set_cons_zero, List.set_cons_succ]
      refine zgo_take 21 (v := ?_) rfl (by kernel_rfl) (by kernel_rfl) (by kernel_rfl) (by kernel_rfl) (fun _ _ _ h => h) (by rfl) ?_ (by assumption) ?_
      rotate_left
      · (intro w hSw; (try dsimp only at hSw); go_simp; all_goals (with_reducible rfl))
      try simp only [Act.put, List.setIfInBounds_toArray, List.set_cons_zero, List.set_cons_succ]
      refine zgo_take 22 (v := ?_) rfl (by kernel_rfl) (by kernel_rfl) (by kernel_rfl) (by kernel_rfl) (fun _ _ _ h => h) (by rfl) ?_ (by assumption) ?_
      rotate_left
      · (intro w hSw; (try dsimp only at hSw); go_simp; all_goals (with_reducible rfl))
      try simp only [Act.put, List.setIfInBounds_toArray, List.set_cons_zero, List.set_cons_succ]
      refine zgo_last (by kernel_rfl) (by kernel_rfl) rfl (fun K hK => ?_)
      go_simp
      refine hK.out _ _ ?_
      clear hK K
      go_wp2_with fail
      go_ret
      have how7 : w6.ownsRow w.heap.size 63 2 (.slice aw6 (L.length + 1) cw6) (addL L id s).length (cellsP (addL L id s)) := by
        rw [len_addL, cells_addL, hpos.out]; exact how6.out
      exact ⟨_, rfl, h.out.store hbw6'.out how7 (Nat.le_trans h.out.low (Nat.le_of_lt h.out.cells.lt))⟩
  · go_simp
    refine hide_world (R := fun w' => ArrAt w' w.heap.size 63 [.int .i64 id, .int .u64 s] ∧ Below w.heap.size w w' ∧ Below w.heap.size w w') (new_in_drew 63 [.int .i64 id, .int .u64 s] (Below.refl _ _) (Nat.le_refl _)) ?_
    intro w1 hw1
    refine hK.out _ _ (hkeep.out _ (hw1.out.2.1)) (fun hHeld => ?_)
    clear hK K
    try simp only [Act.put, List.setIfInBounds_toArray, List.set_cons_zero, List.set_cons_succ]
    refine zgo_ready [1] (by kernel_rfl) (by simp) ?_
    refine ZAll.cons rfl (fun K hK => ?_) ZAll.nil
    go_simp
    refine hide_world (R := fun w' => ArrAt w' w1.heap.size 63 [] ∧ Below w.heap.size w w' ∧ Below w1.heap.size w1 w') (new_in 63 [] (hw1.out.2.1) (hw1.out.2.1.size)) ?_
    intro w2 hw2
    refine hK.out _ _ (hkeep.out _ (hw2.out.2.1)) (fun hHeld => ?_)
    clear hK K
    try simp only [Act.put, List.setIfInBounds_toArray, List.set_cons_zero, List.set_cons_succ]
    refine zgo_ready [8] (by kernel_rfl) (by simp) ?_
    refine ZAll.cons rfl (fun K hK => ?_) ZAll.nil
    refine step_append_part rfl _ _ 53 rfl w.heap.size 63 (.agg #[.int .i64 0, .int .u64 0]) 2 16 Try.underlying53 info_p rfl (by decide) (.slice (some ⟨w1.heap.size, 0, none⟩) 0 0) 0 [] rfl (empty_own hw2.out.1 hw1.out.2.1.size) (some ⟨g, 0, none⟩) k cap (cellsP (L.take k)) rfl (by rw [cellsP_len, List.length_take]; omega) ((h.out.below (hw2.out.2.1)).front k k4) (cellsP_one _) (k) (by omega) (by unfold maxLen; omega) (by omega) (by have := (hw2.out.2.1).size; omega) ?_
    intro aw3 cw3 w3 how3 hbw3 hgw3
    have hbw3' := Lib.hid ((hw2.out.2.1).trans hbw3.out)
    refine hK.out _ _ (hkeep.out _ (hbw3'.out)) (fun hHeld => ?_)
    clear hK K
    try simp only [Act.put, List.setIfInBounds_toArray, List.set_cons_zero, List.set_cons_succ]
    refine zgo_ready [13] (by kernel_rfl) (by simp) ?_
    refine ZAll.cons rfl (fun K hK => ?_) ZAll.nil
    refine step_append_part rfl _ _ 53 rfl w.heap.size 63 (.agg #[.int .i64 0, .int .u64 0]) 2 16 Try.underlying53 info_p rfl (by decide) (.slice aw3 k cw3) k (cellsP (L.take k)) rfl (how3.out) (some ⟨w.heap.size, 0, none⟩) 1 1 [.int .i64 id, .int .u64 s] rfl (rfl) (part_one ((hw1.out.1.next hw2.out.2.2).grown hgw3.out (by have := hw1.out.1.lt; intro e; injection e with e; simp at e; omega))) (one_p id s) (k + 1) (by omega) (by unfold maxLen; omega) (by omega) (by have := (hbw3'.out).size; omega) ?_
    intro aw5 cw5 w5 how5 hbw5 hgw5
    have hbw5' := Lib.hid ((hbw3'.out).trans hbw5.out)
    refine hK.out _ _ (hkeep.out _ (hbw5'.out)) (fun hHeld => ?_)
    clear hK K
    try simp only [Act.put, List.setIfInBounds_toArray, List.set_cons_zero, List.set_cons_succ]
    refine zgo_ready [20] (by kernel_rfl) (by simp) ?_
    refine ZAll.cons rfl (fun K hK => ?_) ZAll.nil
    refine step_append_part rfl _ _ 53 rfl w.heap.size 63 (.agg #[.int .i64 0, .int .u64 0]) 2 16 Try.underlying53 info_p rfl (by decide) (.slice aw5 (k + 1) cw5) (k + 1) ((cellsP (L.take k)) ++ [.int .i64 id, .int .u64 s]) rfl (how5.out) (some ⟨g, k * 2, none⟩) (L.length - k) (cap - k) (cellsP (L.drop k)) rfl (by rw [cellsP_len, List.length_drop]) ((h.out.below (hbw5'.out)).back k k4) (cellsP_one _) (L.length + 1) (by omega) (by unfold maxLen; omega) (by omega) (by have := (hbw5'.out).size; omega) ?_
    intro aw6 cw6 w6 how6 hbw6 hgw6
    have hbw6' := Lib.hid ((hbw5'.out).trans hbw6.out)
    refine hK.out _ _ (hkeep.out _ (hbw6'.out)) (fun hHeld => ?_)
    clear hK K
    try simp only [Act.put, List.setIfInBounds_toArray, List.set_cons_zero, List.set_cons_succ]
    refine zgo_take 21 (v := ?_) rfl (by kernel_rfl) (by kernel_rfl) (by kernel_rfl) (by kernel_rfl) (fun _ _ _ h => h) (by rfl) ?_ (by assumption) ?_
    rotate_left
    · (intro w hSw; (try dsimp only at hSw); go_simp; all_goals (with_reducible rfl))
    try simp only [Act.put, List.setIfInBounds_toArray, List.set_cons_zero, List.set_cons_succ]
    refine zgo_take 22 (v := ?_) rfl (by kernel_rfl) (by kernel_rfl) (by kernel_rfl) (by kernel_rfl) (fun _ _ _ h => h) (by rfl) ?_ (by assumption) ?_
    rotate_left
    · (intro w hSw; (try dsimp only at hSw); go_simp; all_goals (with_reducible rfl))
    try simp only [Act.put, List.setIfInBounds_toArray, List.set_cons_zero, List.set_cons_succ]
    refine zgo_last (by kernel_rfl) (by kernel_rfl) rfl (fun K hK => ?_)
    go_simp
    refine hK.out _ _ ?_
    clear hK K
    go_wp2_with fail
    go_ret
    have how7 : w6.ownsRow w.heap.size 63 2 (.slice aw6 (L.length + 1) cw6) (addL L id s).length (cellsP (addL L id s)) := by
      rw [len_addL, cells_addL, hpos.out]; exact how6.out
    exact ⟨_, rfl, h.out.store hbw6'.out how7 (Nat.le_trans h.out.low (Nat.le_of_lt h.out.cells.lt))⟩

set_option maxHeartbeats 1000000 in
set_option maxRecDepth 100000 in
theorem refadd_end {g cap k : Nat} {id s : Int} (h : RefAt w B Y d L (.slice (some ⟨g, 0, none⟩) L.length cap)) (hcap : L.length ≤ cap) (_hcm : cap ≤ 9223372036854775807) (hm : L.length < 50000) (hpos : posL L id = k) (hnk : L.length ≤ k) (hle : k ≤ L.length) (k3 : ¬ cap = k) (hne : Calls Try.prog 30 #[.pointer (some ⟨Y, 0, none⟩), .int .i64 id] w fun e w' => e = .returned (.int .i64 (k : Nat)) ∧ w = w') :
    Calls Try.prog 12 #[.pointer (some ⟨Y, 0, none⟩), .int .i64 id, .int .u64 s] w (AddRPost B Y d (addL L id s) w) := by
  have c1 := h.c1
  have k0 : (0 : Int) ≤ k := by omega
  have k1 : (k : Int) ≤ cap := by omega
  have k4 : k ≤ L.length := by omega
  have k2 : ¬ ((k : Int) < L.length) := by omega
  replace hpos := Lib.hid hpos
  have hkeep := Lib.hid (fun w' (hb : Below w.heap.size w w') => h.kept hb)
  replace h := Lib.hid h
  replace hne := Lib.hid hne
  go_enter Try.func12, Try.ntmps12
  go_wp2_with (go_at_call 30; refine hne.out.mono ?_; rintro e w' ⟨rfl, rfl⟩)
  refine zgo_begin 23 (fun w' => w'.cell? ⟨Y, 1, none⟩ = some (.slice (some ⟨g, 0, none⟩) L.length cap) ∧ w'.frozen? ⟨Y, 1, none⟩ = false ∧ Hid (RefAt w' B Y d L (.slice (some ⟨g, 0, none⟩) L.length cap)) ∧ Hid (Below w.heap.size w w')) (by kernel_rfl) (hkeep.out _ (Drawn.below ⟨1, rfl⟩ _)) ?_
  intro hHeld
  refine zgo_take 0 (v := ?_) rfl (by kernel_rfl) (by kernel_rfl) (by kernel_rfl) (by kernel_rfl) (fun _ _ _ h => h) (by rfl) ?_ (by assumption) ?_
  rotate_left
  · (intro w hSw; (try dsimp only at hSw); go_simp; all_goals (with_reducible rfl))
  try simp only [Act.put, List.setIfInBounds_toArray, List.set_cons_zero, List.set_cons_succ]
  refine zgo_take 2 (v := ?_) rfl (by kernel_rfl) (by kernel_rfl) (by kernel_rfl) (by kernel_rfl) (fun _ _ _ h => h) (by rfl) ?_ (by assumption) ?_
  rotate_left
  · (intro w hSw; (try dsimp only at hSw); go_simp; all_goals (with_reducible rfl))
  try simp only [Act.put, List.setIfInBounds_toArray, List.set_cons_zero, List.set_cons_succ]
  refine zgo_take 3 (v := ?_) rfl (by kernel_rfl) (by kernel_rfl) (by kernel_rfl) (by kernel_rfl) (fun _ _ _ h => h) (by rfl) ?_ (by assumption) ?_
  rotate_left
  · (intro w hSw; (try dsimp only at hSw); go_simp; all_goals (with_reducible rfl))
  try simp only [Act.put, List.setIfInBounds_toArray, List.set_cons_zero, List.set_cons_succ]
  refine zgo_take 4 (v := ?_) rfl (by kernel_rfl) (by kernel_rfl) (by kernel_rfl) (by kernel_rfl) (fun _ _ _ h => h) (by rfl) ?_ (by assumption) ?_
  rotate_left
  · (intro w hSw; (try dsimp only at hSw); go_simp; all_goals (with_reducible rfl))
  try simp only [Act.put, List.setIfInBounds_toArray, List.set_cons_zero, List.set_cons_succ]
  refine zgo_take 5 (v := ?_) rfl (by kernel_rfl) (by kernel_rfl) (by kernel_rfl) (by kernel_rfl) (fun _ _ _ h => h) (by rfl) ?_ (by assumption) ?_
  rotate_left
  · (intro w hSw; (try dsimp only at hSw); go_simp; all_goals (with_reducible rfl))
  try simp only [Act.put, List.setIfInBounds_toArray, List.set_cons_zero, List.set_cons_succ]
  refine zgo_take 6 (v := ?_) rfl (by kernel_rfl) (by kernel_rfl) (by kernel_rfl) (by kernel_rfl) (fun _ _ _ h => h) (by rfl) ?_ (by assumption) ?_
  rotate_left
  · (intro w hSw; (try dsimp only at hSw); go_simp; all_goals (with_reducible rfl))
  try simp only [Act.put, List.setIfInBounds_toArray, List.set_cons_zero, List.set_cons_succ]
  refine zgo_take 7 (v := ?_) rfl (by kernel_rfl) (by kernel_rfl) (by kernel_rfl) (by kernel_rfl) (fun _ _ _ h => h) (by rfl) ?_ (by assumption) ?_
  rotate_left
  · (intro w hSw; (try dsimp only at hSw); go_simp; all_goals (with_reducible rfl))
  try simp only [Act.put, List.setIfInBounds_toArray, List.set_cons_zero, List.set_cons_succ]
  refine zgo_take 9 (v := ?_) rfl (by kernel_rfl) (by kernel_rfl) (by kernel_rfl) (by kernel_rfl) (fun _ _ _ h => h) (by rfl) ?_ (by assumption) ?_
  rotate_left
  · (intro w hSw; (try dsimp only at hSw); go_simp; all_goals (with_reducible rfl))
  try simp only [Act.put, List.setIfInBounds_toArray, List.set_cons_zero, List.set_cons_succ]
  refine zgo_take 10 (v := ?_) rfl (by kernel_rfl) (by kernel_rfl) (by kernel_rfl) (by kernel_rfl) (fun _ _ _ h => h) (by rfl) ?_ (by assumption) ?_
  rotate_left
  · (intro w hSw; (try dsimp only at hSw); go_simp; all_goals (with_reducible rfl))
  try simp only [Act.put, List.setIfInBounds_toArray, List.set_cons_zero, List.set_cons_succ]
  refine zgo_take 11 (v := ?_) rfl (by kernel_rfl) (by kernel_rfl) (by kernel_rfl) (by kernel_rfl) (fun _ _ _ h => h) (by rfl) ?_ (by assumption) ?_
  rotate_left
  · (intro w hSw; (try dsimp only at hSw); go_simp; all_goals (with_reducible rfl))
  try simp only [Act.put, List.setIfInBounds_toArray, List.set_cons_zero, List.set_cons_succ]
  refine zgo_take 14 (v := ?_) rfl (by kernel_rfl) (by kernel_rfl) (by kernel_rfl) (by kernel_rfl) (fun _ _ _ h => h) (by rfl) ?_ (by assumption) ?_
  rotate_left
  · (intro w hSw; (try dsimp only at hSw); go_simp; all_goals (with_reducible rfl))
  try simp only [Act.put, List.setIfInBounds_toArray, List.set_cons_zero, List.set_cons_succ]
  refine zgo_take 15 (v := ?_) rfl (by kernel_rfl) (by kernel_rfl) (by kernel_rfl) (by kernel_rfl) (fun _ _ _ h => h) (by rfl) ?_ (by assumption) ?_
  rotate_left
  · (intro w hSw; (try dsimp only at hSw); go_simp; all_goals (with_reducible rfl))
  try simp only [Act.put, List.setIfInBounds_toArray, List.set_cons_zero, List.set_cons_succ]
  refine zgo_take 16 (v := ?_) rfl (by kernel_rfl) (by kernel_rfl) (by kernel_rfl) (by kernel_rfl) (fun _ _ _ h => h) (by rfl) ?_ (by assumption) ?_
  rotate_left
  · (intro w hSw; (try dsimp only at hSw); go_simp; all_goals (with_reducible rfl))
  try simp only [Act.put, List.setIfInBounds_toArray, List.set_cons_zero, List.set_cons_succ]
  refine zgo_take 17 (v := ?_) rfl (by kernel_rfl) (by kernel_rfl) (by kernel_rfl) (by kernel_rfl) (fun _ _ _ h => h) (by rfl) ?_ (by assumption) ?_
  rotate_left
  · (intro w hSw; (try dsimp only at hSw); go_simp; all_goals (with_reducible rfl))
  try simp only [Act.put, List.setIfInBounds_toArray, List.set_cons_zero, List.set_cons_succ]
  refine zgo_take 18 (v := ?_) rfl (by kernel_rfl) (by kernel_rfl) (by kernel_rfl) (by kernel_rfl) (fun _ _ _ h => h) (by rfl) ?_ (by assumption) ?_
  rotate_left
  · (intro w hSw; (try dsimp only at hSw); go_simp; all_goals (with_reducible rfl))
  try simp only [Act.put, List.setIfInBounds_toArray, List.set_cons_zero, List.set_cons_succ]
  refine zgo_take 19 (v := ?_) rfl (by kernel_rfl) (by kernel_rfl) (by kernel_rfl) (by kernel_rfl) (fun _ _ _ h => h) (by rfl) ?_ (by assumption) ?_
  rotate_left
  · (intro w hSw; (try dsimp only at hSw); go_simp; all_goals (with_reducible rfl))
  try simp only [Act.put, List.setIfInBounds_toArray, List.set_cons_zero, List.set_cons_succ]
  refine zgo_ready [1, 12] (by kernel_rfl) (by simp) ?_
  refine ZAll.cons rfl (fun K hK => ?_) (ZAll.cons rfl (fun K hK => ?_) ZAll.nil)
  · go_simp
    refine hide_world (R := fun w' => ArrAt w' w.heap.size 63 [] ∧ Below w.heap.size w w' ∧ Below w.heap.size w w') (new_in_drew 63 [] (Below.refl _ _) (Nat.le_refl _)) ?_
    intro w1 hw1
    refine hK.out _ _ (hkeep.out _ (hw1.out.2.1)) (fun hHeld => ?_)
    clear hK K
    try simp only [Act.put, List.setIfInBounds_toArray, List.set_cons_zero, List.set_cons_succ]
    refine zgo_ready [8, 12] (by kernel_rfl) (by simp) ?_
    refine ZAll.cons rfl (fun K hK => ?_) (ZAll.cons rfl (fun K hK => ?_) ZAll.nil)
    · refine step_append_part rfl _ _ 53 rfl w.heap.size 63 (.agg #[.int .i64 0, .int .u64 0]) 2 16 Try.underlying53 info_p rfl (by decide) (.slice (some ⟨w.heap.size, 0, none⟩) 0 0) 0 [] rfl (empty_own hw1.out.1 (Nat.le_refl _)) (some ⟨g, 0, none⟩) k cap (cellsP (L.take k)) rfl (by rw [cellsP_len, List.length_take]; omega) ((h.out.below (hw1.out.2.1)).front k k4) (cellsP_one _) (k) (by omega) (by unfold maxLen; omega) (by omega) (by have := (hw1.out.2.1).size; omega) ?_
      intro aw2 cw2 w2 how2 hbw2 hgw2
      have hbw2' := Lib.hid ((hw1.out.2.1).trans hbw2.out)
      refine hK.out _ _ (hkeep.out _ (hbw2'.out)) (fun hHeld => ?_)
      clear hK K
      try simp only [Act.put, List.setIfInBounds_toArray, List.set_cons_zero, List.set_cons_succ]
      refine zgo_ready [12] (by kernel_rfl) (by simp) ?_
      refine ZAll.cons rfl (fun K hK => ?_) ZAll.nil
      go_simp
      refine hide_world (R := fun w' => ArrAt w' w2.heap.size 63 [.int .i64 id, .int .u64 s] ∧ Below w.heap.size w w' ∧ Below w2.heap.size w2 w') (new_in 63 [.int .i64 id, .int .u64 s] (hbw2'.out) (hbw2'.out.size)) ?_
      intro w3 hw3
      refine hK.out _ _ (hkeep.out _ (hw3.out.2.1)) (fun hHeld => ?_)
      clear hK K
      try simp only [Act.put, List.setIfInBounds_toArray, List.set_cons_zero, List.set_cons_succ]
      refine zgo_ready [13] (by kernel_rfl) (by simp) ?_
      refine ZAll.cons rfl (fun K hK => ?_) ZAll.nil
      refine step_append_part rfl _ _ 53 rfl w.heap.size 63 (.agg #[.int .i64 0, .int .u64 0]) 2 16 Try.underlying53 info_p rfl (by decide) (.slice aw2 k cw2) k (cellsP (L.take k)) rfl (ownsRow_below how2.out hw3.out.2.2) (some ⟨w2.heap.size, 0, none⟩) 1 1 [.int .i64 id, .int .u64 s] rfl (rfl) (part_one (hw3.out.1)) (one_p id s) (k + 1) (by omega) (by unfold maxLen; omega) (by omega) (by have := (hw3.out.2.1).size; omega) ?_
      intro aw5 cw5 w5 how5 hbw5 hgw5
      have hbw5' := Lib.hid ((hw3.out.2.1).trans hbw5.out)
      refine hK.out _ _ (hkeep.out _ (hbw5'.out)) (fun hHeld => ?_)
      clear hK K
      try simp only [Act.put, List.setIfInBounds_toArray, List.set_cons_zero, List.set_cons_succ]
      refine zgo_ready [20] (by kernel_rfl) (by simp) ?_
      refine ZAll.cons rfl (fun K hK => ?_) ZAll.nil
      refine step_append_part rfl _ _ 53 rfl w.heap.size 63 (.agg #[.int .i64 0, .int .u64 0]) 2 16 Try.underlying53 info_p rfl (by decide) (.slice aw5 (k + 1) cw5) (k + 1) ((cellsP (L.take k)) ++ [.int .i64 id, .int .u64 s]) rfl (how5.out) (some ⟨g, k * 2, none⟩) 0 (cap - k) [] rfl (by simp) (partOf_nil _ _) (one_no) (L.length + 1) (by omega) (by unfold maxLen; omega) (by omega) (by have := (hbw5'.out).size; omega) ?_
      intro aw6 cw6 w6 how6 hbw6 hgw6
      have hbw6' := Lib.hid ((hbw5'.out).trans hbw6.out)
      refine hK.out _ _ (hkeep.out _ (hbw6'.out)) (fun hHeld => ?_)
      clear hK K
      try simp only [Act.put, List.setIfInBounds_toArray, List.set_cons_zero, List.set_cons_succ]
      refine zgo_take 21 (v := ?_) rfl (by kernel_rfl) (by kernel_rfl) (by kernel_rfl) (by kernel_rfl) (fun _ _ _ h => h) (by rfl) ?_ (by assumption) ?_
      rotate_left
      · (intro w hSw; (try dsimp only at hSw); go_simp; all_goals (with_reducible rfl))
      try simp only [Act.put, List.setIfInBounds_toArray, List.set_cons_zero, List.set_cons_succ]
      refine zgo_take 22 (v := ?_) rfl (by kernel_rfl) (by kernel_rfl) (by kernel_rfl) (by kernel_rfl) (fun _ _ _ h => h) (by rfl) ?_ (by assumption) ?_
      rotate_left
      · (intro w hSw; (try dsimp only at hSw); go_simp; all_goals (with_reducible rfl))
      try simp only [Act.put, List.setIfInBounds_toArray, List.set_cons_zero, List.set_cons_succ]
      refine zgo_last (by kernel_rfl) (by kernel_rfl) rfl (fun K hK => ?_)
      go_simp
      refine hK.out _ _ ?_
      clear hK K
      go_wp2_with fail
      go_ret
      have how7 : w6.ownsRow w.heap.size 63 2 (.slice aw6 (L.length + 1) cw6) (addL L id s).length (cellsP (addL L id s)) := by
        rw [len_addL, cells_addL, hpos.out, List.drop_of_length_le hnk]; exact how6.out
      exact ⟨_, rfl, h.out.store hbw6'.out how7 (Nat.le_trans h.out.low (Nat.le_of_lt h.out.cells.lt))⟩
    · go_simp
      refine hide_world (R := fun w' => ArrAt w' w1.heap.size 63 [.int .i64 id, .int .u64 s] ∧ Below w.heap.size w w' ∧ Below w1.heap.size w1 w') (new_in 63 [.int .i64 id, .int .u64 s] (hw1.out.2.1) (hw1.out.2.1.size)) ?_
      intro w2 hw2
      refine hK.out _ _ (hkeep.out _ (hw2.out.2.1)) (fun hHeld => ?_)
      clear hK K
      try simp only [Act.put, List.setIfInBounds_toArray, List.set_cons_zero, List.set_cons_succ]
      refine zgo_ready [8] (by kernel_rfl) (by simp) ?_
      refine ZAll.cons rfl (fun K hK => ?_) ZAll.nil
      refine step_append_part rfl _ _ 53 rfl w.heap.size 63 (.agg #[.int .i64 0, .int .u64 0]) 2 16 Try.underlying53 info_p rfl (by decide) (.slice (some ⟨w.heap.size, 0, none⟩) 0 0) 0 [] rfl (empty_own (hw1.out.1.next hw2.out.2.2) (Nat.le_refl _)) (some ⟨g, 0, none⟩) k cap (cellsP (L.take k)) rfl (by rw [cellsP_len, List.length_take]; omega) ((h.out.below (hw2.out.2.1)).front k k4) (cellsP_one _) (k) (by omega) (by unfold maxLen; omega) (by omega) (by have := (hw2.out.2.1).size; omega) ?_
      intro aw3 cw3 w3 how3 hbw3 hgw3
      have hbw3' := Lib.hid ((hw2.out.2.1).trans hbw3.out)
      refine hK.out _ _ (hkeep.out _ (hbw3'.out)) (fun hHeld => ?_)
      clear hK K
      try simp only [Act.put, List.setIfInBounds_toArray, List.set_cons_zero, List.set_cons_succ]
      refine zgo_ready [13] (by kernel_rfl) (by simp) ?_
      refine ZAll.cons rfl (fun K hK => ?_) ZAll.nil
      refine step_append_part rfl _ _ 53 rfl w.heap.size 63 (.agg #[.int .i64 0, .int .u64 0]) 2 16 Try.underlying53 info_p rfl (by decide) (.slice aw3 k cw3) k (cellsP (L.take k)) rfl (how3.out) (some ⟨w1.heap.size, 0, none⟩) 1 1 [.int .i64 id, .int .u64 s] rfl (rfl) (part_one (hw2.out.1.grown hgw3.out (by have := hw1.out.1.lt; intro e; injection e with e; simp at e; omega))) (one_p id s) (k + 1) (by omega) (by unfold maxLen; omega) (by omega) (by have := (hbw3'.out).size; omega) ?_
      intro aw5 cw5 w5 how5 hbw5 hgw5
      have hbw5' := Lib.hid ((hbw3'.out).trans hbw5.out)
      refine hK.out _ _ (hkeep.out _ (hbw5'.out)) (fun hHeld => ?_)
      clear hK K
      try simp only [Act.put, List.setIfInBounds_toArray, List.set_cons_zero, List.set_cons_succ]
      refine zgo_ready [20] (by kernel_rfl) (by simp) ?_
      refine ZAll.cons rfl (fun K hK => ?_) ZAll.nil
      refine step_append_part rfl _ _ 53 rfl w.heap.size 63 (.agg #[.int .i64 0, .int .u64 0]) 2 16 Try.underlying53 info_p rfl (by decide) (.slice aw5 (k + 1) cw5) (k + 1) ((cellsP (L.take k)) ++ [.int .i64 id, .int .u64 s]) rfl (how5.out) (some ⟨g, k * 2, none⟩) 0 (cap - k) [] rfl (by simp) (partOf_nil _ _) (one_no) (L.length + 1) (by omega) (by unfold maxLen; omega) (by omega) (by have := (hbw5'.out).size; omega) ?_
      intro aw6 cw6 w6 how6 hbw6 hgw6
      have hbw6' := Lib.hid ((hbw5'.out).trans hbw6.out)
      refine hK.out _ _ (hkeep.out _ (hbw6'.out)) (fun hHeld => ?_)
      clear hK K
      try simp only [Act.put, List.setIfInBounds_toArray, List.set_cons_zero, List.set_cons_succ]
      refine zgo_take 21 (v := ?_) rfl (by kernel_rfl) (by kernel_rfl) (by kernel_rfl) (by kernel_rfl) (fun _ _ _ h => h) (by rfl) ?_ (by assumption) ?_
      rotate_left
      · (intro w hSw; (try dsimp only at hSw); go_simp; all_goals (with_reducible rfl))
      try simp only [Act.put, List.setIfInBounds_toArray, List.set_cons_zero, List.set_cons_succ]
      refine zgo_take 22 (v := ?_) rfl (by kernel_rfl) (by kernel_rfl) (by kernel_rfl) (by kernel_rfl) (fun _ _ _ h => h) (by rfl) ?_ (by assumption) ?_
      rotate_left
      · (intro w hSw; (try dsimp only at hSw); go_simp; all_goals (with_reducible rfl))
      try simp only [Act.put, List.setIfInBounds_toArray, List.set_cons_zero, List.set_cons_succ]
      refine zgo_last (by kernel_rfl) (by kernel_rfl) rfl (fun K hK => ?_)
      go_simp
      refine hK.out _ _ ?_
      clear hK K
      go_wp2_with fail
      go_ret
      have how7 : w6.ownsRow w.heap.size 63 2 (.slice aw6 (L.length + 1) cw6) (addL L id s).length (cellsP (addL L id s)) := by
        rw [len_addL, cells_addL, hpos.out, List.drop_of_length_le hnk]; exact how6.out
      exact ⟨_, rfl, h.out.store hbw6'.out how7 (Nat.le_trans h.out.low (Nat.le_of_lt h.out.cells.lt))⟩
  · go_simp
    refine hide_world (R := fun w' => ArrAt w' w.heap.size 63 [.int .i64 id, .int .u64 s] ∧ Below w.heap.size w w' ∧ Below w.heap.size w w') (new_in_drew 63 [.int .i64 id, .int .u64 s] (Below.refl _ _) (Nat.le_refl _)) ?_
    intro w1 hw1
    refine hK.out _ _ (hkeep.out _ (hw1.out.2.1)) (fun hHeld => ?_)
    clear hK K
    try simp only [Act.put, List.setIfInBounds_toArray, List.set_cons_zero, List.set_cons_succ]
    refine zgo_ready [1] (by kernel_rfl) (by simp) ?_
    refine ZAll.cons rfl (fun K hK => ?_) ZAll.nil
    go_simp
    refine hide_world (R := fun w' => ArrAt w' w1.heap.size 63 [] ∧ Below w.heap.size w w' ∧ Below w1.heap.size w1 w') (new_in 63 [] (hw1.out.2.1) (hw1.out.2.1.size)) ?_
    intro w2 hw2
    refine hK.out _ _ (hkeep.out _ (hw2.out.2.1)) (fun hHeld => ?_)
    clear hK K
    try simp only [Act.put, List.setIfInBounds_toArray, List.set_cons_zero, List.set_cons_succ]
    refine zgo_ready [8] (by kernel_rfl) (by simp) ?_
    refine ZAll.cons rfl (fun K hK => ?_) ZAll.nil
    refine step_append_part rfl _ _ 53 rfl w.heap.size 63 (.agg #[.int .i64 0, .int .u64 0]) 2 16 Try.underlying53 info_p rfl (by decide) (.slice (some ⟨w1.heap.size, 0, none⟩) 0 0) 0 [] rfl (empty_own hw2.out.1 hw1.out.2.1.size) (some ⟨g, 0, none⟩) k cap (cellsP (L.take k)) rfl (by rw [cellsP_len, List.length_take]; omega) ((h.out.below (hw2.out.2.1)).front k k4) (cellsP_one _) (k) (by omega) (by unfold maxLen; omega) (by omega) (by have := (hw2.out.2.1).size; omega) ?_
    intro aw3 cw3 w3 how3 hbw3 hgw3
    have hbw3' := Lib.hid ((hw2.out.2.1).trans hbw3.out)
    refine hK.out _ _ (hkeep.out _ (hbw3'.out)) (fun hHeld => ?_)
    clear hK K
    try simp only [Act.put, List.setIfInBounds_toArray, List.set_cons_zero, List.set_cons_succ]
    refine zgo_ready [13] (by kernel_rfl) (by simp) ?_
    refine ZAll.cons rfl (fun K hK => ?_) ZAll.nil
    refine step_append_part rfl _ _ 53 rfl w.heap.size 63 (.agg #[.int .i64 0, .int .u64 0]) 2 16 Try.underlying53 info_p rfl (by decide) (.slice aw3 k cw3) k (cellsP (L.take k)) rfl (how3.out) (some ⟨w.heap.size, 0, none⟩) 1 1 [.int .i64 id, .int .u64 s] rfl (rfl) (part_one ((hw1.out.1.next hw2.out.2.2).grown hgw3.out (by have := hw1.out.1.lt; intro e; injection e with e; simp at e; omega))) (one_p id s) (k + 1) (by omega) (by unfold maxLen; omega) (by omega) (by have := (hbw3'.out).size; omega) ?_
    intro aw5 cw5 w5 how5 hbw5 hgw5
    have hbw5' := Lib.hid ((hbw3'.out).trans hbw5.out)
    refine hK.out _ _ (hkeep.out _ (hbw5'.out)) (fun hHeld => ?_)
    clear hK K
    try simp only [Act.put, List.setIfInBounds_toArray, List.set_cons_zero, List.set_cons_succ]
    refine zgo_ready [20] (by kernel_rfl) (by simp) ?_
    refine ZAll.cons rfl (fun K hK => ?_) ZAll.nil
    refine step_append_part rfl _ _ 53 rfl w.heap.size 63 (.agg #[.int .i64 0, .int .u64 0]) 2 16 Try.underlying53 info_p rfl (by decide) (.slice aw5 (k + 1) cw5) (k + 1) ((cellsP (L.take k)) ++ [.int .i64 id, .int .u64 s]) rfl (how5.out) (some ⟨g, k * 2, none⟩) 0 (cap - k) [] rfl (by simp) (partOf_nil _ _) (one_no) (L.length + 1) (by omega) (by unfold maxLen; omega) (by omega) (by have := (hbw5'.out).size; omega) ?_
    intro aw6 cw6 w6 how6 hbw6 hgw6
    have hbw6' := Lib.hid ((hbw5'.out).trans hbw6.out)
    refine hK.out _ _ (hkeep.out _ (hbw6'.out)) (fun hHeld => ?_)
    clear hK K
    try simp only [Act.put, List.setIfInBounds_toArray, List.set_cons_zero, List.set_cons_succ]
    refine zgo_take 21 (v := ?_) rfl (by kernel_rfl) (by kernel_rfl) (by kernel_rfl) (by kernel_rfl) (fun _ _ _ h => h) (by rfl) ?_ (by assumption) ?_
    rotate_left
    · (intro w hSw; (try dsimp only at hSw); go_simp; all_goals (with_reducible rfl))
    try simp only [Act.put, List.setIfInBounds_toArray, List.set_cons_zero, List.set_cons_succ]
    refine zgo_take 22 (v := ?_) rfl (by kernel_rfl) (by kernel_rfl) (by kernel_rfl) (by kernel_rfl) (fun _ _ _ h => h) (by rfl) ?_ (by assumption) ?_
    rotate_left
    · (intro w hSw; (try dsimp only at hSw); go_simp; all_goals (with_reducible rfl))
    try simp only [Act.put, List.setIfInBounds_toArray, List.set_cons_zero, List.set_cons_succ]
    refine zgo_last (by kernel_rfl) (by kernel_rfl) rfl (fun K hK => ?_)
    go_simp
    refine hK.out _ _ ?_
    clear hK K
    go_wp2_with fail
    go_ret
    have how7 : w6.ownsRow w.heap.size 63 2 (.slice aw6 (L.length + 1) cw6) (addL L id s).length (cellsP (addL L id s)) := by
      rw [len_addL, cells_addL, hpos.out, List.drop_of_length_le hnk]; exact how6.out
    exact ⟨_, rfl, h.out.store hbw6'.out how7 (Nat.le_trans h.out.low (Nat.le_of_lt h.out.cells.lt))⟩
end Go.Proofs.Ytgldlfgidmgmfaa
