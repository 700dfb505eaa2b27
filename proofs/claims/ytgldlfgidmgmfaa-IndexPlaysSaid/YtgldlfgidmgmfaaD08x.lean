/- Layer 8's reference: Drop. -/
import Derived.Test.YtgldlfgidmgmfaaD08u
namespace Go.Proofs.Ytgldlfgidmgmfaa
open Go.RowKit
variable {w : World} {B Y d : Nat} {L : List (Int × Int)} {v : Value}

set_option maxHeartbeats 1000000 in
set_option maxRecDepth 100000 in
theorem refdrop_mid {g cap k : Nat} {id : Int} (h : RefAt w B Y d L (.slice (some ⟨g, 0, none⟩) L.length cap)) (hcap : L.length ≤ cap) (hcm : cap ≤ 9223372036854775807) (hm : L.length < 50000) (hpos : posL L id = k) (hnk : k < L.length) (hx : w.cell? ⟨g, k * 2, none⟩ = some (.int .i64 id)) (k3 : ¬ cap = k + 1) (hne : Calls Try.prog 30 #[.pointer (some ⟨Y, 0, none⟩), .int .i64 id] w fun e w' => e = .returned (.int .i64 (k : Nat)) ∧ w = w') :
    Calls Try.prog 14 #[.pointer (some ⟨Y, 0, none⟩), .int .i64 id] w (AddRPost B Y d (dropL L id) w) := by
  have c1 := h.c1
  have k0 : (0 : Int) ≤ k := by omega
  have k1 : (k : Int) ≤ cap := by omega
  have k4 : k ≤ L.length := by omega
  have k2 : (k : Int) < L.length := by omega
  have k5 : k + 1 ≤ L.length := by omega
  have k6 : ((k : Int) == (L.length : Int)) = false := by simp; omega
  have k7 : (k : Int) + 1 ≤ L.length := by omega
  have k8 : (k : Int) + 1 ≤ cap := by omega
  have k9 : IntKind.i64.wrap ((k : Int) + 1) = (k : Int) + 1 := by rw [IntKind.wrap_i64]; omega
  have k10 : (0 : Int) ≤ (k : Int) + 1 := by omega
  have k11 : (k : Int) ≤ (k : Int) + 1 := by omega
  have hlen : Hid ((dropL L id).length = L.length - 1) := by have := len_dropL (L := L) (id := id) (by omega); exact (by omega : (dropL L id).length = L.length - 1)
  replace hpos := Lib.hid hpos
  have hkeep := Lib.hid (fun w' (hb : Below w.heap.size w w') => h.kept hb)
  replace h := Lib.hid h
  replace hne := Lib.hid hne
  go_enter Try.func14, Try.ntmps14
  go_wp2_with (go_at_call 30; refine hne.out.mono ?_; rintro e w' ⟨rfl, rfl⟩)
  refine zgo_begin 19 (fun w' => w'.cell? ⟨Y, 1, none⟩ = some (.slice (some ⟨g, 0, none⟩) L.length cap) ∧ w'.frozen? ⟨Y, 1, none⟩ = false ∧ Hid (RefAt w' B Y d L (.slice (some ⟨g, 0, none⟩) L.length cap)) ∧ Hid (Below w.heap.size w w')) (by kernel_rfl) (hkeep.out _ (Drawn.below ⟨1, rfl⟩ _)) ?_
  intro hHeld
  refine zgo_take 0 (v := ?_) rfl (by kernel_rfl) (by kernel_rfl) (by kernel_rfl) (by kernel_rfl) (fun _ _ _ h => h) (by rfl) ?_ (by assumption) ?_
  rotate_left
  · (intro w hSw; (try dsimp only at hSw); go_simp; all_goals (with_reducible rfl))
  try simp only [Act.put, List.setIfInBounds_toArray, List.set_cons_zero, List.set_cons_succ]
  refine zgo_take 2 (v := ?_) rfl (by kernel_rfl) (by kernel_rfl) (by kernel_rfl) (by kernel_rfl) (fun _ _ _ h => h) (by rfl) ?_ (by assumption) ?_
  rotate_left
  · (intro w hSw; (try dsimp only at hSw); go_simp; all_goals (with_reducible rfl))
  try simp only [Act.put, List.setIfInBounds_toArray, List.set_cons_zero, List.set_cons_succ]
  refine zgo_take 3 (v := ?_) rfl (by kernel_rfl) (by kernel_rfl) (by kernel_rfl) (by kernel_rfl) (fun _ _ _ h => h) (by rfl) ?_ (by assumption) ?_
  rotate_left
  · (intro w hSw; (try dsimp only at hSw); go_simp; all_goals (with_reducible rfl))
  try simp only [Act.put, List.setIfInBounds_toArray, List.set_cons_zero, List.set_cons_succ]
  refine zgo_take 4 (v := ?_) rfl (by kernel_rfl) (by kernel_rfl) (by kernel_rfl) (by kernel_rfl) (fun _ _ _ h => h) (by rfl) ?_ (by assumption) ?_
  rotate_left
  · (intro w hSw; (try dsimp only at hSw); go_simp; all_goals (with_reducible rfl))
  try simp only [Act.put, List.setIfInBounds_toArray, List.set_cons_zero, List.set_cons_succ]
  refine zgo_take 5 (v := ?_) rfl (by kernel_rfl) (by kernel_rfl) (by kernel_rfl) (by kernel_rfl) (fun _ _ _ h => h) (by rfl) ?_ (by assumption) ?_
  rotate_left
  · (intro w hSw; (try dsimp only at hSw); go_simp; all_goals (with_reducible rfl))
  try simp only [Act.put, List.setIfInBounds_toArray, List.set_cons_zero, List.set_cons_succ]
  refine zgo_take 6 (v := ?_) rfl (by kernel_rfl) (by kernel_rfl) (by kernel_rfl) (by kernel_rfl) (fun _ _ _ h => h) (by rfl) ?_ (by assumption) ?_
  rotate_left
  · (intro w hSw; (try dsimp only at hSw); go_simp; all_goals (with_reducible rfl))
  try simp only [Act.put, List.setIfInBounds_toArray, List.set_cons_zero, List.set_cons_succ]
  refine zgo_take 7 (v := ?_) rfl (by kernel_rfl) (by kernel_rfl) (by kernel_rfl) (by kernel_rfl) (fun _ _ _ h => h) (by rfl) ?_ (by assumption) ?_
  rotate_left
  · (intro w hSw; (try dsimp only at hSw); go_simp; all_goals (with_reducible rfl))
  try simp only [Act.put, List.setIfInBounds_toArray, List.set_cons_zero, List.set_cons_succ]
  refine zgo_take 9 (v := ?_) rfl (by kernel_rfl) (by kernel_rfl) (by kernel_rfl) (by kernel_rfl) (fun _ _ _ h => h) (by rfl) ?_ (by assumption) ?_
  rotate_left
  · (intro w hSw; (try dsimp only at hSw); go_simp; all_goals (with_reducible rfl))
  try simp only [Act.put, List.setIfInBounds_toArray, List.set_cons_zero, List.set_cons_succ]
  refine zgo_take 10 (v := ?_) rfl (by kernel_rfl) (by kernel_rfl) (by kernel_rfl) (by kernel_rfl) (fun _ _ _ h => h) (by rfl) ?_ (by assumption) ?_
  rotate_left
  · (intro w hSw; (try dsimp only at hSw); go_simp; all_goals (with_reducible rfl))
  try simp only [Act.put, List.setIfInBounds_toArray, List.set_cons_zero, List.set_cons_succ]
  refine zgo_take 11 (v := ?_) rfl (by kernel_rfl) (by kernel_rfl) (by kernel_rfl) (by kernel_rfl) (fun _ _ _ h => h) (by rfl) ?_ (by assumption) ?_
  rotate_left
  · (intro w hSw; (try dsimp only at hSw); go_simp; all_goals (with_reducible rfl))
  try simp only [Act.put, List.setIfInBounds_toArray, List.set_cons_zero, List.set_cons_succ]
  refine zgo_take 12 (v := ?_) rfl (by kernel_rfl) (by kernel_rfl) (by kernel_rfl) (by kernel_rfl) (fun _ _ _ h => h) (by rfl) ?_ (by assumption) ?_
  rotate_left
  · (intro w hSw; (try dsimp only at hSw); go_simp; all_goals (with_reducible rfl))
  try simp only [Act.put, List.setIfInBounds_toArray, List.set_cons_zero, List.set_cons_succ]
  refine zgo_take 13 (v := ?_) rfl (by kernel_rfl) (by kernel_rfl) (by kernel_rfl) (by kernel_rfl) (fun _ _ _ h => h) (by rfl) ?_ (by assumption) ?_
  rotate_left
  · (intro w hSw; (try dsimp only at hSw); go_simp; all_goals (with_reducible rfl))
  try simp only [Act.put, List.setIfInBounds_toArray, List.set_cons_zero, List.set_cons_succ]
  refine zgo_take 14 (v := ?_) rfl (by kernel_rfl) (by kernel_rfl) (by kernel_rfl) (by kernel_rfl) (fun _ _ _ h => h) (by rfl) ?_ (by assumption) ?_
  rotate_left
  · (intro w hSw; (try dsimp only at hSw); go_simp; all_goals (with_reducible rfl))
  try simp only [Act.put, List.setIfInBounds_toArray, List.set_cons_zero, List.set_cons_succ]
  refine zgo_take 15 (v := ?_) rfl (by kernel_rfl) (by kernel_rfl) (by kernel_rfl) (by kernel_rfl) (fun _ _ _ h => h) (by rfl) ?_ (by assumption) ?_
  rotate_left
  · (intro w hSw; (try dsimp only at hSw); go_simp; all_goals (with_reducible rfl))
  try simp only [Act.put, List.setIfInBounds_toArray, List.set_cons_zero, List.set_cons_succ]
  refine zgo_ready [1] (by kernel_rfl) (by simp) ?_
  refine ZAll.cons rfl (fun K hK => ?_) ZAll.nil
  go_simp
  refine hide_world (R := fun w' => ArrAt w' w.heap.size 63 [] ∧ Below w.heap.size w w' ∧ Below w.heap.size w w') (new_in_drew 63 [] (Below.refl _ _) (Nat.le_refl _)) ?_
  intro w1 hw1
  refine hK.out _ _ (hkeep.out _ (hw1.out.2.1)) (fun hHeld => ?_)
  clear hK K
  try simp only [Act.put, List.setIfInBounds_toArray, List.set_cons_zero, List.set_cons_succ]
  refine zgo_ready [8] (by kernel_rfl) (by simp) ?_
  refine ZAll.cons rfl (fun K hK => ?_) ZAll.nil
  refine step_append_part rfl _ _ 53 rfl w.heap.size 63 (.agg #[.int .i64 0, .int .u64 0]) 2 16 Try.underlying53 info_p rfl (by decide) (.slice (some ⟨w.heap.size, 0, none⟩) 0 0) 0 [] rfl (empty_own hw1.out.1 (Nat.le_refl _)) (some ⟨g, 0, none⟩) k cap (cellsP (L.take k)) rfl (by rw [cellsP_len, List.length_take]; omega) ((h.out.below (hw1.out.2.1)).front k k4) (cellsP_one _) (k) (by omega) (by unfold maxLen; omega) (by omega) (by have := (hw1.out.2.1).size; omega) ?_
  intro aw2 cw2 w2 how2 hbw2 hgw2
  have hbw2' := Lib.hid ((hw1.out.2.1).trans hbw2.out)
  refine hK.out _ _ (hkeep.out _ (hbw2'.out)) (fun hHeld => ?_)
  clear hK K
  try simp only [Act.put, List.setIfInBounds_toArray, List.set_cons_zero, List.set_cons_succ]
  refine zgo_ready [16] (by kernel_rfl) (by simp) ?_
  refine ZAll.cons rfl (fun K hK => ?_) ZAll.nil
  refine step_append_part rfl _ _ 53 rfl w.heap.size 63 (.agg #[.int .i64 0, .int .u64 0]) 2 16 Try.underlying53 info_p rfl (by decide) (.slice aw2 k cw2) k (cellsP (L.take k)) rfl (how2.out) (some ⟨g, (k + 1) * 2, none⟩) (L.length - (k + 1)) (cap - (k + 1)) (cellsP (L.drop (k + 1))) rfl (by rw [cellsP_len, List.length_drop]) ((h.out.below (hbw2'.out)).back (k + 1) k5) (cellsP_one _) (L.length - 1) (by omega) (by unfold maxLen; omega) (by omega) (by have := (hbw2'.out).size; omega) ?_
  intro aw6 cw6 w6 how6 hbw6 hgw6
  have hbw6' := Lib.hid ((hbw2'.out).trans hbw6.out)
  refine hK.out _ _ (hkeep.out _ (hbw6'.out)) (fun hHeld => ?_)
  clear hK K
  try simp only [Act.put, List.setIfInBounds_toArray, List.set_cons_zero, List.set_cons_succ]
  refine zgo_take 17 (v := ?_) rfl (by kernel_rfl) (by kernel_rfl) (by kernel_rfl) (by kernel_rfl) (fun _ _ _ h => h) (by rfl) ?_ (by assumption) ?_
  rotate_left
  · (intro w hSw; (try dsimp only at hSw); go_simp; all_goals (with_reducible rfl))
  try simp only [Act.put, List.setIfInBounds_toArray, List.set_cons_zero, List.set_cons_succ]
  refine zgo_take 18 (v := ?_) rfl (by kernel_rfl) (by kernel_rfl) (by kernel_rfl) (by kernel_rfl) (fun _ _ _ h => h) (by rfl) ?_ (by assumption) ?_
  rotate_left
  · (intro w hSw; (try dsimp only at hSw); go_simp; all_goals (with_reducible rfl))
  try simp only [Act.put, List.setIfInBounds_toArray, List.set_cons_zero, List.set_cons_succ]
  refine zgo_last (by kernel_rfl) (by kernel_rfl) rfl (fun K hK => ?_)
  go_simp
  refine hK.out _ _ ?_
  clear hK K
  go_wp2_with fail
  go_ret
  have how7 : w6.ownsRow w.heap.size 63 2 (.slice aw6 (L.length - 1) cw6) (dropL L id).length (cellsP (dropL L id)) := by
    rw [hlen.out, cells_dropL, hpos.out]; exact how6.out
  exact ⟨_, rfl, h.out.store hbw6'.out how7 (Nat.le_trans h.out.low (Nat.le_of_lt h.out.cells.lt))⟩

set_option maxHeartbeats 1000000 in
set_option maxRecDepth 100000 in
theorem refdrop_full {g k : Nat} {id : Int} (h : RefAt w B Y d L (.slice (some ⟨g, 0, none⟩) L.length (k + 1))) (hle : L.length ≤ k + 1) (hm : L.length < 50000) (hpos : posL L id = k) (hnk : k < L.length) (hx : w.cell? ⟨g, k * 2, none⟩ = some (.int .i64 id)) (hne : Calls Try.prog 30 #[.pointer (some ⟨Y, 0, none⟩), .int .i64 id] w fun e w' => e = .returned (.int .i64 (k : Nat)) ∧ w = w') :
    Calls Try.prog 14 #[.pointer (some ⟨Y, 0, none⟩), .int .i64 id] w (AddRPost B Y d (dropL L id) w) := by
  have c1 := h.c1
  have k0 : (0 : Int) ≤ k := by omega
  have k4 : k ≤ L.length := by omega
  have k2 : (k : Int) < L.length := by omega
  have k5 : k + 1 ≤ L.length := by omega
  have k6 : ((k : Int) == (L.length : Int)) = false := by simp; omega
  have k7 : (k : Int) + 1 ≤ L.length := by omega
  have k9 : IntKind.i64.wrap ((k : Int) + 1) = (k : Int) + 1 := by rw [IntKind.wrap_i64]; omega
  have k10 : (0 : Int) ≤ (k : Int) + 1 := by omega
  have k11 : (k : Int) ≤ (k : Int) + 1 := by omega
  have hlen : Hid ((dropL L id).length = L.length - 1) := by have := len_dropL (L := L) (id := id) (by omega); exact (by omega : (dropL L id).length = L.length - 1)
  replace hpos := Lib.hid hpos
  have hkeep := Lib.hid (fun w' (hb : Below w.heap.size w w') => h.kept hb)
  replace h := Lib.hid h
  replace hne := Lib.hid hne
  go_enter Try.func14, Try.ntmps14
  go_wp2_with (go_at_call 30; refine hne.out.mono ?_; rintro e w' ⟨rfl, rfl⟩)
  refine zgo_begin 19 (fun w' => w'.cell? ⟨Y, 1, none⟩ = some (.slice (some ⟨g, 0, none⟩) L.length (k + 1)) ∧ w'.frozen? ⟨Y, 1, none⟩ = false ∧ Hid (RefAt w' B Y d L (.slice (some ⟨g, 0, none⟩) L.length (k + 1))) ∧ Hid (Below w.heap.size w w')) (by kernel_rfl) (hkeep.out _ (Drawn.below ⟨1, rfl⟩ _)) ?_
  intro hHeld
  refine zgo_take 0 (v := ?_) rfl (by kernel_rfl) (by kernel_rfl) (by kernel_rfl) (by kernel_rfl) (fun _ _ _ h => h) (by rfl) ?_ (by assumption) ?_
  rotate_left
  · (intro w hSw; (try dsimp only at hSw); go_simp; all_goals (with_reducible rfl))
  try simp only [Act.put, List.setIfInBounds_toArray, List.set_cons_zero, List.set_cons_succ]
  refine zgo_take 2 (v := ?_) rfl (by kernel_rfl) (by kernel_rfl) (by kernel_rfl) (by kernel_rfl) (fun _ _ _ h => h) (by rfl) ?_ (by assumption) ?_
  rotate_left
  · (intro w hSw; (try dsimp only at hSw); go_simp; all_goals (with_reducible rfl))
  try simp only [Act.put, List.setIfInBounds_toArray, List.set_cons_zero, List.set_cons_succ]
  refine zgo_take 3 (v := ?_) rfl (by kernel_rfl) (by kernel_rfl) (by kernel_rfl) (by kernel_rfl) (fun _ _ _ h => h) (by rfl) ?_ (by assumption) ?_
  rotate_left
  · (intro w hSw; (try dsimp only at hSw); go_simp; all_goals (with_reducible rfl))
  try simp only [Act.put, List.setIfInBounds_toArray, List.set_cons_zero, List.set_cons_succ]
  refine zgo_take 4 (v := ?_) rfl (by kernel_rfl) (by kernel_rfl) (by kernel_rfl) (by kernel_rfl) (fun _ _ _ h => h) (by rfl) ?_ (by assumption) ?_
  rotate_left
  · (intro w hSw; (try dsimp only at hSw); go_simp; all_goals (with_reducible rfl))
  try simp only [Act.put, List.setIfInBounds_toArray, List.set_cons_zero, List.set_cons_succ]
  refine zgo_take 5 (v := ?_) rfl (by kernel_rfl) (by kernel_rfl) (by kernel_rfl) (by kernel_rfl) (fun _ _ _ h => h) (by rfl) ?_ (by assumption) ?_
  rotate_left
  · (intro w hSw; (try dsimp only at hSw); go_simp; all_goals (with_reducible rfl))
  try simp only [Act.put, List.setIfInBounds_toArray, List.set_cons_zero, List.set_cons_succ]
  refine zgo_take 6 (v := ?_) rfl (by kernel_rfl) (by kernel_rfl) (by kernel_rfl) (by kernel_rfl) (fun _ _ _ h => h) (by rfl) ?_ (by assumption) ?_
  rotate_left
  · (intro w hSw; (try dsimp only at hSw); go_simp; all_goals (with_reducible rfl))
  try simp only [Act.put, List.setIfInBounds_toArray, List.set_cons_zero, List.set_cons_succ]
  refine zgo_take 7 (v := ?_) rfl (by kernel_rfl) (by kernel_rfl) (by kernel_rfl) (by kernel_rfl) (fun _ _ _ h => h) (by rfl) ?_ (by assumption) ?_
  rotate_left
  · (intro w hSw; (try dsimp only at hSw); go_simp; all_goals (with_reducible rfl))
  try simp only [Act.put, List.setIfInBounds_toArray, List.set_cons_zero, List.set_cons_succ]
  refine zgo_take 9 (v := ?_) rfl (by kernel_rfl) (by kernel_rfl) (by kernel_rfl) (by kernel_rfl) (fun _ _ _ h => h) (by rfl) ?_ (by assumption) ?_
  rotate_left
  · (intro w hSw; (try dsimp only at hSw); go_simp; all_goals (with_reducible rfl))
  try simp only [Act.put, List.setIfInBounds_toArray, List.set_cons_zero, List.set_cons_succ]
  refine zgo_take 10 (v := ?_) rfl (by kernel_rfl) (by kernel_rfl) (by kernel_rfl) (by kernel_rfl) (fun _ _ _ h => h) (by rfl) ?_ (by assumption) ?_
  rotate_left
  · (intro w hSw; (try dsimp only at hSw); go_simp; all_goals (with_reducible rfl))
  try simp only [Act.put, List.setIfInBounds_toArray, List.set_cons_zero, List.set_cons_succ]
  refine zgo_take 11 (v := ?_) rfl (by kernel_rfl) (by kernel_rfl) (by kernel_rfl) (by kernel_rfl) (fun _ _ _ h => h) (by rfl) ?_ (by assumption) ?_
  rotate_left
  · (intro w hSw; (try dsimp only at hSw); go_simp; all_goals (with_reducible rfl))
  try simp only [Act.put, List.setIfInBounds_toArray, List.set_cons_zero, List.set_cons_succ]
  refine zgo_take 12 (v := ?_) rfl (by kernel_rfl) (by kernel_rfl) (by kernel_rfl) (by kernel_rfl) (fun _ _ _ h => h) (by rfl) ?_ (by assumption) ?_
  rotate_left
  · (intro w hSw; (try dsimp only at hSw); go_simp; all_goals (with_reducible rfl))
  try simp only [Act.put, List.setIfInBounds_toArray, List.set_cons_zero, List.set_cons_succ]
  refine zgo_take 13 (v := ?_) rfl (by kernel_rfl) (by kernel_rfl) (by kernel_rfl) (by kernel_rfl) (fun _ _ _ h => h) (by rfl) ?_ (by assumption) ?_
  rotate_left
  · (intro w hSw; (try dsimp only at hSw); go_simp; all_goals (with_reducible rfl))
  try simp only [Act.put, List.setIfInBounds_toArray, List.set_cons_zero, List.set_cons_succ]
  refine zgo_take 14 (v := ?_) rfl (by kernel_rfl) (by kernel_rfl) (by kernel_rfl) (by kernel_rfl) (fun _ _ _ h => h) (by rfl) ?_ (by assumption) ?_
  rotate_left
  · (intro w hSw; (try dsimp only at hSw); go_simp; all_goals (with_reducible rfl))
  try simp only [Act.put, List.setIfInBounds_toArray, List.set_cons_zero, List.set_cons_succ]
  refine zgo_take 15 (v := ?_) rfl (by kernel_rfl) (by kernel_rfl) (by kernel_rfl) (by kernel_rfl) (fun _ _ _ h => h) (by rfl) ?_ (by assumption) ?_
  rotate_left
  · (intro w hSw; (try dsimp only at hSw); go_simp; all_goals (with_reducible rfl))
  try simp only [Act.put, List.setIfInBounds_toArray, List.set_cons_zero, List.set_cons_succ]
  refine zgo_ready [1] (by kernel_rfl) (by simp) ?_
  refine ZAll.cons rfl (fun K hK => ?_) ZAll.nil
  go_simp
  refine hide_world (R := fun w' => ArrAt w' w.heap.size 63 [] ∧ Below w.heap.size w w' ∧ Below w.heap.size w w') (new_in_drew 63 [] (Below.refl _ _) (Nat.le_refl _)) ?_
  intro w1 hw1
  refine hK.out _ _ (hkeep.out _ (hw1.out.2.1)) (fun hHeld => ?_)
  clear hK K
  try simp only [Act.put, List.setIfInBounds_toArray, List.set_cons_zero, List.set_cons_succ]
  refine zgo_ready [8] (by kernel_rfl) (by simp) ?_
  refine ZAll.cons rfl (fun K hK => ?_) ZAll.nil
  refine step_append_part rfl _ _ 53 rfl w.heap.size 63 (.agg #[.int .i64 0, .int .u64 0]) 2 16 Try.underlying53 info_p rfl (by decide) (.slice (some ⟨w.heap.size, 0, none⟩) 0 0) 0 [] rfl (empty_own hw1.out.1 (Nat.le_refl _)) (some ⟨g, 0, none⟩) k (k + 1) (cellsP (L.take k)) rfl (by rw [cellsP_len, List.length_take]; omega) ((h.out.below (hw1.out.2.1)).front k k4) (cellsP_one _) (k) (by omega) (by unfold maxLen; omega) (by omega) (by have := (hw1.out.2.1).size; omega) ?_
  intro aw2 cw2 w2 how2 hbw2 hgw2
  have hbw2' := Lib.hid ((hw1.out.2.1).trans hbw2.out)
  refine hK.out _ _ (hkeep.out _ (hbw2'.out)) (fun hHeld => ?_)
  clear hK K
  try simp only [Act.put, List.setIfInBounds_toArray, List.set_cons_zero, List.set_cons_succ]
  refine zgo_ready [16] (by kernel_rfl) (by simp) ?_
  refine ZAll.cons rfl (fun K hK => ?_) ZAll.nil
  refine step_append_part rfl _ _ 53 rfl w.heap.size 63 (.agg #[.int .i64 0, .int .u64 0]) 2 16 Try.underlying53 info_p rfl (by decide) (.slice aw2 k cw2) k (cellsP (L.take k)) rfl (how2.out) (some ⟨g, 0, none⟩) 0 0 [] rfl (by simp) (partOf_nil _ _) (one_no) (L.length - 1) (by omega) (by unfold maxLen; omega) (by omega) (by have := (hbw2'.out).size; omega) ?_
  intro aw6 cw6 w6 how6 hbw6 hgw6
  have hbw6' := Lib.hid ((hbw2'.out).trans hbw6.out)
  refine hK.out _ _ (hkeep.out _ (hbw6'.out)) (fun hHeld => ?_)
  clear hK K
  try simp only [Act.put, List.setIfInBounds_toArray, List.set_cons_zero, List.set_cons_succ]
  refine zgo_take 17 (v := ?_) rfl (by kernel_rfl) (by kernel_rfl) (by kernel_rfl) (by kernel_rfl) (fun _ _ _ h => h) (by rfl) ?_ (by assumption) ?_
  rotate_left
  · (intro w hSw; (try dsimp only at hSw); go_simp; all_goals (with_reducible rfl))
  try simp only [Act.put, List.setIfInBounds_toArray, List.set_cons_zero, List.set_cons_succ]
  refine zgo_take 18 (v := ?_) rfl (by kernel_rfl) (by kernel_rfl) (by kernel_rfl) (by kernel_rfl) (fun _ _ _ h => h) (by rfl) ?_ (by assumption) ?_
  rotate_left
  · (intro w hSw; (try dsimp only at hSw); go_simp; all_goals (with_reducible rfl))
  try simp only [Act.put, List.setIfInBounds_toArray, List.set_cons_zero, List.set_cons_succ]
  refine zgo_last (by kernel_rfl) (by kernel_rfl) rfl (fun K hK => ?_)
  go_simp
  refine hK.out _ _ ?_
  clear hK K
  go_wp2_with fail
  go_ret
  have how7 : w6.ownsRow w.heap.size 63 2 (.slice aw6 (L.length - 1) cw6) (dropL L id).length (cellsP (dropL L id)) := by
    rw [hlen.out, cells_dropL, hpos.out, List.drop_of_length_le (by omega)]; exact how6.out
  exact ⟨_, rfl, h.out.store hbw6'.out how7 (Nat.le_trans h.out.low (Nat.le_of_lt h.out.cells.lt))⟩
end Go.Proofs.Ytgldlfgidmgmfaa
