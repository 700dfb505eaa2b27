/- Layer 8's reference: its numbers in memory; New, at, Get, Len. -/
import Derived.Test.YtgldlfgidmgmfaaD08n
namespace Go.Proofs.Ytgldlfgidmgmfaa
open Go.RowKit

def cellsP (L : List (Int × Int)) : List Value := L.flatMap fun p => [.int .i64 p.1, .int .u64 p.2]
theorem cellsP_len : ∀ L : List (Int × Int), (cellsP L).length = L.length * 2
  | [] => rfl
  | p :: L => by
    have := cellsP_len L
    unfold cellsP at this ⊢
    rw [List.flatMap_cons, List.length_append, this]
    simp; omega
theorem cellsP_app (a b : List (Int × Int)) : cellsP (a ++ b) = cellsP a ++ cellsP b := List.flatMap_append
theorem cellsP_one : ∀ (L : List (Int × Int)), ∀ u ∈ cellsP L, u.oneCell' = true := by
  intro L u hu
  obtain ⟨p, _, hp⟩ := List.mem_flatMap.1 hu
  simp at hp
  rcases hp with rfl | rfl <;> rfl
theorem cellsP_split (L : List (Int × Int)) (i : Nat) : cellsP L = cellsP (L.take i) ++ cellsP (L.drop i) := by rw [← cellsP_app, List.take_append_drop]
theorem cellsP_take (L : List (Int × Int)) (i : Nat) (h : i ≤ L.length) : (cellsP L).take (i * 2) = cellsP (L.take i) := by
  rw [cellsP_split L i, List.take_left' (by rw [cellsP_len, List.length_take]; omega)]
theorem cellsP_drop (L : List (Int × Int)) (i : Nat) (h : i ≤ L.length) : (cellsP L).drop (i * 2) = cellsP (L.drop i) := by
  rw [cellsP_split L i, List.drop_left' (by rw [cellsP_len, List.length_take]; omega)]
theorem cellsP_get (L : List (Int × Int)) (i : Nat) (h : i < L.length) : (cellsP L)[i * 2]? = some (.int .i64 (L[i]'h).1) ∧ (cellsP L)[i * 2 + 1]? = some (.int .u64 (L[i]'h).2) := by
  have hl : (cellsP (L.take i)).length = i * 2 := by rw [cellsP_len, List.length_take]; omega
  have e2 : cellsP L = cellsP (L.take i) ++ ([.int .i64 (L[i]'h).1, .int .u64 (L[i]'h).2] ++ cellsP (L.drop (i + 1))) := by
    conv => lhs; rw [cellsP_split L i, List.drop_eq_getElem_cons h]
    rfl
  rw [e2]
  constructor
  · rw [List.getElem?_append_right (by omega), hl]; simp
  · rw [List.getElem?_append_right (by omega), hl, show i * 2 + 1 - i * 2 = 1 by omega]; rfl

/-- The reference in memory: its numbers lie in a row from B on. -/
structure RefAt (w : World) (B Y d : Nat) (L : List (Int × Int)) (v : Value) : Prop where
  cells : ArrAt w Y 55 [.int .i64 d, v]
  row : w.ownsRow B 63 2 v L.length (cellsP L)
  low : B ≤ Y
  off : v.ownBlock ≠ some Y
variable {w : World} {B Y d : Nat} {L : List (Int × Int)} {v : Value}
theorem RefAt.turned {S : Nat → Prop} {w' : World} (h : RefAt w B Y d L v) (ht : Turned S w w') (hS : ∀ b, B ≤ b → S b → b ≠ Y ∧ v.ownBlock ≠ some b) : RefAt w' B Y d L v :=
  ⟨h.cells.turned ht fun e => (hS _ h.low e).1 rfl, ownsRow_turned h.row ht fun k hk e => (hS k (h.row.lt k hk).1 e).2 hk, h.low, h.off⟩
theorem RefAt.below {w' : World} (h : RefAt w B Y d L v) (hb : Below w.heap.size w w') : RefAt w' B Y d L v :=
  h.turned (S := fun _ => False) (Turned.of_below hb) fun _ _ e => e.elim
theorem RefAt.c0 (h : RefAt w B Y d L v) : w.cell? ⟨Y, 0, none⟩ = some (.int .i64 d) := by rw [h.cells.cell]; rfl
theorem RefAt.c1 (h : RefAt w B Y d L v) : w.cell? ⟨Y, 1, none⟩ = some v := by rw [h.cells.cell]; rfl
/-- What its slice is. -/
theorem RefAt.form (h : RefAt w B Y d L v) : (v = .slice none 0 0 ∧ L = []) ∨ ∃ g cap, v = .slice (some ⟨g, 0, none⟩) L.length cap ∧ L.length ≤ cap ∧ cap ≤ maxLen ∧ g ≠ Y ∧ g < w.heap.size ∧
    (∀ i (hi : i < L.length), w.cell? ⟨g, i * 2, none⟩ = some (.int .i64 (L[i]'hi).1) ∧ w.cell? ⟨g, i * 2 + 1, none⟩ = some (.int .u64 (L[i]'hi).2)) := by
  by_cases hv : v = .slice none 0 0
  · refine Or.inl ⟨hv, ?_⟩
    rcases h.row.2 with ⟨_, h0⟩ | ⟨_, _, _, h0, _⟩
    · exact List.length_eq_zero_iff.1 h0
    · rw [hv] at h0; cases h0
  · obtain ⟨g, cap, c, rfl, hg, hx, hcl, hnc, hcm⟩ := owns_arr h.row hv
    have hoff := h.off
    refine Or.inr ⟨g, cap, rfl, hnc, hcm, fun e => hoff (by rw [← e]; rfl), hg.lt, fun i hi => ?_⟩
    have hc := cellsP_get L i hi
    rw [← hx, List.getElem?_take, List.getElem?_take, if_pos (by omega), if_pos (by omega)] at hc
    rw [hg.cell, hg.cell]
    exact hc

theorem posL_is {L : List (Int × Int)} (h : Nums L) {id : Int} {k : Nat} (hk : k ≤ L.length) (h1 : ∀ j (hj : j < k), (L[j]'(by omega)).1 < id) (h2 : ∀ hk : k < L.length, ¬ (L[k]'hk).1 < id) : posL L id = k := by
  unfold posL
  have e : L.map Prod.fst = (L.take k).map Prod.fst ++ (L.drop k).map Prod.fst := by rw [← List.map_append, List.take_append_drop]
  rw [e, List.countP_append]
  have a1 : ((L.take k).map Prod.fst).countP (fun x => decide (x < id)) = k := by
    rw [List.countP_eq_length.2, List.length_map, List.length_take]
    · omega
    · intro x hx
      obtain ⟨p, hp, rfl⟩ := List.mem_map.1 hx
      obtain ⟨j, hj, rfl⟩ := List.mem_iff_getElem.1 hp
      rw [List.length_take] at hj
      rw [List.getElem_take]
      exact decide_eq_true (h1 j (by omega))
  have a2 : ((L.drop k).map Prod.fst).countP (fun x => decide (x < id)) = 0 := by
    rw [List.countP_eq_zero]
    intro x hx
    obtain ⟨p, hp, rfl⟩ := List.mem_map.1 hx
    obtain ⟨j, hj, rfl⟩ := List.mem_iff_getElem.1 hp
    rw [List.length_drop] at hj
    rw [List.getElem_drop]
    have h3 := h2 (by omega)
    have h4 : (L[k]'(by omega)).1 ≤ (L[k + j]'(by omega)).1 := by
      rcases Nat.eq_zero_or_pos j with rfl | hj'
      · exact Int.le_refl _
      · have := List.pairwise_iff_getElem.1 h.rises k (k + j) (by rw [List.length_map]; omega) (by rw [List.length_map]; omega) (by omega)
        rw [List.getElem_map, List.getElem_map] at this
        omega
    simp only [decide_eq_true_eq]
    omega
  omega

theorem refnew_no (d : Int) (w : World) (hd : ¬ mayB d = true) : Calls Try.prog 8 #[.int .i64 d] w fun e w' => e = .returned (.tuple #[.pointer none, .int .i64 1]) ∧ w = w' := by
  have hc := refcheck_any d w
  have hd' : mayB d = false := by simpa using hd
  rw [hd'] at hc
  clear hd hd'
  replace hc := Lib.hid hc
  go_enter Try.func8, Try.ntmps8
  go_wp2_with (go_at_call 26; refine hc.out.mono ?_; rintro e w' ⟨rfl, rfl⟩)
  refine bodyPost_ret (v := .tuple #[.pointer none, .int .i64 1]) (by simp [results, Try.results8, go_sem]) rfl ⟨rfl, rfl⟩
theorem refnew_yes (d : Nat) (w : World) (hd : d < 16) : Calls Try.prog 8 #[.int .i64 d] w fun e w' => ∃ Y, e = .returned (.tuple #[.pointer (some ⟨Y, 0, none⟩), .int .i64 0]) ∧ RefAt w' w.heap.size Y d [] (.slice none 0 0) ∧ Below w.heap.size w w' := by
  have hc := refcheck_any d w
  have hd' : mayB d = true := may_nat hd
  rw [hd'] at hc
  clear hd hd'
  replace hc := Lib.hid hc
  go_enter Try.func8, Try.ntmps8
  go_wp2_with (go_at_call 26; refine hc.out.mono ?_; rintro e w' ⟨rfl, rfl⟩)
  refine bodyPost_ret (v := .tuple #[.pointer (some ⟨w.heap.size, 0, none⟩), .int .i64 0]) (by simp [results, Try.results8, go_sem]) rfl ?_
  refine ⟨w.heap.size, rfl, ⟨arrAt_new _ _ [.int .i64 d, .slice none 0 0], World.ownsRow_nil _ _ _ _, Nat.le_refl _, by simp [Value.ownBlock]⟩, ?_⟩
  exact (Below.refl _ _).alloc (Nat.le_refl _) _
end Go.Proofs.Ytgldlfgidmgmfaa
