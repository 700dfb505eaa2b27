/- slices.Sort, Compact, BinarySearch at []int in the words of rows that are owned; lists that rise. -/
import Derived.Test.YtgldlfgidmgmfaaSv
import Derived.Test.YtgldlfgidmgmfaaIp
import Derived.Test.YtgldlfgidmgmfaaNi
import Derived.Lib.RowBridge
namespace Go.Proofs.Ytgldlfgidmgmfaa
open Go.RowKit Go.Sort Go.Lib

theorem holds_own {w : World} {g n cap : Nat} {zs : List Int} (h : w.ownsRow 0 3 1 (.slice (some ⟨g, 0, none⟩) n cap) n (zs.map (Value.int .i64))) : Holds (Value.int .i64) w g 0 zs.toArray := by
  intro j hj
  have hl : zs.length = n := by simpa using h.1
  have hj' : j < zs.length := by simpa using hj
  rw [Nat.zero_add]
  refine ⟨?_, h.frozenAt j⟩
  rw [h.cellAt j (by omega), List.getElem?_map, List.getElem?_eq_getElem hj', getElem!_pos _ j (by simpa using hj')]
  rfl
theorem putRow_arr {w : World} {g : Nat} {t : TypeId} {cur : List Value} {α : Type} [Inhabited α] (enc : α → Value) (d : List α) (h : ArrAt w g t cur) (hd : d.length ≤ cur.length) : ArrAt (putRow enc w g 0 d.toArray) g t (d.map enc ++ cur.drop d.length) := by
  unfold ArrAt at h ⊢
  unfold putRow mapBlock
  simp only [Array.getElem?_modify, if_true, h, Option.map_some, onCells]
  congr 2
  apply Array.ext_getElem?
  intro k
  simp only [putCells, Array.getElem?_mapIdx, List.getElem?_toArray, List.size_toArray, Nat.zero_add, Nat.sub_zero, Nat.zero_le, true_and]
  by_cases hk : k < d.length
  · rw [List.getElem?_append_left (by simpa using hk), List.getElem?_eq_getElem (show k < cur.length by omega), Option.map_some, if_pos hk, List.getElem?_map, List.getElem?_eq_getElem hk, getElem!_pos _ k (by simpa using hk)]
    rfl
  · rw [List.getElem?_append_right (by simp; omega), List.getElem?_drop, List.length_map, show d.length + (k - d.length) = k by omega]
    cases cur[k]? with
    | none => rfl
    | some x => simp [hk]
theorem putRow_grown {α : Type} [Inhabited α] (enc : α → Value) (w : World) (g off : Nat) (d : Array α) : w.grownBy (putRow enc w g off d) (some g) := by
  refine ⟨rfl, rfl, rfl, by simp [putRow, mapBlock], fun k _ hk => ?_⟩
  unfold putRow mapBlock
  rw [Array.getElem?_modify, if_neg (fun e => hk (by rw [e]))]
theorem grow_grown (w : World) (os : Array Obj) (row : Option Nat) : w.grownBy (grow w os) row :=
  ⟨rfl, rfl, rfl, by simp [grow], fun k hk _ => by show (w.heap ++ os)[k]? = _; rw [Array.getElem?_append_left hk]⟩
theorem ahead_grown (w : World) (n : Nat) (row : Option Nat) : w.grownBy (Sort.ahead w n) row := ⟨rfl, rfl, rfl, Nat.le_refl _, fun _ _ _ => rfl⟩

/-- slices.Sort of a slice that is owned: it stands where it stood. -/
def SortPost (w : World) (v : Value) (zs : List Int) (e : Ending) (w' : World) : Prop :=
  e = .returned (.tuple #[]) ∧ w'.ownsRow 0 3 1 v zs.length ((zs.mergeSort fun x y => decide (x ≤ y)).map (Value.int .i64)) ∧ w.grownBy w' v.ownBlock
theorem sort_own (v : Value) (zs : List Int) (w : World) (h : w.ownsRow 0 3 1 v zs.length (zs.map (Value.int .i64))) (hn : zs.length ≤ 1000000) :
    Calls Try.prog 36 #[v] w (SortPost w v zs) := by
  by_cases hv : v = .slice none 0 0
  · subst hv
    have h0 : zs = [] := by
      rcases h.2 with ⟨_, h0⟩ | ⟨_, _, _, h0, _⟩
      · exact List.length_eq_zero_iff.1 h0
      · cases h0
    subst h0
    refine (Laid.slices_Sort_int_none none 0 w).mono ?_
    rintro e w' ⟨rfl, rfl⟩
    exact ⟨rfl, by rw [List.mergeSort_nil]; exact h, ⟨rfl, rfl, rfl, Nat.le_refl _, fun _ _ _ => rfl⟩⟩
  · obtain ⟨g, cap, c, rfl, hg, hx, hcl, hnc, hcm⟩ := owns_arr h hv
    refine (Laid.slices_Sort_int g 0 cap zs w (holds_own h) hg.lt (by omega)).mono ?_
    rintro e w' ⟨rfl, n, os, rfl⟩
    have hl : (zs.mergeSort fun x y => decide (x ≤ y)).length = zs.length := List.length_mergeSort _
    have h1 : ArrAt (Sort.ahead w n) g 3 c := hg
    have h2 := putRow_arr (Value.int .i64) (zs.mergeSort fun x y => decide (x ≤ y)) h1 (by rw [hl, hcl]; omega)
    have h3 := h2.grown (grow_grown _ os none) (by simp)
    refine ⟨rfl, h3.owns (by rw [List.take_left' (by simp)]) (by simp; omega) hnc hcm, ?_⟩
    exact grown_trans (grown_trans (ahead_grown w n _) (putRow_grown _ _ _ _ _)) (grow_grown _ _ _)

theorem compact_own (v : Value) (zs : List Int) (w : World) (h : w.ownsRow 0 3 1 v zs.length (zs.map (Value.int .i64))) (hn : zs.length ≤ 1000000) :
    Calls Try.prog 37 #[v] w (DelPost 3 1 w v (Lib.compact zs).length ((Lib.compact zs).map (Value.int .i64))) := by
  by_cases hv : v = .slice none 0 0
  · subst hv
    have h0 : zs = [] := by
      rcases h.2 with ⟨_, h0⟩ | ⟨_, _, _, h0, _⟩
      · exact List.length_eq_zero_iff.1 h0
      · cases h0
    subst h0
    refine (Laid.slices_Compact_int_empty none 0 w).mono ?_
    rintro e w' ⟨rfl, rfl⟩
    exact ⟨_, rfl, h, ⟨rfl, rfl, rfl, Nat.le_refl _, fun _ _ _ => rfl⟩, rfl⟩
  · obtain ⟨g, cap, c, rfl, hg, hx, hcl, hnc, hcm⟩ := owns_arr h hv
    refine (Laid.slices_Compact_int g 0 cap zs w (holds_own h) (by omega) hnc).mono ?_
    rintro e w' ⟨rfl, n, rfl⟩
    have hl := compact_length_le zs
    have h1 : ArrAt (Sort.ahead w n) g 3 c := hg
    have h2 := putRow_arr (Value.int .i64) (Lib.compact zs ++ List.replicate (zs.length - (Lib.compact zs).length) 0) h1 (by simp; omega)
    refine ⟨_, rfl, h2.owns (by rw [List.map_append, List.append_assoc]; exact List.take_left' (by simp)) (by simp; omega) (by omega) hcm, ?_, rfl⟩
    exact grown_trans (ahead_grown w n _) (putRow_grown _ _ _ _ _)

/-- slices.BinarySearch in a slice that rises. -/
theorem search_own (v : Value) (zs : List Int) (x : Int) (w : World) (h : w.ownsRow 0 3 1 v zs.length (zs.map (Value.int .i64))) (hn : zs.length ≤ 1000000) (hs : zs.Pairwise (· < ·)) :
    Calls Try.prog 45 #[v, .int .i64 x] w fun e w' => e = .returned (.tuple #[.int .i64 (zs.countP (· < x) : Nat), .bool (zs.contains x)]) ∧ Drawn w w' := by
  by_cases hv : v = .slice none 0 0
  · subst hv
    have h0 : zs = [] := by
      rcases h.2 with ⟨_, h0⟩ | ⟨_, _, _, h0, _⟩
      · exact List.length_eq_zero_iff.1 h0
      · cases h0
    subst h0
    refine (Laid.slices_BinarySearch_int_empty none 0 x w).mono ?_
    rintro e w' ⟨rfl, rfl⟩
    exact ⟨rfl, Drawn.refl _⟩
  · obtain ⟨g, cap, c, rfl, hg, hx, hcl, hnc, hcm⟩ := owns_arr h hv
    have hc : ∀ j, j < zs.length → w.cell? ⟨g, 0 + j, none⟩ = some (.int .i64 (zs.getD j 0)) := fun j hj => by
      rw [Nat.zero_add, h.cellAt j (by omega), List.getElem?_map, List.getElem?_eq_getElem hj]; simp [List.getD, hj]
    have hc2 := Laid.slices_BinarySearch_int g 0 zs.length cap zs x w (Nat.le_refl _) (by omega) hc (by rw [List.take_length]; exact hs.imp (fun h => Int.le_of_lt h))
    rw [List.take_length] at hc2
    refine hc2.mono ?_
    rintro e w' ⟨rfl, q, rfl⟩
    exact ⟨rfl, q, rfl⟩

/-! Lists that rise. -/
theorem sorted_get {d : Array Int} (hs : d.toList.Pairwise (· ≤ ·)) {i j : Nat} (hij : i ≤ j) (hj : j < d.size) : d[i]! ≤ d[j]! := by
  rw [getElem!_pos d i (by omega), getElem!_pos d j hj]
  rcases Nat.lt_or_ge i j with h | h
  · exact List.pairwise_iff_getElem.1 hs i j (by simpa using (by omega)) (by simpa using hj) h
  · have : i = j := by omega
    subst this; exact Int.le_refl _
theorem compact_rises {d : Array Int} (hs : d.toList.Pairwise (· ≤ ·)) : ∀ m, m ≤ d.size → (compactUpTo d m).Pairwise (· < ·) ∧ ∀ x, x ∈ compactUpTo d m ↔ ∃ j, j < m ∧ d[j]! = x
  | 0, _ => ⟨by simp [compactUpTo], fun x => by simp [compactUpTo]⟩
  | m + 1, hm => by
    obtain ⟨h1, h2⟩ := compact_rises hs m (by omega)
    rw [compactUpTo_succ]
    by_cases hk : keeps d m = true
    · rw [if_pos hk]
      refine ⟨List.pairwise_append.2 ⟨h1, by simp, fun a ha b hb => ?_⟩, fun x => ?_⟩
      · obtain ⟨j, hj, rfl⟩ := (h2 a).1 ha
        obtain rfl : b = d[m]! := by simpa using hb
        have hk' : m = 0 ∨ d[m]! ≠ d[m - 1]! := by simpa [keeps] using hk
        have e1 := sorted_get hs (show j ≤ m - 1 by omega) (by omega)
        have e2 := sorted_get hs (show m - 1 ≤ m by omega) (by omega)
        rcases hk' with h0 | h0
        · omega
        · omega
      · rw [List.mem_append, h2]
        constructor
        · rintro (⟨j, hj, rfl⟩ | h)
          · exact ⟨j, by omega, rfl⟩
          · exact ⟨m, by omega, (List.mem_singleton.1 h).symm⟩
        · rintro ⟨j, hj, rfl⟩
          rcases Nat.lt_or_ge j m with h | h
          · exact Or.inl ⟨j, h, rfl⟩
          · obtain rfl : j = m := by omega
            exact Or.inr (by simp)
    · rw [if_neg hk, List.append_nil]
      have hk' : ¬ (m = 0 ∨ d[m]! ≠ d[m - 1]!) := by simpa [keeps] using hk
      have h0 : m ≠ 0 := fun e => hk' (Or.inl e)
      have he : d[m]! = d[m - 1]! := Decidable.not_not.1 (fun e => hk' (Or.inr e))
      refine ⟨h1, fun x => ?_⟩
      rw [h2]
      constructor
      · rintro ⟨j, hj, rfl⟩; exact ⟨j, by omega, rfl⟩
      · rintro ⟨j, hj, rfl⟩
        rcases Nat.lt_or_ge j m with h | h
        · exact ⟨j, h, rfl⟩
        · obtain rfl : j = m := by omega
          exact ⟨j - 1, by omega, he.symm⟩
/-- What is sorted, each once. -/
def sortc (zs : List Int) : List Int := Lib.compact (zs.mergeSort fun x y => decide (x ≤ y))
theorem sortc_rises (zs : List Int) : (sortc zs).Pairwise (· < ·) := by
  refine (compact_rises (d := (zs.mergeSort fun x y => decide (x ≤ y)).toArray) ?_ _ (by simp)).1
  have := List.pairwise_mergeSort (le := fun x y : Int => decide (x ≤ y)) (fun a b c h1 h2 => by simp at *; omega) (fun a b => by simp; omega) zs
  simpa using this
theorem mem_sortc (zs : List Int) (x : Int) : x ∈ sortc zs ↔ x ∈ zs := by
  have h := (compact_rises (d := (zs.mergeSort fun x y => decide (x ≤ y)).toArray) (by
    have := List.pairwise_mergeSort (le := fun x y : Int => decide (x ≤ y)) (fun a b c h1 h2 => by simp at *; omega) (fun a b => by simp; omega) zs
    simpa using this) zs.length (by simp)).2 x
  unfold sortc Lib.compact
  rw [List.length_mergeSort, h, ← List.mem_mergeSort (le := fun x y : Int => decide (x ≤ y)), List.mem_iff_getElem]
  constructor
  · rintro ⟨j, hj, rfl⟩
    exact ⟨j, by simpa using hj, by rw [getElem!_pos _ j (by simpa using hj)]; simp⟩
  · rintro ⟨j, hj, rfl⟩
    exact ⟨j, by simpa using hj, by rw [getElem!_pos _ j (by simpa using hj)]; simp⟩
/-- Lists that rise and have the same are the same. -/
theorem rises_eq : ∀ {a b : List Int}, a.Pairwise (· < ·) → b.Pairwise (· < ·) → (∀ x, x ∈ a ↔ x ∈ b) → a = b
  | [], [], _, _, _ => rfl
  | [], y :: b, _, _, h => absurd ((h y).2 (by simp)) (by simp)
  | x :: a, [], _, _, h => absurd ((h x).1 (by simp)) (by simp)
  | x :: a, y :: b, ha, hb, h => by
    obtain ⟨ha1, ha2⟩ := List.pairwise_cons.1 ha
    obtain ⟨hb1, hb2⟩ := List.pairwise_cons.1 hb
    have hxy : x = y := by
      rcases List.mem_cons.1 ((h x).1 (by simp)) with e | e
      · exact e
      · rcases List.mem_cons.1 ((h y).2 (by simp)) with e' | e'
        · exact e'.symm
        · have := hb1 x e; have := ha1 y e'; omega
    subst hxy
    congr 1
    refine rises_eq ha2 hb2 fun z => ?_
    constructor
    · intro hz
      rcases List.mem_cons.1 ((h z).1 (List.mem_cons_of_mem _ hz)) with e | e
      · subst e; exact absurd (ha1 z hz) (Int.lt_irrefl _)
      · exact e
    · intro hz
      rcases List.mem_cons.1 ((h z).2 (List.mem_cons_of_mem _ hz)) with e | e
      · subst e; exact absurd (hb1 z hz) (Int.lt_irrefl _)
      · exact e
end Go.Proofs.Ytgldlfgidmgmfaa
