/- Layer 8's tables in memory: what is theirs, and what of it turns. -/
import Derived.Test.YtgldlfgidmgmfaaKi
import Derived.Test.YtgldlfgidmgmfaaD08p
namespace Go.Proofs.Ytgldlfgidmgmfaa
open Go.RowKit

structure TabAt (w : World) (v : Value) (tb : List Bk) : Prop where
  rows : TbRow w v tb
  names : ∀ k ∈ tb, w.ownsRow 0 3 1 k.val k.names.length (k.names.map (Value.int .i64))
  apart : (tb.map Bk.g).Nodup
/-- The blocks that a table has. -/
def Foot (v : Value) (tb : List Bk) (b : Nat) : Prop := v.ownBlock = some b ∨ ∃ k ∈ tb, k.g = b
theorem own_heap {w : World} {B n z : Nat} {E : TypeId} {v : Value} {xs : List Value} {g : Nat} (h : w.ownsRow B E z v n xs) (hv : v.ownBlock = some g) : ∃ cur, w.heap[g]? = some (.cells cur E (0, 0)) := by
  rcases h.2 with ⟨rfl, _⟩ | ⟨g', cap, cur, rfl, _, hg, _⟩
  · cases hv
  · injection hv with hv
    have : g' = g := hv
    subst this
    exact ⟨cur, hg⟩
theorem own_apart {w : World} {B B' n m z z' : Nat} {E E' : TypeId} {v u : Value} {xs ys : List Value} {g : Nat} (h1 : w.ownsRow B E z v n xs) (h2 : w.ownsRow B' E' z' u m ys) (hE : E ≠ E') (hv : v.ownBlock = some g) (hu : u.ownBlock = some g) : False := by
  obtain ⟨c1, e1⟩ := own_heap h1 hv
  obtain ⟨c2, e2⟩ := own_heap h2 hu
  rw [e1] at e2
  injection e2 with e2
  injection e2 with _ e2
  exact hE e2
theorem TabAt.lt {w : World} {v : Value} {tb : List Bk} (h : TabAt w v tb) {b : Nat} (hb : Foot v tb b) : b < w.heap.size := by
  rcases hb with hb | ⟨k, hk, rfl⟩
  · exact (h.rows.lt b hb).2
  · exact ((h.names k hk).lt k.g rfl).2
theorem TabAt.turned {S : Nat → Prop} {w w' : World} {v : Value} {tb : List Bk} (h : TabAt w v tb) (ht : Turned S w w') (hS : ∀ b, Foot v tb b → ¬ S b) : TabAt w' v tb :=
  ⟨ownsRow_turned h.rows ht fun b hb => hS b (Or.inl hb), fun k hk => ownsRow_turned (h.names k hk) ht fun b hb => hS b (Or.inr ⟨k, hk, by injection hb⟩), h.apart⟩
theorem TabAt.below {w w' : World} {v : Value} {tb : List Bk} (h : TabAt w v tb) (hb : Below w.heap.size w w') : TabAt w' v tb := h.turned (S := fun _ => False) (Turned.of_below hb) fun _ _ h => h
theorem TabAt.nil (w : World) : TabAt w (.slice none 0 0) [] := ⟨World.ownsRow_nil _ _ _ _, fun k hk => by simp at hk, by simp⟩
theorem turned_setCell (w : World) (a : Addr) (u : Value) : Turned (fun b => b = a.block) w (w.setCell a u) :=
  ⟨rfl, rfl, rfl, by simp [World.setCell], fun k _ hk => Below.heap_setCell w a u k hk⟩
theorem cellsT_set (A C : List Bk) (k k' : Bk) (hb : k'.band = k.band) : (cellsT (A ++ k :: C)).set (A.length * 2 + 1) k'.val = cellsT (A ++ k' :: C) := by
  rw [cellsT_app, cellsT_app, List.set_append_right _ _ (by rw [cellsT_len]; omega), cellsT_len, show A.length * 2 + 1 - A.length * 2 = 1 by omega]
  show cellsT A ++ ([.int .u64 k.band, k.val] ++ cellsT C).set 1 k'.val = cellsT A ++ ([.int .u64 k'.band, k'.val] ++ cellsT C)
  rw [hb]; rfl

/-- A bucket's names have turned, and are stored. -/
theorem TabAt.swap {w w3 : World} {v : Value} {A C : List Bk} {k k' : Bk} (h : TabAt w v (A ++ k :: C)) (hb : k'.band = k.band) (ho : w3.ownsRow 0 3 1 k'.val k'.names.length (k'.names.map (Value.int .i64)))
    (ht : Turned (fun b => b = k.g) w w3) (hg' : k'.g = k.g ∨ w.heap.size ≤ k'.g) {g cap : Nat} (hv : v = .slice (some ⟨g, 0, none⟩) (A ++ k :: C).length cap) :
    TabAt (w3.setCell ⟨g, A.length * 2 + 1, none⟩ k'.val) v (A ++ k' :: C) ∧ Turned (Foot v (A ++ k :: C)) w (w3.setCell ⟨g, A.length * 2 + 1, none⟩ k'.val) ∧ ∀ b, Foot v (A ++ k' :: C) b → Foot v (A ++ k :: C) b ∨ w.heap.size ≤ b := by
  have hvb : v.ownBlock = some g := by rw [hv]; rfl
  have hgk : g ≠ k.g := fun e => own_apart h.rows (h.names k (by simp)) (by decide) hvb (by rw [e]; rfl)
  have hr3 : TbRow w3 v (A ++ k :: C) := ownsRow_turned h.rows ht fun b hb => by rw [hvb] at hb; injection hb with hb; omega
  have hgk' : g ≠ k'.g := fun e => own_apart hr3 ho (by decide) hvb (by rw [e]; rfl)
  have hap := h.apart
  rw [List.map_append, List.map_cons] at hap
  have hne : ∀ j, j ∈ A ∨ j ∈ C → j.g ≠ k.g := by
    obtain ⟨_, n2, n3⟩ := List.nodup_append.1 hap
    rintro j (hj | hj) e
    · exact n3 j.g (List.mem_map_of_mem hj) k.g (by simp) e
    · exact (List.nodup_cons.1 n2).1 (by rw [← e]; exact List.mem_map_of_mem hj)
  have hlt : ∀ j, j ∈ A ∨ j ∈ C → j.g < w.heap.size := fun j hj => h.lt (Or.inr ⟨j, by rcases hj with hj | hj <;> simp [hj], rfl⟩)
  have hst := turned_setCell w3 ⟨g, A.length * 2 + 1, none⟩ k'.val
  refine ⟨⟨?_, ?_, ?_⟩, ?_, ?_⟩
  · unfold TbRow at hr3 ⊢
    rw [← cellsT_set A C k k' hb]
    have hl : (A ++ k' :: C).length = (A ++ k :: C).length := by simp
    rw [hl]
    rw [hv] at hr3 ⊢
    exact (hr3.stored _ _).1
  · intro j hj
    rcases List.mem_append.1 hj with hj | hj
    · exact ownsRow_turned (ownsRow_turned (h.names j (by simp [hj])) ht fun b e => by injection e with e; rw [← e]; exact hne j (Or.inl hj)) hst fun b e hS => by
        injection e with e
        exact own_apart h.rows (h.names j (by simp [hj])) (by decide) hvb (show _ = some g by rw [← (show b = g from hS), ← e]; rfl)
    · rcases List.mem_cons.1 hj with rfl | hj
      · exact ownsRow_turned ho hst fun b e hS => by injection e with e; exact hgk' ((show b = g from hS).symm.trans e.symm)
      · exact ownsRow_turned (ownsRow_turned (h.names j (by simp [hj])) ht fun b e => by injection e with e; rw [← e]; exact hne j (Or.inr hj)) hst fun b e hS => by
          injection e with e
          exact own_apart h.rows (h.names j (by simp [hj])) (by decide) hvb (show _ = some g by rw [← (show b = g from hS), ← e]; rfl)
  · rw [List.map_append, List.map_cons]
    obtain ⟨n1, n2, n3⟩ := List.nodup_append.1 hap
    have hk' : ∀ j, j ∈ A ∨ j ∈ C → j.g ≠ k'.g := fun j hj e => by
      rcases hg' with h' | h'
      · exact hne j hj (e.trans h')
      · have := hlt j hj; omega
    refine List.nodup_append.2 ⟨n1, List.nodup_cons.2 ⟨fun hm => ?_, (List.nodup_cons.1 n2).2⟩, fun a ha b hb => ?_⟩
    · obtain ⟨j, hj, e⟩ := List.mem_map.1 hm
      exact hk' j (Or.inr hj) e
    · rcases List.mem_cons.1 hb with rfl | hb
      · obtain ⟨j, hj, rfl⟩ := List.mem_map.1 ha
        exact hk' j (Or.inl hj)
      · exact n3 a ha b (by simp [hb])
  · refine Turned.trans (S := Foot v (A ++ k :: C)) (ht.mono fun i _ e => Or.inr ⟨k, by simp, e.symm⟩) hst fun i _ e => Or.inl (by rw [hvb, show i = g from e])
  · rintro b (hb | ⟨j, hj, rfl⟩)
    · exact Or.inl (Or.inl hb)
    · rcases List.mem_append.1 hj with hj | hj
      · exact Or.inl (Or.inr ⟨j, by simp [hj], rfl⟩)
      · rcases List.mem_cons.1 hj with rfl | hj
        · rcases hg' with h' | h'
          · exact Or.inl (Or.inr ⟨k, by simp, h'.symm⟩)
          · exact Or.inr h'
        · exact Or.inl (Or.inr ⟨j, by simp [hj], rfl⟩)

/-- A bucket more has been put into the row. -/
theorem TabAt.fresh {w W w2 : World} {v v' : Value} {A C : List Bk} {k' : Bk} (h : TabAt w v (A ++ C)) (hb : Below w.heap.size w W) (ho : W.ownsRow 0 3 1 k'.val k'.names.length (k'.names.map (Value.int .i64))) (hg' : w.heap.size ≤ k'.g)
    (hr : TbRow w2 v' (A ++ k' :: C)) (hgr : W.grownBy w2 v.ownBlock) (hw : v'.ownBlock = v.ownBlock ∨ v'.ownBlock = some W.heap.size) :
    TabAt w2 v' (A ++ k' :: C) ∧ Turned (Foot v (A ++ C)) w w2 ∧ ∀ b, Foot v' (A ++ k' :: C) b → Foot v (A ++ C) b ∨ w.heap.size ≤ b := by
  have hT := Turned.of_grown (S := fun b => v.ownBlock = some b) hgr (fun _ e => e)
  have hlt : ∀ j ∈ A ++ C, j.g < w.heap.size := fun j hj => h.lt (Or.inr ⟨j, hj, rfl⟩)
  refine ⟨⟨hr, ?_, ?_⟩, ?_, ?_⟩
  · have old : ∀ j ∈ A ++ C, w2.ownsRow 0 3 1 j.val j.names.length (j.names.map (Value.int .i64)) := fun j hj =>
      ownsRow_turned (ownsRow_below (h.names j hj) hb) hT fun b e hS => by injection e with e; exact own_apart h.rows (h.names j hj) (by decide) hS (by rw [← e]; rfl)
    intro j hj
    rcases List.mem_append.1 hj with hj | hj
    · exact old j (by simp [hj])
    · rcases List.mem_cons.1 hj with rfl | hj
      · exact ownsRow_turned ho hT fun b e hS => by
          injection e with e
          have := (h.rows.lt b hS).2
          have e' : j.g = b := e
          omega
      · exact old j (by simp [hj])
  · have hap := h.apart
    rw [List.map_append] at hap
    obtain ⟨n1, n2, n3⟩ := List.nodup_append.1 hap
    rw [List.map_append, List.map_cons]
    refine List.nodup_append.2 ⟨n1, List.nodup_cons.2 ⟨fun hm => ?_, n2⟩, fun a ha b hb => ?_⟩
    · obtain ⟨j, hj, e⟩ := List.mem_map.1 hm
      have := hlt j (by simp [hj]); omega
    · rcases List.mem_cons.1 hb with rfl | hb
      · obtain ⟨j, hj, rfl⟩ := List.mem_map.1 ha
        have := hlt j (by simp [hj]); omega
      · exact n3 a ha b hb
  · exact Turned.trans (Turned.of_below hb) hT fun i _ e => Or.inl e
  · rintro b (hb' | ⟨j, hj, rfl⟩)
    · rcases hw with hw | hw
      · exact Or.inl (Or.inl (hw.symm.trans hb'))
      · rw [hw] at hb'; injection hb' with hb'; exact Or.inr (by have := hb.size; omega)
    · rcases List.mem_append.1 hj with hj | hj
      · exact Or.inl (Or.inr ⟨j, by simp [hj], rfl⟩)
      · rcases List.mem_cons.1 hj with rfl | hj
        · exact Or.inr hg'
        · exact Or.inl (Or.inr ⟨j, by simp [hj], rfl⟩)

/-- A bucket has gone from the row. -/
theorem TabAt.gone {w w2 : World} {v v' : Value} {A C : List Bk} {k : Bk} (h : TabAt w v (A ++ k :: C)) (hr : TbRow w2 v' (A ++ C)) (hgr : w.grownBy w2 v.ownBlock) (hw : v'.ownBlock = v.ownBlock) :
    TabAt w2 v' (A ++ C) ∧ Turned (Foot v (A ++ k :: C)) w w2 ∧ ∀ b, Foot v' (A ++ C) b → Foot v (A ++ k :: C) b ∨ w.heap.size ≤ b := by
  have hT := Turned.of_grown (S := fun b => v.ownBlock = some b) hgr (fun _ e => e)
  have hsub : (A ++ C).Sublist (A ++ k :: C) := List.Sublist.append_left (List.sublist_cons_self _ _) _
  refine ⟨⟨hr, fun j hj => ?_, h.apart.sublist (hsub.map _)⟩, hT.mono fun i _ e => Or.inl e, ?_⟩
  · exact ownsRow_turned (h.names j (hsub.subset hj)) hT fun b e hS => by injection e with e; exact own_apart h.rows (h.names j (hsub.subset hj)) (by decide) hS (by rw [← e]; rfl)
  · rintro b (hb' | ⟨j, hj, rfl⟩)
    · exact Or.inl (Or.inl (hw.symm.trans hb'))
    · exact Or.inl (Or.inr ⟨j, hsub.subset hj, rfl⟩)
end Go.Proofs.Ytgldlfgidmgmfaa
