/- A slice of slices of int that the call itself made: a list more, a number more in one of them; append of one element, telling where the row lies then. -/
import Derived.Test.YtkegealaagphgaaTn
import Derived.Test.YtkegealaagphgaaNi
import Derived.Deep.Onto
import Derived.Deep.AppendLies
namespace Go.Proofs.Ytkegealaagphgaa
open Go.RowKit

/-- As wpList_append1; the row lies where it lay, or in a new block. -/
theorem wpList_append1_at {P : Program} {ops : Array Oper} {rest : List Oper} {o : Oper} {a : Act} {Q : Exit → Act → World → Prop} {w : World} (hw : Region.wanted o (yielded ops a.tmps) = true) (s x : Operand) (t e : TypeId)
    (ho : o.op = .call { callee := .builtin .append, args := #[s, x], argTypes := #[t, t] }) (ht : P.underlying t = some (.slice e))
    (z : Value) (bytes : Nat) (hi : (P.info? e).map (fun i => (i.zero, i.size, i.bytes)) = some (some z, 1, bytes)) (hzs : z.cells.size = 1) (hby : 0 < bytes)
    (B : Nat) (v : Value) (n : Nat) (xs : List Value) (u : Value) (hown : w.ownsRow B e 1 v n xs) (hs : a.eval s = v) (hx : a.eval x = .slice (some ⟨w.heap.size, 0, none⟩) 1 1) (hu : u.oneCell' = true)
    (hn : (n + 1) * bytes ≤ 140737488355328) (hB : B ≤ w.heap.size)
    (h : ∀ v' w', w'.ownsRow B e 1 v' (n + 1) (xs ++ [u]) → Below B w w' → w.grownBy w' v.ownBlock → (v'.ownBlock = v.ownBlock ∨ ∃ b, v'.ownBlock = some b ∧ w.heap.size ≤ b) → wpList P ops Q rest (a.put o.dst v') w') : wpList P ops Q (o :: rest) a (w.alloc (.cells #[u] e)) := by
  obtain ⟨i0, hi, hz0, hz1, hz2⟩ := info_parts hi
  have hn1 : n + 1 ≤ (n + 1) * bytes := Nat.le_mul_of_pos_right _ hby
  refine BigFrame.wpList_want hw fun K hK => ?_
  obtain ⟨v', w', hr, h1, h2, _, h4⟩ := run_append_own_at (P := P) (w.alloc (.cells #[u] e)) B t o.type e i0 z 1 bytes ht hi hz0 hz1 hz2 hzs (by decide) v n xs (hown.alloc _) ⟨w.heap.size, 0, none⟩ 1 1 [u] rfl (cell_one_new _ _ _)
    (by intro y hy; simp at hy; subst hy; exact hu) (by unfold maxLen; omega) hn (by simp; omega)
  unfold Oper.wp execOp
  simp only [ho, resolve, invoke, builtin, Sem.run_bind, Sem.run_pure, Result.andThen_ok, List.map_toArray, List.map_cons, List.map_nil, hs, hx, hr]
  have hg := grownBy_trans (World.grownBy_alloc w (.cells #[u] e) none) h2
  refine hK _ _ (h v' w' h1 ((Below.refl B w).grown hg hB fun k hk => (hown.lt k hk).1) hg ?_)
  rcases h4 with h4 | h4
  · exact Or.inl h4
  · exact Or.inr ⟨_, h4, by simp⟩

/-- A list of numbers, as cells. -/
def natsV (xs : List Nat) : List Value := xs.map fun x : Nat => .int .i64 x
/-- A slice of numbers that the call itself made. -/
def Nats (w : World) (B : Nat) (v : Value) (xs : List Nat) : Prop := w.ownsRow B 3 1 v xs.length (natsV xs)
theorem natsV_len (xs : List Nat) : (natsV xs).length = xs.length := by simp [natsV]
theorem natsV_snoc (xs : List Nat) (x : Nat) : natsV (xs ++ [x]) = natsV xs ++ [.int .i64 x] := by simp [natsV]
theorem nats_one {w : World} {B : Nat} {v : Value} {xs : List Nat} {x : Nat} (h : w.ownsRow B 3 1 v (xs.length + 1) (natsV xs ++ [.int .i64 x])) : Nats w B v (xs ++ [x]) := by
  unfold Nats; rw [List.length_append, natsV_snoc]; exact h
/-- A slice of such slices: vs its cells, L what they hold; no two share a block. -/
structure Lists (w : World) (B : Nat) (v : Value) (vs : List Value) (L : List (List Nat)) : Prop where
  row : w.ownsRow B 37 1 v L.length vs
  ins : ∀ i, i < L.length → Nats w B (vs.getD i undef) (L.getD i [])
  apart : ∀ i j, i < L.length → j < L.length → i ≠ j → ∀ b, (vs.getD i undef).ownBlock = some b → (vs.getD j undef).ownBlock ≠ some b
section
variable {w : World} {B : Nat} {v : Value} {vs : List Value} {L : List (List Nat)}
theorem Lists.nil (w : World) (B : Nat) : Lists w B (.slice none 0 0) [] [] := ⟨World.ownsRow_nil _ _ _ _, fun i h => by simp at h, fun i j h => by simp at h⟩
theorem Lists.len (h : Lists w B v vs L) : vs.length = L.length := by have := h.row.1; simpa using this
theorem Lists.turned {S : Nat → Prop} {w' : World} (h : Lists w B v vs L) (ht : Turned S w w') (hS : ∀ b, S b → b < B) : Lists w' B v vs L :=
  ⟨ownsRow_turned h.row ht fun b e hb => by have := (h.row.lt b e).1; have := hS b hb; omega,
    fun i hi => ownsRow_turned (h.ins i hi) ht fun b e hb => by have := (World.ownsRow.lt (h.ins i hi) b e).1; have := hS b hb; omega, h.apart⟩
theorem Lists.below {w' : World} (h : Lists w B v vs L) (hb : Below w.heap.size w w') : Lists w' B v vs L := h.turned (S := fun _ => False) (Turned.of_below hb) fun _ h => h.elim
theorem Lists.mono {B' : Nat} (h : Lists w B v vs L) (hB : B' ≤ B) : Lists w B' v vs L := ⟨World.ownsRow.mono h.row hB, fun i hi => World.ownsRow.mono (h.ins i hi) hB, h.apart⟩
theorem info_sl : (Try.prog.info? 37).map (fun i => (i.zero, i.size, i.bytes)) = some (some (.slice none 0 0), 1, 24) := by kernel_rfl
/-- A list more, of nothing. -/
theorem Lists.fresh {w2 : World} {v2 : Value} (h : Lists w B v vs L) (ho : w2.ownsRow B 37 1 v2 (L.length + 1) (vs ++ [.slice none 0 0])) (hg : w.grownBy w2 v.ownBlock) : Lists w2 B v2 (vs ++ [.slice none 0 0]) (L ++ [[]]) := by
  have hl := h.len
  have hlo : ∀ i, i < L.length → (vs ++ [Value.slice none 0 0]).getD i undef = vs.getD i undef := fun i hi => by
    rw [List.getD, List.getD, List.getElem?_append_left (by omega)]
  have hlL : ∀ i, i < L.length → (L ++ [[]]).getD i [] = L.getD i [] := fun i hi => by
    rw [List.getD, List.getD, List.getElem?_append_left hi]
  have hla : (vs ++ [Value.slice none 0 0]).getD L.length undef = .slice none 0 0 := by
    rw [← hl, List.getD, List.getElem?_append_right (Nat.le_refl _), Nat.sub_self]; rfl
  have hT := Turned.of_grown (S := fun b => v.ownBlock = some b) hg fun _ e => e
  refine ⟨by rw [List.length_append]; exact ho, fun i hi => ?_, fun i j hi hj hij b => ?_⟩
  · rw [List.length_append, List.length_singleton] at hi
    by_cases e : i = L.length
    · subst e
      rw [hla, List.getD, List.getElem?_append_right (Nat.le_refl _), Nat.sub_self]
      exact World.ownsRow_nil _ _ _ _
    · rw [hlo i (by omega), hlL i (by omega)]
      exact ownsRow_turned (h.ins i (by omega)) hT fun b e2 hS => own_apart h.row (h.ins i (by omega)) (by decide) hS e2
  · rw [List.length_append, List.length_singleton] at hi hj
    by_cases e : i = L.length
    · subst e; rw [hla]; intro e; cases e
    · rw [hlo i (by omega)]
      by_cases e' : j = L.length
      · subst e'; rw [hla]; intro _ e; cases e
      · rw [hlo j (by omega)]; exact h.apart i j (by omega) (by omega) hij b
/-- A list more, which lies apart. -/
theorem Lists.add {w2 : World} {v2 u : Value} {xs : List Nat} {B2 : Nat} (h : Lists w B v vs L) (hu : Nats w B2 u xs) (hB : B ≤ B2) (hap : ∀ i, i < L.length → ∀ b, (vs.getD i undef).ownBlock = some b → b < B2)
    (ho : w2.ownsRow B 37 1 v2 (L.length + 1) (vs ++ [u])) (hg : w.grownBy w2 v.ownBlock) : Lists w2 B v2 (vs ++ [u]) (L ++ [xs]) := by
  have hl := h.len
  have hlo : ∀ i, i < L.length → (vs ++ [u]).getD i undef = vs.getD i undef := fun i hi => by
    rw [List.getD, List.getD, List.getElem?_append_left (by omega)]
  have hlL : ∀ i, i < L.length → (L ++ [xs]).getD i [] = L.getD i [] := fun i hi => by
    rw [List.getD, List.getD, List.getElem?_append_left hi]
  have hla : (vs ++ [u]).getD L.length undef = u := by
    rw [← hl, List.getD, List.getElem?_append_right (Nat.le_refl _), Nat.sub_self]; rfl
  have hT := Turned.of_grown (S := fun b => v.ownBlock = some b) hg fun _ e => e
  have hub : ∀ b, u.ownBlock = some b → B2 ≤ b := fun b e => (World.ownsRow.lt hu b e).1
  refine ⟨by rw [List.length_append]; exact ho, fun i hi => ?_, fun i j hi hj hij b => ?_⟩
  · rw [List.length_append, List.length_singleton] at hi
    by_cases e : i = L.length
    · subst e
      rw [hla, List.getD, List.getElem?_append_right (Nat.le_refl _), Nat.sub_self]
      exact World.ownsRow.mono (ownsRow_turned hu hT fun b e2 hS => own_apart h.row hu (by decide) hS e2) hB
    · rw [hlo i (by omega), hlL i (by omega)]
      exact ownsRow_turned (h.ins i (by omega)) hT fun b e2 hS => own_apart h.row (h.ins i (by omega)) (by decide) hS e2
  · rw [List.length_append, List.length_singleton] at hi hj
    by_cases e : i = L.length
    · subst e
      rw [hla, hlo j (by omega)]
      intro e1 e2
      have := hub b e1
      have := hap j (by omega) b e2
      omega
    · rw [hlo i (by omega)]
      by_cases e' : j = L.length
      · subst e'
        rw [hla]
        intro e1 e2
        have := hub b e2
        have := hap i (by omega) b e1
        omega
      · rw [hlo j (by omega)]; exact h.apart i j (by omega) (by omega) hij b
theorem Lists.lts (h : Lists w B v vs L) : ∀ i, i < L.length → ∀ b, (vs.getD i undef).ownBlock = some b → b < w.heap.size := fun i hi b e => (World.ownsRow.lt (h.ins i hi) b e).2
/-- A number more in one of the lists: its slice is stored. -/
theorem Lists.put {w2 : World} {u2 : Value} (h : Lists w B v vs L) {i : Nat} (hi : i < L.length) {k : Nat} (ho : w2.ownsRow B 3 1 u2 ((L.getD i []).length + 1) (natsV (L.getD i []) ++ [.int .i64 k])) (hg : w.grownBy w2 (vs.getD i undef).ownBlock)
    (hw : u2.ownBlock = (vs.getD i undef).ownBlock ∨ ∃ b, u2.ownBlock = some b ∧ w.heap.size ≤ b) {S cap : Nat} (hv : v = .slice (some ⟨S, 0, none⟩) L.length cap) :
    w2.cell? ⟨S, i, none⟩ = some (vs.getD i undef) ∧ w2.frozen? ⟨S, i, none⟩ = false ∧ Lists (w2.setCell ⟨S, i, none⟩ u2) B v (vs.set i u2) (L.set i (L.getD i [] ++ [k])) := by
  have hl := h.len
  have hvb : v.ownBlock = some S := by rw [hv]; rfl
  have hT := Turned.of_grown (S := fun b => (vs.getD i undef).ownBlock = some b) hg fun _ e => e
  have hr := ownsRow_turned h.row hT fun b e hS => own_apart h.row (h.ins i hi) (by decide) e hS
  have hr' := hr
  rw [hv] at hr'
  have hst := turned_setCell w2 ⟨S, i, none⟩ u2
  have hvs : ∀ j, j ≠ i → (vs.set i u2).getD j undef = vs.getD j undef := fun j hj => by rw [List.getD, List.getD, List.getElem?_set_ne (Ne.symm hj)]
  have hLs : ∀ j, j ≠ i → (L.set i (L.getD i [] ++ [k])).getD j [] = L.getD j [] := fun j hj => by rw [List.getD_eq_getElem?_getD, List.getElem?_set_ne (Ne.symm hj), ← List.getD_eq_getElem?_getD]
  have hvi : (vs.set i u2).getD i undef = u2 := by rw [List.getD, List.getElem?_set_self (by omega)]; rfl
  have hLi : (L.set i (L.getD i [] ++ [k])).getD i [] = L.getD i [] ++ [k] := by rw [List.getD, List.getElem?_set_self hi]; rfl
  refine ⟨?_, hr'.frozenAt _, ⟨?_, fun j hj => ?_, fun a b ha hb hab g => ?_⟩⟩
  · rw [hr'.cellAt i (by omega), List.getD, List.getElem?_eq_getElem (by omega)]; rfl
  · rw [List.length_set, hv]
    exact (hr'.stored _ _).1
  · rw [List.length_set] at hj
    by_cases e : j = i
    · subst e
      rw [hvi, hLi]
      refine nats_one (ownsRow_turned ho hst fun b e2 hS => own_apart hr ho (by decide) hvb (by rw [e2, show b = S from hS]))
    · rw [hvs j e, hLs j e]
      have h1 := ownsRow_turned (h.ins j hj) hT fun b e2 hS => h.apart i j hi hj (Ne.symm e) b hS e2
      exact ownsRow_turned h1 hst fun b e2 hS => own_apart hr h1 (by decide) hvb (by rw [e2, show b = S from hS])
  · rw [List.length_set] at ha hb
    have hnew : ∀ j, j < L.length → j ≠ i → ∀ g, u2.ownBlock = some g → (vs.getD j undef).ownBlock ≠ some g := fun j hj hne g e e2 => by
      rcases hw with h' | ⟨b', h', hb'⟩
      · exact h.apart i j hi hj (Ne.symm hne) g (h'.symm.trans e) e2
      · have := (World.ownsRow.lt (h.ins j hj) g e2).2
        rw [h'] at e
        injection e with e
        omega
    by_cases e : a = i
    · subst e
      rw [hvi, hvs b (Ne.symm hab)]
      exact hnew b hb (Ne.symm hab) g
    · rw [hvs a e]
      by_cases e' : b = i
      · subst e'
        rw [hvi]
        exact fun e1 e2 => hnew a ha hab g e2 e1
      · rw [hvs b e']; exact h.apart a b ha hb hab g
/-- What is read of such slices. -/
theorem Lists.head (h : Lists w B v vs L) : ∃ a c, v = .slice a L.length c := own_form h.row
theorem Lists.at (h : Lists w B v vs L) {i : Nat} (hi : i < L.length) : ∃ S cap u c, v = .slice (some ⟨S, 0, none⟩) L.length cap ∧ w.cell? ⟨S, i, none⟩ = some (.slice u (L.getD i []).length c) ∧
    ∀ k, (hk : k < (L.getD i []).length) → ∃ g, u = some ⟨g, 0, none⟩ ∧ w.cell? ⟨g, k, none⟩ = some (.int .i64 ((L.getD i [])[k]'hk : Nat)) := by
  obtain ⟨S, cap, hv, _, _⟩ := World.ownsRow.form h.row (by omega)
  have hr := h.row
  rw [hv] at hr
  have hc := hr.cellAt i (by omega)
  have hl := h.len
  have hn := h.ins i hi
  rw [List.getD_eq_getElem?_getD, List.getElem?_eq_getElem (by omega)] at hn
  rw [List.getElem?_eq_getElem (by omega)] at hc
  generalize vs[i]'(by omega) = u at hc hn
  obtain ⟨a, c, rfl⟩ := own_form (show w.ownsRow B _ 1 u _ _ from hn)
  refine ⟨S, cap, a, c, hv, hc, fun k hk => ?_⟩
  obtain ⟨g, cap', e, _, _⟩ := World.ownsRow.form hn (by omega)
  have e' := e
  injection e' with e1
  subst e1
  refine ⟨g, rfl, ?_⟩
  have hn' := hn
  unfold Nats at hn'
  simp only [Option.getD_some] at hn'
  rw [hn'.cellAt k (by omega), natsV, List.getElem?_map, List.getElem?_eq_getElem hk]
  rfl
end
end Go.Proofs.Ytkegealaagphgaa
