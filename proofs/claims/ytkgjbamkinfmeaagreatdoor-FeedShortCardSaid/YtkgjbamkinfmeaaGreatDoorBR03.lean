/- A slice of slices of int that the call itself made: a list more, a number more in one of them; append of one element, telling where the row lies then. -/
import Derived.Test.YtkgjbamkinfmeaaGreatDoorBR01
import Derived.Test.YtkgjbamkinfmeaaGreatDoorBR02
import Derived.Deep.Onto
import Derived.Deep.AppendLies
namespace Go.Proofs.YtkgjbamkinfmeaaGreatDoor
open Go.RowKit

/-- As wpList_append1; the row lies where it lay, or in a new block. -/
theorem wpList_append1_at {P : Program} {ops : Array Oper} {rest : List Oper} {o : Oper} {a : Act} {Q : Exit → Act → World → Prop} {w : World} (hw : Region.wanted o (yielded ops a.tmps) = true) (s x : Operand) (t e : TypeId)
    (ho : o.op = .call { callee := .builtin .append, args := #[s, x], argTypes := #[t, t] }) (ht : P.underlying t = some (.slice e))
    (z : Value) (bytes : Nat) (hi : (P.info? e).map (fun i => (i.zero, i.size, i.bytes)) = some (some z, 1, bytes)) (hzs : z.cells.size = 1) (hby : 0 < bytes)
    (B : Nat) (v : Value) (n : Nat) (xs : List Value) (u : Value) (hown : w.ownsRow B e 1 v n xs) (hs : a.eval s = v) (hx : a.eval x = .slice (some ⟨w.heap.size, 0, none⟩) 1 1) (hu : u.oneCell' = true)
    (hn : (n + 1) * bytes ≤ 140737488355328) (hB : B ≤ w.heap.size)
    (h : ∀ v' w', w'.ownsRow B e 1 v' (n + 1) (xs ++ [u]) → Below B w w' → w.grownBy w' v.ownBlock → (v'.ownBlock = v.ownBlock ∨ ∃ b, v'.ownBlock = some b ∧ w.heap.size ≤ b) → wpList P ops Q rest (a.put o.dst v') w') : wpList P ops Q (o :: rest) a (w.alloc (.cells #[u] e)) := by
  obtain ⟨i0, hi, hz0, hz1, hz2⟩ := info_parts hi
  have hn1 : n + 1 ≤ (n + 1) * bytes := Nat.le_mul_of_pos_right _ hby
  refine BigFrame.wpList_want hw fun K hK => ?_
  obtain ⟨v', w', hr, h1, h2, _, h4⟩ := run_append_own_at (P := P) (w.alloc (.cells #[u] e)) B t o.type e i0 z 1 bytes ht hi hz0 hz1 hz2 hzs (by decide) v n xs (hown.alloc _) ⟨w.heap.size, 0, none⟩ 1 1 [u] rfl (cell_one_new _ _ _)
    (by intro y hy; simp at hy; subst hy; exact hu) (by unfold maxLen; omega) hn (by simp; omega)
  unfold Oper.wp execOp
  simp only [ho, resolve, invoke, builtin, Sem.run_bind, Sem.run_pure, Result.andThen_ok, List.map_toArray, List.map_cons, List.map_nil, hs, hx, hr]
  have hg := grownBy_trans (World.grownBy_alloc w (.cells #[u] e) none) h2
  refine hK _ _ (h v' w' h1 ((Below.refl B w).grown hg hB fun k hk => (hown.lt k hk).1) hg ?_)
  rcases h4 with h4 | h4
  · exact Or.inl h4
  · exact Or.inr ⟨_, h4, by simp⟩

/-- A list of numbers, as cells. -/
def natsV (xs : List Nat) : List Value := xs.map fun x : Nat => .int .i64 x
/-- A slice of numbers that the call itself made. -/
def Nats (w : World) (B : Nat) (v : Value) (xs : List Nat) : Prop := w.ownsRow B 3 1 v xs.length (natsV xs)
theorem natsV_len (xs : List Nat) : (natsV xs).length = xs.length := by simp [natsV]
theorem natsV_snoc (xs : List Nat) (x : Nat) : natsV (xs ++ [x]) = natsV xs ++ [.int .i64 x] := by simp [natsV]
theorem nats_one {w : World} {B : Nat} {v : Value} {xs : List Nat} {x : Nat} (h : w.ownsRow B 3 1 v (xs.length + 1) (natsV xs ++ [.int .i64 x])) : Nats w B v (xs ++ [x]) := by
  unfold Nats; rw [List.length_append, natsV_snoc]; exact h
/-- A slice of such slices: vs its cells, L what they hold; no two share a block. -/
structure Lists (w : World) (B : Nat) (v : Value) (vs : List Value) (L : List (List Nat)) : Prop where
  row : w.ownsRow B 84 1 v L.length vs
  ins : ∀ i, i < L.length → Nats w B (vs.getD i undef) (L.getD i [])
  apart : ∀ i j, i < L.length → j < L.length → i ≠ j → ∀ b, (vs.getD i undef).ownBlock = some b → (vs.getD j undef).ownBlock ≠ some b
section
variable {w : World} {B : Nat} {v : Value} {vs : List Value} {L : List (List Nat)}
theorem Lists.nil (w : World) (B : Nat) : Lists w B (.slice none 0 0) [] [] := ⟨World.ownsRow_nil _ _ _ _, fun i h => by simp at h, fun i j h => by simp at h⟩
theorem Lists.len (h : Lists w B v vs L) : vs.length = L.length := by have := h.row.1; simpa using this
theorem Lists.turned {S : Nat → Prop} {w' : World} (h : Lists w B v vs L) (ht : Turned S w w') (hS : ∀ b, S b → b < B) : Lists w' B v vs L :=
  ⟨ownsRow_turned h.row ht fun b e hb => by have := (h.row.lt b e).1; have := hS b hb; omega,
    fun i hi => ownsRow_turned (h.ins i hi) ht fun b e hb => by have := (World.ownsRow.lt (h.ins i hi) b e).1; have := hS b hb; omega, h.apart⟩
theorem Lists.below {w' : World} (h : Lists w B v vs L) (hb : Below w.heap.size w w') : Lists w' B v vs L := h.turned (S := fun _ => False) (Turned.of_below hb) fun _ h => h.elim
theorem Lists.mono {B' : Nat} (h : Lists w B v vs L) (hB : B' ≤ B) : Lists w B' v vs L := ⟨World.ownsRow.mono h.row hB, fun i hi => World.ownsRow.mono (h.ins i hi) hB, h.apart⟩
theorem info_sl : (Tryz.prog.info? 84).map (fun i => (i.zero, i.size, i.bytes)) = some (some (.slice none 0 0), 1, 24) := by kernel_rfl
/-- A list more, of nothing. -/
theorem Lists.fresh {w2 : World} {v2 : Value} (h : Lists w B v vs L) (ho : w2.ownsRow B 84 1 v2 (L.length + 1) (vs ++ [.slice none 0 0])) (hg : w.grownBy w2 v.ownBlock) : Lists w2 B v2 (vs ++ [.slice none 0 0]) (L ++ [[]]) := by
  have hl := h.len
  have hlo : ∀ i, i < L.length → (vs ++ [Value.slice none 0 0]).getD i undef = vs.getD i undef := fun i hi => by
    rw [List.getD, List.getD, List.getElem?_append_left (by omega)]
  have hlL : ∀ i, i < L.length → (L ++ [[]]).getD i [] = L.getD i [] := fun i hi => by
    rw [List.getD, List.getD, List.getElem?_append_left hi]
  have hla : (vs ++ [Value.slice none 0 0]).getD L.length undef = .slice none 0 0 := by
    rw [← hl, List.getD, List.getElem?_append_right (Nat.le_refl _), Nat.sub_self]; rfl
  have hT := Turned.of_grown (S := fun b => v.ownBlock = some b) hg fun _ e => e
  refine ⟨by rw [List.length_append]; exact ho, fun i hi => ?_, fun i j hi hj hij b => ?_⟩
  · rw [List.length_append, List.length_singleton] at hi
    by_cases e : i = L.length
    · subst e
      rw [hla, List.getD, List.getElem?_append_right (Nat.le_refl _), Nat.sub_self]
      exact World.ownsRow_nil _ _ _ _
    · rw [hlo i (by omega), hlL i (by omega)]
      exact ownsRow_turned (h.ins i (by omega)) hT fun b e2 hS => own_apart h.row (h.ins i (by omega)) (by decide) hS e2
  · rw [List.length_append, List.length_singleton] at hi hj
    by_cases e : i = L.length
    · subst e; rw [hla]; intro e; cases e
    · rw [hlo i (by omega)]
      by_cases e' : j = L.length
      · subst e'; rw [hla]; intro _ e; cases e
      · rw [hlo j (by omega)]; exact h.apart i j (by omega) (by omega) hij b
/-- A list more, which lies apart. -/
theorem Lists.add {w2 : World} {v2 u : Value} {xs : List Nat} {B2 : Nat} (h : Lists w B v vs L) (hu : Nats w B2 u xs) (hB : B ≤ B2) (hap : ∀ i, i < L.length → ∀ b, (vs.getD i undef).ownBlock = some b → b < B2)
    (ho : w2.ownsRow B 84 1 v2 (L.length + 1) (vs ++ [u])) (hg : w.grownBy w2 v.ownBlock) : Lists w2 B v2 (vs ++ [u]) (L ++ [xs]) := by
  have hl := h.len
  have hlo : ∀ i, i < L.length → (vs ++ [u]).getD i undef = vs.getD i undef := fun i hi => by
    rw [List.getD, List.getD, List.getElem?_append_left (by omega)]
  have hlL : ∀ i, i < L.length → (L ++ [xs]).getD i [] = L.getD i [] := fun i hi => by
    rw [List.getD, List.getD, List.getElem?_append_left hi]
  have hla : (vs ++ [u]).getD L.length undef = u := by
    rw [← hl, List.getD, List.getElem?_append_right (Nat.le_refl _), Nat.sub_self]; rfl
  have hT := Turned.of_grown (S := fun b => v.ownBlock = some b) hg fun _ e => e
  have hub : ∀ b, u.ownBlock = some b → B2 ≤ b := fun b e => (World.ownsRow.lt hu b e).1
  refine ⟨by rw [List.length_append]; exact ho, fun i hi => ?_, fun i j hi hj hij b => ?_⟩
  · rw [List.length_append, List.length_singleton] at hi
    by_cases e : i = L.length
    · subst e
      rw [hla, List.getD, List.getElem?_append_right (Nat.le_refl _), Nat.sub_self]
      exact World.ownsRow.mono (ownsRow_turned hu hT fun b e2 hS => own_apart h.row hu (by decide) hS e2) hB
    · rw [hlo i (by omega), hlL i (by omega)]
      exact ownsRow_turned (h.ins i (by omega)) hT fun b e2 hS => own_apart h.row (h.ins i (by omega)) (by decide) hS e2
  · rw [List.length_append, List.length_singleton] at hi hj
    by_cases e : i = L.length
    · subst e
      rw [hla, hlo j (by omega)]
      intro e1 e2
      have := hub b e1
      have := hap j (by omega) b e2
      omega
    · rw [hlo i (by omega)]
      by_cases e' : j = L.length
      · subst e'
        rw [hla]
        intro e1 e2
        have := hub b e2
        have := hap i (by omega) b e1
        omega
      · rw [hlo j (by omega)]; exact h.apart i j (by omega) (by omega) hij b
theorem Lists.lts (h : Lists w B v vs L) : ∀ i, i < L.length → ∀ b, (vs.getD i undef).ownBlock = some b → b < w.heap.size := fun i hi b e => (World.ownsRow.lt (h.ins i hi) b e).2
/-- A number more in one of the lists: its slice is stored. -/
theorem Lists.put {w2 : World} {u2 : Value} (h : Lists w B v vs L) {i : Nat} (hi : i < L.length) {k : Nat} (ho : w2.ownsRow B 3 1 u2 ((L.getD i []).length + 1) (natsV (L.getD i []) ++ [.int .i64 k])) (hg : w.grownBy w2 (vs.getD i undef).ownBlock)
    (hw : u2.ownBlock = (vs.getD i undef).ownBlock ∨ ∃ b, u2.ownBlock = some b ∧ w.heap.size ≤ b) {S cap : Nat} (hv : v = .slice (some ⟨S, 0, none⟩) L.length cap) :
    w2.cell? ⟨S, i, none⟩ = some (vs.getD i undef) ∧ w2.frozen? ⟨S, i, none⟩ = false ∧ Lists (w2.setCell ⟨S, i, none⟩ u2) B v (vs.set i u2) (L.set i (L.getD i [] ++ [k])) := by
  have hl := h.len
  have hvb : v.ownBlock = some S := by rw [hv]; rfl
  have hT := Turned.of_grown (S := fun b => (vs.getD i undef).ownBlock = some b) hg fun _ e => e
  have hr := ownsRow_turned h.row hT fun b e hS => own_apart h.row (h.ins i hi) (by decide) e hS
  have hr' := hr
  rw [hv] at hr'
  have hst := turned_setCell w2 ⟨S, i, none⟩ u2
  have hvs : ∀ j, j ≠ i → (vs.set i u2).getD j undef = vs.getD j undef := fun j hj => by rw [List.getD, List.getD, List.getElem?_set_ne (Ne.symm hj)]
  have hLs : ∀ j, j ≠ i → (L.set i (L.getD i [] ++ [k])).getD j [] = L.getD j [] := fun j hj => by rw [List.getD_eq_getElem?_getD, List.getElem?_set_ne (Ne.symm hj), ← List.getD_eq_getElem?_getD]
  have hvi : (vs.set i u2).getD i undef = u2 := by rw [List.getD, List.getElem?_set_self (by omega)]; rfl
  have hLi : (L.set i (L.getD i [] ++ [k])).getD i [] = L.getD i [] ++ [k] := by rw [List.getD, List.getElem?_set_self hi]; rfl
  refine ⟨?_, hr'.frozenAt _, ⟨?_, fun j hj => ?_, fun a b ha hb hab g => ?_⟩⟩
  · rw [hr'.cellAt i (by omega), List.getD, List.getElem?_eq_getElem (by omega)]; rfl
  · rw [List.length_set, hv]
    exact (hr'.stored _ _).1
  · rw [List.length_set] at hj
    by_cases e : j = i
    · subst e
      rw [hvi, hLi]
      refine nats_one (ownsRow_turned ho hst fun b e2 hS => own_apart hr ho (by decide) hvb (by rw [e2, show b = S from hS]))
    · rw [hvs j e, hLs j e]
      have h1 := ownsRow_turned (h.ins j hj) hT fun b e2 hS => h.apart i j hi hj (Ne.symm e) b hS e2
      exact ownsRow_turned h1 hst fun b e2 hS => own_apart hr h1 (by decide) hvb (by rw [e2, show b = S from hS])
  · rw [List.length_set] at ha hb
    have hnew : ∀ j, j < L.length → j ≠ i → ∀ g, u2.ownBlock = some g → (vs.getD j undef).ownBlock ≠ some g := fun j hj hne g e e2 => by
      rcases hw with h' | ⟨b', h', hb'⟩
      · exact h.apart i j hi hj (Ne.symm hne) g (h'.symm.trans e) e2
      · have := (World.ownsRow.lt (h.ins j hj) g e2).2
        rw [h'] at e
        injection e with e
        omega
    by_cases e : a = i
    · subst e
      rw [hvi, hvs b (Ne.symm hab)]
      exact hnew b hb (Ne.symm hab) g
    · rw [hvs a e]
      by_cases e' : b = i
      · subst e'
        rw [hvi]
        exact fun e1 e2 => hnew a ha hab g e2 e1
      · rw [hvs b e']; exact h.apart a b ha hb hab g
/-- What is read of such slices. -/
theorem Lists.head (h : Lists w B v vs L) : ∃ a c, v = .slice a L.length c := own_form h.row
theorem Lists.at (h : Lists w B v vs L) {i : Nat} (hi : i < L.length) : ∃ S cap u c, v = .slice (some ⟨S, 0, none⟩) L.length cap ∧ w.cell? ⟨S, i, none⟩ = some (.slice u (L.getD i []).length c) ∧
    ∀ k, (hk : k < (L.getD i []).length) → ∃ g, u = some ⟨g, 0, none⟩ ∧ w.cell? ⟨g, k, none⟩ = some (.int .i64 ((L.getD i [])[k]'hk : Nat)) := by
  obtain ⟨S, cap, hv, _, _⟩ := World.ownsRow.form h.row (by omega)
  have hr := h.row
  rw [hv] at hr
  have hc := hr.cellAt i (by omega)
  have hl := h.len
  have hn := h.ins i hi
  rw [List.getD_eq_getElem?_getD, List.getElem?_eq_getElem (by omega)] at hn
  rw [List.getElem?_eq_getElem (by omega)] at hc
  generalize vs[i]'(by omega) = u at hc hn
  obtain ⟨a, c, rfl⟩ := own_form (show w.ownsRow B _ 1 u _ _ from hn)
  refine ⟨S, cap, a, c, hv, hc, fun k hk => ?_⟩
  obtain ⟨g, cap', e, _, _⟩ := World.ownsRow.form hn (by omega)
  have e' := e
  injection e' with e1
  subst e1
  refine ⟨g, rfl, ?_⟩
  have hn' := hn
  unfold Nats at hn'
  simp only [Option.getD_some] at hn'
  rw [hn'.cellAt k (by omega), natsV, List.getElem?_map, List.getElem?_eq_getElem hk]
  rfl
end
end Go.Proofs.YtkgjbamkinfmeaaGreatDoor

/- Plain mathematics of layer 1 (bytes as runes): nothing of the program. -/
namespace Go.Proofs.YtkgjbamkinfmeaaGreatDoor

/-- Of a first byte: how many follow, and the ends of the first that does. -/
def fl (c : Int) : Int × Int × Int :=
  if 194 ≤ c ∧ c ≤ 223 then (1, 128, 191)
  else if c = 224 then (2, 160, 191)
  else if c = 237 then (2, 128, 159)
  else if 225 ≤ c ∧ c ≤ 239 then (2, 128, 191)
  else if c = 240 then (3, 144, 191)
  else if 241 ≤ c ∧ c ≤ 243 then (3, 128, 191)
  else if c = 244 then (3, 128, 143)
  else (0, 0, 0)

/-- The bytes behind a lead, one by one: from the i-th on, its ends lo and hi, r gathered so far. -/
def cutGo (l : List UInt8) (n : Int) : Nat → Nat → Int → Int → Int → Int × Int × Bool
  | 0, _, _, _, _ => (0, 0, false)
  | f + 1, i, lo, hi, r =>
    if (i : Int) ≤ n then
      if i = l.length ∨ bt l i < lo ∨ hi < bt l i then (65533, (i : Int), false)
      else cutGo l n f (i + 1) 128 191 (r * 64 + bt l i % 64)
    else (r, n + 1, true)

/-- The first rune, how many bytes it has, and whether they are a rune's. -/
def cutS (l : List UInt8) : Int × Int × Bool :=
  if l = [] then (0, 0, false)
  else if bt l 0 < 128 then (bt l 0, 1, true)
  else if (fl (bt l 0)).1 = 0 then (65533, 1, false)
  else cutGo l (fl (bt l 0)).1 4 1 (fl (bt l 0)).2.1 (fl (bt l 0)).2.2 (bt l 0 % (2 ^ (6 - (fl (bt l 0)).1.toNat) : Nat))

theorem cutGo_done {l : List UInt8} {n : Int} {k : Nat} {lo hi r : Int} (h : n < k) (hk : k ≤ 4) : cutGo l n (5 - k) k lo hi r = (r, n + 1, true) := by
  obtain ⟨f, hf⟩ : ∃ f, 5 - k = f + 1 := ⟨4 - k, by omega⟩
  rw [hf, cutGo, if_neg (by omega)]
theorem cutGo_bad {l : List UInt8} {n : Int} {k : Nat} {lo hi r : Int} (h : (k : Int) ≤ n) (hk : k ≤ 4) (hb : k = l.length ∨ bt l k < lo ∨ hi < bt l k) : cutGo l n (5 - k) k lo hi r = (65533, (k : Int), false) := by
  obtain ⟨f, hf⟩ : ∃ f, 5 - k = f + 1 := ⟨4 - k, by omega⟩
  rw [hf, cutGo, if_pos h, if_pos hb]
theorem cutGo_step {l : List UInt8} {n : Int} {k : Nat} {lo hi r : Int} (h : (k : Int) ≤ n) (hk : k ≤ 4) (h1 : k ≠ l.length) (h2 : lo ≤ bt l k) (h3 : bt l k ≤ hi) :
    cutGo l n (5 - k) k lo hi r = cutGo l n (5 - (k + 1)) (k + 1) 128 191 (r * 64 + bt l k % 64) := by
  obtain ⟨f, hf⟩ : ∃ f, 5 - k = f + 1 := ⟨4 - k, by omega⟩
  rw [hf, cutGo, if_pos h, if_neg (by omega)]
  congr 1
  omega

theorem fl_cases (c : Int) : (fl c = (0, 0, 0) ∧ (c < 194 ∨ 244 < c)) ∨ ∃ n lo hi, fl c = (n, lo, hi) ∧ 194 ≤ c ∧ c ≤ 244 ∧ 128 ≤ lo ∧ lo ≤ 160 ∧ 143 ≤ hi ∧ hi ≤ 191 ∧
    ((n = 1 ∧ c ≤ 223 ∧ lo = 128 ∧ hi = 191) ∨ (n = 2 ∧ 224 ≤ c ∧ c ≤ 239 ∧ (c = 224 → lo = 160) ∧ (c ≠ 224 → lo = 128) ∧ (c = 237 → hi = 159) ∧ (c ≠ 237 → hi = 191)) ∨
     (n = 3 ∧ 240 ≤ c ∧ (c = 240 → lo = 144) ∧ (c ≠ 240 → lo = 128) ∧ (c = 244 → hi = 143) ∧ (c ≠ 244 → hi = 191))) := by
  unfold fl
  split
  · right; refine ⟨_, _, _, rfl, ?_⟩; omega
  split
  · right; refine ⟨_, _, _, rfl, ?_⟩; omega
  split
  · right; refine ⟨_, _, _, rfl, ?_⟩; omega
  split
  · right; refine ⟨_, _, _, rfl, ?_⟩; omega
  split
  · right; refine ⟨_, _, _, rfl, ?_⟩; omega
  split
  · right; refine ⟨_, _, _, rfl, ?_⟩; omega
  split
  · right; refine ⟨_, _, _, rfl, ?_⟩; omega
  · left; exact ⟨rfl, by omega⟩

theorem bt_zero (a : UInt8) (l : List UInt8) : bt (a :: l) 0 = a.toNat := rfl
theorem bt_succ (a : UInt8) (l : List UInt8) (i : Nat) : bt (a :: l) (i + 1) = bt l i := by simp [bt]

/-- What a cut of a list that isn't empty comes to: a rune of 1 to 4 bytes, or none of 1 to 3. -/
structure Cut (l : List UInt8) (r n : Int) (g : Bool) : Prop where
  pos : 1 ≤ n
  le : n ≤ l.length
  four : n ≤ 4
  r0 : 0 ≤ r
  r1 : r ≤ 1114111

theorem cutS_nil : cutS [] = (0, 0, false) := rfl

theorem len_pos {l : List UInt8} (h : l ≠ []) : 0 < l.length := List.length_pos_iff.2 h

/-- The ways of a cut, one by one. -/
theorem cutS_ways (l : List UInt8) (h : l ≠ []) :
    (bt l 0 < 128 ∧ cutS l = (bt l 0, 1, true)) ∨
    (∃ n : Int, 1 ≤ n ∧ n ≤ 3 ∧ n ≤ l.length ∧ cutS l = (65533, n, false)) ∨
    (2 ≤ l.length ∧ 194 ≤ bt l 0 ∧ bt l 0 ≤ 223 ∧ 128 ≤ bt l 1 ∧ bt l 1 ≤ 191 ∧ cutS l = (bt l 0 % 32 * 64 + bt l 1 % 64, 2, true)) ∨
    (3 ≤ l.length ∧ 224 ≤ bt l 0 ∧ bt l 0 ≤ 239 ∧ 128 ≤ bt l 1 ∧ bt l 1 ≤ 191 ∧ (bt l 0 = 224 → 160 ≤ bt l 1) ∧ (bt l 0 = 237 → bt l 1 ≤ 159) ∧ 128 ≤ bt l 2 ∧ bt l 2 ≤ 191 ∧
      cutS l = ((bt l 0 % 16 * 64 + bt l 1 % 64) * 64 + bt l 2 % 64, 3, true)) ∨
    (4 ≤ l.length ∧ 240 ≤ bt l 0 ∧ bt l 0 ≤ 244 ∧ 128 ≤ bt l 1 ∧ bt l 1 ≤ 191 ∧ (bt l 0 = 240 → 144 ≤ bt l 1) ∧ (bt l 0 = 244 → bt l 1 ≤ 143) ∧ 128 ≤ bt l 2 ∧ bt l 2 ≤ 191 ∧ 128 ≤ bt l 3 ∧ bt l 3 ≤ 191 ∧
      cutS l = (((bt l 0 % 8 * 64 + bt l 1 % 64) * 64 + bt l 2 % 64) * 64 + bt l 3 % 64, 4, true)) := by
  have hl := len_pos h
  unfold cutS
  rw [if_neg h]
  by_cases h1 : bt l 0 < 128
  · rw [if_pos h1]; exact Or.inl ⟨h1, rfl⟩
  rw [if_neg h1]
  rcases fl_cases (bt l 0) with ⟨hf, hc⟩ | ⟨n, lo, hi, hf, c1, c2, c3, c4, c5, c6, hn⟩
  · rw [if_pos (by rw [hf])]; exact Or.inr (Or.inl ⟨1, by omega, by omega, by omega, rfl⟩)
  rw [hf]
  rw [if_neg (by simp only; omega)]
  simp only
  rw [show (4 : Nat) = 5 - 1 from rfl]
  by_cases b1 : 1 = l.length ∨ bt l 1 < lo ∨ hi < bt l 1
  · rw [cutGo_bad (by omega) (by omega) b1]; exact Or.inr (Or.inl ⟨1, by omega, by omega, by omega, rfl⟩)
  rw [cutGo_step (by omega) (by omega) (by omega) (by omega) (by omega)]
  rcases hn with ⟨rfl, hn⟩ | ⟨rfl, hn⟩ | ⟨rfl, hn⟩
  · rw [cutGo_done (by omega) (by omega)]
    refine Or.inr (Or.inr (Or.inl ⟨by omega, by omega, by omega, by omega, by omega, ?_⟩))
    rfl
  all_goals
    by_cases b2 : 1 + 1 = l.length ∨ bt l (1 + 1) < 128 ∨ 191 < bt l (1 + 1)
    · rw [cutGo_bad (by omega) (by omega) b2]; exact Or.inr (Or.inl ⟨2, by omega, by omega, by omega, rfl⟩)
    rw [cutGo_step (by omega) (by omega) (by omega) (by omega) (by omega)]
  · rw [cutGo_done (by omega) (by omega)]
    refine Or.inr (Or.inr (Or.inr (Or.inl ⟨by omega, by omega, by omega, by omega, by omega, by omega, by omega, by simp only [Nat.reduceAdd] at b2; omega, by simp only [Nat.reduceAdd] at b2; omega, rfl⟩)))
  · by_cases b3 : 1 + 1 + 1 = l.length ∨ bt l (1 + 1 + 1) < 128 ∨ 191 < bt l (1 + 1 + 1)
    · rw [cutGo_bad (by omega) (by omega) b3]; exact Or.inr (Or.inl ⟨3, by omega, by omega, by omega, rfl⟩)
    rw [cutGo_step (by omega) (by omega) (by omega) (by omega) (by omega), cutGo_done (by omega) (by omega)]
    simp only [Nat.reduceAdd] at b2 b3
    exact Or.inr (Or.inr (Or.inr (Or.inr ⟨by omega, by omega, by omega, by omega, by omega, by omega, by omega, by omega, by omega, by omega, by omega, rfl⟩)))

theorem cutS_bd (l : List UInt8) (h : l ≠ []) : 1 ≤ (cutS l).2.1 ∧ (cutS l).2.1 ≤ l.length ∧ (cutS l).2.1 ≤ 4 ∧ 0 ≤ (cutS l).1 ∧ (cutS l).1 ≤ 1114111 := by
  have hl := len_pos h
  have h0 := bt_lt l 0
  rcases cutS_ways l h with ⟨_, e⟩ | ⟨n, _, _, _, e⟩ | ⟨_, _, _, _, _, e⟩ | ⟨_, _, _, _, _, _, _, _, _, e⟩ | ⟨_, _, _, _, _, _, _, _, _, _, _, e⟩ <;> rw [e] <;> simp only <;> omega

theorem cutS_none (l : List UInt8) (h : (cutS l).2.2 = false) (hl : l ≠ []) : (cutS l).1 = 65533 := by
  rcases cutS_ways l hl with ⟨_, e⟩ | ⟨n, _, _, _, e⟩ | ⟨_, _, _, _, _, e⟩ | ⟨_, _, _, _, _, _, _, _, _, e⟩ | ⟨_, _, _, _, _, _, _, _, _, _, _, e⟩ <;> rw [e] at h ⊢ <;> simp at h ⊢

/-- How many bytes a cut takes, as a Nat. -/
def cutN (l : List UInt8) : Nat := (cutS l).2.1.toNat
theorem cutN_bd (l : List UInt8) (h : l ≠ []) : 1 ≤ cutN l ∧ cutN l ≤ l.length ∧ cutN l ≤ 4 ∧ (cutS l).2.1 = cutN l := by
  have := cutS_bd l h; unfold cutN; omega
theorem drop_lt (l : List UInt8) (h : l ≠ []) : (l.drop (cutN l)).length < l.length := by
  have := cutN_bd l h; have := len_pos h; simp; omega

def decF : Nat → List UInt8 → List Int
  | 0, _ => []
  | f + 1, l => if l = [] then [] else (cutS l).1 :: decF f (l.drop (cutN l))
/-- The runes of bytes. -/
def dec (l : List UInt8) : List Int := decF l.length l
def valF : Nat → List UInt8 → Bool
  | 0, _ => true
  | f + 1, l => if l = [] then true else (cutS l).2.2 && valF f (l.drop (cutN l))
/-- Are bytes those of runes alone? -/
def val (l : List UInt8) : Bool := valF l.length l

theorem decF_more : ∀ (f : Nat) (l : List UInt8), l.length ≤ f → decF f l = dec l := by
  intro f
  induction f using Nat.strongRecOn with
  | _ f ih =>
    intro l hl
    unfold dec
    by_cases h : l = []
    · subst h; cases f <;> simp [decF]
    · have hd := drop_lt l h
      have := len_pos h
      obtain ⟨f', rfl⟩ : ∃ f', f = f' + 1 := ⟨f - 1, by omega⟩
      obtain ⟨m, hm⟩ : ∃ m, l.length = m + 1 := ⟨l.length - 1, by omega⟩
      rw [hm, decF, decF, if_neg h, if_neg h, ih f' (by omega) _ (by omega)]
      congr 1
      by_cases hf : m = f'
      · subst hf; rw [ih m (by omega) _ (by omega)]
      · rw [ih m (by omega) _ (by omega)]
theorem valF_more : ∀ (f : Nat) (l : List UInt8), l.length ≤ f → valF f l = val l := by
  intro f
  induction f using Nat.strongRecOn with
  | _ f ih =>
    intro l hl
    unfold val
    by_cases h : l = []
    · subst h; cases f <;> simp [valF]
    · have hd := drop_lt l h
      have := len_pos h
      obtain ⟨f', rfl⟩ : ∃ f', f = f' + 1 := ⟨f - 1, by omega⟩
      obtain ⟨m, hm⟩ : ∃ m, l.length = m + 1 := ⟨l.length - 1, by omega⟩
      rw [hm, valF, valF, if_neg h, if_neg h, ih f' (by omega) _ (by omega), ih m (by omega) _ (by omega)]
theorem dec_nil : dec [] = [] := rfl
theorem val_nil : val [] = true := rfl
theorem dec_cons (l : List UInt8) (h : l ≠ []) : dec l = (cutS l).1 :: dec (l.drop (cutN l)) := by
  have hd := drop_lt l h
  have := len_pos h
  rw [show dec l = decF (l.length - 1 + 1) l from by unfold dec; congr 1; omega, decF, if_neg h, decF_more _ _ (by omega)]
theorem val_cons (l : List UInt8) (h : l ≠ []) : val l = ((cutS l).2.2 && val (l.drop (cutN l))) := by
  have hd := drop_lt l h
  have := len_pos h
  rw [show val l = valF (l.length - 1 + 1) l from by unfold val; congr 1; omega, valF, if_neg h, valF_more _ _ (by omega)]

theorem list_ind {P : List UInt8 → Prop} (h0 : P []) (h1 : ∀ l, l ≠ [] → P (l.drop (cutN l)) → P l) : ∀ l, P l := by
  intro l
  generalize hn : l.length = n
  induction n using Nat.strongRecOn generalizing l with
  | _ n ih =>
    by_cases h : l = []
    · subst h; exact h0
    · exact h1 l h (ih _ (by rw [← hn]; exact drop_lt l h) _ rfl)

theorem dec_len : ∀ l, (dec l).length ≤ l.length := by
  refine list_ind (by simp [dec_nil]) fun l h ih => ?_
  have hd := drop_lt l h
  rw [dec_cons l h]; simp only [List.length_cons]; omega
theorem dec_bd : ∀ l, ∀ x ∈ dec l, 0 ≤ x ∧ x ≤ 1114111 := by
  refine list_ind (by simp [dec_nil]) fun l h ih => ?_
  rw [dec_cons l h]
  intro x hx
  rcases List.mem_cons.1 hx with rfl | hx
  · have := cutS_bd l h; omega
  · exact ih x hx

theorem cutS_sign (t : List UInt8) : cutS (239 :: 191 :: 189 :: t) = (65533, 3, true) := by
  have b0 : bt (239 :: 191 :: 189 :: t) 0 = 239 := rfl
  have b1 : bt (239 :: 191 :: 189 :: t) 1 = 191 := rfl
  have b2 : bt (239 :: 191 :: 189 :: t) 2 = 189 := rfl
  rcases cutS_ways (239 :: 191 :: 189 :: t) (by simp) with ⟨_, e⟩ | ⟨n, _, _, _, e⟩ | ⟨_, _, _, _, _, e⟩ | ⟨_, _, _, _, _, _, _, _, _, e⟩ | ⟨_, _, _, _, _, _, _, _, _, _, _, e⟩
  · omega
  · unfold cutS at e
    rw [if_neg (by simp), if_neg (by omega), b0, show fl 239 = (2, 128, 191) from rfl, if_neg (by simp), show (4 : Nat) = 5 - 1 from rfl,
      cutGo_step (by simp) (by omega) (by simp) (by rw [b1]; decide) (by rw [b1]; decide), cutGo_step (by simp) (by omega) (by simp) (by show _ ≤ bt _ 2; rw [b2]; decide) (by show bt _ 2 ≤ _; rw [b2]; decide), cutGo_done (by simp) (by omega)] at e
    simp at e
  · omega
  · rw [e, b0, b1, b2]; rfl
  · omega

theorem take_three (l : List UInt8) (h : 3 ≤ l.length) (a b c : UInt8) (h0 : bt l 0 = a.toNat) (h1 : bt l 1 = b.toNat) (h2 : bt l 2 = c.toNat) : l.take 3 = [a, b, c] := by
  match l, h with
  | x :: y :: z :: t, _ =>
    have e (u v : UInt8) (h : (u.toNat : Int) = v.toNat) : u = v := UInt8.toNat_inj.1 (by omega)
    have e0 := e x a h0
    have e1 := e y b h1
    have e2 := e z c h2
    subst e0 e1 e2
    rfl
theorem good_iff (l : List UInt8) (h : l ≠ []) : (cutS l).2.2 = true ↔ ((cutS l).1 = 65533 → l.take (cutN l) = [239, 191, 189]) := by
  constructor
  · intro hg hr
    have h0 := bt_lt l 0
    rcases cutS_ways l h with ⟨_, e⟩ | ⟨n, _, _, _, e⟩ | ⟨_, _, _, _, _, e⟩ | ⟨hl, _, _, _, _, _, _, _, _, e⟩ | ⟨_, _, _, _, _, _, _, _, _, _, _, e⟩
    · rw [e] at hr; simp at hr; omega
    · rw [e] at hg; simp at hg
    · rw [e] at hr; simp at hr; omega
    · rw [e] at hr
      simp at hr
      have : cutN l = 3 := by unfold cutN; rw [e]; rfl
      rw [this]
      exact take_three l hl 239 191 189 (by simp; omega) (by simp; omega) (by simp; omega)
    · rw [e] at hr; simp at hr; omega
  · intro hc
    cases hg : (cutS l).2.2
    · have h1 := hc (cutS_none l hg h)
      have : l = 239 :: 191 :: 189 :: l.drop (cutN l) := by
        have := List.take_append_drop (cutN l) l
        rw [h1] at this
        exact this.symm
      rw [this, cutS_sign] at hg
      simp at hg
    · rfl
theorem good_sign (l : List UInt8) (h : l ≠ []) (h2 : (!List.take (cutN l) l == [239, 191, 189]) = false) : (cutS l).2.2 = true := (good_iff l h).2 fun _ => by simpa using h2
theorem good_other (l : List UInt8) (h : l ≠ []) (h1 : ¬ (cutS l).1 = 65533) : (cutS l).2.2 = true := (good_iff l h).2 fun h2 => absurd h2 h1
theorem bad_sign (l : List UInt8) (h : l ≠ []) (h1 : (cutS l).1 = 65533) (h2 : (!List.take (cutN l) l == [239, 191, 189]) = true) : (cutS l).2.2 = false := by
  cases hg : (cutS l).2.2
  · rfl
  · have := (good_iff l h).1 hg h1
    simp [this] at h2
end Go.Proofs.YtkgjbamkinfmeaaGreatDoor

/- Plain mathematics of layer 1: runes as bytes. Nothing of the program. -/
namespace Go.Proofs.YtkgjbamkinfmeaaGreatDoor

/-- May it be a rune? -/
def isR (r : Int) : Bool := decide (0 ≤ r ∧ r ≤ 1114111 ∧ ¬ (55296 ≤ r ∧ r ≤ 57343))
/-- How many bytes follow the first. -/
def folN (r : Int) : Nat := if r < 128 then 0 else if r < 2048 then 1 else if r < 65536 then 2 else 3
/-- The bytes of a rune that may be, as numbers. -/
def encR (r : Int) : List Int :=
  if r < 128 then [r]
  else if r < 2048 then [192 + r / 64, 128 + r % 64]
  else if r < 65536 then [224 + r / 4096, 128 + r / 64 % 64, 128 + r % 64]
  else [240 + r / 262144, 128 + r / 4096 % 64, 128 + r / 64 % 64, 128 + r % 64]
/-- The bytes of any rune. -/
def encI (r : Int) : List Int := if isR r then encR r else encR 65533
/-- A number as a byte. -/
def u8 (n : Int) : UInt8 := UInt8.ofNat n.toNat
def enc (r : Int) : List UInt8 := (encI r).map u8
def encAll (l : List Int) : List UInt8 := (l.flatMap encI).map u8
end Go.Proofs.YtkgjbamkinfmeaaGreatDoor
