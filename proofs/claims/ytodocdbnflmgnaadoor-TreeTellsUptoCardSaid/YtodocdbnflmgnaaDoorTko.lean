/- Slices of tokens, of nodes and of attributes that came in, out of a row's argument; what their reading says of their lengths. -/
import Derived.Test.YtodocdbnflmgnaaDoorNd
import Derived.Test.YtodocdbnflmgnaaDoorLift
import Derived.Test.YtodocdbnflmgnaaDoorD12r
import Derived.Deep.Strs
import Derived.Lib.SmallJoins
import Derived.SizedLaws
namespace Go.Proofs.YtodocdbnflmgnaaDoor
open Go.ChangeShapes Go.WideShapes Go.ChangeAt Go.RowKit Go.Deep

section
variable {H : Type} {enc : TypeId × Value → H}
/-- What the reading of attributes says. -/
def AtD (l : List At) (d : DataW H) : Prop := (d = .nil ∧ l = []) ∨ ∃ es sp, d = .slice es sp ∧ es.length = l.length
/-- .. of a token. -/
def TokD (t : Tk) (d : DataW H) : Prop := ∃ dA, d = .agg [.lit (.int .i64 t.kind), .lit (.string t.name), dA, .lit (.string t.text)] ∧ AtD t.attrs dA
/-- .. of a node. -/
def NodeD (x : Nd) (d : DataW H) : Prop := ∃ dA, d = .agg [.lit (.string x.name), dA, .lit (.string x.text), .lit (.int .i64 x.up)] ∧ AtD x.attrs dA
theorem spot_none {w : World} {a : Addr} {v : Value} (h : w.cell? (a.add 0) = some v) : ∃ b off, a = ⟨b, off, none⟩ ∧ b < w.heap.size := by
  have hs : a.spot = none := by simpa [Addr.add] using World.cell?_spot h
  have hlt := World.block_lt_of_cell? w _ h
  obtain ⟨b, off, spot⟩ := a
  simp at hs
  subst hs
  exact ⟨b, off, rfl, by simpa [Addr.add] using hlt⟩
variable {P : Program} {w : World}
/-- Attributes, wherever they lie. -/
theorem trod_atSl {t e : TypeId} {f0 f1 : Field} {fuel : Nat} {cs : List Value} {x : DataW H × List MemPlace} (ht : P.underlying t = some (.slice e)) (he : P.underlying e = some (.struct #[f0, f1])) (ce : P.cellsOf e = 2)
    (o0 : f0.offset = 0) (o1 : f1.offset = 1) (c0 : P.cellsOf f0.type = 1) (c1 : P.cellsOf f1.type = 1) (k0 : P.underlying f0.type = some .string) (k1 : P.underlying f1.type = some .string)
    (h : DataW.trod enc P w 0 (fun _ => true) true fuel t cs = some x) : ∃ v l, cs = [v] ∧ AtSl w v l ∧ l.length ≤ maxLen ∧ AtD l x.1 := by
  rcases open_slice ht h with ⟨hcs, hx⟩ | ⟨a, len, cap, m, n, D, Pl, hcs, hb, hl, hm, hmm, hx, hi⟩
  · exact ⟨_, [], hcs, atSl_nil _ _ _, Nat.zero_le _, Or.inl ⟨by rw [hx], rfl⟩⟩
  · simp only [if_true] at hmm
    subst hmm
    have each : ∀ i, i < len → ∃ q : At, w.cell? (a.add (i * 2)) = some (strV q.1) ∧ w.cell? (a.add (i * 2 + 1)) = some (strV q.2) := by
      intro i hi'
      obtain ⟨cs', h1, h2⟩ := hi i (by omega)
      rw [ce] at h1
      obtain ⟨_, hlen, hcell⟩ := World.cells?_some h1
      obtain ⟨y0, y1, n', _, _, g0, g1⟩ := trod_struct2 he h2
      rw [o0, c0] at g0
      rw [o1, c1] at g1
      match cs', hlen with
      | [v0, v1], _ =>
        obtain ⟨s0, e0, _, _⟩ := DataW.trod_string k0 g0
        obtain ⟨s1, e1, _, _⟩ := DataW.trod_string k1 g1
        have q0 := hcell 0 (by omega)
        have q1 := hcell 1 (by omega)
        rw [add_add] at q0 q1
        simp at e0 e1
        subst e0 e1
        exact ⟨(s0.data.toList, s1.data.toList), by simpa [strV] using q0, by simpa [strV] using q1⟩
    obtain ⟨q, hq⟩ := choose_lt each
    refine ⟨_, (List.range len).map q, hcs, ?_, by simp; omega, Or.inr ⟨_, _, by rw [hx], by simp⟩⟩
    by_cases h0 : len = 0
    · subst h0; exact Or.inl ⟨rfl, _, _, rfl⟩
    · obtain ⟨b, off, rfl, _⟩ := spot_none (by have := (hq 0 (by omega)).1; rwa [Nat.zero_mul] at this)
      refine Or.inr ⟨b, off, m, by simpa using hl, by simp, fun j hj => ?_⟩
      have hj' : j < len := by simpa using hj
      obtain ⟨r0, r1⟩ := hq j hj'
      rw [add_plain] at r0 r1
      have hg : ((List.range len).map q).getD j ([], []) = q j := by simp [List.getD, hj']
      rw [hg]
      exact ⟨r0, by rw [Nat.add_assoc]; exact r1⟩
/-- Tokens. -/
theorem trod_tkSl {t e tA eA : TypeId} {f0 f1 f2 f3 a0 a1 : Field} {fuel : Nat} {cs : List Value} {x : DataW H × List MemPlace} (ht : P.underlying t = some (.slice e)) (he : P.underlying e = some (.struct #[f0, f1, f2, f3])) (ce : P.cellsOf e = 4)
    (o0 : f0.offset = 0) (o1 : f1.offset = 1) (o2 : f2.offset = 2) (o3 : f3.offset = 3) (c0 : P.cellsOf f0.type = 1) (c1 : P.cellsOf f1.type = 1) (c2 : P.cellsOf f2.type = 1) (c3 : P.cellsOf f3.type = 1)
    (k0 : P.underlying f0.type = some (.int .i64)) (k1 : P.underlying f1.type = some .string) (e2 : f2.type = tA) (k3 : P.underlying f3.type = some .string)
    (hA : P.underlying tA = some (.slice eA)) (heA : P.underlying eA = some (.struct #[a0, a1])) (ceA : P.cellsOf eA = 2) (p0 : a0.offset = 0) (p1 : a1.offset = 1) (b0 : P.cellsOf a0.type = 1) (b1 : P.cellsOf a1.type = 1) (l0 : P.underlying a0.type = some .string) (l1 : P.underlying a1.type = some .string)
    (h : DataW.trod enc P w 0 (fun _ => true) true fuel t cs = some x) : ∃ v Q, cs = [v] ∧ TkSl w v Q ∧ Q.length ≤ maxLen ∧ (∀ p ∈ Q, p.1.attrs.length ≤ maxLen) ∧
      ((x.1 = .nil ∧ Q = []) ∨ ∃ (D : Nat → DataW H) (sp : List (DataW H)), x.1 = .slice ((List.range Q.length).map D) sp ∧ ∀ j (hj : j < Q.length), TokD (Q[j]'hj).1 (D j)) := by
  rcases open_slice ht h with ⟨hcs, hx⟩ | ⟨a, len, cap, m, n, D, Pl, hcs, hb, hl, hm, hmm, hx, hi⟩
  · exact ⟨_, [], hcs, ⟨Or.inl ⟨rfl, _, _, rfl⟩, fun p hp => by simp at hp⟩, Nat.zero_le _, fun p hp => by simp at hp, Or.inl ⟨by rw [hx], rfl⟩⟩
  · simp only [if_true] at hmm
    subst hmm
    have each : ∀ i, i < len → ∃ q : Tk × Value, (w.cell? (a.add (i * 4)) = some (.int .i64 q.1.kind) ∧ w.cell? (a.add (i * 4 + 1)) = some (strV q.1.name) ∧ w.cell? (a.add (i * 4 + 2)) = some q.2 ∧ w.cell? (a.add (i * 4 + 3)) = some (strV q.1.text)) ∧ AtSl w q.2 q.1.attrs ∧ q.1.attrs.length ≤ maxLen ∧ TokD q.1 (D i) := by
      intro i hi'
      obtain ⟨cs', h1, h2⟩ := hi i (by omega)
      rw [ce] at h1
      obtain ⟨_, hlen, hcell⟩ := World.cells?_some h1
      obtain ⟨y0, y1, y2, y3, n', hy, _, g0, g1, g2, g3⟩ := Go.Joins.trod_struct4 he h2
      rw [o0, c0] at g0
      rw [o1, c1] at g1
      rw [o2, c2, e2] at g2
      rw [o3, c3] at g3
      match cs', hlen with
      | [v0, v1, v2, v3], _ =>
        obtain ⟨z0, e0, f0', _⟩ := DataW.trod_int k0 g0
        obtain ⟨s1, e1, f1', _⟩ := DataW.trod_string k1 g1
        obtain ⟨vA, lA, eA', hatA, hlA, hdA⟩ := trod_atSl hA heA ceA p0 p1 b0 b1 l0 l1 g2
        obtain ⟨s3, e3, f3', _⟩ := DataW.trod_string k3 g3
        have q0 := hcell 0 (by omega)
        have q1 := hcell 1 (by omega)
        have q2 := hcell 2 (by omega)
        have q3 := hcell 3 (by omega)
        rw [add_add] at q0 q1 q2 q3
        simp at e0 e1 eA' e3
        subst e0 e1 eA' e3
        refine ⟨(⟨z0, s1.data.toList, lA, s3.data.toList⟩, v2), ⟨by simpa using q0, by simpa [strV] using q1, by simpa using q2, by simpa [strV] using q3⟩, hatA, hlA, y2.1, ?_, hdA⟩
        have := congrArg Prod.fst hy
        simp only at this
        rw [this, f0', f1', f3']
    haveI : Inhabited (Tk × Value) := ⟨(⟨0, [], [], []⟩, .nilIface)⟩
    obtain ⟨q, hq⟩ := choose_lt each
    have hlen : ((List.range len).map q).length = len := by simp
    refine ⟨_, (List.range len).map q, hcs, ⟨?_, fun p hp => ?_⟩, by simp; omega, fun p hp => ?_, Or.inr ⟨D, _, by rw [hx, hlen], fun j hj => ?_⟩⟩
    · by_cases h0 : len = 0
      · subst h0; exact Or.inl ⟨rfl, _, _, rfl⟩
      · obtain ⟨b, off, rfl, _⟩ := spot_none (by have := (hq 0 (by omega)).1.1; rwa [Nat.zero_mul] at this)
        refine Or.inr ⟨b, off, m, by simpa using hl, by simp, fun j hj => ?_⟩
        have hj' : j < len := by simpa using hj
        obtain ⟨⟨r0, r1, r2, r3⟩, _⟩ := hq j hj'
        rw [add_plain] at r0 r1 r2 r3
        simp only [List.getElem_map, List.getElem_range]
        exact ⟨r0, by rw [Nat.add_assoc]; exact r1, by rw [Nat.add_assoc]; exact r2, by rw [Nat.add_assoc]; exact r3⟩
    · obtain ⟨i, hi', rfl⟩ := List.mem_map.1 hp
      exact (hq i (List.mem_range.1 hi')).2.1
    · obtain ⟨i, hi', rfl⟩ := List.mem_map.1 hp
      exact (hq i (List.mem_range.1 hi')).2.2.1
    · simp only [List.getElem_map, List.getElem_range]
      exact (hq j (by simpa using hj)).2.2.2
/-- Nodes. -/
theorem trod_ndSl {t e tA eA : TypeId} {f0 f1 f2 f3 a0 a1 : Field} {fuel : Nat} {cs : List Value} {x : DataW H × List MemPlace} (ht : P.underlying t = some (.slice e)) (he : P.underlying e = some (.struct #[f0, f1, f2, f3])) (ce : P.cellsOf e = 4)
    (o0 : f0.offset = 0) (o1 : f1.offset = 1) (o2 : f2.offset = 2) (o3 : f3.offset = 3) (c0 : P.cellsOf f0.type = 1) (c1 : P.cellsOf f1.type = 1) (c2 : P.cellsOf f2.type = 1) (c3 : P.cellsOf f3.type = 1)
    (k0 : P.underlying f0.type = some .string) (e1 : f1.type = tA) (k2 : P.underlying f2.type = some .string) (k3 : P.underlying f3.type = some (.int .i64))
    (hA : P.underlying tA = some (.slice eA)) (heA : P.underlying eA = some (.struct #[a0, a1])) (ceA : P.cellsOf eA = 2) (p0 : a0.offset = 0) (p1 : a1.offset = 1) (b0 : P.cellsOf a0.type = 1) (b1 : P.cellsOf a1.type = 1) (l0 : P.underlying a0.type = some .string) (l1 : P.underlying a1.type = some .string)
    (h : DataW.trod enc P w 0 (fun _ => true) true fuel t cs = some x) : ∃ v Q, cs = [v] ∧ NdSl w v Q ∧ Q.length ≤ maxLen ∧ (∀ p ∈ Q, p.1.attrs.length ≤ maxLen) ∧
      ((x.1 = .nil ∧ Q = []) ∨ ∃ (D : Nat → DataW H) (sp : List (DataW H)), x.1 = .slice ((List.range Q.length).map D) sp ∧ ∀ j (hj : j < Q.length), NodeD (Q[j]'hj).1 (D j)) := by
  rcases open_slice ht h with ⟨hcs, hx⟩ | ⟨a, len, cap, m, n, D, Pl, hcs, hb, hl, hm, hmm, hx, hi⟩
  · exact ⟨_, [], hcs, ⟨Or.inl ⟨rfl, _, _, rfl⟩, fun p hp => by simp at hp⟩, Nat.zero_le _, fun p hp => by simp at hp, Or.inl ⟨by rw [hx], rfl⟩⟩
  · simp only [if_true] at hmm
    subst hmm
    have each : ∀ i, i < len → ∃ q : Nd × Value, (w.cell? (a.add (i * 4)) = some (strV q.1.name) ∧ w.cell? (a.add (i * 4 + 1)) = some q.2 ∧ w.cell? (a.add (i * 4 + 2)) = some (strV q.1.text) ∧ w.cell? (a.add (i * 4 + 3)) = some (.int .i64 q.1.up)) ∧ AtSl w q.2 q.1.attrs ∧ q.1.attrs.length ≤ maxLen ∧ NodeD q.1 (D i) := by
      intro i hi'
      obtain ⟨cs', h1, h2⟩ := hi i (by omega)
      rw [ce] at h1
      obtain ⟨_, hlen, hcell⟩ := World.cells?_some h1
      obtain ⟨y0, y1, y2, y3, n', hy, _, g0, g1, g2, g3⟩ := Go.Joins.trod_struct4 he h2
      rw [o0, c0] at g0
      rw [o1, c1, e1] at g1
      rw [o2, c2] at g2
      rw [o3, c3] at g3
      match cs', hlen with
      | [v0, v1, v2, v3], _ =>
        obtain ⟨s0, e0, f0', _⟩ := DataW.trod_string k0 g0
        obtain ⟨vA, lA, eA', hatA, hlA, hdA⟩ := trod_atSl hA heA ceA p0 p1 b0 b1 l0 l1 g1
        obtain ⟨s2, e2, f2', _⟩ := DataW.trod_string k2 g2
        obtain ⟨z3, e3, f3', _⟩ := DataW.trod_int k3 g3
        have q0 := hcell 0 (by omega)
        have q1 := hcell 1 (by omega)
        have q2 := hcell 2 (by omega)
        have q3 := hcell 3 (by omega)
        rw [add_add] at q0 q1 q2 q3
        simp at e0 eA' e2 e3
        subst e0 eA' e2 e3
        refine ⟨(⟨s0.data.toList, lA, s2.data.toList, z3⟩, v1), ⟨by simpa [strV] using q0, by simpa using q1, by simpa [strV] using q2, by simpa using q3⟩, hatA, hlA, y1.1, ?_, hdA⟩
        have := congrArg Prod.fst hy
        simp only at this
        rw [this, f0', f2', f3']
    haveI : Inhabited (Nd × Value) := ⟨(nd0, .nilIface)⟩
    obtain ⟨q, hq⟩ := choose_lt each
    have hlen : ((List.range len).map q).length = len := by simp
    refine ⟨_, (List.range len).map q, hcs, ⟨?_, fun p hp => ?_⟩, by simp; omega, fun p hp => ?_, Or.inr ⟨D, _, by rw [hx, hlen], fun j hj => ?_⟩⟩
    · by_cases h0 : len = 0
      · subst h0; exact Or.inl ⟨rfl, _, _, rfl⟩
      · obtain ⟨b, off, rfl, _⟩ := spot_none (by have := (hq 0 (by omega)).1.1; rwa [Nat.zero_mul] at this)
        refine Or.inr ⟨b, off, m, by simpa using hl, by simp, fun j hj => ?_⟩
        have hj' : j < len := by simpa using hj
        obtain ⟨⟨r0, r1, r2, r3⟩, _⟩ := hq j hj'
        rw [add_plain] at r0 r1 r2 r3
        simp only [List.getElem_map, List.getElem_range]
        exact ⟨r0, by rw [Nat.add_assoc]; exact r1, by rw [Nat.add_assoc]; exact r2, by rw [Nat.add_assoc]; exact r3⟩
    · obtain ⟨i, hi', rfl⟩ := List.mem_map.1 hp
      exact (hq i (List.mem_range.1 hi')).2.1
    · obtain ⟨i, hi', rfl⟩ := List.mem_map.1 hp
      exact (hq i (List.mem_range.1 hi')).2.2.1
    · simp only [List.getElem_map, List.getElem_range]
      exact (hq j (by simpa using hj)).2.2.2
/-- The weights of a part are weights of the whole. -/
theorem weights_mem_all {e : TypeId} {d : DataW H} {n : Nat} : ∀ {l : List (DataW H)}, d ∈ l → n ∈ d.weights P e → n ∈ DataW.weightsAll P e l
  | x :: r, hd, hn => by
    simp only [DataW.weightsAll, List.mem_append]
    rcases List.mem_cons.1 hd with rfl | hd
    · exact Or.inl hn
    · exact Or.inr (weights_mem_all hd hn)
/-- A token's attributes are no more than may be reached. -/
theorem tok_weight {e eA : TypeId} {f0 f1 f2 f3 : Field} {tA : TypeId} {t : Tk} {d : DataW H} (he : P.underlying e = some (.struct #[f0, f1, f2, f3])) (e2 : f2.type = tA) (hA : P.underlying tA = some (.slice eA)) (h : TokD t d) (hw : ∀ n ∈ d.weights P e, n ≤ reachBytes) : t.attrs.length * P.bytesOf eA ≤ reachBytes := by
  obtain ⟨dA, rfl, hd⟩ := h
  rcases hd with ⟨rfl, h0⟩ | ⟨es, sp, rfl, hl⟩
  · rw [h0]; simp
  · have hm := hw ((es.length + sp.length) * P.bytesOf eA) (by
      simp [DataW.weights, he, DataW.weightsEach, e2, hA])
    rw [← hl]
    exact Nat.le_trans (Nat.mul_le_mul_right _ (Nat.le_add_right _ _)) hm
end
end Go.Proofs.YtodocdbnflmgnaaDoor
