/- A slice of steps (structs of two int and a uint64) that came in. -/
import Derived.Test.YtgldlfgidmgmfaaLift
import Derived.Test.YtgldlfgidmgmfaaD08zz
import Derived.Deep.Strs
namespace Go.Proofs.Ytgldlfgidmgmfaa
open Go.ChangeShapes Go.WideShapes Go.ChangeAt Go.RowKit Go.Deep

section
variable {H : Type} {enc : TypeId × Value → H} {P : Program}
theorem open_opSl {r : Reach} {b0 : Nat} {w : World} {t e : TypeId} {f0 f1 f2 : Field} {v : Value} {d : DataW H} {ps : List MemPlace} (ht : P.underlying t = some (.slice e)) (he : P.underlying e = some (.struct #[f0, f1, f2])) (ce : P.cellsOf e = 3)
    (o0 : f0.offset = 0) (o1 : f1.offset = 1) (o2 : f2.offset = 2) (c0 : P.cellsOf f0.type = 1) (c1 : P.cellsOf f1.type = 1) (c2 : P.cellsOf f2.type = 1)
    (k0 : P.underlying f0.type = some (.int .i64)) (k1 : P.underlying f1.type = some (.int .i64)) (k2 : P.underlying f2.type = some (.int .u64))
    (hval : Value.okWide P w r b0 t v) (hd : DataW.Trod enc P w 0 (fun _ => true) true t v d ps) : ∃ os : List (Int × Int × Int), OpSl w v os ∧ os.length ≤ maxLen ∧ OpsWf os := by
  obtain ⟨a0, len, cap, rfl⟩ := okWide_slice ht hval
  obtain ⟨fuel, hf⟩ := hd
  rcases open_slice ht hf with ⟨hcs, _⟩ | ⟨a, len', cap', m, n, D, Pl, hcs, hb, hl, hm, hmm, hx, hi⟩
  · simp [Value.cells] at hcs
    obtain ⟨rfl, rfl, rfl⟩ := hcs
    exact ⟨[], Or.inl ⟨rfl, _, _, rfl⟩, Nat.zero_le _, fun p hp => by simp at hp⟩
  · simp [Value.cells] at hcs
    obtain ⟨rfl, rfl, rfl⟩ := hcs
    simp only [if_true] at hmm
    subst hmm
    have each : ∀ i, i < len → ∃ q : Int × Int × Int, (w.cell? (a.add (i * 3)) = some (.int .i64 q.1) ∧ w.cell? (a.add (i * 3 + 1)) = some (.int .i64 q.2.1) ∧ w.cell? (a.add (i * 3 + 2)) = some (.int .u64 q.2.2)) ∧ (Lit.int .i64 q.2.1).wf = true ∧ (Lit.int .u64 q.2.2).wf = true := by
      intro i hi'
      obtain ⟨cs', h1, h2⟩ := hi i (by omega)
      rw [ce] at h1
      obtain ⟨_, hlen, hcell⟩ := World.cells?_some h1
      obtain ⟨y0, y1, y2, n', _, _, g0, g1, g2⟩ := trod_struct3 he h2
      rw [o0, c0] at g0
      rw [o1, c1] at g1
      rw [o2, c2] at g2
      match cs', hlen with
      | [v0, v1, v2], _ =>
        obtain ⟨x0, e0, _, _⟩ := DataW.trod_int k0 g0
        obtain ⟨x1, e1, _, w1⟩ := DataW.trod_int k1 g1
        obtain ⟨x2, e2, _, w2⟩ := DataW.trod_int k2 g2
        have q0 := hcell 0 (by omega)
        have q1 := hcell 1 (by omega)
        have q2 := hcell 2 (by omega)
        rw [add_add] at q0 q1 q2
        simp at e0 e1 e2
        subst e0 e1 e2
        exact ⟨(x0, x1, x2), ⟨by simpa using q0, by simpa using q1, by simpa using q2⟩, w1, w2⟩
    obtain ⟨q, hq⟩ := choose_lt each
    refine ⟨(List.range len).map q, ?_, by simp; omega, fun p hp => ?_⟩
    · by_cases h0 : len = 0
      · subst h0; exact Or.inl ⟨rfl, _, _, rfl⟩
      · have hc0 := (hq 0 (by omega)).1.1
        have hs : a.spot = none := by simpa [Addr.add] using World.cell?_spot hc0
        have hlt := World.block_lt_of_cell? w _ hc0
        obtain ⟨b, off, spot⟩ := a
        simp at hs
        subst hs
        refine Or.inr ⟨b, off, m, by simp, by simpa [Addr.add] using hlt, fun j hj => ?_⟩
        have hj' : j < len := by simpa using hj
        obtain ⟨⟨r0, r1, r2⟩, _⟩ := hq j hj'
        rw [add_plain] at r0 r1 r2
        simp only [List.getElem_map, List.getElem_range]
        exact ⟨r0, by rw [Nat.add_assoc]; exact r1, by rw [Nat.add_assoc]; exact r2⟩
    · obtain ⟨i, hi', rfl⟩ := List.mem_map.1 hp
      exact (hq i (List.mem_range.1 hi')).2
end
end Go.Proofs.Ytgldlfgidmgmfaa
