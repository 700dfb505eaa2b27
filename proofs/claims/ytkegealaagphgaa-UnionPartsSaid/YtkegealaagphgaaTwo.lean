/- A slice of pairs (structs of two int) that came in, out of a row's argument. -/
import Derived.Test.YtkegealaagphgaaLift
import Derived.Test.YtkegealaagphgaaTw
import Derived.Deep.Strs
namespace Go.Proofs.Ytkegealaagphgaa
open Go.ChangeShapes Go.WideShapes Go.ChangeAt Go.RowKit Go.Deep

section
variable {H : Type} {enc : TypeId × Value → H} {P : Program}
theorem open_twSl {r : Reach} {b0 : Nat} {w : World} {t e : TypeId} {f0 f1 : Field} {v : Value} {d : DataW H} {ps : List MemPlace} (ht : P.underlying t = some (.slice e)) (he : P.underlying e = some (.struct #[f0, f1])) (ce : P.cellsOf e = 2)
    (o0 : f0.offset = 0) (o1 : f1.offset = 1) (c0 : P.cellsOf f0.type = 1) (c1 : P.cellsOf f1.type = 1)
    (k0 : P.underlying f0.type = some (.int .i64)) (k1 : P.underlying f1.type = some (.int .i64))
    (hval : Value.okWide P w r b0 t v) (hd : DataW.Trod enc P w 0 (fun _ => true) true t v d ps) : ∃ os : List (Int × Int), TwSl w v os ∧ os.length ≤ maxLen := by
  obtain ⟨a0, len, cap, rfl⟩ := okWide_slice ht hval
  obtain ⟨fuel, hf⟩ := hd
  rcases open_slice ht hf with ⟨hcs, _⟩ | ⟨a, len', cap', m, n, D, Pl, hcs, hb, hl, hm, hmm, hx, hi⟩
  · simp [Value.cells] at hcs
    obtain ⟨rfl, rfl, rfl⟩ := hcs
    exact ⟨[], Or.inl ⟨rfl, _, _, rfl⟩, Nat.zero_le _⟩
  · simp [Value.cells] at hcs
    obtain ⟨rfl, rfl, rfl⟩ := hcs
    simp only [if_true] at hmm
    subst hmm
    have each : ∀ i, i < len → ∃ q : Int × Int, w.cell? (a.add (i * 2)) = some (.int .i64 q.1) ∧ w.cell? (a.add (i * 2 + 1)) = some (.int .i64 q.2) := by
      intro i hi'
      obtain ⟨cs', h1, h2⟩ := hi i (by omega)
      rw [ce] at h1
      obtain ⟨_, hlen, hcell⟩ := World.cells?_some h1
      obtain ⟨y0, y1, n', _, _, g0, g1⟩ := trod_struct2 he h2
      rw [o0, c0] at g0
      rw [o1, c1] at g1
      match cs', hlen with
      | [v0, v1], _ =>
        obtain ⟨x0, e0, _, _⟩ := DataW.trod_int k0 g0
        obtain ⟨x1, e1, _, _⟩ := DataW.trod_int k1 g1
        have q0 := hcell 0 (by omega)
        have q1 := hcell 1 (by omega)
        rw [add_add] at q0 q1
        simp at e0 e1
        subst e0 e1
        exact ⟨(x0, x1), by simpa using q0, by simpa using q1⟩
    obtain ⟨q, hq⟩ := choose_lt each
    refine ⟨(List.range len).map q, ?_, by simp; omega⟩
    by_cases h0 : len = 0
    · subst h0; exact Or.inl ⟨rfl, _, _, rfl⟩
    · have hc0 := (hq 0 (by omega)).1
      have hs : a.spot = none := by simpa [Addr.add] using World.cell?_spot hc0
      have hlt := World.block_lt_of_cell? w _ hc0
      obtain ⟨b, off, spot⟩ := a
      simp at hs
      subst hs
      refine Or.inr ⟨b, off, m, by simp, by simpa [Addr.add] using hlt, fun j hj => ?_⟩
      have hj' : j < len := by simpa using hj
      obtain ⟨r0, r1⟩ := hq j hj'
      rw [add_plain] at r0 r1
      simp only [List.getElem_map, List.getElem_range]
      exact ⟨r0, by rw [Nat.add_assoc]; exact r1⟩
end
end Go.Proofs.Ytkegealaagphgaa
