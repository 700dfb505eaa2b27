/- A slice of strings that came in. -/
import Derived.Test.YtpfcamebkcengaaLift
import Derived.Test.YtpfcamebkcengaaSl
import Derived.Deep.Strs
namespace Go.Proofs.Ytpfcamebkcengaa
open Go.ChangeShapes Go.WideShapes Go.ChangeAt Go.RowKit

section
variable {H : Type} {enc : TypeId × Value → H} {P : Program}

/-- A slice of strings that came in. -/
theorem open_strSl {r : Reach} {b0 : Nat} {w : World} {t e : TypeId} {v : Value} {d : DataW H} {ps : List MemPlace} (ht : P.underlying t = some (.slice e)) (he : P.underlying e = some .string) (hc : P.cellsOf e = 1)
    (hval : Value.okWide P w r b0 t v) (hd : DataW.Trod enc P w 0 (fun _ => true) true t v d ps) (_hlt : ∀ x ∈ ps, x.block < w.heap.size) :
    ∃ xs : List (List UInt8), StrSl w v xs ∧ SlBelow w.heap.size v ∧ xs.length ≤ maxLen ∧ ∀ x ∈ xs, x.length ≤ maxLen := by
  obtain ⟨a0, len, cap, rfl⟩ := okWide_slice ht hval
  obtain ⟨fuel, hf⟩ := hd
  rcases Go.Deep.open_strs ht he hc hf with ⟨hcs, _⟩ | ⟨a, len', cap', m, Sx, hcs, _, hl, hm, hmm, _, hcell⟩
  · simp [Value.cells] at hcs
    obtain ⟨rfl, rfl, rfl⟩ := hcs
    exact ⟨[], Or.inl ⟨rfl, _, _, rfl⟩, fun a n c h => by simp at h, Nat.zero_le _, by simp⟩
  · simp [Value.cells] at hcs
    obtain ⟨rfl, rfl, rfl⟩ := hcs
    simp only [if_true] at hmm
    subst hmm
    have hblk : 0 < len → a.spot = none ∧ a.block < w.heap.size := by
      intro h0
      have hc0 := (hcell 0 (by omega)).1
      have hs : a.spot = none := by simpa [Addr.add] using World.cell?_spot hc0
      have := World.block_lt_of_cell? w _ hc0
      refine ⟨hs, ?_⟩
      obtain ⟨b, off, spot⟩ := a
      simp at hs
      subst hs
      simpa [Addr.add] using this
    refine ⟨(List.range len).map fun i => (Sx i).data.toList, ?_, ?_, ?_, ?_⟩
    · by_cases h0 : len = 0
      · subst h0; exact Or.inl ⟨rfl, _, _, rfl⟩
      · obtain ⟨b, off, spot⟩ := a
        have hs := (hblk (by omega)).1
        simp at hs
        subst hs
        refine Or.inr ⟨b, off, _, by simpa using hl, by simp, fun j hj => ?_⟩
        have hj' : j < len := by simpa using hj
        have := (hcell j (by omega)).1
        rw [add_plain] at this
        rw [this]
        simp [strV, List.getD, hj']
    · intro a' n c h h0
      simp at h
      obtain ⟨rfl, rfl, rfl⟩ := h
      exact (hblk h0).2
    · simp; omega
    · intro x hx
      obtain ⟨i, hi, rfl⟩ := List.mem_map.1 hx
      have hi := List.mem_range.1 hi
      have := (hcell i (by omega)).2
      exact this
end
end Go.Proofs.Ytpfcamebkcengaa
