/- A slice of elements of k cells that came in, each told by a function of what an element is. -/
import Derived.Test.YtpfcamebkcengaaGs
import Derived.Test.YtpfcamebkcengaaLift
import Derived.Deep.Strs
namespace Go.Proofs.Ytpfcamebkcengaa
open Go.ChangeShapes Go.WideShapes Go.ChangeAt Go.RowKit Go.Deep

section
variable {H : Type} {enc : TypeId × Value → H} {P : Program} {w : World} {α : Type} [Inhabited α] {k : Nat} {f : α → List Value}
/-- What a slice's data tell of its elements. -/
def SlD (R : α → DataW H → Prop) (l : List α) (d : DataW H) : Prop := (d = .nil ∧ l = []) ∨ ∃ (D : Nat → DataW H) (sp : List (DataW H)), d = .slice ((List.range l.length).map D) sp ∧ ∀ j (hj : j < l.length), R (l[j]'hj) (D j)
theorem spot_go {w : World} {a : Addr} {v : Value} (h : w.cell? (a.add 0) = some v) : ∃ b off, a = ⟨b, off, none⟩ := by
  have hs : a.spot = none := by simpa [Addr.add] using World.cell?_spot h
  obtain ⟨b, off, spot⟩ := a
  simp at hs
  subst hs
  exact ⟨b, off, rfl⟩
theorem trod_slOf {R : α → DataW H → Prop} {t e : TypeId} {fuel : Nat} {cs : List Value} {x : DataW H × List MemPlace} (hk : ∀ a, (f a).length = k) (hk0 : 0 < k) (ht : P.underlying t = some (.slice e)) (ce : P.cellsOf e = k)
    (hel : ∀ n cs y, cs.length = k → DataW.trod enc P w 0 (fun _ => true) true n e cs = some y → ∃ a, cs = f a ∧ R a y.1)
    (h : DataW.trod enc P w 0 (fun _ => true) true fuel t cs = some x) : ∃ v l, cs = [v] ∧ SlOf k f w v l ∧ l.length ≤ maxLen ∧ SlD R l x.1 := by
  rcases open_slice ht h with ⟨hcs, hx⟩ | ⟨a, len, cap, m, n, D, Pl, hcs, hb, hl, hm, hmm, hx, hi⟩
  · exact ⟨_, [], hcs, slOf_nil _ _ _, Nat.zero_le _, Or.inl ⟨by rw [hx], rfl⟩⟩
  · simp only [if_true] at hmm
    subst hmm
    have each : ∀ i, i < len → ∃ q : α, (∀ t u, t < k → (f q)[t]? = some u → w.cell? (a.add (i * k + t)) = some u) ∧ R q (D i) := by
      intro i hi'
      obtain ⟨cs', h1, h2⟩ := hi i (by omega)
      rw [ce] at h1
      obtain ⟨_, hlen, hcell⟩ := World.cells?_some h1
      obtain ⟨q, rfl, hR⟩ := hel _ _ _ hlen h2
      refine ⟨q, fun t u ht hu => ?_, hR⟩
      have := hcell t ht
      rw [add_add] at this
      rw [this]
      simpa using hu
    obtain ⟨q, hq⟩ := choose_lt each
    have hll : ((List.range len).map q).length = len := by simp
    refine ⟨_, (List.range len).map q, hcs, ?_, by rw [hll]; omega, Or.inr ⟨D, _, by rw [hx, hll], fun j hj => ?_⟩⟩
    · by_cases h0 : len = 0
      · subst h0; exact Or.inl ⟨rfl, _, _, rfl⟩
      · have hx0 : 0 < (f (q 0)).length := by rw [hk]; exact hk0
        obtain ⟨b, off, rfl⟩ := spot_go (w := w) (a := a) (by have := (hq 0 (by omega)).1 0 _ hk0 (List.getElem?_eq_getElem hx0); rwa [Nat.zero_mul] at this)
        refine Or.inr ⟨b, off, m, by rw [hll]; exact hl, by rw [hll], fun j hj t u ht hu => ?_⟩
        have hj' : j < len := by rwa [hll] at hj
        simp only [List.getElem_map, List.getElem_range] at hu
        have := (hq j hj').1 t u ht hu
        rw [add_plain] at this
        rw [Nat.add_assoc]
        exact this
    · simp only [List.getElem_map, List.getElem_range]
      exact (hq j (by rwa [hll] at hj)).2
end
end Go.Proofs.Ytpfcamebkcengaa
