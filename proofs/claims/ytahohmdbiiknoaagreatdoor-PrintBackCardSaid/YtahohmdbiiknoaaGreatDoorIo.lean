/- A slice of entries that came in, out of a row's argument. -/
import Derived.Test.YtahohmdbiiknoaaGreatDoorIa
import Derived.Test.YtahohmdbiiknoaaGreatDoorBR36
import Derived.Deep.Strs
import Derived.OpenShut
import Derived.KernelRfl
namespace Go.Proofs.YtahohmdbiiknoaaGreatDoor
open Go.ChangeShapes Go.WideShapes Go.ChangeAt Go.RowKit Go.Deep

section
variable {H : Type} {enc : TypeId × Value → H} {P : Program} {w : World}
theorem spot_it {w : World} {a : Addr} {v : Value} (h : w.cell? (a.add 0) = some v) : ∃ b off, a = ⟨b, off, none⟩ := by
  have hs : a.spot = none := by simpa [Addr.add] using World.cell?_spot h
  obtain ⟨b, off, spot⟩ := a
  simp at hs
  subst hs
  exact ⟨b, off, rfl⟩
theorem trod_itSl {t e : TypeId} {f0 f1 f2 f3 f4 f5 : Field} {fuel : Nat} {cs : List Value} {x : DataW H × List MemPlace} (ht : P.underlying t = some (.slice e)) (he : P.underlying e = some (.struct #[f0, f1, f2, f3, f4, f5])) (ce : P.cellsOf e = 6)
    (hf : ∀ (i : Nat) (f : Field), #[f0, f1, f2, f3, f4, f5][i]? = some f → f.offset = i ∧ P.cellsOf f.type = 1)
    (k0 : P.underlying f0.type = some .string) (k1 : P.underlying f1.type = some .string) (k2 : P.underlying f2.type = some .string) (k3 : P.underlying f3.type = some .string) (k4 : P.underlying f4.type = some (.int .i64)) (k5 : P.underlying f5.type = some .bool)
    (h : DataW.trod enc P w 0 (fun _ => true) true fuel t cs = some x) : ∃ v L, cs = [v] ∧ ItSl w v L ∧ ∀ q ∈ L, -9223372036854775808 ≤ q.date ∧ q.date ≤ 9223372036854775807 := by
  rcases open_slice ht h with ⟨hcs, hx⟩ | ⟨a, len, cap, m, n, D, Pl, hcs, hb, hl, hm, hmm, hx, hi⟩
  · exact ⟨_, [], hcs, Or.inl ⟨rfl, _, _, rfl⟩, fun q hq => by simp at hq⟩
  · simp only [if_true] at hmm
    subst hmm
    have each : ∀ i, i < len → ∃ q : It, (w.cell? (a.add (i * 6)) = some (strV q.guid) ∧ w.cell? (a.add (i * 6 + 1)) = some (strV q.title) ∧ w.cell? (a.add (i * 6 + 2)) = some (strV q.link) ∧ w.cell? (a.add (i * 6 + 3)) = some (strV q.body) ∧ w.cell? (a.add (i * 6 + 4)) = some (.int .i64 q.date) ∧ w.cell? (a.add (i * 6 + 5)) = some (.bool q.dated)) ∧ -9223372036854775808 ≤ q.date ∧ q.date ≤ 9223372036854775807 := by
      intro i hi'
      obtain ⟨cs', h1, h2⟩ := hi i (by omega)
      rw [ce] at h1
      obtain ⟨_, hlen, hcell⟩ := World.cells?_some h1
      obtain ⟨ys, n', _, hy, _, hyl, hff⟩ := DataW.trod_struct he h2
      have hg : ∀ (j : Nat) (f : Field), #[f0, f1, f2, f3, f4, f5][j]? = some f → ∃ y, DataW.trod enc P w 0 (fun _ => true) true n' f.type ((cs'.drop j).take 1) = some y := by
        intro j f hj
        obtain ⟨o, c⟩ := hf j f hj
        have := hff j f hj
        rw [o, c] at this
        have hjl : j < ys.length := by
          rw [hyl]
          exact (Array.getElem?_eq_some_iff.1 hj).1
        rw [List.getElem?_eq_getElem hjl] at this
        exact ⟨_, this⟩
      obtain ⟨y0, g0⟩ := hg 0 f0 rfl
      obtain ⟨y1, g1⟩ := hg 1 f1 rfl
      obtain ⟨y2, g2⟩ := hg 2 f2 rfl
      obtain ⟨y3, g3⟩ := hg 3 f3 rfl
      obtain ⟨y4, g4⟩ := hg 4 f4 rfl
      obtain ⟨y5, g5⟩ := hg 5 f5 rfl
      match cs', hlen with
      | [v0, v1, v2, v3, v4, v5], _ =>
        obtain ⟨s0, e0, _⟩ := DataW.trod_string k0 g0
        obtain ⟨s1, e1, _⟩ := DataW.trod_string k1 g1
        obtain ⟨s2, e2, _⟩ := DataW.trod_string k2 g2
        obtain ⟨s3, e3, _⟩ := DataW.trod_string k3 g3
        obtain ⟨z4, e4, _, hw4⟩ := DataW.trod_int k4 g4
        obtain ⟨b5, e5, _⟩ := DataW.trod_bool k5 g5
        have q0 := hcell 0 (by omega)
        have q1 := hcell 1 (by omega)
        have q2 := hcell 2 (by omega)
        have q3 := hcell 3 (by omega)
        have q4 := hcell 4 (by omega)
        have q5 := hcell 5 (by omega)
        rw [add_add] at q0 q1 q2 q3 q4 q5
        simp at e0 e1 e2 e3 e4 e5
        subst e0 e1 e2 e3 e4 e5
        have hz := bounds_i64 hw4
        exact ⟨⟨s0.data.toList, s1.data.toList, s2.data.toList, s3.data.toList, z4, b5⟩, ⟨by simpa [strV] using q0, by simpa [strV] using q1, by simpa [strV] using q2, by simpa [strV] using q3, by simpa using q4, by simpa using q5⟩, hz⟩
    haveI : Inhabited It := ⟨⟨[], [], [], [], 0, false⟩⟩
    obtain ⟨q, hq⟩ := choose_lt each
    refine ⟨_, (List.range len).map q, hcs, ?_, fun p hp => ?_⟩
    · by_cases h0 : len = 0
      · subst h0; exact Or.inl ⟨rfl, _, _, rfl⟩
      · obtain ⟨b, off, rfl⟩ := spot_it (by have := (hq 0 (by omega)).1.1; rwa [Nat.zero_mul] at this)
        refine Or.inr ⟨b, off, m, by simpa using hl, by simp, fun j hj => ?_⟩
        have hj' : j < len := by simpa using hj
        obtain ⟨⟨r0, r1, r2, r3, r4, r5⟩, _⟩ := hq j hj'
        rw [add_plain] at r0 r1 r2 r3 r4 r5
        simp only [List.getElem_map, List.getElem_range]
        exact ⟨r0, by rw [Nat.add_assoc]; exact r1, by rw [Nat.add_assoc]; exact r2, by rw [Nat.add_assoc]; exact r3, by rw [Nat.add_assoc]; exact r4, by rw [Nat.add_assoc]; exact r5⟩
    · obtain ⟨i, hi', rfl⟩ := List.mem_map.1 hp
      exact (hq i (List.mem_range.1 hi')).2
end
theorem item_flds : ∀ (i : Nat) (f : Field), (match Tryz.prog.underlying 26 with | some (.struct fs) => fs | _ => #[])[i]? = some f → f.offset = i ∧ Tryz.prog.cellsOf f.type = 1 := by
  rw [Tryz.underlying26]
  intro i f h
  match i, h with
  | 0, h => cases h; exact ⟨rfl, by kernel_rfl⟩
  | 1, h => cases h; exact ⟨rfl, by kernel_rfl⟩
  | 2, h => cases h; exact ⟨rfl, by kernel_rfl⟩
  | 3, h => cases h; exact ⟨rfl, by kernel_rfl⟩
  | 4, h => cases h; exact ⟨rfl, by kernel_rfl⟩
  | 5, h => cases h; exact ⟨rfl, by kernel_rfl⟩
  | n + 6, h => simp at h
set_option maxRecDepth 100000 in
/-- Entries that came in. -/
theorem open_its {H : Type} {enc : TypeId × Value → H} {r : Reach} {b0 : Nat} {W : World} {v : Value} {d : DataW H} {ps : List MemPlace} (hval : Value.okWide Tryz.prog W r b0 22 v) (hd : DataW.Trod enc Tryz.prog W 0 (fun _ => true) true 22 v d ps) :
    ∃ L, ItSl W v L ∧ (∀ q ∈ L, -9223372036854775808 ≤ q.date ∧ q.date ≤ 9223372036854775807) ∧ True ∧ True := by
  obtain ⟨a0, len, cap, rfl⟩ := okWide_slice Tryz.underlying22 hval
  obtain ⟨fuel, hf⟩ := hd
  have hfl := item_flds
  rw [Tryz.underlying26] at hfl
  obtain ⟨u, Q, hcs, h1, h2⟩ := trod_itSl Tryz.underlying22 Tryz.underlying26 (by kernel_rfl) hfl Tryz.underlying9 Tryz.underlying9 Tryz.underlying9 Tryz.underlying9 Tryz.underlying3 Tryz.underlying4 hf
  simp [Value.cells] at hcs
  subst hcs
  exact ⟨Q, h1, h2, trivial, trivial⟩
end Go.Proofs.YtahohmdbiiknoaaGreatDoor
