/- Layer 9's law UnionParts: a forest, its sets, and how often each number was met. -/
import Derived.Test.YtkegealaagphgaaD09l
import Derived.Test.YtkegealaagphgaaD09f
import Derived.Test.YtkegealaagphgaaD09r
import Derived.Test.YtkegealaagphgaaTw
import Derived.Deep.RegionHeld3
import Derived.Deep.CutBlock
namespace Go.Proofs.Ytkegealaagphgaa
open Go.RowKit

theorem Lists.turned2 {S : Nat → Prop} {w w' : World} {B : Nat} {v : Value} {vs : List Value} {L : List (List Nat)} (h : Lists w B v vs L) (ht : Turned S w w') (h1 : ∀ b, v.ownBlock = some b → ¬ S b) (h2 : ∀ i, i < L.length → ∀ b, (vs.getD i undef).ownBlock = some b → ¬ S b) : Lists w' B v vs L :=
  ⟨ownsRow_turned h.row ht h1, fun i hi => ownsRow_turned (h.ins i hi) ht (h2 i hi), h.apart⟩
/-- A forest that the law itself made. -/
structure One9 (w0 : World) (X g n : Nat) (M : Nat → Nat) (w : World) : Prop where
  uf : UfAt w X g n M
  far : w0.heap.size ≤ X ∧ w0.heap.size ≤ g
  below : Below w0.heap.size w0 w
/-- A pair of numbers beside it. -/
structure Po9 (w0 : World) (b o : Nat) (A B : Int) (X g n : Nat) (M : Nat → Nat) (w : World) : Prop where
  pb : One9 w0 X g n M w
  low : b < w0.heap.size
  cells : w.cell? ⟨b, o, none⟩ = some (.int .i64 A) ∧ w.cell? ⟨b, o + 1, none⟩ = some (.int .i64 B)
section
variable {w0 w w' : World} {b o X g n : Nat} {A B : Int} {M M' : Nat → Nat}
theorem One9.turn (p : One9 w0 X g n M w) (hu : UfAt w' X g n M') (ht : Turned (fun b => b = g) w w') : One9 w0 X g n M' w' := ⟨hu, p.far, p.below.trans (turned_one ht p.far.2 p.below.size)⟩
theorem One9.next (p : One9 w0 X g n M w) (hb : Below w.heap.size w w') : One9 w0 X g n M w' := ⟨p.uf.below hb, p.far, p.below.trans (hb.mono p.below.size)⟩
theorem Po9.of (p : Po9 w0 b o A B X g n M w) {M3 : Nat → Nat} (q : One9 w0 X g n M3 w') (hb : Below w0.heap.size w w') : Po9 w0 b o A B X g n M3 w' :=
  have e : ∀ k, w'.cell? ⟨b, k, none⟩ = w.cell? ⟨b, k, none⟩ := fun k => World.cell?_of_block (hb.block b p.low)
  ⟨q, p.low, by rw [e, e]; exact p.cells⟩
theorem po9_drew (p : Hid (Po9 w0 b o A B X g n M w)) : Hid (Po9 w0 b o A B X g n M w.drew) := p.out.of (p.out.pb.next ((drawn_drew w).below _)) (((drawn_drew w).below _).mono p.out.pb.below.size)
theorem po9_keep (p : Hid (Po9 w0 b o A B X g n M w)) : w.cell? ⟨b, o, none⟩ = some (.int .i64 A) ∧ w.cell? ⟨b, o + 1, none⟩ = some (.int .i64 B) := p.out.cells
theorem po9_join (x y : Int) (s : Bool) (hs : joinB9 n M x y = s) (hM : joinI n M x y = M') (p : Hid (Po9 w0 b o A B X g n M w)) : Calls Try.prog 11 #[.pointer (some ⟨X, 0, none⟩), .int .i64 x, .int .i64 y] w fun e w' => e = .returned (.bool s) ∧ Hid (Po9 w0 b o A B X g n M' w') := by
  subst hs hM
  refine (join9_any x y p.out.pb.uf).mono ?_
  rintro e w' ⟨rfl, hu, ht⟩
  exact ⟨rfl, p.out.of (p.out.pb.turn hu ht) (turned_one ht p.out.pb.far.2 p.out.pb.below.size)⟩
end
/-- The forest, its sets, the row P of what was met. -/
structure Pp9 (w0 : World) (B X g N : Nat) (M : Nat → Nat) (P : Nat) (v : Value) (vs : List Value) (f : Nat → Nat) (w : World) : Prop where
  uf : UfAt w X g N M
  ls : Lists w B v vs (setsL N M)
  seen : LabRow w P N f
  far : w0.heap.size ≤ X ∧ w0.heap.size ≤ g ∧ g < B ∧ X < P ∧ g < P ∧ w0.heap.size ≤ P
  low : (∀ b, v.ownBlock = some b → b < P) ∧ ∀ i, i < (setsL N M).length → ∀ b, (vs.getD i undef).ownBlock = some b → b < P
  below : Below w0.heap.size w0 w
/-- Cells beside them, which no question turns. -/
structure Px9 (cs : List (Addr × Value)) (w0 : World) (B X g N : Nat) (M : Nat → Nat) (P : Nat) (v : Value) (vs : List Value) (f : Nat → Nat) (w : World) : Prop where
  pp : Pp9 w0 B X g N M P v vs f w
  cells : ∀ p ∈ cs, w.cell? p.1 = some p.2
  off : ∀ p ∈ cs, p.1.block ≠ g ∧ p.1.block < w.heap.size
section
variable {w0 w w' : World} {B X g N P : Nat} {M f : Nat → Nat} {v : Value} {vs : List Value} {cs : List (Addr × Value)}
theorem Pp9.ask (p : Pp9 w0 B X g N M P v vs f w) (hu : UfAt w' X g N M) (ht : Turned (fun b => b = g) w w') : Pp9 w0 B X g N M P v vs f w' :=
  ⟨hu, p.ls.turned ht fun b e => by have := p.far.2.2.1; omega, p.seen.turned ht (by have := p.far.2.2.2.2.1; omega), p.far, p.low, p.below.trans (turned_one ht p.far.2.1 p.below.size)⟩
theorem Pp9.next (p : Pp9 w0 B X g N M P v vs f w) (hb : Below w.heap.size w w') : Pp9 w0 B X g N M P v vs f w' :=
  ⟨p.uf.below hb, p.ls.below hb, p.seen.turned (S := fun _ => False) (Turned.of_below hb) (fun h => h), p.far, p.low, p.below.trans (hb.mono p.below.size)⟩
/-- A number has been met. -/
theorem Pp9.mark (p : Pp9 w0 B X g N M P v vs f w) {e : Nat} (he : e < N) (x : Nat) : w.cell? ⟨P, e, none⟩ = some (.int .i64 (f e : Nat)) ∧ w.frozen? ⟨P, e, none⟩ = false ∧ Pp9 w0 B X g N M P v vs (updN f e x) (w.setCell ⟨P, e, none⟩ (.int .i64 x)) := by
  have hst := turned_setCell w ⟨P, e, none⟩ (.int .i64 x)
  have hf := p.far
  refine ⟨p.seen.at he, p.seen.soft e, p.uf.turned hst (fun h => ?_) (fun h => ?_), p.ls.turned2 hst (fun b h1 h2 => ?_) (fun i hi b h1 h2 => ?_), p.seen.set he x, hf, p.low, p.below.setCell (p := ⟨P, e, none⟩) hf.2.2.2.2.2 _⟩
  · have h : X = P := h; omega
  · have h : g = P := h; omega
  · have h2 : b = P := h2
    have := p.low.1 b h1
    omega
  · have h2 : b = P := h2
    have := p.low.2 i hi b h1
    omega
/-- What is read of a set. -/
theorem Pp9.at (p : Pp9 w0 B X g N M P v vs f w) {i : Nat} (hi : i < (headsL N M).length) : ∃ S0 cap g1 c1 m, v = .slice (some ⟨S0, 0, none⟩) (headsL N M).length cap ∧ w.cell? ⟨S0, i, none⟩ = some (.slice (some ⟨g1, 0, none⟩) ((setsL N M).getD i []).length c1) ∧
    (∀ k (hk : k < ((setsL N M).getD i []).length), w.cell? ⟨g1, k, none⟩ = some (.int .i64 (((setsL N M).getD i [])[k]'hk : Nat))) ∧ (S0 ≠ g ∧ S0 < w.heap.size) ∧ (g1 ≠ g ∧ g1 < w.heap.size) ∧
    (headsL N M)[i]? = some m ∧ m < N ∧ M m = m ∧ ((setsL N M).getD i [])[0]? = some m ∧ ∀ e ∈ (setsL N M).getD i [], e < N ∧ M e = m := by
  obtain ⟨m, h1, h2, h3, h4, h5, h6⟩ := sets_at p.uf.2.1 hi
  have hi' : i < (setsL N M).length := by rw [sets_len]; exact hi
  obtain ⟨S0, cap, u, c, hv, hc, hr⟩ := p.ls.at hi'
  have h0 : 0 < ((setsL N M).getD i []).length := by
    rw [h4]; exact (List.getElem?_eq_some_iff.1 h5).1
  obtain ⟨g1, rfl, hg1⟩ := hr 0 h0
  have hgB := p.far.2.2.1
  have hrow := p.ls.row
  have hS := hrow.lt S0 (by rw [hv]; rfl)
  have hcell : vs.getD i undef = .slice (some ⟨g1, 0, none⟩) ((setsL N M).getD i []).length c := by
    have hl := p.ls.len
    rw [hv] at hrow
    rw [hrow.cellAt i (by omega), List.getElem?_eq_getElem (by omega)] at hc
    rw [List.getD_eq_getElem?_getD, List.getElem?_eq_getElem (by omega)]
    injection hc
  have hG := World.ownsRow.lt (p.ls.ins i hi') g1 (by rw [hcell]; rfl)
  refine ⟨S0, cap, g1, c, m, by rw [← sets_len]; exact hv, hc, fun k hk => ?_, ⟨by omega, hS.2⟩, ⟨by omega, hG.2⟩, h1, h2, h3, by rw [h4]; exact h5, by rw [h4]; exact h6⟩
  obtain ⟨g2, e, h7⟩ := hr k hk
  injection e with e
  injection e with e
  subst e
  exact h7
theorem Px9.of (p : Px9 cs w0 B X g N M P v vs f w) (q : Pp9 w0 B X g N M P v vs f w') (ht : Turned (fun b => b = g) w w') : Px9 cs w0 B X g N M P v vs f w' :=
  ⟨q, fun x hx => by rw [World.cell?_of_block (ht.block _ (p.off x hx).2 (p.off x hx).1)]; exact p.cells x hx, fun x hx => ⟨(p.off x hx).1, Nat.lt_of_lt_of_le (p.off x hx).2 ht.size⟩⟩
theorem px9_drew (p : Hid (Px9 cs w0 B X g N M P v vs f w)) : Hid (Px9 cs w0 B X g N M P v vs f w.drew) := p.out.of (p.out.pp.next ((drawn_drew w).below _)) (Turned.of_below ((drawn_drew w).below _))
theorem px9_keep3 {a1 a2 a3 : Addr} {v1 v2 v3 : Value} (p : Hid (Px9 [(a1, v1), (a2, v2), (a3, v3)] w0 B X g N M P v vs f w)) : w.cell? a1 = some v1 ∧ w.cell? a2 = some v2 ∧ w.cell? a3 = some v3 :=
  ⟨p.out.cells (a1, v1) (by simp), p.out.cells (a2, v2) (by simp), p.out.cells (a3, v3) (by simp)⟩
theorem px9_keep5 {a1 a2 a3 a4 a5 : Addr} {v1 v2 v3 v4 v5 : Value} (p : Hid (Px9 [(a1, v1), (a2, v2), (a3, v3), (a4, v4), (a5, v5)] w0 B X g N M P v vs f w)) : w.cell? a1 = some v1 ∧ w.cell? a2 = some v2 ∧ w.cell? a3 = some v3 ∧ w.cell? a4 = some v4 ∧ w.cell? a5 = some v5 :=
  ⟨p.out.cells (a1, v1) (by simp), p.out.cells (a2, v2) (by simp), p.out.cells (a3, v3) (by simp), p.out.cells (a4, v4) (by simp), p.out.cells (a5, v5) (by simp)⟩
theorem px9_least (x s : Int) (hs : leastI N M x = s) (p : Hid (Px9 cs w0 B X g N M P v vs f w)) : Calls Try.prog 13 #[.pointer (some ⟨X, 0, none⟩), .int .i64 x] w fun e w' => e = .returned (.int .i64 s) ∧ Hid (Px9 cs w0 B X g N M P v vs f w') := by
  subst hs
  refine (least9_any x p.out.pp.uf).mono ?_
  rintro e w' ⟨rfl, hu, ht⟩
  exact ⟨rfl, p.out.of (p.out.pp.ask hu ht) ht⟩
theorem px9_same (x y : Int) (s : Bool) (hs : sameB N M x y = s) (p : Hid (Px9 cs w0 B X g N M P v vs f w)) : Calls Try.prog 9 #[.pointer (some ⟨X, 0, none⟩), .int .i64 x, .int .i64 y] w fun e w' => e = .returned (.bool s) ∧ Hid (Px9 cs w0 B X g N M P v vs f w') := by
  subst hs
  refine (same9_any x y p.out.pp.uf).mono ?_
  rintro e w' ⟨rfl, hu, ht⟩
  exact ⟨rfl, p.out.of (p.out.pp.ask hu ht) ht⟩
/-- The answers for a number of a set. -/
theorem asks9 {e m : Nat} (he : e < N) (hm : m < N) (hM : M e = m) (hmm : M m = m) : leastI N M e = m ∧ sameB N M e m = true := by
  refine ⟨?_, ?_⟩
  · unfold leastI; rw [if_pos (inB_nat he), Int.toNat_natCast, hM]
  · unfold sameB; rw [inB_nat he, inB_nat hm, Int.toNat_natCast, Int.toNat_natCast, hM, hmm]; simp
theorem asks9_no {e m m' : Nat} (hM : M e = m) (hmm : M m' = m') (hne : m ≠ m') : sameB N M e m' = false := by
  unfold sameB; rw [Int.toNat_natCast, Int.toNat_natCast, hM, hmm, beq_eq_false_iff_ne.2 hne, Bool.and_false]
end
theorem metN_le {n : Nat} {M : Nat → Nat} (h : Lab n M) {i k e : Nat} (hi : i < (setsL n M).length) (he : e < n) : metN n M i k e ≤ 1 := by
  rw [← metN_all h he]
  unfold metN
  rw [List.take_length, List.take_zero, List.append_nil]
  refine List.Sublist.count_le _ ?_
  conv => rhs; rw [← List.take_append_drop i (setsL n M), List.flatten_append]
  refine List.Sublist.append_left ?_ _
  rw [List.drop_eq_getElem_cons hi, List.flatten_cons, List.getD_eq_getElem?_getD, List.getElem?_eq_getElem hi]
  exact (List.take_sublist _ _).trans (List.sublist_append_left _ _)
end Go.Proofs.Ytkegealaagphgaa
