/- The tables of fold, out of a row's listed variables. -/
import Derived.Test.YtonbgdcgfoipjaaDoorLaid
import Derived.Test.YtonbgdcgfoipjaaDoorTab
namespace Go.Proofs.YtonbgdcgfoipjaaDoor
open Go.ChangeShapes Go.WideShapes Go.ChangeAt Go.RowKit

def rgD {H : Type} (g : Rg) : DataW H := .agg [.lit (.int .i32 g.f), .lit (.int .i32 g.t), .lit (.int .i32 g.a), .lit (.bool g.p)]

theorem map_range_eq {α : Type} {β : Type} {D : Nat → β} {f : α → β} {n : Nat} {l : List α} (h : (List.range n).map D = l.map f) : n = l.length ∧ ∀ i g, l[i]? = some g → D i = f g := by
  have hn : n = l.length := by have := congrArg List.length h; simpa using this
  refine ⟨hn, fun i g hi => ?_⟩
  have := congrArg (fun x => x[i]?) h
  have hlt : i < n := by
    rw [hn]
    rcases Nat.lt_or_ge i l.length with h | h
    · exact h
    · rw [List.getElem?_eq_none h] at hi; cases hi
  simpa [hlt, hi] using this

theorem c_i32 : Tryd.prog.cellsOf 21 = 1 := by kernel_rfl
theorem c_bool : Tryd.prog.cellsOf 4 = 1 := by kernel_rfl
theorem c_range : Tryd.prog.cellsOf 56 = 4 := by kernel_rfl

theorem ranges_of_trod {H : Type} {enc : TypeId × Value → H} {W : World} {base : Nat} {sp : Nat → Bool} {held : Bool} {fuel : Nat} {cs : List Value} {pl : List MemPlace} (l : List Rg) (h0 : l ≠ [])
    (h : DataW.trod enc Tryd.prog W base sp held fuel 59 cs = some (.slice (l.map rgD) [], pl)) :
    ∃ b off c, l.length ≤ c ∧ cs = [.slice (some ⟨b, off, none⟩) l.length c] ∧ RgAt W b off l := by
  rcases Go.Deep.open_slice Tryd.underlying59 h with ⟨_, hx⟩ | ⟨a, len, cap, m, n, D, Pl, rfl, hb, hl, hm, hmm, hx, hi⟩
  · simp at hx
  · simp only [Prod.mk.injEq, DataW.slice.injEq] at hx
    obtain ⟨hn, hD⟩ := map_range_eq hx.1.1.symm
    subst hn
    have hle : l.length ≤ m := by rw [hmm]; split <;> omega
    have hpos : 0 < l.length := List.length_pos_iff.2 h0
    have cell : ∀ j g, l[j]? = some g → W.cell? (a.add (j * 4)) = some (.int .i32 g.f) ∧ W.cell? (a.add (j * 4 + 1)) = some (.int .i32 g.t) ∧ W.cell? (a.add (j * 4 + 2)) = some (.int .i32 g.a) ∧ W.cell? (a.add (j * 4 + 3)) = some (.bool g.p) := by
      intro j g hj
      have hjl : j < l.length := by
        rcases Nat.lt_or_ge j l.length with h | h
        · exact h
        · rw [List.getElem?_eq_none h] at hj; cases hj
      obtain ⟨cs', hc, ht⟩ := hi j (by omega)
      rw [c_range] at hc
      obtain ⟨xs, n', _, hy, hlen, hxl, hf⟩ := DataW.trod_struct Tryd.underlying56 ht
      obtain ⟨_, hcl, hat⟩ := World.cells?_some hc
      rw [hD j g hj] at hy
      simp only [Prod.mk.injEq, rgD, DataW.agg.injEq] at hy
      match cs', hcl with
      | [v0, v1, v2, v3], _ =>
        have f0 := hf 0 _ rfl
        have f1 := hf 1 _ rfl
        have f2 := hf 2 _ rfl
        have f3 := hf 3 _ rfl
        simp only [List.getElem_toArray, List.getElem_cons_zero, List.getElem_cons_succ, c_i32, c_bool] at f0 f1 f2 f3
        match xs, hxl with
        | [y0, y1, y2, y3], _ =>
          simp only [List.map_cons, List.map_nil, List.cons.injEq, and_true] at hy
          obtain ⟨⟨e0, e1, e2, e3⟩, _⟩ := hy
          obtain ⟨k0, a0, b0, _⟩ := DataW.trod_int Tryd.underlying21 (show DataW.trod enc Tryd.prog W base sp held n' 21 [v0] = some y0 from f0)
          obtain ⟨k1, a1, b1, _⟩ := DataW.trod_int Tryd.underlying21 (show DataW.trod enc Tryd.prog W base sp held n' 21 [v1] = some y1 from f1)
          obtain ⟨k2, a2, b2, _⟩ := DataW.trod_int Tryd.underlying21 (show DataW.trod enc Tryd.prog W base sp held n' 21 [v2] = some y2 from f2)
          obtain ⟨k3, a3, b3⟩ := DataW.trod_bool Tryd.underlying4 (show DataW.trod enc Tryd.prog W base sp held n' 4 [v3] = some y3 from f3)
          simp only [List.cons.injEq, and_true] at a0 a1 a2 a3
          subst b0 b1 b2 b3
          simp only [DataW.lit.injEq, Lit.int.injEq, Lit.bool.injEq, true_and] at e0 e1 e2 e3
          subst e0 e1 e2 e3 a0 a1 a2 a3
          have q0 := hat 0 (by omega)
          have q1 := hat 1 (by omega)
          have q2 := hat 2 (by omega)
          have q3 := hat 3 (by omega)
          simp only [Go.Deep.add_add] at q0 q1 q2 q3
          exact ⟨q0, q1, q2, q3⟩
    obtain ⟨b, off, spot⟩ := a
    have hs : spot = none := by
      have := World.cell?_spot (cell 0 _ (List.getElem?_eq_getElem hpos)).1
      simpa [Addr.add] using this
    subst hs
    refine ⟨b, off, cap, hl, rfl, fun j g hj => ?_⟩
    have hadd : ∀ k, (⟨b, off, none⟩ : Addr).add k = ⟨b, off + k, none⟩ := by intro k; unfold Addr.add; split <;> simp_all
    obtain ⟨q0, q1, q2, q3⟩ := cell j g hj
    rw [hadd] at q0 q1 q2 q3
    exact ⟨q0, q1, q2, q3⟩

theorem gt_letters : (Tryd.prog.globals[0]?).map (·.type) = some 59 := by kernel_rfl
theorem gt_digits : (Tryd.prog.globals[1]?).map (·.type) = some 59 := by kernel_rfl

/-- What the listed variables give the walks. -/
theorem tab_of_laid {l : List (String × DataW Unit)} {W : World} (h : laidMet Tryd.prog l W) {nL nD : String} (gL : Tryd.prog.globalNamed nL = some 0) (gD : Tryd.prog.globalNamed nD = some 1)
    (h1 : (nL, .slice (lettersL.map rgD) []) ∈ l) (h2 : (nD, .slice (digitsL.map rgD) []) ∈ l) : Tab W := by
  obtain ⟨cs, fuel, p, hv, ht⟩ := laid_one h h1 gL gt_letters
  obtain ⟨cs', fuel', p', hv', ht'⟩ := laid_one h h2 gD gt_digits
  obtain ⟨b, off, c, hc, hcs, hr⟩ := ranges_of_trod lettersL (by decide) ht
  obtain ⟨b', off', c', hc', hcs', hr'⟩ := ranges_of_trod digitsL (by decide) ht'
  exact ⟨⟨b, off, c, hc, laid_cell gL hv hcs, hr⟩, ⟨b', off', c', hc', laid_cell gD hv' hcs', hr'⟩⟩
end Go.Proofs.YtonbgdcgfoipjaaDoor
