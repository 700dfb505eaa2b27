/- A listed variable that holds an error of the program's own, wherever it stands on the row's list. -/
import Derived.Test.YtkgjbamkinfmeaaGreatDoorBR33
import Derived.Test.YtkgjbamkinfmeaaGreatDoorBR34
namespace Go.Proofs.YtkgjbamkinfmeaaGreatDoor
open Go.ChangeShapes Go.WideShapes Go.ChangeAt Go.RowKit

theorem laidVars_row {P : Program} : ∀ (l : List (String × DataW Unit)) (W : World) (ps : List MemPlace), DataW.LaidVars P W l ps → ∀ n d, (n, d) ∈ l →
    ∃ g t cs fuel p, P.globalNamed n = some g ∧ (P.globals[g]?).map (·.type) = some t ∧ W.var? P n = some cs ∧ DataW.trod (fun _ => ()) P W 0 (fun _ => true) false fuel t cs.toList = some (d, p) ∧ ∀ x ∈ MemPlace.row ⟨g, 0, none⟩ cs.size, x ∈ ps
  | [], _, _, _, n, d, hm => by simp at hm
  | (n0, d0) :: r, W, ps, h, n, d, hm => by
    obtain ⟨g, t, cs, fuel, p, q, h1, h2, h3, h4, h5, h6⟩ := h
    rcases List.mem_cons.1 hm with hm | hm
    · injection hm with e1 e2
      subst e1 e2
      exact ⟨g, t, cs, fuel, p, h1, h2, h3, h4, fun x hx => by rw [h6]; exact List.mem_append_left _ (List.mem_append_left _ hx)⟩
    · obtain ⟨g', t', cs', fuel', p', k1, k2, k3, k4, k5⟩ := laidVars_row r W q h5 n d hm
      exact ⟨g', t', cs', fuel', p', k1, k2, k3, k4, fun x hx => by rw [h6]; exact List.mem_append_right _ (k5 x hx)⟩
theorem err_of_laid {P : Program} {l : List (String × DataW Unit)} {W : World} (h : laidMet P l W) {n nm : String} {d : DataW Unit} (hm : (n, .iface nm (.ptr d)) ∈ l) {g : Nat} {t u0 e : TypeId} {ms : Array (String × TypeId)} (hg : P.globalNamed n = some g) (ht : (P.globals[g]?).map (·.type) = some t)
    (hi : P.underlying t = some (.interface ms)) (hu : ∀ u, P.typeName? 3 u = some nm → u = u0) (hp : P.underlying u0 = some (.pointer e)) : ∃ A, W.cell? ⟨g, 0, none⟩ = some (.iface u0 (.pointer (some A))) := by
  obtain ⟨ps, hl, _, hrows⟩ := h
  obtain ⟨g', t', cs, fuel, p, h1, h2, h3, h4, h5⟩ := laidVars_row l W ps hl _ _ hm
  obtain rfl := Option.some.inj (hg.symm.trans h1)
  obtain rfl := Option.some.inj (ht.symm.trans h2)
  cases fuel with
  | zero => simp [DataW.trod] at h4
  | succ k =>
    obtain ⟨u, v, hcs, hn, p', hv⟩ := trod_iface_inv hi h4
    obtain rfl := hu u hn
    have hcell := laid_cell hg h3 hcs
    have hsz : cs.size = 1 := by rw [Array.eq_one_of_toList hcs]; rfl
    have hok := (hrows g 0 (h5 _ (by rw [hsz]; simp [MemPlace.row]))).2 _ _ hcell
    obtain ⟨a, rfl⟩ := okWide_pointer hp hok
    cases a with
    | some A => exact ⟨A, hcell⟩
    | none => exact absurd hv (trod_nil_ptr hp)
end Go.Proofs.YtkgjbamkinfmeaaGreatDoor
