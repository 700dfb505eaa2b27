/- What the rows of layer 12 share: what the two listed variables hold; what a reading's bulk says of the texts. -/
import Derived.Test.YtodocdbnflmgnaaDoorTie
import Derived.Test.YtodocdbnflmgnaaDoorCards
import Derived.Test.YtodocdbnflmgnaaDoorLaid
import Derived.Test.YtodocdbnflmgnaaDoorLe
import Derived.Test.YtodocdbnflmgnaaDoorTko
import Derived.Test.YtodocdbnflmgnaaDoorD12j
import Derived.Shelf.Vars
import Derived.Deep.DeepWitnessRowRef
namespace Go.Proofs.YtodocdbnflmgnaaDoor
open Go.ChangeShapes Go.WideShapes Go.ChangeAt Go.RowKit

abbrev doorSteps : Nat := 400
theorem door_met (os : Os) (args : Array Value) : laidMetH Tryd.prog Rows.treeBuildsRow.laid ((World.doorLaid Tryd.prog doorSteps os).forCall (fun _ _ => 0) ⟨#[], args, []⟩).memory :=
  laidMetH_of_parts3 (fuel := 8) (laidMet_of_run' 8 (by kernel_rfl) (by kernel_rfl)) (by kernel_rfl) (by kernel_rfl)

theorem g_et : Tryd.prog.globalNamed "errors.errorType" = some 1 := by kernel_rfl
theorem g_ee : Tryd.prog.globalNamed "newsreel/tree.errOpen" = some 0 := by kernel_rfl
theorem g_eet : (Tryd.prog.globals[0]?).map (·.type) = some 26 := by kernel_rfl
theorem rt_row : (Tryd.prog.cutTypes.find? (·.1 == "internal/reflectlite.rtype")).map (·.2) = some 83 := by kernel_rfl
theorem err_row : ((List.range Tryd.prog.types.size).filter fun t => Tryd.prog.rowNamed t [101, 114, 114, 111, 114]) = [26] := by kernel_rfl
theorem ty_of_row {W : World} (h : laidMetH Tryd.prog Rows.treeBuildsRow.laid W) : EnvT W := by
  have h' : laidMet Tryd.prog [("newsreel/tree.errOpen", Rows.laid_newsreel_tree_errOpen)] W ∧ handlesMet Tryd.prog [("errors.errorType", Rows.laid_errors_errorType)] W := h
  obtain ⟨name, u, ty, e1, e2, e3, e4, e5⟩ := h'.2 _ (List.mem_singleton.2 rfl)
  have en : name = [101, 114, 114, 111, 114] := (Option.some.inj e1).symm
  subst en
  obtain rfl := Option.some.inj (rt_row.symm.trans e2)
  have hm : ty ∈ (List.range Tryd.prog.types.size).filter fun t => Tryd.prog.rowNamed t [101, 114, 114, 111, 114] := List.mem_filter.2 ⟨List.mem_range.2 e3, e4⟩
  rw [err_row] at hm
  obtain rfl := List.mem_singleton.1 hm
  have hh : typeHandle Tryd.prog 26 = .pointer (some ⟨2, 26, none⟩) := by kernel_rfl
  rw [hh] at e5
  have := World.var?_cell g_et e5 0
  unfold EnvT
  simpa using this
theorem star_es : "*" ++ "errors.errorString" = "*errors.errorString" := by decide
theorem es_row (u : TypeId) (h : Tryd.prog.typeName? 3 u = some "*errors.errorString") : u = 97 :=
  typeName_ptr_named (nm := "errors.errorString") (by rw [star_es]; kernel_rfl) (by kernel_rfl) (by decide) u (by rw [star_es]; exact h)
set_option maxRecDepth 100000 in
theorem end_of_row {W : World} (h : laidMetH Tryd.prog Rows.treeBuildsRow.laid W) : ∃ A, W.cell? ⟨0, 0, none⟩ = some (.iface 97 (.pointer (some A))) := by
  have h' : laidMet Tryd.prog [("newsreel/tree.errOpen", Rows.laid_newsreel_tree_errOpen)] W ∧ handlesMet Tryd.prog [("errors.errorType", Rows.laid_errors_errorType)] W := h
  obtain ⟨ps, hl, _, hrows⟩ := h'.1
  obtain ⟨g, t, cs, fuel, p, q, h1, h2, h3, h4, _, hps⟩ := hl
  obtain rfl := Option.some.inj (g_ee.symm.trans h1)
  obtain rfl := Option.some.inj (g_eet.symm.trans h2)
  unfold Rows.laid_newsreel_tree_errOpen at h4
  cases fuel with
  | zero => simp [DataW.trod] at h4
  | succ n =>
    obtain ⟨u, v, hcs, hn, p', hv⟩ := trod_iface_inv Tryd.underlying26 h4
    obtain rfl := es_row u hn
    have hcell := laid_cell g_ee h3 hcs
    have hsz : cs.size = 1 := by rw [Array.eq_one_of_toList hcs]; rfl
    have hok := (hrows 0 0 (by rw [hps, hsz]; exact List.mem_append_left _ (List.mem_append_left _ (by simp [MemPlace.row])))).2 _ _ hcell
    obtain ⟨a, rfl⟩ := okWide_pointer Tryd.underlying97 hok
    cases a with
    | some A => exact ⟨A, hcell⟩
    | none => exact absurd hv (trod_nil_ptr Tryd.underlying97)
theorem laid12_of_row {W : World} (h : laidMetH Tryd.prog Rows.treeBuildsRow.laid W) : ∃ A, Laid12 W A := by
  obtain ⟨A, hA⟩ := end_of_row h
  exact ⟨A, hA, ty_of_row h⟩

section
variable {H : Type}
theorem bulk_app (l r : List (DataW H)) : Rows.uptoBulkAll (l ++ r) = Rows.uptoBulkAll l + Rows.uptoBulkAll r := by
  induction l with
  | nil => simp [Rows.uptoBulkAll]
  | cons x l ih => simp only [List.cons_append, Rows.uptoBulkAll, ih]; omega
theorem bulk_tok {t : Tk} {d : DataW H} (h : TokD t d) : t.text.length ≤ Rows.uptoBulk d := by
  obtain ⟨dA, rfl, _⟩ := h
  simp only [Rows.uptoBulk, Rows.uptoBulkAll]
  omega
theorem bulk_node {x : Nd} {d : DataW H} (h : NodeD x d) : x.text.length ≤ Rows.uptoBulk d := by
  obtain ⟨dA, rfl, _⟩ := h
  simp only [Rows.uptoBulk, Rows.uptoBulkAll]
  omega
/-- Texts, put together, are no more than the bulk. -/
theorem bulk_sum {α : Type} (f : α → Nat) (Q : List α) (D : Nat → DataW H) (h : ∀ j (hj : j < Q.length), f (Q[j]'hj) ≤ Rows.uptoBulk (D j)) : (Q.map f).sum ≤ Rows.uptoBulkAll ((List.range Q.length).map D) := by
  have key : ∀ n, n ≤ Q.length → ((Q.take n).map f).sum ≤ Rows.uptoBulkAll ((List.range n).map D) := by
    intro n
    induction n with
    | zero => intro _; simp [Rows.uptoBulkAll]
    | succ n ih =>
      intro hn
      have h1 := h n (by omega)
      have h2 := ih (by omega)
      rw [List.take_add_one, List.getElem?_eq_getElem (by omega), Option.toList_some, List.map_append, List.sum_append, List.range_succ, List.map_append, bulk_app]
      simp only [List.map_cons, List.map_nil, List.sum_cons, List.sum_nil, Rows.uptoBulkAll]
      omega
  have := key Q.length (Nat.le_refl _)
  rwa [List.take_length] at this
end
set_option maxRecDepth 100000 in
/-- Tokens that came in. -/
theorem open_tks {H : Type} {enc : TypeId × Value → H} {r : Reach} {b0 : Nat} {W : World} {v : Value} {d : DataW H} {ps : List MemPlace} (hval : Value.okWide Tryd.prog W r b0 22 v) (hd : DataW.Trod enc Tryd.prog W 0 (fun _ => true) true 22 v d ps) :
    ∃ Q, TkSl W v Q ∧ Q.length ≤ maxLen ∧ (∀ p ∈ Q, p.1.attrs.length ≤ maxLen) ∧ ((d = .nil ∧ Q = []) ∨ ∃ (D : Nat → DataW H) (sp : List (DataW H)), d = .slice ((List.range Q.length).map D) sp ∧ ∀ j (hj : j < Q.length), TokD (Q[j]'hj).1 (D j)) := by
  obtain ⟨a0, len, cap, rfl⟩ := okWide_slice Tryd.underlying22 hval
  obtain ⟨fuel, hf⟩ := hd
  obtain ⟨u, Q, hcs, h⟩ := trod_tkSl Tryd.underlying22 Tryd.underlying47 (by kernel_rfl) rfl rfl rfl rfl (by kernel_rfl) (by kernel_rfl) (by kernel_rfl) (by kernel_rfl) Tryd.underlying3 Tryd.underlying9 rfl Tryd.underlying9
    Tryd.underlying42 Tryd.underlying50 (by kernel_rfl) rfl rfl (by kernel_rfl) (by kernel_rfl) Tryd.underlying9 Tryd.underlying9 hf
  simp [Value.cells] at hcs
  subst hcs
  exact ⟨Q, h⟩
set_option maxRecDepth 100000 in
/-- Nodes that came in. -/
theorem open_nds {H : Type} {enc : TypeId × Value → H} {r : Reach} {b0 : Nat} {W : World} {v : Value} {d : DataW H} {ps : List MemPlace} (hval : Value.okWide Tryd.prog W r b0 24 v) (hd : DataW.Trod enc Tryd.prog W 0 (fun _ => true) true 24 v d ps) :
    ∃ Q, NdSl W v Q ∧ Q.length ≤ maxLen ∧ (∀ p ∈ Q, p.1.attrs.length ≤ maxLen) ∧ ((d = .nil ∧ Q = []) ∨ ∃ (D : Nat → DataW H) (sp : List (DataW H)), d = .slice ((List.range Q.length).map D) sp ∧ ∀ j (hj : j < Q.length), NodeD (Q[j]'hj).1 (D j)) := by
  obtain ⟨a0, len, cap, rfl⟩ := okWide_slice Tryd.underlying24 hval
  obtain ⟨fuel, hf⟩ := hd
  obtain ⟨u, Q, hcs, h⟩ := trod_ndSl Tryd.underlying24 Tryd.underlying44 (by kernel_rfl) rfl rfl rfl rfl (by kernel_rfl) (by kernel_rfl) (by kernel_rfl) (by kernel_rfl) Tryd.underlying9 rfl Tryd.underlying9 Tryd.underlying3
    Tryd.underlying42 Tryd.underlying50 (by kernel_rfl) rfl rfl (by kernel_rfl) (by kernel_rfl) Tryd.underlying9 Tryd.underlying9 hf
  simp [Value.cells] at hcs
  subst hcs
  exact ⟨Q, h⟩
section
variable {H : Type}
/-- No token has more attributes than may be reached. -/
theorem toks_weight {Q : List (Tk × Value)} {d : DataW H} (hd : (d = .nil ∧ Q = []) ∨ ∃ (D : Nat → DataW H) (sp : List (DataW H)), d = .slice ((List.range Q.length).map D) sp ∧ ∀ j (hj : j < Q.length), TokD (Q[j]'hj).1 (D j)) (hw : ∀ n ∈ d.weights Tryd.prog 22, n ≤ reachBytes) : ∀ p ∈ Q, p.1.attrs.length * 32 ≤ 140737488355328 := by
  intro p hp
  rcases hd with ⟨_, rfl⟩ | ⟨D, sp, rfl, hD⟩
  · simp at hp
  · obtain ⟨j, hj, rfl⟩ := List.mem_iff_getElem.1 hp
    have hb : Tryd.prog.bytesOf 50 = 32 := by kernel_rfl
    have := tok_weight (P := Tryd.prog) Tryd.underlying47 rfl Tryd.underlying42 (hD j hj) fun n hn => hw n (by
      simp only [DataW.weights, Tryd.underlying22, List.mem_cons, List.mem_append]
      exact Or.inr (Or.inl (weights_mem_all (List.mem_map.2 ⟨j, List.mem_range.2 hj, rfl⟩) hn)))
    rw [hb] at this
    unfold reachBytes at this
    omega
theorem weights_one {P : Program} {t : TypeId} {ts : List TypeId} {d : DataW H} {ds : List (DataW H)} (h : (DataW.weightsEach P (t :: ts) (d :: ds)).all (fun n => decide (n ≤ reachBytes)) = true) : ∀ n ∈ d.weights P t, n ≤ reachBytes := fun n hn => by
  have := List.all_eq_true.1 h n (by simp only [DataW.weightsEach, List.mem_append]; exact Or.inl hn)
  simpa using this
theorem toks_bulk {Q : List (Tk × Value)} {d : DataW H} (hd : (d = .nil ∧ Q = []) ∨ ∃ (D : Nat → DataW H) (sp : List (DataW H)), d = .slice ((List.range Q.length).map D) sp ∧ ∀ j (hj : j < Q.length), TokD (Q[j]'hj).1 (D j)) : sumK (Q.map Prod.fst) ≤ Rows.uptoBulk d := by
  unfold sumK
  rw [List.map_map]
  rcases hd with ⟨_, rfl⟩ | ⟨D, sp, rfl, hD⟩
  · simp
  · have := bulk_sum (fun p : Tk × Value => p.1.text.length) Q D fun j hj => bulk_tok (hD j hj)
    simp only [Rows.uptoBulk]
    refine Nat.le_trans this ?_
    omega
theorem nds_bulk {Q : List (Nd × Value)} {d : DataW H} (hd : (d = .nil ∧ Q = []) ∨ ∃ (D : Nat → DataW H) (sp : List (DataW H)), d = .slice ((List.range Q.length).map D) sp ∧ ∀ j (hj : j < Q.length), NodeD (Q[j]'hj).1 (D j)) : sumT (nodes Q) ≤ Rows.uptoBulk d := by
  unfold sumT nodes
  rw [List.map_map]
  rcases hd with ⟨_, rfl⟩ | ⟨D, sp, rfl, hD⟩
  · simp
  · have := bulk_sum (fun p : Nd × Value => p.1.text.length) Q D fun j hj => bulk_node (hD j hj)
    simp only [Rows.uptoBulk]
    refine Nat.le_trans this ?_
    omega
end
end Go.Proofs.YtodocdbnflmgnaaDoor
