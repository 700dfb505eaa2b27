/- What the rows of layer 16 share: what the five listed variables hold, that a variable of the library's holds a number; the numbers that came in. -/
import Derived.Test.YtkgjbamkinfmeaaGreatDoorTie
import Derived.Test.YtkgjbamkinfmeaaGreatDoorCards
import Derived.Test.YtkgjbamkinfmeaaGreatDoorBR33
import Derived.Test.YtkgjbamkinfmeaaGreatDoorLj
import Derived.Test.YtkgjbamkinfmeaaGreatDoorAp
import Derived.Test.YtkgjbamkinfmeaaGreatDoorD16d
import Derived.Shelf.Vars
import Derived.Deep.DeepWitnessRowRef
namespace Go.Proofs.YtkgjbamkinfmeaaGreatDoor
open Go.ChangeShapes Go.WideShapes Go.ChangeAt Go.RowKit

abbrev doorSteps : Nat := 400
theorem door_met (os : Os) (args : Array Value) : laidMetH Tryz.prog Rows.feedShortRow.laid ((World.doorLaid Tryz.prog doorSteps os).forCall (fun _ _ => 0) ⟨#[], args, []⟩).memory :=
  laidMetH_of_parts3 (fuel := 8) (laidMet_of_run' 8 (by kernel_rfl) (by kernel_rfl)) (by kernel_rfl) (by kernel_rfl)
theorem g_et : Tryz.prog.globalNamed "errors.errorType" = some 0 := by kernel_rfl
theorem g_ee : Tryz.prog.globalNamed "newsreel/lex.errEnd" = some 2 := by kernel_rfl
theorem g_eo : Tryz.prog.globalNamed "newsreel/tree.errOpen" = some 1 := by kernel_rfl
theorem g_wk : Tryz.prog.globalNamed "newsreel/date.weekdays" = some 3 := by kernel_rfl
theorem g_mon : Tryz.prog.globalNamed "newsreel/date.months" = some 4 := by kernel_rfl
theorem gt_ee : (Tryz.prog.globals[2]?).map (·.type) = some 27 := by kernel_rfl
theorem gt_eo : (Tryz.prog.globals[1]?).map (·.type) = some 27 := by kernel_rfl
theorem gt_wk : (Tryz.prog.globals[3]?).map (·.type) = some 198 := by kernel_rfl
theorem gt_mon : (Tryz.prog.globals[4]?).map (·.type) = some 199 := by kernel_rfl
theorem rt_row : (Tryz.prog.cutTypes.find? (·.1 == "internal/reflectlite.rtype")).map (·.2) = some 91 := by kernel_rfl
theorem err_row : ((List.range Tryz.prog.types.size).filter fun t => Tryz.prog.rowNamed t [101, 114, 114, 111, 114]) = [27] := by kernel_rfl
/-- The row's list in its two halves. -/
theorem met_of_row {W : World} (h : laidMetH Tryz.prog Rows.feedShortRow.laid W) : laidMet Tryz.prog [("newsreel/tree.errOpen", Rows.laid_newsreel_tree_errOpen), ("newsreel/date.weekdays", Rows.laid_newsreel_date_weekdays), ("newsreel/date.months", Rows.laid_newsreel_date_months), ("newsreel/lex.errEnd", Rows.laid_newsreel_lex_errEnd)] W ∧ handlesMet Tryz.prog [("errors.errorType", Rows.laid_errors_errorType)] W := h
theorem ty_of_row {W : World} (h : laidMetH Tryz.prog Rows.feedShortRow.laid W) : EnvT W := by
  obtain ⟨name, u, ty, e1, e2, e3, e4, e5⟩ := (met_of_row h).2 _ (List.mem_singleton.2 rfl)
  have en : name = [101, 114, 114, 111, 114] := (Option.some.inj e1).symm
  subst en
  obtain rfl := Option.some.inj (rt_row.symm.trans e2)
  have hm : ty ∈ (List.range Tryz.prog.types.size).filter fun t => Tryz.prog.rowNamed t [101, 114, 114, 111, 114] := List.mem_filter.2 ⟨List.mem_range.2 e3, e4⟩
  rw [err_row] at hm
  obtain rfl := List.mem_singleton.1 hm
  have hh : typeHandle Tryz.prog 27 = .pointer (some ⟨6, 27, none⟩) := by kernel_rfl
  rw [hh] at e5
  have := World.var?_cell g_et e5 0
  unfold EnvT
  simpa using this
theorem star_es : "*" ++ "errors.errorString" = "*errors.errorString" := by decide
theorem es_row (u : TypeId) (h : Tryz.prog.typeName? 3 u = some "*errors.errorString") : u = 224 :=
  typeName_ptr_named (nm := "errors.errorString") (by rw [star_es]; kernel_rfl) (by kernel_rfl) (by decide) u (by rw [star_es]; exact h)
theorem ends_of_row {W : World} (h : laidMetH Tryz.prog Rows.feedShortRow.laid W) : (∃ A, W.cell? ⟨2, 0, none⟩ = some (.iface 224 (.pointer (some A)))) ∧ ∃ A, W.cell? ⟨1, 0, none⟩ = some (.iface 224 (.pointer (some A))) :=
  ⟨err_of_laid (met_of_row h).1 (.tail _ (.tail _ (.tail _ (.head _)))) g_ee gt_ee Tryz.underlying27 es_row Tryz.underlying224,
    err_of_laid (met_of_row h).1 (.head _) g_eo gt_eo Tryz.underlying27 es_row Tryz.underlying224⟩
theorem env_of_row {W : World} (h : laidMetH Tryz.prog Rows.feedShortRow.laid W) : Env13 W :=
  ⟨range_of_laid (met_of_row h).1 (.tail _ (.tail _ (.head _))) g_mon gt_mon Tryz.underlying199 Tryz.underlying9 (by kernel_rfl) (by kernel_rfl),
    range_of_laid (met_of_row h).1 (.tail _ (.head _)) g_wk gt_wk Tryz.underlying198 Tryz.underlying9 (by kernel_rfl) (by kernel_rfl)⟩
theorem laid16_of_row {W : World} (h : laidMetH Tryz.prog Rows.feedShortRow.laid W) (hs : W.ShapedOpen Tryz.prog) : ∃ A : Addr × Addr, Laid16 W A.1 A.2 := by
  obtain ⟨⟨A, hA⟩, B, hB⟩ := ends_of_row h
  exact ⟨(A, B), ⟨cell_of_shapedOpen_int (zero := #[.int .i64 0]) (t := 3) hs (of_decide_eq_true (by kernel_rfl)) (by kernel_rfl) rfl (by kernel_rfl) (by kernel_rfl) Tryz.underlying3, hA, ty_of_row h⟩, ⟨hB, ty_of_row h⟩, env_of_row h⟩
/-- The model's numbers, as they are read. -/
def prmD {H : Type} (p : Prm) : DataW H := .agg [.lit (.int .i64 p.entries), .lit (.int .i64 p.doc), .lit (.int .i64 p.dep), .lit (.int .i64 p.feeds), .lit (.int .i64 p.many), .lit (.int .i64 p.most), .lit (.int .i64 p.page), .lit (.int .i64 p.tick), .lit (.int .i64 p.window), .lit (.int .i64 p.dist), .lit (.int .i64 p.words)]
theorem eleven {xs : List Int} (h : xs.length = 11) : ∃ p : Prm, xs = [p.entries, p.doc, p.dep, p.feeds, p.many, p.most, p.page, p.tick, p.window, p.dist, p.words] := by
  match xs, h with
  | [a0, a1, a2, a3, a4, a5, a6, a7, a8, a9, a10], _ => exact ⟨⟨a0, a1, a2, a3, a4, a5, a6, a7, a8, a9, a10⟩, rfl⟩
theorem prm_cells : Tryz.prog.cellsOf 23 = 11 := by kernel_rfl
theorem int_cells : Tryz.prog.cellsOf 3 = 1 := by kernel_rfl
set_option maxRecDepth 100000 in
theorem open_prm {H : Type} {enc : TypeId × Value → H} {W : World} {base : Nat} {sp : Nat → Bool} {held : Bool} {r : Reach} {b0 : Nat} {v : Value} {d : DataW H} {ps : List MemPlace} (hval : Value.okWide Tryz.prog W r b0 23 v) (hd : DataW.Trod enc Tryz.prog W base sp held 23 v d ps) :
    ∃ p : Prm, v = prmV p ∧ d = prmD p ∧ ps = [] := by
  obtain ⟨xs, hl, rfl, rfl, rfl⟩ := open_numbers (k := .i64) Tryz.underlying23 (fun i f hf => by
    match i, hf with
    | 0, hf => cases hf; exact ⟨Tryz.underlying3, rfl, int_cells⟩
    | 1, hf => cases hf; exact ⟨Tryz.underlying3, rfl, int_cells⟩
    | 2, hf => cases hf; exact ⟨Tryz.underlying3, rfl, int_cells⟩
    | 3, hf => cases hf; exact ⟨Tryz.underlying3, rfl, int_cells⟩
    | 4, hf => cases hf; exact ⟨Tryz.underlying3, rfl, int_cells⟩
    | 5, hf => cases hf; exact ⟨Tryz.underlying3, rfl, int_cells⟩
    | 6, hf => cases hf; exact ⟨Tryz.underlying3, rfl, int_cells⟩
    | 7, hf => cases hf; exact ⟨Tryz.underlying3, rfl, int_cells⟩
    | 8, hf => cases hf; exact ⟨Tryz.underlying3, rfl, int_cells⟩
    | 9, hf => cases hf; exact ⟨Tryz.underlying3, rfl, int_cells⟩
    | 10, hf => cases hf; exact ⟨Tryz.underlying3, rfl, int_cells⟩
    | n + 11, hf => simp at hf) prm_cells hval hd
  obtain ⟨p, rfl⟩ := eleven hl
  exact ⟨p, rfl, rfl, rfl⟩
theorem wf_u8 {n : Int} (h : (Lit.int .u8 n).wf = true) : 0 ≤ n ∧ n ≤ 255 := bounds_u8 h
end Go.Proofs.YtkgjbamkinfmeaaGreatDoor
