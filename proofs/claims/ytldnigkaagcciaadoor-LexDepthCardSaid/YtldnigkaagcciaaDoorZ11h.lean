/- What the rows of layer 11 share: what the two listed variables hold; and that a variable of the library's holds a number, out of the world's shape. -/
import Derived.Test.YtldnigkaagcciaaDoorTie
import Derived.Test.YtldnigkaagcciaaDoorCards
import Derived.Test.YtldnigkaagcciaaDoorLaid
import Derived.Test.YtldnigkaagcciaaDoorLift
import Derived.Test.YtldnigkaagcciaaDoorD11v
import Derived.Shelf.Vars
namespace Go.Proofs.YtldnigkaagcciaaDoor
open Go.ChangeShapes Go.WideShapes Go.ChangeAt Go.RowKit

theorem cells_str : Tryd.prog.cellsOf 9 = 1 := by kernel_rfl
theorem cells_uint8 : Tryd.prog.cellsOf 5 = 1 := by kernel_rfl
abbrev doorSteps : Nat := 400
theorem door_met (os : Os) (args : Array Value) : laidMetH Tryd.prog Rows.lexNamesRow.laid ((World.doorLaid Tryd.prog doorSteps os).forCall (fun _ _ => 0) ⟨#[], args, []⟩).memory :=
  laidMetH_of_parts3 (fuel := 8) (laidMet_of_run' 8 (by kernel_rfl) (by kernel_rfl)) (by kernel_rfl) (by kernel_rfl)

theorem g_et : Tryd.prog.globalNamed "errors.errorType" = some 1 := by kernel_rfl
theorem g_ee : Tryd.prog.globalNamed "newsreel/lex.errEnd" = some 0 := by kernel_rfl
theorem g_eet : (Tryd.prog.globals[0]?).map (·.type) = some 26 := by kernel_rfl
theorem rt_row : (Tryd.prog.cutTypes.find? (·.1 == "internal/reflectlite.rtype")).map (·.2) = some 79 := by kernel_rfl
theorem err_row : ((List.range Tryd.prog.types.size).filter fun t => Tryd.prog.rowNamed t [101, 114, 114, 111, 114]) = [26] := by kernel_rfl
theorem ty_of_row {W : World} (h : laidMetH Tryd.prog Rows.lexNamesRow.laid W) : EnvT W := by
  have h' : laidMet Tryd.prog [("newsreel/lex.errEnd", Rows.laid_newsreel_lex_errEnd)] W ∧ handlesMet Tryd.prog [("errors.errorType", Rows.laid_errors_errorType)] W := h
  obtain ⟨name, u, ty, e1, e2, e3, e4, e5⟩ := h'.2 _ (List.mem_singleton.2 rfl)
  have en : name = [101, 114, 114, 111, 114] := (Option.some.inj e1).symm
  subst en
  obtain rfl := Option.some.inj (rt_row.symm.trans e2)
  have hm : ty ∈ (List.range Tryd.prog.types.size).filter fun t => Tryd.prog.rowNamed t [101, 114, 114, 111, 114] := List.mem_filter.2 ⟨List.mem_range.2 e3, e4⟩
  rw [err_row] at hm
  obtain rfl := List.mem_singleton.1 hm
  have hh : typeHandle Tryd.prog 26 = .pointer (some ⟨3, 26, none⟩) := by kernel_rfl
  rw [hh] at e5
  have := World.var?_cell g_et e5 0
  unfold EnvT
  simpa using this
theorem star_es : "*" ++ "errors.errorString" = "*errors.errorString" := by decide
theorem es_row (u : TypeId) (h : Tryd.prog.typeName? 3 u = some "*errors.errorString") : u = 123 :=
  typeName_ptr_named (nm := "errors.errorString") (by rw [star_es]; kernel_rfl) (by kernel_rfl) (by decide) u (by rw [star_es]; exact h)
theorem trod_iface_inv {H : Type} {enc : TypeId × Value → H} {P : Program} {w : World} {base n : Nat} {sp : Nat → Bool} {t : TypeId} {ms : Array (String × TypeId)} {l : List Value} {nm : String} {d : DataW H} {p : List MemPlace}
    (ht : P.underlying t = some (.interface ms)) (h : DataW.trod enc P w base sp false (n + 1) t l = some (.iface nm d, p)) :
    ∃ u v, l = [.iface u v] ∧ P.typeName? 3 u = some nm ∧ ∃ p', DataW.trod enc P w base sp false n u v.cells.toList = some (d, p') := by
  unfold DataW.trod at h
  rw [ht] at h
  split at h
  all_goals try (rename_i e _; cases e; done)
  all_goals try (rename_i e; cases e; done)
  all_goals try (simp at h; done)
  rename_i u v _
  cases hn : P.typeName? 3 u with
  | none => rw [hn] at h; cases h
  | some name =>
    rw [hn] at h
    cases hx : DataW.trod enc P w base sp false n u v.cells.toList with
    | none => rw [hx] at h; cases h
    | some x =>
      rw [hx] at h
      obtain ⟨y, q⟩ := x
      simp only [Option.map_some, Option.some.injEq, Prod.mk.injEq, DataW.iface.injEq] at h
      obtain ⟨⟨rfl, rfl⟩, rfl⟩ := h
      exact ⟨u, v, rfl, hn, q, hx⟩
theorem trod_nil_ptr {H : Type} {enc : TypeId × Value → H} {P : Program} {w : World} {base n : Nat} {sp : Nat → Bool} {held : Bool} {t e : TypeId} {d : DataW H} {p : List MemPlace}
    (ht : P.underlying t = some (.pointer e)) : ¬ DataW.trod enc P w base sp held n t (Value.pointer none).cells.toList = some (.ptr d, p) := by
  intro h
  cases n with
  | zero => simp [DataW.trod] at h
  | succ n =>
    unfold DataW.trod at h
    rw [ht] at h
    simp [Value.cells] at h
set_option maxRecDepth 100000 in
theorem end_of_row {W : World} (h : laidMetH Tryd.prog Rows.lexNamesRow.laid W) : ∃ A, W.cell? ⟨0, 0, none⟩ = some (.iface 123 (.pointer (some A))) := by
  have h' : laidMet Tryd.prog [("newsreel/lex.errEnd", Rows.laid_newsreel_lex_errEnd)] W ∧ handlesMet Tryd.prog [("errors.errorType", Rows.laid_errors_errorType)] W := h
  obtain ⟨ps, hl, _, hrows⟩ := h'.1
  obtain ⟨g, t, cs, fuel, p, q, h1, h2, h3, h4, _, hps⟩ := hl
  obtain rfl := Option.some.inj (g_ee.symm.trans h1)
  obtain rfl := Option.some.inj (g_eet.symm.trans h2)
  unfold Rows.laid_newsreel_lex_errEnd at h4
  cases fuel with
  | zero => simp [DataW.trod] at h4
  | succ n =>
    obtain ⟨u, v, hcs, hn, p', hv⟩ := trod_iface_inv Tryd.underlying26 h4
    obtain rfl := es_row u hn
    have hcell := laid_cell g_ee h3 hcs
    have hsz : cs.size = 1 := by rw [Array.eq_one_of_toList hcs]; rfl
    have hok := (hrows 0 0 (by rw [hps, hsz]; exact List.mem_append_left _ (List.mem_append_left _ (by simp [MemPlace.row])))).2 _ _ hcell
    obtain ⟨a, rfl⟩ := okWide_pointer Tryd.underlying123 hok
    cases a with
    | some A => exact ⟨A, hcell⟩
    | none => exact absurd hv (trod_nil_ptr Tryd.underlying123)
theorem returns_laid_shaped {H : Type} {enc : TypeId × Value → H} {a : Assume} {C : Checked} {os : Os} {f : FuncId} {fn : Func} {s : ChangeSpec} {conds : List PathCond} {apart fresh handsOn again : Bool} {X : World → Array Value → Prop}
    (hX : ∀ (w w' : World) (args : Array Value), w.heap = w'.heap → X w args → X w' args)
    (own : ownKnob C.prog.godebug = none) (started : os.Started) (noInit : C.prog.inits.idxOf? f = none) (hfn : C.prog.funcs[f]? = some fn)
    (witness : ∃ (w : World) (tape : Tape) (i : Input), w.os = os ∧ (w.forCall tape i).Shaped C.prog ∧ i.vars = [] ∧ Input.okWide C.prog (w.forCall tape i) .any w.heap.size f i ∧
      ((s.pre enc C.prog fn conds apart (w.forCall tape i).memory i.args ∧ X (w.forCall tape i).memory i.args) ∧ sizedMet enc C.prog fn (OpenSpec.ofChange s) apart (w.forCall tape i).memory i.args) ∧ a.holds C.prog (lone (Frame.enter C.prog f i.args .normal) [] (w.forCall tape i)))
    (contract : ∀ (W : World) (base : Nat) (args : Array Value) (ds gs : List (DataW H)) (before : List MemPlace),
      (∀ (j : Nat) t v, fn.params[j]? = some t → args[j]? = some v → Value.okWide C.prog W .any base t v) →
      DataW.Whole enc C.prog fn.params.toList s.vars apart W args.toList ds gs before → X W args → W.ShapedOpen C.prog →
      Calls C.prog f args W fun e W' => ∃ v, e = .returned v ∧ s.post enc C.prog fn apart fresh handsOn again W args v W') :
    ReturnsInHanded a C os f .any (fun w args => (s.pre enc C.prog fn conds apart w args ∧ X w args) ∧ sizedMet enc C.prog fn (OpenSpec.ofChange s) apart w args) (s.post enc C.prog fn apart fresh handsOn again) := by
  refine returnsInHanded_of_calls own started noInit witness ?_
  intro w tape i _ hsh _ hok hpre _
  obtain ⟨_, _, _, g, hg, _, _, _, _, hval⟩ := hok
  obtain rfl : g = fn := Option.some.inj (hg.symm.trans hfn)
  obtain ⟨⟨⟨ds, gs, before, hw, _⟩, hx⟩, _⟩ := hpre
  refine (contract (w.forCall tape i) w.heap.size i.args ds gs before hval (DataW.Whole.of_heap (w' := w.forCall tape i) (by rfl) hw) (hX _ _ _ (by rfl) hx) hsh).mono fun e W' ⟨v, he, hp⟩ => ?_
  subst he
  exact ChangeSpec.post_blind hp
theorem laid11_of_row {W : World} (h : laidMetH Tryd.prog Rows.lexNamesRow.laid W) (hs : W.ShapedOpen Tryd.prog) : ∃ A, Laid11 W A := by
  obtain ⟨A, hA⟩ := end_of_row h
  exact ⟨A, cell_of_shapedOpen_int (zero := #[.int .i64 0]) (t := 3) hs (of_decide_eq_true (by kernel_rfl)) (by kernel_rfl) rfl (by kernel_rfl) (by kernel_rfl) Tryd.underlying3, hA, ty_of_row h⟩
end Go.Proofs.YtldnigkaagcciaaDoor
