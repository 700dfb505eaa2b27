/- What the rows of layer 15 share: what the listed variable holds; the attributes that came in. -/
import Derived.Test.YtkjjjbipmobdaaaGreatDoorTie
import Derived.Test.YtkjjjbipmobdaaaGreatDoorCards
import Derived.Test.YtkjjjbipmobdaaaGreatDoorBR01
import Derived.Test.YtkjjjbipmobdaaaGreatDoorBR02
import Derived.Test.YtkjjjbipmobdaaaGreatDoorBR03
import Derived.Test.YtkjjjbipmobdaaaGreatDoorD15a
import Derived.Test.YtkjjjbipmobdaaaGreatDoorD15m
import Derived.Shelf.Vars
import Derived.Deep.DeepWitnessRowRef
namespace Go.Proofs.YtkjjjbipmobdaaaGreatDoor
open Go.ChangeShapes Go.WideShapes Go.ChangeAt Go.RowKit

abbrev doorSteps : Nat := 400
theorem door_met (os : Os) (args : Array Value) : laidMetH Tryz.prog Rows.atomReadsRow.laid ((World.doorLaid Tryz.prog doorSteps os).forCall (fun _ _ => 0) ⟨#[], args, []⟩).memory :=
  laidMetH_of_parts3 (fuel := 8) (laidMet_of_run' 8 (by kernel_rfl) (by kernel_rfl)) (by kernel_rfl) (by kernel_rfl)
theorem g_et : Tryz.prog.globalNamed "errors.errorType" = some 0 := by kernel_rfl
theorem rt_row : (Tryz.prog.cutTypes.find? (·.1 == "internal/reflectlite.rtype")).map (·.2) = some 136 := by kernel_rfl
theorem err_row : ((List.range Tryz.prog.types.size).filter fun t => Tryz.prog.rowNamed t [101, 114, 114, 111, 114]) = [26] := by kernel_rfl
theorem ty_of_row {W : World} (h : laidMetH Tryz.prog Rows.atomReadsRow.laid W) : EnvT W := by
  have h' : laidMet Tryz.prog [] W ∧ handlesMet Tryz.prog [("errors.errorType", Rows.laid_errors_errorType)] W := h
  obtain ⟨name, u, ty, e1, e2, e3, e4, e5⟩ := h'.2 _ (List.mem_singleton.2 rfl)
  have en : name = [101, 114, 114, 111, 114] := (Option.some.inj e1).symm
  subst en
  obtain rfl := Option.some.inj (rt_row.symm.trans e2)
  have hm : ty ∈ (List.range Tryz.prog.types.size).filter fun t => Tryz.prog.rowNamed t [101, 114, 114, 111, 114] := List.mem_filter.2 ⟨List.mem_range.2 e3, e4⟩
  rw [err_row] at hm
  obtain rfl := List.mem_singleton.1 hm
  have hh : typeHandle Tryz.prog 26 = .pointer (some ⟨4, 26, none⟩) := by kernel_rfl
  rw [hh] at e5
  have := World.var?_cell g_et e5 0
  unfold EnvT
  simpa using this
theorem laid15_of_row {W : World} (h : laidMetH Tryz.prog Rows.atomReadsRow.laid W) : ∃ _A : Nat, Laid15 W := ⟨0, ⟨ty_of_row h⟩⟩
/-- What came in has attributes that can be gone through. -/
theorem ats_ok {H : Type} {Q : List (Nd × Value)} {d : DataW H} (ha : ∀ p ∈ Q, p.1.attrs.length ≤ maxLen) (hd : (d = .nil ∧ Q = []) ∨ ∃ (D : Nat → DataW H) (sp : List (DataW H)), d = .slice ((List.range Q.length).map D) sp ∧ ∀ j (hj : j < Q.length), NodeD (Q[j]'hj).1 (D j)) (hk : Rows.uptoBulk d ≤ 1048576) : ∀ x ∈ nodes Q, AtOk x.attrs := fun x hx => by
  refine ⟨?_, fun a h => ?_⟩
  · obtain ⟨p, hp, rfl⟩ := List.mem_map.1 hx
    exact Nat.le_trans (ha p hp) (by decide)
  · have := nds_ats hd x hx a h
    omega
end Go.Proofs.YtkjjjbipmobdaaaGreatDoor
