/- A listed datum that is an interface, opened; a nil pointer is none. -/
import Derived.Test.YtkgjbamkinfmeaaGreatDoorBR33
namespace Go.Proofs.YtkgjbamkinfmeaaGreatDoor
open Go.ChangeShapes Go.WideShapes Go.ChangeAt Go.RowKit

theorem trod_iface_inv {H : Type} {enc : TypeId × Value → H} {P : Program} {w : World} {base n : Nat} {sp : Nat → Bool} {t : TypeId} {ms : Array (String × TypeId)} {l : List Value} {nm : String} {d : DataW H} {p : List MemPlace}
    (ht : P.underlying t = some (.interface ms)) (h : DataW.trod enc P w base sp false (n + 1) t l = some (.iface nm d, p)) :
    ∃ u v, l = [.iface u v] ∧ P.typeName? 3 u = some nm ∧ ∃ p', DataW.trod enc P w base sp false n u v.cells.toList = some (d, p') := by
  unfold DataW.trod at h
  rw [ht] at h
  split at h
  all_goals try (rename_i e _; cases e; done)
  all_goals try (rename_i e; cases e; done)
  all_goals try (simp at h; done)
  rename_i u v _
  cases hn : P.typeName? 3 u with
  | none => rw [hn] at h; cases h
  | some name =>
    rw [hn] at h
    cases hx : DataW.trod enc P w base sp false n u v.cells.toList with
    | none => rw [hx] at h; cases h
    | some x =>
      rw [hx] at h
      obtain ⟨y, q⟩ := x
      simp only [Option.map_some, Option.some.injEq, Prod.mk.injEq, DataW.iface.injEq] at h
      obtain ⟨⟨rfl, rfl⟩, rfl⟩ := h
      exact ⟨u, v, rfl, hn, q, hx⟩
theorem trod_nil_ptr {H : Type} {enc : TypeId × Value → H} {P : Program} {w : World} {base n : Nat} {sp : Nat → Bool} {held : Bool} {t e : TypeId} {d : DataW H} {p : List MemPlace}
    (ht : P.underlying t = some (.pointer e)) : ¬ DataW.trod enc P w base sp held n t (Value.pointer none).cells.toList = some (.ptr d, p) := by
  intro h
  cases n with
  | zero => simp [DataW.trod] at h
  | succ n =>
    unfold DataW.trod at h
    rw [ht] at h
    simp [Value.cells] at h
end Go.Proofs.YtkgjbamkinfmeaaGreatDoor
