/- Layer 11, plain: a document has at most twice as many tokens as bytes. -/
import Derived.Test.YtkgjbamkinfmeaaGreatDoorBR15
namespace Go.Proofs.YtkgjbamkinfmeaaGreatDoor
open Go.RowKit

theorem docB_len {dep : Int} {l : List UInt8} {t : List Tk} (h : docB dep l = .toks t) : t.length ≤ 2 * l.length := by
  unfold docB at h
  cases hm : headP l with
  | none => rw [hm] at h; cases h
  | some m =>
    rw [hm] at h
    simp only at h
    have ho := loopK_off (docF_steps dep) sc0 (l.drop m) 0 m
    have hi := loopK_inv (docF_steps dep) (I := fun s k => s.toks.length ≤ 2 * k) (fun s d s' n k e hk => by have := docF_step e; have := this.toks; have := (docF_step e).lo; omega) sc0 (l.drop m) 0 (by simp [sc0])
    have hle := loopK_le (docF_steps dep) sc0 (l.drop m) 0
    rw [Nat.add_zero] at ho
    rw [ho] at h
    generalize loopK (docF dep) sc0 (l.drop m) 0 = r at h hi hle
    obtain ⟨x, s, k⟩ := r
    rw [List.length_drop] at hle
    simp only at h hi hle
    cases x with
    | none => cases h
    | some x =>
      cases x with
      | syn => cases h
      | deep => cases h
      | fin =>
        simp only at h
        split at h
        · injection h with h
          subst h
          omega
        · cases h
end Go.Proofs.YtkgjbamkinfmeaaGreatDoor
