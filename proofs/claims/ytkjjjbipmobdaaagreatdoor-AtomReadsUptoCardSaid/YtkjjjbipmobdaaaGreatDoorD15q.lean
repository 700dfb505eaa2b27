/- Layer 15, plain: how long a document's attributes are. -/
import Derived.Test.YtkjjjbipmobdaaaGreatDoorD14n
namespace Go.Proofs.YtkjjjbipmobdaaaGreatDoor
open Go.RowKit

theorem runF_more {ends acc x d : List UInt8} {n : Nat} (h : runF ends acc d = .go x n) : 1 ≤ n ∧ n ≤ d.length ∧ x.length ≤ acc.length + 4 * n := by
  cases d with
  | nil => rw [runF] at h; cases h
  | cons c t =>
    rw [runF] at h
    split at h
    · cases h
    split at h
    · injection h with ha hb
      subst ha hb
      simp
    · split at h
      · cases h
      · rename_i y m e
        have := refP_bd e
        injection h with ha hb
        subst ha hb
        refine ⟨by omega, by omega, ?_⟩
        rw [List.length_append]
        omega
theorem run_long (ends : List UInt8) : ∀ s d, ∀ k, (loopK (runF ends) s d k).2.1.length ≤ s.length + 4 * d.length := by
  have hs : Steps (runF ends) := fun _ _ _ _ h => ⟨(runF_more h).1, (runF_more h).2.1⟩
  refine loopK_ind hs (P := fun s d => ∀ k, (loopK (runF ends) s d k).2.1.length ≤ s.length + 4 * d.length) ?_ ?_ ?_
  · intro s d x e k; rw [loopK_bad _ e]; show s.length ≤ _; omega
  · intro s d e k; rw [loopK_stop _ e]; show s.length ≤ _; omega
  · intro s d s' n e ih k
    have hm := runF_more e
    have := ih (k + n)
    rw [loopK_go hs _ e]
    rw [List.length_drop] at this
    omega
theorem runP_long {ends d x : List UInt8} {n : Nat} (h : runP ends d = some (x, n)) : x.length ≤ 4 * d.length := by
  have := run_long ends [] d 0
  unfold runP at h
  cases e : loopK (runF ends) [] d 0 with
  | mk o y =>
    obtain ⟨z, m⟩ := y
    rw [e] at h this
    cases o with
    | some _ => cases h
    | none =>
      injection h with h
      injection h with h1 h2
      subst h1
      simpa using this
theorem valueP_long {d x : List UInt8} {n : Nat} (h : valueP d = some (x, n)) : x.length ≤ 4 * d.length := by
  unfold valueP at h
  generalize (if Lib.hasPrefix d [39] = true then (39 : UInt8) else 34) = q at h
  split at h
  · cases h
  split at h
  · cases h
  · rename_i y m e
    have := runP_long e
    rw [List.length_drop] at this
    split at h
    · injection h with h
      injection h with h1 h2
      subst h1
      omega
    · cases h
theorem attrP_long {d : List UInt8} {x : At} {n : Nat} (h : attrP d = some (x, n)) : x.2.length ≤ 4 * d.length := by
  unfold attrP at h
  split at h
  · cases h
  · split at h
    · cases h
    split at h
    · cases h
    · rename_i v m e
      have := valueP_long e
      rw [List.length_drop] at this
      injection h with h
      injection h with h1 h2
      subst h1
      show v.length ≤ _
      omega
/-- Few attributes, and short ones. -/
def AtFew (N : Nat) (l : List At) : Prop := l.length ≤ 16 ∧ ∀ a ∈ l, a.2.length ≤ 4 * N
theorem AtFew.nil (N : Nat) : AtFew N [] := ⟨by simp, by simp⟩
theorem attrsRF_few {N : Nat} {l l' : List At} {d : List UInt8} {n : Nat} (h : attrsRF l d = .go l' n) (hd : d.length ≤ N) (hl : AtFew N l) : AtFew N l' := by
  unfold attrsRF at h
  split at h
  · cases h
  split at h
  · cases h
  split at h
  · cases h
  rename_i h16
  split at h
  · cases h
  · rename_i x m e
    have := attrP_long e
    rw [List.length_drop] at this
    split at h
    · cases h
    · injection h with ha hb
      subst ha
      have h1 := hl.1
      refine ⟨?_, fun a ha => ?_⟩
      · rw [List.length_append]
        have : l.length ≠ 16 := fun e => h16 (Or.inr e)
        simp
        omega
      · rcases List.mem_append.1 ha with ha | ha
        · exact hl.2 a ha
        · rw [List.mem_singleton] at ha
          subst ha
          omega
theorem attrsR_few {N : Nat} {d : List UInt8} {l : List At} {b : Bool} {n : Nat} (h : attrsR d = some ((l, b), n)) (hd : d.length ≤ N) : AtFew N l := by
  have key : ∀ s d, ∀ k, d.length ≤ N → AtFew N s → AtFew N (loopK attrsRF s d k).2.1 := by
    refine loopK_ind attrsRF_steps (P := fun s d => ∀ k, d.length ≤ N → AtFew N s → AtFew N (loopK attrsRF s d k).2.1) ?_ ?_ ?_
    · intro s d x e k _ hs; rw [loopK_bad _ e]; exact hs
    · intro s d e k _ hs; rw [loopK_stop _ e]; exact hs
    · intro s d s' n e ih k hd hs
      rw [loopK_go attrsRF_steps _ e]
      exact ih (k + n) (by rw [List.length_drop]; omega) (attrsRF_few e hd hs)
  have hk := key [] d 0 hd (AtFew.nil N)
  unfold attrsR at h
  revert h hk
  cases e : loopK attrsRF [] d 0 with
  | mk o y =>
    obtain ⟨z, k⟩ := y
    intro h hk
    cases o with
    | some _ => cases h
    | none =>
      simp only at h hk
      split at h
      · injection h with h
        injection h with h1 h2
        injection h1 with h1 h3
        subst h1
        exact hk
      split at h
      · injection h with h
        injection h with h1 h2
        injection h1 with h1 h3
        subst h1
        exact hk
      · cases h
def TkFew (N : Nat) (l : List Tk) : Prop := ∀ t ∈ l, AtFew N t.attrs
theorem addT_few {N : Nat} {text : List UInt8} {toks : List Tk} {x : Tk} (h : TkFew N toks) (hx : AtFew N x.attrs) : TkFew N (addT text toks x) := by
  intro t ht
  unfold addT at ht
  rcases List.mem_append.1 ht with ht | ht
  · split at ht
    · rcases List.mem_append.1 ht with ht | ht
      · exact h t ht
      · rw [List.mem_singleton] at ht
        subst ht
        exact AtFew.nil N
    · exact h t ht
  · rw [List.mem_singleton] at ht
    subst ht
    exact hx
theorem beginR_few {N : Nat} {dep : Int} {s s' : Sc} {d : List UInt8} {n : Nat} (h : beginR dep s d = .go s' n) (hd : d.length ≤ N) (hs : TkFew N s.toks) : TkFew N s'.toks := by
  unfold beginR at h
  split at h
  · cases h
  split at h
  · cases h
  · split at h
    · cases h
    · rename_i l m e
      have := attrsR_few e (N := N) (by rw [List.length_drop]; omega)
      injection h with ha hb
      subst ha
      exact addT_few hs this
    · rename_i l m e
      have := attrsR_few e (N := N) (by rw [List.length_drop]; omega)
      injection h with ha hb
      subst ha
      exact addT_few hs this
theorem endR_few {N : Nat} {s s' : Sc} {d : List UInt8} {n : Nat} (h : endR s d = .go s' n) (hs : TkFew N s.toks) : TkFew N s'.toks := by
  unfold endR at h
  split at h
  · cases h
  · split at h
    · cases h
    split at h
    · cases h
    split at h
    · injection h with ha hb
      subst ha
      exact addT_few hs (AtFew.nil N)
    · cases h
theorem stepR_few {N : Nat} {dep : Int} {s s' : Sc} {d : List UInt8} {n : Nat} (h : stepR dep s d = .go s' n) (hd : d.length ≤ N) (hs : TkFew N s.toks) : TkFew N s'.toks := by
  have hC : (match commR d with | none => Rs.bad (3 : Int) | some n => .go s n) = .go s' n → TkFew N s'.toks := fun e => by
    revert e
    cases e2 : commR d with
    | none => intro e; cases e
    | some m =>
      intro e
      injection e with ha hb
      subst ha
      exact hs
  unfold stepR at h
  split at h
  · cases h
  split at h
  · unfold outerR at h
    split at h
    · injection h with ha hb
      subst ha
      exact hs
    split at h
    · exact hC h
    split at h
    · exact beginR_few h hd hs
    · cases h
  · unfold innerR at h
    split at h
    · exact endR_few h hs
    split at h
    · exact hC h
    split at h
    · split at h
      · cases h
      · injection h with ha hb
        subst ha
        exact hs
    split at h
    · split at h
      · exact beginR_few h hd hs
      · cases h
    split at h
    · split at h
      · cases h
      · injection h with ha hb
        subst ha
        exact hs
    · injection h with ha hb
      subst ha
      exact hs
theorem tokR_few (dep : Int) (l : List UInt8) : TkFew l.length (tokR dep l).ts := by
  have hno : TkFew l.length [] := fun t ht => by cases ht
  unfold tokR
  generalize hg : goodN l = g
  have hlg : (l.take g).length ≤ l.length := by rw [List.length_take]; omega
  cases hh : preR (l.take g) with
  | none => exact hno
  | some m =>
    have key : ∀ s d, ∀ k, d.length ≤ l.length → TkFew l.length s.toks → TkFew l.length (loopK (stepR dep) s d k).2.1.toks := by
      refine loopK_ind (stepR_steps dep) (P := fun s d => ∀ k, d.length ≤ l.length → TkFew l.length s.toks → TkFew l.length (loopK (stepR dep) s d k).2.1.toks) ?_ ?_ ?_
      · intro s d x e k _ hs; rw [loopK_bad _ e]; exact hs
      · intro s d e k _ hs; rw [loopK_stop _ e]; exact hs
      · intro s d s' n e ih k hd hs
        rw [loopK_go (stepR_steps dep) _ e]
        exact ih (k + n) (by rw [List.length_drop]; omega) (stepR_few e hd hs)
    have hk := key sc0 ((l.take g).drop m) m (by rw [List.length_drop]; omega) hno
    revert hk
    simp only
    cases e : loopK (stepR dep) sc0 ((l.take g).drop m) m with
    | mk o y =>
      obtain ⟨s, k⟩ := y
      intro hk
      cases o with
      | some q => exact hno
      | none =>
        simp only at hk ⊢
        split
        · exact hno
        · exact hk
/-- A document's nodes have few attributes, and short ones. -/
theorem docN_few (dep : Int) (l : List UInt8) : ∀ x ∈ docN dep l, AtFew l.length x.attrs := by
  intro x hx
  unfold docN at hx
  cases hb : buildB (tokR dep l).ts with
  | none => rw [hb] at hx; cases hx
  | some nds =>
    rw [hb] at hx
    rcases (buildB_tree hb).2.2.2.2 x hx with h | ⟨t, ht, h⟩
    · rw [h]; exact AtFew.nil _
    · rw [h]; exact tokR_few dep l t ht
end Go.Proofs.YtkjjjbipmobdaaaGreatDoor
