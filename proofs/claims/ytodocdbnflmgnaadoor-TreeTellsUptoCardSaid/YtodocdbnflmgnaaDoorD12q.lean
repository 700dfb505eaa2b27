/- Layer 12, plain: how what stands within a node is found, each node gone through once. -/
import Derived.Test.YtodocdbnflmgnaaDoorD12p
namespace Go.Proofs.YtodocdbnflmgnaaDoor

theorem getD_set (K : List Bool) (a j : Nat) (v : Bool) : (K.set a v).getD j false = if a = j ∧ a < K.length then v else K.getD j false := by
  by_cases e : a = j
  · subst e
    by_cases h : a < K.length
    · simp [List.getD, h]
    · simp [List.getD, h]
  · simp [List.getD, e]
/-- What is known, and of what it is known that it stands within i: behind k of the places. -/
structure WI (l : List Nd) (i : Int) (K I : List Bool) (k : Nat) : Prop where
  lk : K.length = l.length
  li : I.length = l.length
  ki : K.getD i.toNat false = true
  sub : ∀ j, I.getD j false = true → K.getD j false = true
  ok : ∀ j, j < l.length → K.getD j false = true → (I.getD j false = true ↔ Within l i (j : Int))
  done : ∀ j, j < k → K.getD j false = true
theorem WI.start {l : List Nd} {i : Int} (h : placeB l i = true) : WI l i ((List.replicate l.length false).set i.toNat true) ((List.replicate l.length false).set i.toNat true) 0 := by
  have hp := place_iff.1 h
  have hi : (i.toNat : Int) = i := by omega
  refine ⟨by simp, by simp, ?_, fun _ h => h, fun j hj h1 => ?_, fun j hj => by omega⟩
  · rw [getD_set, if_pos ⟨rfl, by simp; omega⟩]
  · refine ⟨fun _ => ?_, fun _ => h1⟩
    rw [getD_set] at h1
    split at h1
    · rename_i e
      rw [← e.1, hi]
      exact .here h
    · simp [List.getD, hj] at h1
/-- The way up from f. -/
def itN (l : List Nd) (f : Int) : Nat → Int
  | 0 => f
  | m + 1 => upN l (itN l f m)
/-- The way up from f, m nodes long, all of them new. -/
structure W2 (l : List Nd) (f : Int) (K0 K : List Bool) (m : Nat) : Prop where
  len : K.length = l.length
  fresh : ∀ a, a < m → placeB l (itN l f a) = true ∧ K0.getD (itN l f a).toNat false = false
  dist : ∀ a b, a < b → b < m → itN l f a ≠ itN l f b
  old : ∀ j, K0.getD j false = true → K.getD j false = true
  new : ∀ j, K.getD j false = true → K0.getD j false = true ∨ ∃ a, a < m ∧ itN l f a = (j : Int)
  mark : ∀ a, a < m → K.getD (itN l f a).toNat false = true
theorem W2.start {l : List Nd} {f : Int} {K : List Bool} (h : K.length = l.length) : W2 l f K K 0 :=
  ⟨h, fun a h => by omega, fun a b h1 h2 => by omega, fun _ h => h, fun _ h => Or.inl h, fun a h => by omega⟩
theorem W2.step {l : List Nd} {f : Int} {K0 K : List Bool} {m : Nat} (h : W2 l f K0 K m) (hp : placeB l (itN l f m) = true) (hk : K.getD (itN l f m).toNat false = false) : W2 l f K0 (K.set (itN l f m).toNat true) (m + 1) := by
  have hp' := place_iff.1 hp
  refine ⟨by simp [h.len], fun a ha => ?_, fun a b hab hb => ?_, fun j hj => ?_, fun j hj => ?_, fun a ha => ?_⟩
  · by_cases e : a = m
    · subst e
      refine ⟨hp, ?_⟩
      cases hq : K0.getD (itN l f a).toNat false
      · rfl
      · rw [h.old _ hq] at hk; cases hk
    · exact h.fresh a (by omega)
  · by_cases e : b = m
    · subst e
      intro e2
      have := h.mark a hab
      rw [e2, hk] at this
      cases this
    · exact h.dist a b hab (by omega)
  · rw [getD_set]
    split
    · rfl
    · exact h.old j hj
  · rw [getD_set] at hj
    split at hj
    · rename_i e
      exact Or.inr ⟨m, by omega, by omega⟩
    · rcases h.new j hj with e | ⟨a, ha, e⟩
      · exact Or.inl e
      · exact Or.inr ⟨a, by omega, e⟩
  · rw [getD_set]
    split
    · rfl
    · rename_i e
      by_cases e2 : a = m
      · subst e2
        exact absurd ⟨rfl, by rw [h.len]; omega⟩ e
      · exact h.mark a (by omega)
theorem W2.first {l : List Nd} {k : Nat} {K0 K : List Bool} {m : Nat} (h : W2 l (k : Int) K0 K m) (hk : k < l.length) (hend : placeB l (itN l k m) = true → K.getD (itN l k m).toNat false = true) : K.getD k false = true := by
  cases m with
  | zero => exact hend (place_nat hk)
  | succ m => exact h.mark 0 (by omega)
/-- The way ended outside, or at a node that doesn't stand within i: none of it does. -/
theorem W2.no {l : List Nd} {i : Int} {K0 K I : List Bool} {k m : Nat} (hW : WI l i K0 I k) (h : W2 l (k : Int) K0 K m) (hk : k < l.length) (hend : placeB l (itN l k m) = true → K.getD (itN l k m).toNat false = true)
    (hno : placeB l (itN l k m) = true → I.getD (itN l k m).toNat false = false) : WI l i K I (k + 1) := by
  have key : ∀ x, Within l i x → (∃ a, a < m ∧ itN l k a = x) → False := by
    intro x hx
    induction hx with
    | here _ =>
      rintro ⟨a, ha, e⟩
      have := (h.fresh a ha).2
      rw [e, hW.ki] at this
      cases this
    | up hp hw ih =>
      rintro ⟨a, ha, rfl⟩
      by_cases e : a + 1 < m
      · exact ih ⟨a + 1, e, rfl⟩
      · obtain rfl : m = a + 1 := by omega
        have hpl := hw.place
        have h1 := hend hpl
        have h2 := hno hpl
        have hpl' := place_iff.1 hpl
        rcases h.new _ h1 with h3 | ⟨b, hb, e2⟩
        · have hc : ((itN l k (a + 1)).toNat : Int) = itN l k (a + 1) := Int.toNat_of_nonneg hpl'.1
          have := (hW.ok (itN l k (a + 1)).toNat (by have : itN l k (a + 1) < l.length := hpl'.2; omega) h3).2 (by rw [hc]; exact hw)
          rw [this] at h2
          cases h2
        · exact ih ⟨b, hb, by rw [e2]; exact Int.toNat_of_nonneg hpl'.1⟩
  refine ⟨h.len, hW.li, h.old _ hW.ki, fun j hj => h.old j (hW.sub j hj), fun j hj h1 => ?_, fun j hj => ?_⟩
  · rcases h.new j h1 with h2 | ⟨a, ha, e⟩
    · exact hW.ok j hj h2
    · refine ⟨fun h3 => ?_, fun h3 => (key _ h3 ⟨a, ha, e⟩).elim⟩
      have := (h.fresh a ha).2
      rw [e, Int.toNat_natCast, hW.sub j h3] at this
      cases this
  · by_cases e : j = k
    · subst e; exact h.first hk hend
    · exact h.old j (hW.done j (by omega))
/-- What of the way is told to stand within i: its first c nodes. -/
structure W3 (l : List Nd) (f : Int) (I0 I : List Bool) (m c : Nat) : Prop where
  len : I.length = l.length
  le : c ≤ m
  old : ∀ j, I0.getD j false = true → I.getD j false = true
  new : ∀ j, I.getD j false = true → I0.getD j false = true ∨ ∃ a, a < c ∧ itN l f a = (j : Int)
  mark : ∀ a, a < c → I.getD (itN l f a).toNat false = true
theorem W3.start {l : List Nd} {f : Int} {I : List Bool} {m : Nat} (h : I.length = l.length) : W3 l f I I m 0 :=
  ⟨h, Nat.zero_le _, fun _ h => h, fun _ h => Or.inl h, fun a h => by omega⟩
section
variable {l : List Nd} {i : Int} {K0 K I I' : List Bool} {k m c : Nat}
theorem W3.place (_hW : WI l i K0 I k) (h2 : W2 l (k : Int) K0 K m) (h : W3 l (k : Int) I I' m c) (hp : placeB l (itN l k m) = true) : placeB l (itN l k c) = true := by
  by_cases e : c = m
  · rw [e]; exact hp
  · exact (h2.fresh c (by have := h.le; omega)).1
theorem W3.lt (h : W3 l (k : Int) I I' m c) (hin : I.getD (itN l k m).toNat false = true) (hc : I'.getD (itN l k c).toNat false = false) : c < m := by
  by_cases e : c = m
  · subst e
    rw [h.old _ hin] at hc
    cases hc
  · have := h.le; omega
theorem W3.step (h2 : W2 l (k : Int) K0 K m) (h : W3 l (k : Int) I I' m c) (hc : c < m) : W3 l (k : Int) I (I'.set (itN l k c).toNat true) m (c + 1) := by
  have hp := place_iff.1 (h2.fresh c hc).1
  refine ⟨by simp [h.len], by omega, fun j hj => ?_, fun j hj => ?_, fun a ha => ?_⟩
  · rw [getD_set]
    split
    · rfl
    · exact h.old j hj
  · rw [getD_set] at hj
    split at hj
    · exact Or.inr ⟨c, by omega, by omega⟩
    · rcases h.new j hj with e | ⟨a, ha, e⟩
      · exact Or.inl e
      · exact Or.inr ⟨a, by omega, e⟩
  · rw [getD_set]
    split
    · rfl
    · rename_i e
      by_cases e2 : a = c
      · subst e2
        exact absurd ⟨rfl, by rw [h.len]; omega⟩ e
      · exact h.mark a (by omega)
/-- It stops behind the whole way. -/
theorem W3.whole (hW : WI l i K0 I k) (h2 : W2 l (k : Int) K0 K m) (h : W3 l (k : Int) I I' m c) (hc : I'.getD (itN l k c).toNat false = true) : c = m := by
  by_cases e : c = m
  · exact e
  · exfalso
    have hcm : c < m := by have := h.le; omega
    have hf := h2.fresh c hcm
    have hp := place_iff.1 hf.1
    rcases h.new _ hc with h3 | ⟨a, ha, e2⟩
    · rw [hW.sub _ h3] at hf
      cases hf.2
    · refine h2.dist a c ha hcm ?_
      rw [e2]
      exact Int.toNat_of_nonneg hp.1
theorem W3.yes (hW : WI l i K0 I k) (h2 : W2 l (k : Int) K0 K m) (h : W3 l (k : Int) I I' m m) (hk : k < l.length) (hp : placeB l (itN l k m) = true) (hkn : K.getD (itN l k m).toNat false = true) (hin : I.getD (itN l k m).toNat false = true) : WI l i K I' (k + 1) := by
  have hp' := place_iff.1 hp
  have hm : Within l i (itN l k m) := by
    have := (hW.ok (itN l k m).toNat (by omega) (hW.sub _ hin)).1 hin
    rwa [Int.toNat_of_nonneg hp'.1] at this
  have hall : ∀ d a, a + d = m → Within l i (itN l k a) := by
    intro d
    induction d with
    | zero => intro a e; obtain rfl : a = m := by omega
              exact hm
    | succ d ih => intro a e; exact .up (h2.fresh a (by omega)).1 (ih (a + 1) (by omega))
  refine ⟨h2.len, h.len, h2.old _ hW.ki, fun j hj => ?_, fun j hj h1 => ?_, fun j hj => ?_⟩
  · rcases h.new j hj with e | ⟨a, ha, e⟩
    · exact h2.old j (hW.sub j e)
    · have := h2.mark a ha
      rw [e, Int.toNat_natCast] at this
      exact this
  · rcases h2.new j h1 with h3 | ⟨a, ha, e⟩
    · refine ⟨fun h4 => ?_, fun h4 => h.old j ((hW.ok j hj h3).2 h4)⟩
      rcases h.new j h4 with h5 | ⟨a, ha, e⟩
      · exact (hW.ok j hj h3).1 h5
      · rw [← e]; exact hall (m - a) a (by omega)
    · refine ⟨fun _ => ?_, fun _ => ?_⟩
      · rw [← e]; exact hall (m - a) a (by omega)
      · have := h.mark a ha
        rw [e, Int.toNat_natCast] at this
        exact this
  · by_cases e : j = k
    · subst e; exact h2.first hk fun _ => hkn
    · exact h2.old j (hW.done j (by omega))
end
/-- In the end: just what stands within i. -/
theorem WI.ends {l : List Nd} {i : Int} {K I : List Bool} (h : WI l i K I l.length) : I = (List.range l.length).map fun j : Nat => winB l i (j : Int) := by
  refine List.ext_getElem (by simp [h.li]) fun j h1 h2 => ?_
  have hj : j < l.length := by rw [← h.li]; exact h1
  have := h.ok j hj (h.done j hj)
  rw [List.getElem_map, List.getElem_range]
  rw [show I.getD j false = I[j] by simp [List.getD, h1]] at this
  rw [Bool.eq_iff_iff, winB_iff]
  exact this
end Go.Proofs.YtodocdbnflmgnaaDoor
