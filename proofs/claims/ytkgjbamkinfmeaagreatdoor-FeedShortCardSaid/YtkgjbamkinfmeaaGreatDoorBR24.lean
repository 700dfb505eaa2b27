/- Layer 14, plain: how the owners are found, each node gone through once; the places within a part. -/
import Derived.Test.YtkgjbamkinfmeaaGreatDoorBR19
import Derived.Test.YtkgjbamkinfmeaaGreatDoorBR16
import Derived.Test.YtkgjbamkinfmeaaGreatDoorBR02
import Derived.Test.YtkgjbamkinfmeaaGreatDoorBR23
namespace Go.Proofs.YtkgjbamkinfmeaaGreatDoor

theorem getD_setI (O : List Int) (a j : Nat) (v d : Int) : (O.set a v).getD j d = if a = j ∧ a < O.length then v else O.getD j d := by
  by_cases e : a = j
  · subst e
    by_cases h : a < O.length
    · simp [List.getD, h]
    · simp [List.getD, h]
  · simp [List.getD, e]
/-- Of which nodes the owner is known. -/
def kn (O : List Int) : List Bool := O.map fun v => decide (v ≠ -2)
theorem kn_at (O : List Int) (j : Nat) : (kn O).getD j false = decide (O.getD j (-2) ≠ -2) := by
  unfold kn
  rw [List.getD, List.getD, List.getElem?_map]
  cases O[j]? <;> simp
theorem kn_set (O : List Int) (a : Nat) (v : Int) (hv : v ≠ -2) : kn (O.set a v) = (kn O).set a true := by
  unfold kn
  rw [List.map_set]
  simp [hv]
theorem kn_len (O : List Int) : (kn O).length = O.length := by unfold kn; simp
/-- The items themselves, t of them. -/
structure SI (l : List Nd) (S O : List Int) (t : Nat) : Prop where
  len : O.length = l.length
  ok : ∀ j, j < l.length → (O.getD j (-2) = -2 ∧ ∀ i, i < t → S.getD i 0 ≠ (j : Int)) ∨ ∃ i, i < t ∧ O.getD j (-2) = (i : Int) ∧ S.getD i 0 = (j : Int)
theorem SI.zero (l : List Nd) (S : List Int) : SI l S (List.replicate l.length (-2)) 0 := ⟨by simp, fun j hj => Or.inl ⟨by simp [List.getD, hj], fun i hi => by omega⟩⟩
theorem SI.step {l : List Nd} {S O : List Int} {t p : Nat} (h : SI l S O t) (hp : p < l.length) (e : S.getD t 0 = (p : Int)) : SI l S (O.set p (t : Int)) (t + 1) := by
  refine ⟨by rw [List.length_set, h.len], fun j hj => ?_⟩
  rw [getD_setI]
  by_cases hjp : p = j
  · subst hjp
    rw [if_pos ⟨rfl, by rw [h.len]; exact hp⟩]
    exact Or.inr ⟨t, by omega, rfl, e⟩
  · rw [if_neg (fun h => hjp h.1)]
    rcases h.ok j hj with ⟨h1, h2⟩ | ⟨i, h1, h2, h3⟩
    · refine Or.inl ⟨h1, fun i hi => ?_⟩
      by_cases hit : i = t
      · subst hit; rw [e]; omega
      · exact h2 i (by omega)
    · exact Or.inr ⟨i, by omega, h2, h3⟩
/-- What is known of the owners, behind k of the places. -/
structure OW (l : List Nd) (S O : List Int) (k : Nat) : Prop where
  len : O.length = l.length
  ok : ∀ j, j < l.length → O.getD j (-2) ≠ -2 → (O.getD j (-2) = -1 ∧ ∀ p, ¬ Near l S (j : Int) p) ∨ ∃ i, i < S.length ∧ O.getD j (-2) = (i : Int) ∧ Near l S (j : Int) (S.getD i 0)
  item : ∀ j, j < l.length → O.getD j (-2) = -2 → (j : Int) ∉ S
  done : ∀ j, j < k → O.getD j (-2) ≠ -2
theorem mem_getD {S : List Int} {i : Nat} (h : i < S.length) : S.getD i 0 ∈ S := by
  have : S.getD i 0 = S[i] := by simp [List.getD, h]
  rw [this]; exact List.getElem_mem h
theorem SI.start {l : List Nd} {S O : List Int} (h : SI l S O S.length) : OW l S O 0 := by
  refine ⟨h.len, fun j hj hk => ?_, fun j hj hk hm => ?_, fun j hj => by omega⟩
  · rcases h.ok j hj with ⟨h1, _⟩ | ⟨i, h1, h2, h3⟩
    · exact absurd h1 hk
    · refine Or.inr ⟨i, h1, h2, ?_⟩
      rw [h3]
      exact .here (place_nat hj) (by rw [← h3]; exact mem_getD h1)
  · rcases h.ok j hj with ⟨_, h2⟩ | ⟨i, h1, h2, h3⟩
    · obtain ⟨i, hi, e⟩ := List.mem_iff_getElem.1 hm
      exact h2 i hi (by simp [List.getD, hi, e])
    · omega
theorem OW.ends {l : List Nd} {S O : List Int} {k : Nat} (h : OW l S O k) (hk : l.length ≤ k) : Own l S O := ⟨h.len, fun j hj => h.ok j hj (h.done j (by omega))⟩
/-- The way up from f, m nodes long, all of them new: nobody's, till its end is known. -/
structure V2 (l : List Nd) (f : Int) (O0 O : List Int) (m : Nat) : Prop where
  w : W2 l f (kn O0) (kn O) m
  len : O.length = l.length
  old : ∀ j, O0.getD j (-2) ≠ -2 → O.getD j (-2) = O0.getD j (-2)
  neg : ∀ a, a < m → O.getD (itN l f a).toNat (-2) = -1
theorem V2.start {l : List Nd} {f : Int} {O : List Int} (h : O.length = l.length) : V2 l f O O 0 := ⟨W2.start (by rw [kn_len, h]), h, fun _ _ => rfl, fun a h => by omega⟩
theorem V2.step {l : List Nd} {f : Int} {O0 O : List Int} {m : Nat} (h : V2 l f O0 O m) (hp : placeB l (itN l f m) = true) (hk : O.getD (itN l f m).toNat (-2) = -2) : V2 l f O0 (O.set (itN l f m).toNat (-1)) (m + 1) := by
  have hp' := place_iff.1 hp
  refine ⟨?_, by rw [List.length_set, h.len], fun j hj => ?_, fun a ha => ?_⟩
  · rw [kn_set _ _ _ (by decide)]
    exact h.w.step hp (by rw [kn_at, hk]; decide)
  · rw [getD_setI]
    split
    · rename_i e
      have := h.old j hj
      rw [← e.1, hk] at this
      rw [← e.1] at hj
      exact absurd this.symm hj
    · exact h.old j hj
  · rw [getD_setI]
    split
    · rfl
    · rename_i e
      by_cases e2 : a = m
      · subst e2
        exact absurd ⟨rfl, by rw [h.len]; omega⟩ e
      · exact h.neg a (by omega)
section
variable {l : List Nd} {S O0 O O' : List Int} {k m c : Nat} {v : Int}
theorem V2.fresh (h : V2 l (k : Int) O0 O m) {a : Nat} (ha : a < m) : placeB l (itN l k a) = true ∧ O0.getD (itN l k a).toNat (-2) = -2 := by
  have := h.w.fresh a ha
  rw [kn_at] at this
  exact ⟨this.1, by simpa using this.2⟩
theorem V2.off_item (hW : OW l S O0 k) (h : V2 l (k : Int) O0 O m) {a : Nat} (ha : a < m) : itN l k a ∉ S := by
  have hf := h.fresh ha
  have hp := place_iff.1 hf.1
  have := hW.item (itN l k a).toNat (by omega) hf.2
  rwa [Int.toNat_of_nonneg hp.1] at this
/-- What is near the end of the way, is near all of it. -/
theorem V2.near_path (hW : OW l S O0 k) (h : V2 l (k : Int) O0 O m) {p : Int} (hn : Near l S (itN l k m) p) : ∀ d a, a + d = m → Near l S (itN l k a) p := by
  intro d
  induction d with
  | zero => intro a e; obtain rfl : a = m := by omega
            exact hn
  | succ d ih => intro a e; exact .up (h.fresh (by omega)).1 (h.off_item hW (by omega)) (ih (a + 1) (by omega))
theorem V2.near_down (hW : OW l S O0 k) (h : V2 l (k : Int) O0 O m) {p : Int} : ∀ d a, a + d = m → Near l S (itN l k a) p → Near l S (itN l k m) p := by
  intro d
  induction d with
  | zero => intro a e hn; obtain rfl : a = m := by omega
            exact hn
  | succ d ih =>
    intro a e hn
    cases hn with
    | here _ hm => exact absurd hm (h.off_item hW (by omega))
    | up _ _ hn => exact ih (a + 1) (by omega) hn
theorem V2.ring (hW : OW l S O0 k) (h : V2 l (k : Int) O0 O m) {b : Nat} (hb : b < m) (e : itN l k b = itN l k m) : ∀ x p, Near l S x p → ∀ a, a < m → x = itN l k a → False := by
  intro x p hn
  induction hn with
  | here _ hm => intro a ha e2; subst e2; exact h.off_item hW ha hm
  | up _ _ _ ih =>
    intro a ha e2
    subst e2
    by_cases e3 : a + 1 < m
    · exact ih (a + 1) e3 rfl
    · obtain rfl : m = a + 1 := by omega
      exact ih b hb e.symm
theorem V2.out (hW : OW l S O0 k) (h : V2 l (k : Int) O0 O m) (hk : k < l.length) (hend : placeB l (itN l k m) = false) : OW l S O (k + 1) := by
  have key : ∀ a, a < m → ∀ p, ¬ Near l S (itN l k a) p := fun a ha p hn => by
    have := (h.near_down hW (m - a) a (by omega) hn).place
    rw [hend] at this; cases this
  refine ⟨h.len, fun j hj hk2 => ?_, fun j hj h1 => ?_, fun j hj => ?_⟩
  · by_cases h0 : O0.getD j (-2) = -2
    · have hkn : (kn O).getD j false = true := by rw [kn_at]; simpa using hk2
      rcases h.w.new j hkn with e | ⟨a, ha, e⟩
      · rw [kn_at] at e; simp at e; exact absurd h0 (by simpa [List.getD] using e)
      · have hn := h.neg a ha
        rw [e, Int.toNat_natCast] at hn
        exact Or.inl ⟨hn, fun p hp => key a ha p (by rw [e]; exact hp)⟩
    · rw [h.old j h0]
      exact hW.ok j hj h0
  · refine hW.item j hj ?_
    by_cases h0 : O0.getD j (-2) = -2
    · exact h0
    · rw [h.old j h0] at h1; exact h1
  · by_cases e : j = k
    · subst e
      cases m with
      | zero => rw [show itN l (j : Int) 0 = (j : Int) from rfl, place_nat hk] at hend; cases hend
      | succ m => have := h.neg 0 (by omega); rw [show itN l (j : Int) 0 = (j : Int) from rfl, Int.toNat_natCast] at this; rw [this]; decide
    · have := hW.done j (by omega)
      rw [h.old j this]; exact this
/-- What of the way has its owner: its first c nodes. -/
structure V3 (l : List Nd) (f : Int) (O O' : List Int) (m c : Nat) (v : Int) : Prop where
  len : O'.length = l.length
  le : c ≤ m
  val : ∀ a, a < c → O'.getD (itN l f a).toNat (-2) = v
  off : ∀ j : Nat, (∀ a, a < c → itN l f a ≠ (j : Int)) → O'.getD j (-2) = O.getD j (-2)
theorem V3.start {f : Int} (h : O.length = l.length) : V3 l f O O m 0 v := ⟨h, Nat.zero_le _, fun a h => by omega, fun _ _ => rfl⟩
theorem V3.cur (h : V3 l (k : Int) O O' m c (O.getD (itN l k m).toNat (-2))) (hp : placeB l (itN l k m) = true) : O'.getD (itN l k m).toNat (-2) = O.getD (itN l k m).toNat (-2) := by
  by_cases e : ∃ a, a < c ∧ itN l k a = itN l k m
  · obtain ⟨a, ha, e⟩ := e
    have := h.val a ha
    rw [e] at this; exact this
  · refine h.off _ fun a ha e2 => e ⟨a, ha, ?_⟩
    have := place_iff.1 hp
    omega
theorem V3.step (h2 : V2 l (k : Int) O0 O m) (h : V3 l (k : Int) O O' m c v) (hc : c < m) : V3 l (k : Int) O (O'.set (itN l k c).toNat v) m (c + 1) v := by
  have hp := place_iff.1 (h2.fresh hc).1
  refine ⟨by rw [List.length_set, h.len], by omega, fun a ha => ?_, fun j hj => ?_⟩
  · rw [getD_setI]
    split
    · rfl
    · rename_i e
      by_cases e2 : a = c
      · subst e2
        exact absurd ⟨rfl, by rw [h.len]; omega⟩ e
      · exact h.val a (by omega)
  · rw [getD_setI, if_neg]
    · exact h.off j fun a ha => hj a (by omega)
    · rintro ⟨e, _⟩
      exact hj c (by omega) (by omega)
theorem V3.lt (h : V3 l (k : Int) O O' m c v) (hc : itN l k c ≠ itN l k m) : c < m := by
  have := h.le
  by_cases e : c = m
  · subst e; exact absurd rfl hc
  · omega
/-- The whole way has its end's owner. -/
theorem V3.ends (hW : OW l S O0 k) (h2 : V2 l (k : Int) O0 O m) (h : V3 l (k : Int) O O' m c (O.getD (itN l k m).toNat (-2))) (hk : k < l.length) (hp : placeB l (itN l k m) = true) (hkn : O.getD (itN l k m).toNat (-2) ≠ -2) (hc : itN l k c = itN l k m) : OW l S O' (k + 1) := by
  have hp' := place_iff.1 hp
  have hcast : ((itN l k m).toNat : Int) = itN l k m := by omega
  -- each node of the way has v, and v is right for it
  have hall : (∀ a, a < m → O'.getD (itN l k a).toNat (-2) = O.getD (itN l k m).toNat (-2)) ∧ (∀ a, a < m → (O.getD (itN l k m).toNat (-2) = -1 ∧ ∀ p, ¬ Near l S (itN l k a) p) ∨ ∃ i, i < S.length ∧ O.getD (itN l k m).toNat (-2) = (i : Int) ∧ Near l S (itN l k a) (S.getD i 0)) := by
    by_cases h0 : O0.getD (itN l k m).toNat (-2) = -2
    · have hnew : (kn O).getD (itN l k m).toNat false = true := by rw [kn_at]; simpa using hkn
      rcases h2.w.new _ hnew with e | ⟨b, hb, e⟩
      · rw [kn_at] at e; simp at e; exact absurd h0 (by simpa [List.getD] using e)
      · rw [hcast] at e
        have hv : O.getD (itN l k m).toNat (-2) = -1 := by rw [← e]; exact h2.neg b hb
        refine ⟨fun a ha => ?_, fun a ha => Or.inl ⟨hv, fun p hn => h2.ring hW hb e _ p hn a ha rfl⟩⟩
        by_cases hac : a < c
        · exact h.val a hac
        · have hpa := place_iff.1 (h2.fresh ha).1
          rw [h.off _ fun a' ha' e2 => h2.w.dist a' a (by omega) ha (by omega), h2.neg a ha, hv]
    · have hcm : c = m := by
        have := h.le
        by_cases e : c = m
        · exact e
        · have := (h2.fresh (a := c) (by omega)).2
          rw [hc] at this
          exact absurd this h0
      subst hcm
      refine ⟨fun a ha => h.val a ha, fun a ha => ?_⟩
      have hv := h2.old _ h0
      have hok := hW.ok (itN l k c).toNat (by omega) h0
      rw [hcast, ← hv] at hok
      rcases hok with ⟨h3, h4⟩ | ⟨i, h3, h4, h5⟩
      · exact Or.inl ⟨h3, fun p hn => h4 p (h2.near_down hW (c - a) a (by omega) hn)⟩
      · exact Or.inr ⟨i, h3, h4, h2.near_path hW h5 (c - a) a (by omega)⟩
  have hoff : ∀ j : Nat, (∀ a, a < m → itN l k a ≠ (j : Int)) → O'.getD j (-2) = O0.getD j (-2) := fun j hj => by
    rw [h.off j fun a ha => hj a (by have := h.le; omega)]
    by_cases h0 : O0.getD j (-2) = -2
    · rw [h0]
      by_cases h1 : O.getD j (-2) = -2
      · exact h1
      · have hnew : (kn O).getD j false = true := by rw [kn_at]; simpa using h1
        rcases h2.w.new _ hnew with e | ⟨b, hb, e⟩
        · rw [kn_at] at e; simp at e; exact absurd h0 (by simpa [List.getD] using e)
        · exact absurd e (hj b hb)
    · exact h2.old j h0
  have hcase : ∀ j : Nat, (∃ a, a < m ∧ itN l k a = (j : Int)) ∨ ∀ a, a < m → itN l k a ≠ (j : Int) := fun j => by
    by_cases e : ∃ a, a < m ∧ itN l k a = (j : Int)
    · exact Or.inl e
    · exact Or.inr fun a ha e2 => e ⟨a, ha, e2⟩
  refine ⟨h.len, fun j hj hk2 => ?_, fun j hj h1 => ?_, fun j hj => ?_⟩
  · rcases hcase j with ⟨a, ha, e⟩ | hno
    · have h3 := hall.1 a ha
      have h4 := hall.2 a ha
      rw [e, Int.toNat_natCast] at h3
      rw [e] at h4
      rw [h3]; exact h4
    · rw [hoff j hno] at hk2 ⊢
      exact hW.ok j hj hk2
  · rcases hcase j with ⟨a, ha, e⟩ | hno
    · have h3 := h2.off_item hW ha
      rw [e] at h3; exact h3
    · rw [hoff j hno] at h1
      exact hW.item j hj h1
  · rcases hcase j with ⟨a, ha, e⟩ | hno
    · have h3 := hall.1 a ha
      rw [e, Int.toNat_natCast] at h3
      rw [h3]; exact hkn
    · rw [hoff j hno]
      by_cases e : j = k
      · subst e
        cases m with
        | zero =>
          have h3 : itN l (j : Int) 0 = (j : Int) := rfl
          have h4 := h2.w
          by_cases h0 : O0.getD j (-2) = -2
          · exfalso
            rw [h3, Int.toNat_natCast] at hkn
            have hnew : (kn O).getD j false = true := by rw [kn_at]; simpa using hkn
            rcases h2.w.new _ hnew with e | ⟨b, hb, _⟩
            · rw [kn_at] at e; simp at e; exact absurd h0 (by simpa [List.getD] using e)
            · omega
          · exact h0
        | succ m => exact absurd rfl (hno 0 (by omega))
      · exact hW.done j (by omega)
end
/-- A node's owner, if it isn't an item's number, is -1. -/
theorem Own.val {l : List Nd} {S O : List Int} (h : Own l S O) {j : Nat} (hj : j < l.length) : O.getD j (-2) = -1 ∨ ∃ i, i < S.length ∧ O.getD j (-2) = (i : Int) := by
  rcases h.ok j hj with ⟨e, _⟩ | ⟨i, h1, h2, _⟩
  · exact Or.inl e
  · exact Or.inr ⟨i, h1, h2⟩
theorem Own.self {l : List Nd} {S O : List Int} (h : Own l S O) (hn : S.Nodup) (hp : ∀ x ∈ S, placeB l x = true) {i s : Nat} (hi : i < S.length) (e : S.getD i 0 = (s : Int)) : O.getD s (-2) = (i : Int) := by
  have hm := mem_getD hi
  have hpl := hp _ hm
  have hs := place_iff.1 hpl
  rw [e] at hs hm hpl
  rw [h.iff hn hi (by omega), e]
  exact .here hpl hm
/-- The places, t of them known; how many nodes each owner has among those. -/
def plL (O : List Int) (t : Nat) : List Int := (List.range O.length).map fun j => if j < t ∧ O.getD j (-2) ≠ -1 then (plN O j : Int) else 0
def szL (O : List Int) (many t : Nat) : List Int := (List.range many).map fun k : Nat => ((ownL O (k : Int) t).length : Int)
theorem plL_zero (O : List Int) : plL O 0 = List.replicate O.length 0 := by
  unfold plL
  refine List.ext_getElem (by simp) fun i h1 h2 => by simp
theorem szL_zero (O : List Int) (many : Nat) : szL O many 0 = List.replicate many 0 := by
  unfold szL
  refine List.ext_getElem (by simp) fun i h1 h2 => by simp [ownL]
theorem plL_at {O : List Int} {t j : Nat} (hj : j < O.length) : (plL O t)[j]? = some (if j < t ∧ O.getD j (-2) ≠ -1 then (plN O j : Int) else 0) := by
  unfold plL; simp [hj]
theorem szL_at {O : List Int} {many t k : Nat} (hk : k < many) : (szL O many t)[k]? = some ((ownL O (k : Int) t).length : Int) := by
  unfold szL; simp [hk]
theorem plL_none {O : List Int} {t : Nat} (h : O.getD t (-2) = -1) : plL O (t + 1) = plL O t := by
  unfold plL
  refine List.map_congr_left fun j _ => ?_
  by_cases e : j = t
  · subst e; rw [if_neg (fun x => x.2 h), if_neg (fun x => x.2 h)]
  · have : (j < t + 1 ∧ O.getD j (-2) ≠ -1) ↔ (j < t ∧ O.getD j (-2) ≠ -1) := by
      constructor <;> rintro ⟨a, b⟩ <;> exact ⟨by omega, b⟩
    simp only [this]
theorem szL_none {O : List Int} {many t : Nat} (h : O.getD t (-2) = -1) : szL O many (t + 1) = szL O many t := by
  unfold szL
  refine List.map_congr_left fun k _ => ?_
  rw [ownL_succ, if_neg (by omega), List.append_nil]
theorem plL_some {O : List Int} {t : Nat} (ht : t < O.length) (h : O.getD t (-2) ≠ -1) : plL O (t + 1) = (plL O t).set t (plN O t : Int) := by
  refine List.ext_getElem? fun j => ?_
  rw [List.getElem?_set]
  by_cases hj : j < O.length
  · rw [plL_at hj, plL_at hj]
    have hl : (plL O t).length = O.length := by unfold plL; simp
    by_cases e : t = j
    · subst e
      rw [if_pos ⟨by omega, h⟩, if_pos rfl, hl, if_pos ht]
    · rw [if_neg e]
      have : (j < t + 1 ∧ O.getD j (-2) ≠ -1) ↔ (j < t ∧ O.getD j (-2) ≠ -1) := by
        constructor <;> rintro ⟨a, b⟩ <;> exact ⟨by omega, b⟩
      simp only [this]
  · rw [if_neg (by omega), List.getElem?_eq_none (by unfold plL; simp; omega), List.getElem?_eq_none (by unfold plL; simp; omega)]
theorem szL_some {O : List Int} {many t k : Nat} (h : O.getD t (-2) = (k : Int)) : szL O many (t + 1) = (szL O many t).set k (((ownL O (k : Int) t).length : Int) + 1) := by
  refine List.ext_getElem? fun j => ?_
  rw [List.getElem?_set]
  by_cases hj : j < many
  · rw [szL_at hj, szL_at hj, ownL_succ]
    have hl : (szL O many t).length = many := by unfold szL; simp
    by_cases e : k = j
    · subst e
      rw [if_pos h, if_pos rfl, hl, if_pos hj]
      simp
    · rw [if_neg (by omega), if_neg e, List.append_nil]
  · rw [List.getElem?_eq_none (by unfold szL; simp; omega)]
    split
    · rw [if_neg (by unfold szL; simp; omega)]
    · rw [List.getElem?_eq_none (by unfold szL; simp; omega)]
theorem plN_eq {O : List Int} {t k : Nat} (h : O.getD t (-2) = (k : Int)) : plN O t = (ownL O (k : Int) t).length := by unfold plN; rw [h]
theorem ownL_len (O : List Int) (k : Int) (t : Nat) : (ownL O k t).length ≤ t := by
  unfold ownL
  exact Nat.le_trans (List.length_filter_le _ _) (by simp)
theorem sum_filter {α : Type} (p : α → Bool) (f : α → Nat) : ∀ L : List α, ((L.filter p).map f).sum ≤ (L.map f).sum
  | [] => Nat.le_refl _
  | x :: t => by
    have := sum_filter p f t
    rw [List.filter_cons]
    split <;> simp <;> omega
theorem piece_sum (l : List Nd) (O : List Int) (k : Int) (s : Nat) : sumT (pieceB l O k s l.length) ≤ sumT l := by
  have h1 : sumT (pieceB l O k s l.length) = ((ownL O k l.length).map fun j => (l.getD j nd0).text.length).sum := by
    unfold sumT pieceB
    rw [List.map_map]
    rfl
  rw [h1]
  unfold ownL
  refine Nat.le_trans (sum_filter _ _ _) ?_
  rw [sum_getD l l.length (Nat.le_refl _), List.take_length]
  exact Nat.le_refl _
end Go.Proofs.YtkgjbamkinfmeaaGreatDoor

/- Layer 14: the owners in memory. -/
namespace Go.Proofs.YtkgjbamkinfmeaaGreatDoor
open Go.RowKit

def intV (O : List Int) : List Value := O.map (Value.int .i64)
/-- A row of numbers that the call made. -/
structure Om (w0 : World) (g : Nat) (O : List Int) (w : World) : Prop where
  row : ArrAt w g 3 (intV O)
  below : Below w0.heap.size w0 w
  low : w0.heap.size ≤ g
section
variable {w0 w w' : World} {g : Nat} {O : List Int}
theorem Om.cell (h : Om w0 g O w) {j : Nat} (hj : j < O.length) (d : Int) : w.cell? ⟨g, j, none⟩ = some (.int .i64 (O.getD j d)) ∧ w.frozen? ⟨g, j, none⟩ = false :=
  ⟨by rw [h.row.cell]; unfold intV; simp [List.getD, hj], h.row.soft j⟩
theorem Om.set (h : Om w0 g O w) (j : Nat) (v : Int) : Om w0 g (O.set j v) (w.setCell ⟨g, j, none⟩ (.int .i64 v)) :=
  ⟨by unfold intV; rw [List.map_set]; exact h.row.set j _, h.below.setCell (p := ⟨g, j, none⟩) h.low _, h.low⟩
theorem Om.next (h : Om w0 g O w) (hb : Below w.heap.size w w') : Om w0 g O w' :=
  ⟨h.row.next hb, h.below.trans (hb.mono h.below.size), h.low⟩
end
/-- How many cells of a row are -2 yet. -/
def isU : Value → Bool
  | .int .i64 (-2) => true
  | _ => false
def unks (w : World) (g : Nat) : Nat :=
  match w.heap[g]? with
  | some (.cells c _ _) => c.toList.countP isU
  | _ => 0
theorem unks_at {w : World} {g : Nat} {t : TypeId} {c : List Value} (h : ArrAt w g t c) : unks w g = c.countP isU := by
  unfold ArrAt at h
  unfold unks
  rw [h]
theorem unk_set : ∀ (O : List Int) (j : Nat), j < O.length → O.getD j (-2) = -2 → (intV (O.set j (-1))).countP isU < (intV O).countP isU
  | [], j, h, _ => by simp at h
  | b :: t, 0, _, h => by
    obtain rfl : b = -2 := h
    simp [intV, isU]
  | b :: t, j + 1, h, h2 => by
    have := unk_set t j (by simpa using h) (by simpa [List.getD] using h2)
    unfold intV at this ⊢
    rw [List.set_cons_succ, List.map_cons, List.map_cons, List.countP_cons, List.countP_cons]
    omega
/-- Where a node stands on the way first. -/
def posN (l : List Nd) (f : Int) (m : Nat) (x : Int) : Nat := (List.range (m + 1)).findIdx fun a => decide (itN l f a = x)
theorem posN_eq {l : List Nd} {f : Int} {m c : Nat} (hc : c ≤ m) (h : ∀ a, a < c → itN l f a ≠ itN l f c) : posN l f m (itN l f c) = c := by
  unfold posN
  have hlen : c < (List.range (m + 1)).length := by simp; omega
  rw [List.findIdx_eq hlen]
  refine ⟨by simp, fun j hj => ?_⟩
  simp only [List.getElem_range, decide_eq_false_iff_not]
  exact h j hj
/-- What owners answers. -/
def OwnersPost (P : List (Nd × Value)) (S : List Int) (w : World) (e : Ending) (w' : World) : Prop :=
  ∃ g O, e = .returned (.slice (some ⟨g, 0, none⟩) P.length P.length) ∧ Hid (Om w g O w') ∧ Hid (Own (nodes P) S O)

set_option maxRecDepth 100000 in
set_option maxHeartbeats 8000000 in
theorem owners14_any (P : List (Nd × Value)) (v u : Value) (S : List Int) (w : World) (h : NdSl w v P) (hu : RdSl .i64 w u S) (h0 : 0 < P.length) (hn : P.length ≤ 1000000) (hS : ∀ x ∈ S, placeB (nodes P) x = true) (hSn : S.length ≤ 1000000) :
    Calls Tryz.prog 126 #[v, u] w (OwnersPost P S w) := by
  have hnl := nodes_len P
  obtain ⟨b, off, cap, hcap, hbl, rfl, hcl⟩ := h.some h0
  have hx := fun W : World => repeat_any (-2) P.length 1 W.heap.size 0 (W.alloc (.cells [Value.int .i64 (-2)].toArray 3)) h0 (by omega) (by rw [(arrAt_new W 3 [Value.int .i64 (-2)]).cell]; rfl)
  obtain ⟨ua, uc, hue⟩ : ∃ ua uc, u = .slice ua S.length uc := by
    rcases hu.sl with ⟨rfl, a, c, rfl⟩ | ⟨b, off, c, rfl, _⟩
    · exact ⟨a, c, rfl⟩
    · exact ⟨_, c, rfl⟩
  have hcells : ∀ W, Below w.heap.size w W → ∀ j, j < S.length → ∃ ub uo, ua = some ⟨ub, uo, none⟩ ∧ W.cell? ⟨ub, uo + j, none⟩ = some (.int .i64 (S.getD j 0)) := fun W hb j hj => by
    rcases (hu.next hb).sl with ⟨rfl, _⟩ | ⟨ub, uo, c, e, hc⟩
    · simp at hj
    · rw [hue] at e
      injection e with e1 e2 e3
      exact ⟨ub, uo, e1, hc j hj⟩
  clear hu
  subst hue
  replace hcl := Lib.hid hcl
  replace hnl := Lib.hid hnl
  replace hx := Lib.hid hx
  replace hcells := Lib.hid hcells
  replace hS := Lib.hid hS
  go_enter Tryz.func126, Tryz.ntmps126
  go_wp2_with fail
  refine (hx.out _).mono ?_
  rintro e w1 ⟨g, rfl, hrow, hg, hb1⟩
  have hm0 : Hid (Om w g (List.replicate P.length (-2)) w1) := ⟨by unfold intV; rw [List.map_replicate]; exact hrow, ((Below.refl w.heap.size w).alloc (Nat.le_refl _) _).trans (hb1.mono (by simp)), by simp at hg; omega⟩
  have hs0 : Hid (SI (nodes P) S (List.replicate P.length (-2)) 0) := by have := SI.zero (nodes P) S; rw [hnl.out] at this; exact this
  clear hrow hb1 hx hg
  go_wp2_with fail
  go_loopw [17] (fun ii wr => ∃ (t : Nat) (O : List Int), ii = .int .i64 t ∧ t ≤ S.length ∧ Hid (Om w g O wr) ∧ Hid (SI (nodes P) S O t)) (fun ii _ => S.length - (intOf ii).toNat)
  case atStart => exact ⟨0, _, rfl, Nat.zero_le _, hm0, hs0⟩
  case round =>
    clear hm0 hs0
    obtain ⟨t, O, rfl, ht, hM, hI⟩ := hrel
    by_cases hlt : t < S.length
    · have hlt1 : (t : Int) < S.length := by omega
      obtain ⟨ub, uo, hua, d0⟩ := hcells.out wr hM.out.below t hlt
      have hpl := place_iff.1 (hS.out _ (mem_getD hlt))
      rw [hnl.out] at hpl
      obtain ⟨p, hp⟩ : ∃ p : Nat, S.getD t 0 = (p : Int) := ⟨(S.getD t 0).toNat, by omega⟩
      rw [hp] at d0 hpl
      have hpP : p < P.length := by omega
      have hOl : O.length = P.length := by rw [hI.out.len, hnl.out]
      obtain ⟨x1, x2⟩ := hM.out.cell (j := p) (by omega) (-2)
      have hM2 := Lib.hid (hM.out.set p (t : Int))
      have hI2 := Lib.hid (hI.out.step (p := p) (by rw [hnl.out]; exact hpP) hp)
      clear hpl
      subst hua
      replace hp := Lib.hid hp
      replace hOl := Lib.hid hOl
      have hpP1 : (p : Int) < P.length := by omega
      go_wp2_with fail
      exact ⟨⟨t + 1, _, by go_num, by omega, hM2, hI2⟩, by simp [intOf]; omega⟩
    · have hte : t = S.length := by omega
      have hlt1 : ¬ ((t : Int) < S.length) := by omega
      have hW0 : Hid (OW (nodes P) S O 0) := by have := hI.out; rw [hte] at this; exact this.start
      clear hI
      replace hte := Lib.hid hte
      obtain ⟨wo, hwo⟩ : ∃ wo : World, wr = wo := ⟨_, rfl⟩
      rw [hwo] at hM ⊢
      clear hwo
      go_wp2_with fail
      go_loopw [29] (fun ii wr => ∃ (k : Nat) (O : List Int), ii = .int .i64 k ∧ k ≤ P.length ∧ Hid (Om w g O wr) ∧ Hid (OW (nodes P) S O k)) (fun ii _ => P.length - (intOf ii).toNat)
      case atStart => exact ⟨0, _, rfl, Nat.zero_le _, hM, hW0⟩
      case round =>
        clear hM hW0
        obtain ⟨k, O0, rfl, hk, hM, hW⟩ := hrel
        by_cases hlt : k < P.length
        · have hlt1 : (k : Int) < P.length := by omega
          obtain ⟨wo, hwo⟩ : ∃ wo : World, wr = wo := ⟨_, rfl⟩
          rw [hwo] at hM ⊢
          clear hwo
          have hv2 := Lib.hid (V2.start (l := nodes P) (f := (k : Int)) hW.out.len)
          have hkn : Hid (k < (nodes P).length) := by rw [hnl.out]; exact hlt
          go_wp2_with fail
          go_loopw [9] (fun aa wr => ∃ (x : Int) (m : Nat) (O : List Int), aa = .int .i64 x ∧ Hid (x = itN (nodes P) k m) ∧ Hid (V2 (nodes P) k O0 O m) ∧ Hid (Om w g O wr)) (fun _ wr => unks wr g)
          case atStart => exact ⟨k, 0, O0, rfl, rfl, hv2, hM⟩
          case round =>
            clear hv2 hM
            obtain ⟨x, m, O, rfl, hx, h2, hM⟩ := hrel
            cases hpl : placeB (nodes P) x
            · have hW2 := Lib.hid (h2.out.out hW.out hkn.out (by rw [← hx.out]; exact hpl))
              have hcase : x < 0 ∨ (P.length : Int) ≤ x := by
                rcases Int.lt_or_le x 0 with e | e
                · exact Or.inl e
                · right
                  rcases Int.lt_or_le x P.length with e2 | e2
                  · exfalso
                    have : placeB (nodes P) x = true := place_iff.2 ⟨e, by rw [hnl.out]; exact e2⟩
                    rw [hpl] at this; cases this
                  · exact e2
              replace hpl := Lib.hid hpl
              rcases hcase with e | e
              · have e1 : decide (0 ≤ x) = false := by rw [decide_eq_false_iff_not]; omega
                have e2 : decide (x < 0) = true := by rw [decide_eq_true_eq]; exact e
                replace e := Lib.hid e
                go_wp2_with fail
                exact ⟨⟨k + 1, O, by go_num, by omega, hM, hW2⟩, by simp [intOf]; omega⟩
              · have e1 : decide (0 ≤ x) = true := by rw [decide_eq_true_eq]; omega
                have e2 : decide (x < (P.length : Int)) = false := by rw [decide_eq_false_iff_not]; omega
                have e3 : decide (x < 0) = false := by rw [decide_eq_false_iff_not]; omega
                have e4 : decide ((P.length : Int) ≤ x) = true := by rw [decide_eq_true_eq]; exact e
                replace e := Lib.hid e
                go_wp2_with fail
                exact ⟨⟨k + 1, O, by go_num, by omega, hM, hW2⟩, by simp [intOf]; omega⟩
            · have hpl2 := place_iff.1 hpl
              rw [hnl.out] at hpl2
              obtain ⟨j, rfl⟩ : ∃ j : Nat, x = j := ⟨x.toNat, by omega⟩
              have hj : j < P.length := by omega
              have hj1 : (j : Int) < P.length := by omega
              have hjx : (itN (nodes P) k m).toNat = j := by rw [← hx.out]; rfl
              have hplx : placeB (nodes P) (itN (nodes P) k m) = true := by rw [← hx.out]; exact hpl
              have hOl : O.length = P.length := by rw [h2.out.len, hnl.out]
              obtain ⟨x1, x2⟩ := hM.out.cell (j := j) (by omega) (-2)
              clear hpl2
              replace hpl := Lib.hid hpl
              replace hjx := Lib.hid hjx
              replace hplx := Lib.hid hplx
              by_cases hkj : O.getD j (-2) = -2
              · rw [hkj] at x1
                have hM2 := hM.out.set j (-1)
                have h22 := h2.out.step hplx.out (by rw [hjx.out]; exact hkj)
                rw [hjx.out] at h22
                obtain ⟨d0, d1, d2, d3⟩ := (hcl.out j hj).next hM2.below
                rw [nodes_at hj] at d3
                clear d0 d1 d2
                have hup : upN (nodes P) (j : Int) = (atN (nodes P) (j : Int)).up := rfl
                generalize (atN (nodes P) (j : Int)).up = xu at d3 hup
                have hdec := Lib.hid (show unks (wr.setCell ⟨g, j, none⟩ (.int .i64 (-1))) g < unks wr g by
                  rw [unks_at hM2.row, unks_at hM.out.row]
                  exact unk_set O j (by omega) hkj)
                have hx2 : Hid (xu = itN (nodes P) k (m + 1)) := Lib.hid (by rw [itN, ← hx.out, hup])
                clear hup
                replace hM2 := Lib.hid hM2
                replace h22 := Lib.hid h22
                replace hkj := Lib.hid hkj
                replace hOl := Lib.hid hOl
                go_wp2_with fail
                exact ⟨⟨xu, m + 1, _, rfl, hx2, h22, hM2⟩, hdec.out⟩
              · have hkj1 : (O.getD j (-2) == -2) = false := by rw [beq_eq_false_iff_ne]; exact hkj
                have e3 : decide ((j : Int) < 0) = false := by rw [decide_eq_false_iff_not]; omega
                have e4 : decide ((P.length : Int) ≤ (j : Int)) = false := by rw [decide_eq_false_iff_not]; omega
                have e4' : decide (P.length ≤ j) = false := by rw [decide_eq_false_iff_not]; omega
                have hv : O.getD (itN (nodes P) k m).toNat (-2) = O.getD j (-2) := by rw [hjx.out]
                have h3 := Lib.hid (V3.start (l := nodes P) (f := (k : Int)) (m := m) (v := O.getD (itN (nodes P) k m).toNat (-2)) h2.out.len)
                have hkn2 : Hid (O.getD (itN (nodes P) k m).toNat (-2) ≠ -2) := by rw [hjx.out]; exact hkj
                replace hkj := Lib.hid hkj
                replace hOl := Lib.hid hOl
                replace hv := Lib.hid hv
                obtain ⟨wo2, hwo⟩ : ∃ wo : World, wr = wo := ⟨_, rfl⟩
                rw [hwo] at hM x1 ⊢
                clear hwo x2
                generalize O.getD j (-2) = vv at *
                go_wp2_with fail
                clear x1
                go_loopw [10] (fun bb wr => ∃ (x : Int) (c : Nat) (O' : List Int), bb = .int .i64 x ∧ Hid (x = itN (nodes P) k c) ∧ Hid (V3 (nodes P) k O O' m c (O.getD (itN (nodes P) k m).toNat (-2))) ∧ Hid (∀ a, a < c → itN (nodes P) k a ≠ itN (nodes P) k m) ∧ Hid (Om w g O' wr)) (fun bb _ => m - posN (nodes P) k m (intOf bb))
                case atStart => exact ⟨k, 0, O, rfl, rfl, h3, fun a ha => by omega, hM⟩
                case round =>
                  clear h3 hM
                  obtain ⟨x, c, O', rfl, hxc, h3, hdis, hM⟩ := hrel
                  by_cases hxj : x = (j : Int)
                  · have hW2 := Lib.hid (h3.out.ends hW.out h2.out hkn.out hplx.out hkn2.out (by rw [← hxc.out, ← hx.out]; exact hxj))
                    have hxj1 : (x == (j : Int)) = true := by rw [beq_iff_eq]; exact hxj
                    subst hxj
                    clear h3 hdis
                    go_wp2_with fail
                    exact ⟨⟨k + 1, O', by go_num, by omega, hM, hW2⟩, by simp [intOf]; omega⟩
                  · have hcm := h3.out.lt (by rw [← hxc.out, ← hx.out]; exact hxj)
                    have hfr := (h2.out.fresh hcm).1
                    rw [← hxc.out] at hfr
                    have hfr2 := place_iff.1 hfr
                    rw [hnl.out] at hfr2
                    obtain ⟨a, rfl⟩ : ∃ a : Nat, x = a := ⟨x.toNat, by omega⟩
                    have ha : a < P.length := by omega
                    have ha1 : (a : Int) < P.length := by omega
                    have hax : (itN (nodes P) k c).toNat = a := by rw [← hxc.out]; rfl
                    have hcur := h3.out.cur hplx.out
                    rw [hv.out, hjx.out] at hcur
                    have hOl' : O'.length = P.length := by rw [h3.out.len, hnl.out]
                    obtain ⟨y1, y2⟩ := hM.out.cell (j := a) (by omega) (-2)
                    obtain ⟨z1, _⟩ := hM.out.cell (j := j) (by omega) (-2)
                    rw [hcur] at z1
                    have hM2 := hM.out.set a vv
                    have h32 := V3.step h2.out h3.out hcm
                    rw [hax, hv.out] at h32
                    obtain ⟨d0, d1, d2, d3⟩ := (hcl.out a ha).next hM2.below
                    rw [nodes_at ha] at d3
                    clear d0 d1 d2 hfr2
                    have hup : upN (nodes P) (a : Int) = (atN (nodes P) (a : Int)).up := rfl
                    generalize (atN (nodes P) (a : Int)).up = xu at d3 hup
                    have hx2 : Hid (xu = itN (nodes P) k (c + 1)) := Lib.hid (by rw [itN, ← hxc.out, hup])
                    have hdis2 : Hid (∀ a, a < c + 1 → itN (nodes P) k a ≠ itN (nodes P) k m) := fun a' ha' e => by
                      by_cases e2 : a' = c
                      · subst e2
                        rw [← hxc.out, ← hx.out] at e
                        exact hxj e
                      · exact hdis.out a' (by omega) e
                    have hp1 := posN_eq (l := nodes P) (f := (k : Int)) (m := m) (c := c) (by omega) fun a' ha' => h2.out.w.dist a' c ha' hcm
                    have hp2 := posN_eq (l := nodes P) (f := (k : Int)) (m := m) (c := c + 1) (by omega) fun a' ha' => by
                      by_cases e2 : c + 1 < m
                      · exact h2.out.w.dist a' (c + 1) ha' e2
                      · have e3 : c + 1 = m := by omega
                        rw [e3]
                        exact hdis2.out a' ha'
                    rw [← hxc.out] at hp1
                    rw [← hx2.out] at hp2
                    clear hup
                    have h32' : Hid (V3 (nodes P) k O (O'.set a vv) m (c + 1) (O.getD (itN (nodes P) k m).toNat (-2))) := by rw [hv.out]; exact h32
                    clear h32
                    have hxj1 : ((a : Int) == (j : Int)) = false := by rw [beq_eq_false_iff_ne]; exact hxj
                    have hxj2 : (a == j) = false := by rw [beq_eq_false_iff_ne]; omega
                    have hxj3 : ¬ (a = j) := by omega
                    replace hxj := Lib.hid hxj
                    replace hM2 := Lib.hid hM2
                    replace hp1 := Lib.hid hp1
                    replace hp2 := Lib.hid hp2
                    replace hcur := Lib.hid hcur
                    replace hax := Lib.hid hax
                    replace hfr := Lib.hid hfr
                    replace hOl' := Lib.hid hOl'
                    clear hdis h3
                    go_wp2_with fail
                    exact ⟨⟨xu, c + 1, _, rfl, hx2, h32', hdis2, hM2⟩, by simp only [intOf]; rw [hp1.out, hp2.out]; omega⟩
        · have hlt1 : ¬ ((k : Int) < P.length) := by omega
          have hO := Lib.hid (hW.out.ends (by rw [hnl.out]; omega))
          go_wp2_with fail
          go_ret
          exact ⟨g, O0, rfl, hM, hO⟩
end Go.Proofs.YtkgjbamkinfmeaaGreatDoor
