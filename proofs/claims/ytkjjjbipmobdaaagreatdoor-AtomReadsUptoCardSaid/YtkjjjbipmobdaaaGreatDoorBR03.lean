/- Layer 12, plain: what holds of the nodes of tokens that make a tree. -/
import Derived.Test.YtkjjjbipmobdaaaGreatDoorBR02
import Derived.Test.YtkjjjbipmobdaaaGreatDoorBR01
import Derived.Deep.Strs
import Derived.Lib.SmallJoins
import Derived.SizedLaws
import Derived.Test.YtkjjjbipmobdaaaGreatDoorCards
namespace Go.Proofs.YtkjjjbipmobdaaaGreatDoor

theorem take_fold_app : ∀ (l m : List Tk) (s : Bs), foldB s (l ++ m) = match foldB s l with | none => none | some s' => foldB s' m
  | [], m, s => rfl
  | x :: t, m, s => by
    rw [List.cons_append, foldB, foldB]
    cases takeB s x with
    | none => rfl
    | some s' => exact take_fold_app t m s'
/-- Any property that each token keeps. -/
theorem foldB_keeps (J : Bs → List Tk → Prop) (hJ : ∀ s l x s', J s l → takeB s x = some s' → J s' (l ++ [x])) : ∀ (m : List Tk) (s s' : Bs) (l : List Tk), J s l → foldB s m = some s' → J s' (l ++ m)
  | [], s, s', l, h, e => by
    injection e with e
    subst e
    rw [List.append_nil]; exact h
  | x :: t, s, s', l, h, e => by
    rw [foldB] at e
    cases ht : takeB s x with
    | none => rw [ht] at e; cases e
    | some s1 =>
      rw [ht] at e
      have := foldB_keeps J hJ t s1 s' (l ++ [x]) (hJ s l x s1 h ht) e
      rwa [List.append_assoc] at this
/-- What a token that is taken does. -/
theorem takeB_cases {s s' : Bs} {x : Tk} (e : takeB s x = some s') :
    (∃ y, s' = ⟨s.nds ++ [y], s.nds.length⟩ ∧ y.up = s.up ∧ y.name ≠ [] ∧ (y.attrs = x.attrs) ∧ y.text = [] ∧ ¬ (s.up = -1 ∧ s.nds ≠ []) ∧ x.kind = 1) ∨
    (∃ y, s' = ⟨s.nds ++ [y], s.up⟩ ∧ y.up = s.up ∧ (y.attrs = x.attrs ∧ y.text = [] ∨ y.attrs = [] ∧ y.text = x.text) ∧ ¬ (s.up = -1 ∧ s.nds ≠ []) ∧ x.kind ≠ 2) ∨
    (s' = ⟨s.nds, upN s.nds s.up⟩ ∧ s.up ≠ -1 ∧ x.kind = 2) := by
  unfold takeB at e
  split at e
  · cases e
  rename_i h0
  split at e
  · rename_i hc; injection e with e; exact Or.inl ⟨elemN x s.up, e.symm, rfl, hc.2, rfl, rfl, h0, hc.1⟩
  split at e
  · rename_i hc; injection e with e; exact Or.inr (Or.inl ⟨elemN x s.up, e.symm, rfl, Or.inl ⟨rfl, rfl⟩, h0, by omega⟩)
  split at e
  · rename_i hc; injection e with e; exact Or.inr (Or.inl ⟨textN x s.up, e.symm, rfl, Or.inr ⟨rfl, rfl⟩, h0, by omega⟩)
  split at e
  · rename_i hc; injection e with e; exact Or.inr (Or.inr ⟨e.symm, hc.2.1, hc.1⟩)
  · cases e
/-- How many tokens begin something, or are texts. -/
def cntB (l : List Tk) : Nat := l.countP fun x => x.kind != 2
theorem foldB_count {l : List Tk} {s : Bs} (e : foldB bs0 l = some s) : s.nds.length = cntB l := by
  have := foldB_keeps (fun s l => s.nds.length = cntB l) (fun s l x s' h e => by
    unfold cntB at h ⊢
    rw [List.countP_append, ← h]
    rcases takeB_cases e with ⟨y, rfl, _, _, _, _, _, hk⟩ | ⟨y, rfl, _, _, _, hk⟩ | ⟨rfl, _, hk⟩
    · simp [hk]
    · simp [hk]
    · simp [hk]) l bs0 s [] rfl e
  simpa using this
/-- Attributes are a token's, or none; texts are no more than the tokens'. -/
theorem foldB_attrs {l : List Tk} {s : Bs} (e : foldB bs0 l = some s) : ∀ x ∈ s.nds, x.attrs = [] ∨ ∃ t ∈ l, x.attrs = t.attrs := by
  have := foldB_keeps (fun s l => ∀ x ∈ s.nds, x.attrs = [] ∨ ∃ t ∈ l, x.attrs = t.attrs) (fun s l x s' h e => by
    have hold : ∀ z ∈ s.nds, z.attrs = [] ∨ ∃ t ∈ l ++ [x], z.attrs = t.attrs := fun z hz => by
      rcases h z hz with h | ⟨t, ht, h⟩
      · exact Or.inl h
      · exact Or.inr ⟨t, List.mem_append_left _ ht, h⟩
    rcases takeB_cases e with ⟨y, rfl, _, _, ha, _⟩ | ⟨y, rfl, _, ha, _⟩ | ⟨rfl, _⟩
    · intro z hz
      rcases List.mem_append.1 hz with hz | hz
      · exact hold z hz
      · rw [List.mem_singleton] at hz; subst hz; exact Or.inr ⟨x, by simp, ha⟩
    · intro z hz
      rcases List.mem_append.1 hz with hz | hz
      · exact hold z hz
      · rw [List.mem_singleton] at hz; subst hz
        rcases ha with ha | ha
        · exact Or.inr ⟨x, by simp, ha.1⟩
        · exact Or.inl ha.1
    · exact hold) l bs0 s [] (fun x h => by simp [bs0] at h) e
  simpa using this
def sumK (l : List Tk) : Nat := (l.map fun x => x.text.length).sum
theorem foldB_sum {l : List Tk} {s : Bs} (e : foldB bs0 l = some s) : sumT s.nds ≤ sumK l := by
  have := foldB_keeps (fun s l => sumT s.nds ≤ sumK l) (fun s l x s' h e => by
    have e2 : sumK (l ++ [x]) = sumK l + x.text.length := by unfold sumK; simp
    rw [e2]
    have e3 : ∀ y, sumT (s.nds ++ [y]) = sumT s.nds + y.text.length := fun y => by unfold sumT; simp
    rcases takeB_cases e with ⟨y, rfl, _, _, _, ht, _⟩ | ⟨y, rfl, _, ht, _⟩ | ⟨rfl, _⟩
    · show sumT (s.nds ++ [y]) ≤ _
      rw [e3, ht]; simp; omega
    · show sumT (s.nds ++ [y]) ≤ _
      rw [e3]
      rcases ht with ht | ht
      · rw [ht.2]; simp; omega
      · rw [ht.2]; omega
    · show sumT s.nds ≤ _
      omega) l bs0 s [] (Nat.le_refl _) e
  simpa using this
section
variable {l : List Nd} {y : Nd}
theorem atN_app {k : Int} (h : placeB l k = true) : atN (l ++ [y]) k = atN l k := by
  have := place_iff.1 h
  unfold atN
  rw [getD_app _ _ _ _ (by omega)]
theorem atN_last : atN (l ++ [y]) (l.length : Int) = y := by unfold atN; rw [Int.toNat_natCast, getD_last]
theorem place_app {k : Int} (h : placeB l k = true) : placeB (l ++ [y]) k = true := by
  rw [place_iff] at h ⊢
  simp only [List.length_append, List.length_cons, List.length_nil]; omega
theorem within_app {i k : Int} (h : Within l i k) : Within (l ++ [y]) i k := by
  induction h with
  | here h => exact .here (place_app h)
  | up hp _ ih =>
    refine .up (place_app hp) ?_
    unfold upN
    rw [atN_app hp]
    exact ih
theorem within_trans {i j k : Int} (h : Within l i k) (h2 : Within l j i) : Within l j k := by
  induction h with
  | here _ => exact h2
  | up hp _ ih => exact .up hp ih
end
/-- Nodes that stand as those of a tree do; up: where the next one would stand. -/
structure TreeAt (l : List Nd) : Prop where
  ups : ∀ j : Nat, j < l.length → (j = 0 ∧ upN l (j : Int) = -1) ∨ (0 < j ∧ 0 ≤ upN l (j : Int) ∧ upN l (j : Int) < j)
  elem : ∀ j : Nat, 0 < j → j < l.length → (atN l (upN l (j : Int))).name ≠ []
  anc : ∀ j : Nat, 0 < j → j < l.length → Within l (upN l (j : Int)) ((j : Int) - 1)
structure BsT (s : Bs) : Prop where
  ok : BsOk s
  tree : TreeAt s.nds
  here : s.up ≠ -1 → (atN s.nds s.up).name ≠ []
  last : s.up ≠ -1 → Within s.nds s.up ((s.nds.length : Int) - 1)
theorem bsT_0 : BsT bs0 := ⟨bsOk_0, ⟨fun j h => by simp [bs0] at h, fun j _ h => by simp [bs0] at h, fun j _ h => by simp [bs0] at h⟩, fun e => absurd rfl e, fun e => absurd rfl e⟩
theorem BsT.place {s : Bs} (h : BsT s) (hu : s.up ≠ -1) : placeB s.nds s.up = true := by
  rcases h.ok.up with e | e
  · exact absurd e hu
  · exact place_iff.2 e
theorem BsT.push {s : Bs} (h : BsT s) {y : Nd} (hy : y.up = s.up) (hn : ¬ (s.up = -1 ∧ s.nds ≠ [])) : TreeAt (s.nds ++ [y]) := by
  have hlen : (s.nds ++ [y]).length = s.nds.length + 1 := by simp
  have hup : ∀ j : Nat, j < s.nds.length → upN (s.nds ++ [y]) (j : Int) = upN s.nds (j : Int) := fun j hj => by unfold upN; rw [atN_app (place_nat hj)]
  have hlast : upN (s.nds ++ [y]) (s.nds.length : Int) = s.up := by unfold upN; rw [atN_last, hy]
  have hne : 0 < s.nds.length → s.up ≠ -1 := fun h0 e => hn ⟨e, List.length_pos_iff.1 h0⟩
  have hz : s.nds.length = 0 → s.up = -1 := fun h0 => by
    rcases h.ok.up with e | e
    · exact e
    · omega
  refine ⟨fun j hj => ?_, fun j h0 hj => ?_, fun j h0 hj => ?_⟩
  · rw [hlen] at hj
    by_cases e : j < s.nds.length
    · rw [hup j e]; exact h.tree.ups j e
    · obtain rfl : j = s.nds.length := by omega
      rw [hlast]
      rcases Nat.eq_zero_or_pos s.nds.length with h0 | h0
      · exact Or.inl ⟨h0, hz h0⟩
      · rcases h.ok.up with e | e
        · exact absurd e (hne h0)
        · exact Or.inr ⟨h0, e⟩
  · rw [hlen] at hj
    by_cases e : j < s.nds.length
    · rw [hup j e]
      have hu := h.tree.ups j e
      rw [atN_app (place_iff.2 (by omega))]
      exact h.tree.elem j h0 e
    · obtain rfl : j = s.nds.length := by omega
      rw [hlast, atN_app (h.place (hne h0))]
      exact h.here (hne h0)
  · rw [hlen] at hj
    by_cases e : j < s.nds.length
    · rw [hup j e]; exact within_app (h.tree.anc j h0 e)
    · obtain rfl : j = s.nds.length := by omega
      rw [hlast]
      exact within_app (h.last (hne h0))
theorem BsT.take {s s' : Bs} {x : Tk} (h : BsT s) (e : takeB s x = some s') : BsT s' := by
  have hok := (takeB_ok h.ok e).1
  rcases takeB_cases e with ⟨y, rfl, hy, hnm, _, _, hn, _⟩ | ⟨y, rfl, hy, _, hn, _⟩ | ⟨rfl, hu, _⟩
  · refine ⟨hok, h.push hy hn, fun _ => ?_, fun _ => ?_⟩
    · show (atN (s.nds ++ [y]) (s.nds.length : Int)).name ≠ []
      rw [atN_last]; exact hnm
    · show Within (s.nds ++ [y]) (s.nds.length : Int) (((s.nds ++ [y]).length : Int) - 1)
      rw [show (((s.nds ++ [y]).length : Int) - 1) = (s.nds.length : Int) by simp]
      exact .here (place_iff.2 (by simp; omega))
  · refine ⟨hok, h.push hy hn, fun hu => ?_, fun hu => ?_⟩
    · show (atN (s.nds ++ [y]) s.up).name ≠ []
      rw [atN_app (h.place hu)]; exact h.here hu
    · show Within (s.nds ++ [y]) s.up (((s.nds ++ [y]).length : Int) - 1)
      rw [show (((s.nds ++ [y]).length : Int) - 1) = (s.nds.length : Int) by simp]
      refine .up (place_iff.2 (by simp; omega)) ?_
      rw [show upN (s.nds ++ [y]) (s.nds.length : Int) = s.up by unfold upN; rw [atN_last, hy]]
      exact .here (place_app (h.place hu))
  · have hp := h.place hu
    have hp' := place_iff.1 hp
    have hc : ((s.up.toNat : Nat) : Int) = s.up := Int.toNat_of_nonneg hp'.1
    have hups := h.tree.ups s.up.toNat (by omega)
    rw [hc] at hups
    refine ⟨hok, h.tree, fun hu2 => ?_, fun hu2 => ?_⟩
    · have := h.tree.elem s.up.toNat (by have : upN s.nds s.up ≠ -1 := hu2; omega) (by omega)
      rw [hc] at this
      exact this
    · have hu3 : upN s.nds s.up ≠ -1 := hu2
      exact within_trans (h.last hu) (show Within s.nds (upN s.nds s.up) s.up from .up hp (.here (place_iff.2 (by omega))))
theorem buildB_tree {l : List Tk} {nds : List Nd} (e : buildB l = some nds) : TreeAt nds ∧ nds ≠ [] ∧ nds.length = cntB l ∧ sumT nds ≤ sumK l ∧ ∀ x ∈ nds, x.attrs = [] ∨ ∃ t ∈ l, x.attrs = t.attrs := by
  unfold buildB at e
  cases hf : foldB bs0 l with
  | none => rw [hf] at e; cases e
  | some s =>
    rw [hf] at e
    simp only at e
    split at e
    · rename_i hc
      injection e with e
      subst e
      have := foldB_keeps (fun s _ => BsT s) (fun s _ x s' h e => h.take e) l bs0 s [] bsT_0 hf
      exact ⟨this.tree, hc.2, foldB_count hf, foldB_sum hf, foldB_attrs hf⟩
    · cases e
section
variable {l : List Nd}
theorem TreeAt.up_lt {k : Int} (h : TreeAt l) (hp : placeB l k = true) : upN l k < k := by
  have hp' := place_iff.1 hp
  have := h.ups k.toNat (by omega)
  rw [Int.toNat_of_nonneg hp'.1] at this
  omega
theorem TreeAt.le {i k : Int} (h : TreeAt l) (hw : Within l i k) : i ≤ k := by
  induction hw with
  | here _ => exact Int.le_refl _
  | up hp _ ih => have := h.up_lt hp; omega
/-- What stands within a node stands together. -/
theorem TreeAt.between {c : Int} (h : TreeAt l) : ∀ (d : Nat) (k j : Int), k = j + d → c ≤ j → Within l c k → Within l c j
  | 0, k, j, e, _, hw => by
    obtain rfl : k = j := by omega
    exact hw
  | d + 1, k, j, e, hc, hw => by
    refine TreeAt.between h d (k - 1) j (by omega) hc ?_
    have hp' := place_iff.1 hw.place
    have ht' := place_iff.1 hw.top
    cases hw with
    | here _ => omega
    | up hp hw =>
      have hk : ((k.toNat : Nat) : Int) = k := Int.toNat_of_nonneg hp'.1
      have := h.anc k.toNat (by omega) (by omega)
      rw [hk] at this
      exact within_trans this hw
/-- A kid of i doesn't stand within another one. -/
theorem TreeAt.apart {i c k : Int} (h : TreeAt l) (hc : upN l c = i) (hcp : placeB l c = true) (hk : upN l k = i) (hne : k ≠ c) : ¬ Within l c k := by
  intro hw
  cases hw with
  | here _ => exact hne rfl
  | up hp hw =>
    rw [hk] at hw
    have h1 := h.le hw
    have h2 := h.up_lt hcp
    omega
theorem TreeAt.text {i : Nat} (h : TreeAt l) (hi : i < l.length) (hn : (atN l (i : Int)).name = []) : kidsB l (i : Int) = [] ∧ textB l (i : Int) = (atN l (i : Int)).text := by
  have hno : ∀ k : Int, placeB l k = true → upN l k ≠ (i : Int) := fun k hp e => by
    have hp' := place_iff.1 hp
    have hk : ((k.toNat : Nat) : Int) = k := Int.toNat_of_nonneg hp'.1
    have hu := h.ups k.toNat (by omega)
    rw [hk] at hu
    have := h.elem k.toNat (by omega) (by omega)
    rw [hk, e] at this
    exact this hn
  refine ⟨?_, ?_⟩
  · rw [List.eq_nil_iff_forall_not_mem]
    intro j hj
    have := kidsB_bd hj
    exact hno j this.1 this.2.1
  · have honly : ∀ k : Int, Within l (i : Int) k → k = (i : Int) := fun k hw => by
      induction hw with
      | here _ => rfl
      | up hp _ ih => exact absurd ih (hno _ hp)
    have key : ∀ m : Nat, textTo l (i : Int) m = if i < m then (atN l (i : Int)).text else [] := fun m => by
      induction m with
      | zero => rfl
      | succ m ih =>
        rw [textTo_next, ih]
        by_cases e : m = i
        · subst e
          rw [if_neg (by omega), if_pos (by omega), List.nil_append]
          unfold bitB
          rw [if_pos ⟨hn, winB_iff.2 (.here (place_nat hi))⟩]
        · have hb : bitB l (i : Int) m = [] := by
            unfold bitB
            rw [if_neg]
            intro hc
            have := honly _ (winB_iff.1 hc.2)
            omega
          rw [hb, List.append_nil]
          by_cases e2 : i < m
          · rw [if_pos e2, if_pos (by omega)]
          · rw [if_neg e2, if_neg (by omega)]
    unfold textB
    rw [if_pos (place_nat hi), key, if_pos hi]
theorem kidsTo_still {i : Int} {a : Nat} : ∀ b : Nat, a ≤ b → (∀ j : Nat, a ≤ j → j < b → ¬ (upN l (j : Int) = i ∧ (j : Int) ≠ i)) → kidsTo l i b = kidsTo l i a
  | 0, hab, _ => by obtain rfl : a = 0 := by omega
                    rfl
  | b + 1, hab, hno => by
    by_cases e : a = b + 1
    · rw [e]
    · rw [kidsTo_next, if_neg (hno b (by omega) (by omega)), List.append_nil]
      exact kidsTo_still b (by omega) fun j h1 h2 => hno j h1 (by omega)
/-- What stands within i stands within one of its kids. -/
theorem kid_of {i k : Int} (hw : Within l i k) (hne : k ≠ i) : ∃ c, upN l c = i ∧ c ≠ i ∧ placeB l c = true ∧ Within l c k := by
  induction hw with
  | here _ => exact absurd rfl hne
  | @up k hp hw ih =>
    by_cases e : upN l k = i
    · exact ⟨k, e, hne, hp, .here hp⟩
    · obtain ⟨c, h1, h2, h3, h4⟩ := ih e
      exact ⟨c, h1, h2, h3, .up hp h4⟩
theorem flatMap_same {f g : Int → List UInt8} {xs : List Int} (hfg : ∀ c ∈ xs, f c = g c) : xs.flatMap f = xs.flatMap g := by
  rw [List.flatMap_def, List.flatMap_def, List.map_congr_left hfg]
theorem TreeAt.kids_text {i : Nat} (h : TreeAt l) (hi : i < l.length) (hn : (atN l (i : Int)).name ≠ []) : ∀ m : Nat, m ≤ l.length → textTo l (i : Int) m = (kidsTo l (i : Int) m).flatMap fun c => textTo l c m
  | 0, _ => rfl
  | m + 1, hm => by
    have ih := TreeAt.kids_text h hi hn m (by omega)
    have hpm : placeB l (m : Int) = true := place_nat (by omega)
    have hpi : placeB l (i : Int) = true := place_nat hi
    have hstep : ∀ xs : List Int, (∀ c ∈ xs, bitB l c m = []) → xs.flatMap (fun c => textTo l c (m + 1)) = xs.flatMap fun c => textTo l c m := fun xs hx =>
      flatMap_same fun c hc => by rw [textTo_next, hx c hc, List.append_nil]
    have hbit : ∀ c : Int, ¬ Within l c (m : Int) → bitB l c m = [] := fun c hc => by
      unfold bitB; rw [if_neg (fun e => hc (winB_iff.1 e.2))]
    rw [textTo_next]
    by_cases hkid : upN l (m : Int) = (i : Int) ∧ (m : Int) ≠ (i : Int)
    · -- a kid
      rw [kidsTo_next, if_pos hkid, List.flatMap_append, hstep _ (fun c hc => ?_), ← ih]
      · congr 1
        have hown : textTo l (m : Int) m = [] := by
          unfold textTo
          rw [List.flatMap_eq_nil_iff]
          intro j hj
          have hj := List.mem_range.1 hj
          unfold bitB
          rw [if_neg]
          intro e
          have := h.le (winB_iff.1 e.2)
          omega
        simp only [List.flatMap_cons, List.flatMap_nil, List.append_nil]
        rw [textTo_next, hown, List.nil_append]
        unfold bitB
        have w1 : winB l (i : Int) (m : Int) = true := winB_iff.2 (.up hpm (by rw [hkid.1]; exact .here hpi))
        have w2 : winB l (m : Int) (m : Int) = true := winB_iff.2 (.here hpm)
        rw [w1, w2]
      · have hb := kidsTo_bd hc
        exact hbit c (h.apart hb.2.2.1 (place_iff.2 (by omega)) hkid.1 (by omega))
    · rw [kidsTo_next, if_neg hkid, List.append_nil]
      by_cases hw : Within l (i : Int) (m : Int)
      · by_cases hmi : (m : Int) = (i : Int)
        · have hb : bitB l (i : Int) m = [] := by
            unfold bitB
            rw [if_neg (fun e => hn (by rw [← hmi]; exact e.1))]
          rw [hb, List.append_nil, ih]
          refine (hstep _ fun c hc => ?_).symm
          have hb2 := kidsTo_bd hc
          have := h.up_lt (k := c) (place_iff.2 (by omega))
          omega
        · obtain ⟨c, hc1, hc2, hc3, hc4⟩ := kid_of hw hmi
          have hcm := h.le hc4
          have hcp := place_iff.1 hc3
          have hne : c ≠ (m : Int) := fun e => hkid ⟨by rw [← e]; exact hc1, hmi⟩
          obtain ⟨q, rfl⟩ : ∃ q : Nat, c = q := ⟨c.toNat, by omega⟩
          have hq : q < m := by omega
          have hstill : kidsTo l (i : Int) m = kidsTo l (i : Int) q ++ [(q : Int)] := by
            rw [kidsTo_still (a := q + 1) m (by omega) (fun j h1 h2 e => ?_), kidsTo_next, if_pos ⟨hc1, hc2⟩]
            exact h.apart hc1 hc3 e.1 (by omega) (h.between (m - j) (m : Int) (j : Int) (by omega) (by omega) hc4)
          rw [ih, hstill, List.flatMap_append, List.flatMap_append, List.append_assoc, hstep (kidsTo l (i : Int) q) (fun c' hc' => ?_)]
          · congr 1
            simp only [List.flatMap_cons, List.flatMap_nil, List.append_nil]
            rw [textTo_next]
            congr 1
            unfold bitB
            have w1 : winB l (i : Int) (m : Int) = true := winB_iff.2 hw
            have w2 : winB l (q : Int) (m : Int) = true := winB_iff.2 hc4
            rw [w1, w2]
          · have hb := kidsTo_bd hc'
            refine hbit c' fun hw' => ?_
            exact h.apart hb.2.2.1 (place_iff.2 (by omega)) hc1 (by omega) (h.between (m - q) (m : Int) (q : Int) (by omega) (by omega) hw')
      · have hb := hbit (i : Int) hw
        rw [hb, List.append_nil, ih]
        refine (hstep _ fun c hc => hbit c fun hw' => hw ?_).symm
        have hb2 := kidsTo_bd hc
        exact within_trans hw' (.up (place_iff.2 (by omega)) (by rw [hb2.2.2.1]; exact .here hpi))
/-- The text of a node is that of its kids. -/
theorem TreeAt.kids {i : Nat} (h : TreeAt l) (hi : i < l.length) (hn : (atN l (i : Int)).name ≠ []) : textB l (i : Int) = (kidsB l (i : Int)).flatMap (textB l) := by
  have hk : kidsB l (i : Int) = kidsTo l (i : Int) l.length := by unfold kidsB; rw [if_pos (place_nat hi)]
  have ht : textB l (i : Int) = textTo l (i : Int) l.length := by unfold textB; rw [if_pos (place_nat hi)]
  rw [ht, hk, h.kids_text hi hn l.length (Nat.le_refl _)]
  refine flatMap_same fun c hc => ?_
  have hb := kidsTo_bd hc
  unfold textB
  rw [if_pos (place_iff.2 (by omega))]
end
end Go.Proofs.YtkjjjbipmobdaaaGreatDoor

/- Slices of tokens, of nodes and of attributes that came in, out of a row's argument; what their reading says of their lengths. -/
namespace Go.Proofs.YtkjjjbipmobdaaaGreatDoor
open Go.ChangeShapes Go.WideShapes Go.ChangeAt Go.RowKit Go.Deep

section
variable {H : Type} {enc : TypeId × Value → H}
/-- What the reading of attributes says. -/
def AtD (l : List At) (d : DataW H) : Prop := (d = .nil ∧ l = []) ∨ ∃ es sp, d = .slice es sp ∧ es.length = l.length ∧ ∀ j (h1 : j < l.length) (h2 : j < es.length), es[j]'h2 = .agg [.lit (.string (l[j]'h1).1), .lit (.string (l[j]'h1).2)]
/-- .. of a token. -/
def TokD (t : Tk) (d : DataW H) : Prop := ∃ dA, d = .agg [.lit (.int .i64 t.kind), .lit (.string t.name), dA, .lit (.string t.text)] ∧ AtD t.attrs dA
/-- .. of a node. -/
def NodeD (x : Nd) (d : DataW H) : Prop := ∃ dA, d = .agg [.lit (.string x.name), dA, .lit (.string x.text), .lit (.int .i64 x.up)] ∧ AtD x.attrs dA
theorem spot_none {w : World} {a : Addr} {v : Value} (h : w.cell? (a.add 0) = some v) : ∃ b off, a = ⟨b, off, none⟩ ∧ b < w.heap.size := by
  have hs : a.spot = none := by simpa [Addr.add] using World.cell?_spot h
  have hlt := World.block_lt_of_cell? w _ h
  obtain ⟨b, off, spot⟩ := a
  simp at hs
  subst hs
  exact ⟨b, off, rfl, by simpa [Addr.add] using hlt⟩
variable {P : Program} {w : World}
/-- Attributes, wherever they lie. -/
theorem trod_atSl {t e : TypeId} {f0 f1 : Field} {fuel : Nat} {cs : List Value} {x : DataW H × List MemPlace} (ht : P.underlying t = some (.slice e)) (he : P.underlying e = some (.struct #[f0, f1])) (ce : P.cellsOf e = 2)
    (o0 : f0.offset = 0) (o1 : f1.offset = 1) (c0 : P.cellsOf f0.type = 1) (c1 : P.cellsOf f1.type = 1) (k0 : P.underlying f0.type = some .string) (k1 : P.underlying f1.type = some .string)
    (h : DataW.trod enc P w 0 (fun _ => true) true fuel t cs = some x) : ∃ v l, cs = [v] ∧ AtSl w v l ∧ l.length ≤ maxLen ∧ AtD l x.1 := by
  rcases open_slice ht h with ⟨hcs, hx⟩ | ⟨a, len, cap, m, n, D, Pl, hcs, hb, hl, hm, hmm, hx, hi⟩
  · exact ⟨_, [], hcs, atSl_nil _ _ _, Nat.zero_le _, Or.inl ⟨by rw [hx], rfl⟩⟩
  · simp only [if_true] at hmm
    subst hmm
    have each : ∀ i, i < len → ∃ q : At, w.cell? (a.add (i * 2)) = some (strV q.1) ∧ w.cell? (a.add (i * 2 + 1)) = some (strV q.2) ∧ D i = .agg [.lit (.string q.1), .lit (.string q.2)] := by
      intro i hi'
      obtain ⟨cs', h1, h2⟩ := hi i (by omega)
      rw [ce] at h1
      obtain ⟨_, hlen, hcell⟩ := World.cells?_some h1
      obtain ⟨y0, y1, n', hy, _, g0, g1⟩ := trod_struct2 he h2
      rw [o0, c0] at g0
      rw [o1, c1] at g1
      match cs', hlen with
      | [v0, v1], _ =>
        obtain ⟨s0, e0, f0', _⟩ := DataW.trod_string k0 g0
        obtain ⟨s1, e1, f1', _⟩ := DataW.trod_string k1 g1
        have q0 := hcell 0 (by omega)
        have q1 := hcell 1 (by omega)
        rw [add_add] at q0 q1
        simp at e0 e1
        subst e0 e1
        refine ⟨(s0.data.toList, s1.data.toList), by simpa [strV] using q0, by simpa [strV] using q1, ?_⟩
        have := congrArg Prod.fst hy
        simp only at this
        rw [this, f0', f1']
    obtain ⟨q, hq⟩ := choose_lt each
    refine ⟨_, (List.range len).map q, hcs, ?_, by simp; omega, Or.inr ⟨_, _, by rw [hx], by simp, fun j h1 h2 => ?_⟩⟩
    rotate_left
    · have hj' : j < len := by simpa using h1
      simp only [List.getElem_map, List.getElem_range]
      exact (hq j hj').2.2
    by_cases h0 : len = 0
    · subst h0; exact Or.inl ⟨rfl, _, _, rfl⟩
    · obtain ⟨b, off, rfl, _⟩ := spot_none (by have := (hq 0 (by omega)).1; rwa [Nat.zero_mul] at this)
      refine Or.inr ⟨b, off, m, by simpa using hl, by simp, fun j hj => ?_⟩
      have hj' : j < len := by simpa using hj
      obtain ⟨r0, r1, _⟩ := hq j hj'
      rw [add_plain] at r0 r1
      have hg : ((List.range len).map q).getD j ([], []) = q j := by simp [List.getD, hj']
      rw [hg]
      exact ⟨r0, by rw [Nat.add_assoc]; exact r1⟩
/-- Tokens. -/
theorem trod_tkSl {t e tA eA : TypeId} {f0 f1 f2 f3 a0 a1 : Field} {fuel : Nat} {cs : List Value} {x : DataW H × List MemPlace} (ht : P.underlying t = some (.slice e)) (he : P.underlying e = some (.struct #[f0, f1, f2, f3])) (ce : P.cellsOf e = 4)
    (o0 : f0.offset = 0) (o1 : f1.offset = 1) (o2 : f2.offset = 2) (o3 : f3.offset = 3) (c0 : P.cellsOf f0.type = 1) (c1 : P.cellsOf f1.type = 1) (c2 : P.cellsOf f2.type = 1) (c3 : P.cellsOf f3.type = 1)
    (k0 : P.underlying f0.type = some (.int .i64)) (k1 : P.underlying f1.type = some .string) (e2 : f2.type = tA) (k3 : P.underlying f3.type = some .string)
    (hA : P.underlying tA = some (.slice eA)) (heA : P.underlying eA = some (.struct #[a0, a1])) (ceA : P.cellsOf eA = 2) (p0 : a0.offset = 0) (p1 : a1.offset = 1) (b0 : P.cellsOf a0.type = 1) (b1 : P.cellsOf a1.type = 1) (l0 : P.underlying a0.type = some .string) (l1 : P.underlying a1.type = some .string)
    (h : DataW.trod enc P w 0 (fun _ => true) true fuel t cs = some x) : ∃ v Q, cs = [v] ∧ TkSl w v Q ∧ Q.length ≤ maxLen ∧ (∀ p ∈ Q, p.1.attrs.length ≤ maxLen) ∧
      ((x.1 = .nil ∧ Q = []) ∨ ∃ (D : Nat → DataW H) (sp : List (DataW H)), x.1 = .slice ((List.range Q.length).map D) sp ∧ ∀ j (hj : j < Q.length), TokD (Q[j]'hj).1 (D j)) := by
  rcases open_slice ht h with ⟨hcs, hx⟩ | ⟨a, len, cap, m, n, D, Pl, hcs, hb, hl, hm, hmm, hx, hi⟩
  · exact ⟨_, [], hcs, ⟨Or.inl ⟨rfl, _, _, rfl⟩, fun p hp => by simp at hp⟩, Nat.zero_le _, fun p hp => by simp at hp, Or.inl ⟨by rw [hx], rfl⟩⟩
  · simp only [if_true] at hmm
    subst hmm
    have each : ∀ i, i < len → ∃ q : Tk × Value, (w.cell? (a.add (i * 4)) = some (.int .i64 q.1.kind) ∧ w.cell? (a.add (i * 4 + 1)) = some (strV q.1.name) ∧ w.cell? (a.add (i * 4 + 2)) = some q.2 ∧ w.cell? (a.add (i * 4 + 3)) = some (strV q.1.text)) ∧ AtSl w q.2 q.1.attrs ∧ q.1.attrs.length ≤ maxLen ∧ TokD q.1 (D i) := by
      intro i hi'
      obtain ⟨cs', h1, h2⟩ := hi i (by omega)
      rw [ce] at h1
      obtain ⟨_, hlen, hcell⟩ := World.cells?_some h1
      obtain ⟨y0, y1, y2, y3, n', hy, _, g0, g1, g2, g3⟩ := Go.Joins.trod_struct4 he h2
      rw [o0, c0] at g0
      rw [o1, c1] at g1
      rw [o2, c2, e2] at g2
      rw [o3, c3] at g3
      match cs', hlen with
      | [v0, v1, v2, v3], _ =>
        obtain ⟨z0, e0, f0', _⟩ := DataW.trod_int k0 g0
        obtain ⟨s1, e1, f1', _⟩ := DataW.trod_string k1 g1
        obtain ⟨vA, lA, eA', hatA, hlA, hdA⟩ := trod_atSl hA heA ceA p0 p1 b0 b1 l0 l1 g2
        obtain ⟨s3, e3, f3', _⟩ := DataW.trod_string k3 g3
        have q0 := hcell 0 (by omega)
        have q1 := hcell 1 (by omega)
        have q2 := hcell 2 (by omega)
        have q3 := hcell 3 (by omega)
        rw [add_add] at q0 q1 q2 q3
        simp at e0 e1 eA' e3
        subst e0 e1 eA' e3
        refine ⟨(⟨z0, s1.data.toList, lA, s3.data.toList⟩, v2), ⟨by simpa using q0, by simpa [strV] using q1, by simpa using q2, by simpa [strV] using q3⟩, hatA, hlA, y2.1, ?_, hdA⟩
        have := congrArg Prod.fst hy
        simp only at this
        rw [this, f0', f1', f3']
    haveI : Inhabited (Tk × Value) := ⟨(⟨0, [], [], []⟩, .nilIface)⟩
    obtain ⟨q, hq⟩ := choose_lt each
    have hlen : ((List.range len).map q).length = len := by simp
    refine ⟨_, (List.range len).map q, hcs, ⟨?_, fun p hp => ?_⟩, by simp; omega, fun p hp => ?_, Or.inr ⟨D, _, by rw [hx, hlen], fun j hj => ?_⟩⟩
    · by_cases h0 : len = 0
      · subst h0; exact Or.inl ⟨rfl, _, _, rfl⟩
      · obtain ⟨b, off, rfl, _⟩ := spot_none (by have := (hq 0 (by omega)).1.1; rwa [Nat.zero_mul] at this)
        refine Or.inr ⟨b, off, m, by simpa using hl, by simp, fun j hj => ?_⟩
        have hj' : j < len := by simpa using hj
        obtain ⟨⟨r0, r1, r2, r3⟩, _⟩ := hq j hj'
        rw [add_plain] at r0 r1 r2 r3
        simp only [List.getElem_map, List.getElem_range]
        exact ⟨r0, by rw [Nat.add_assoc]; exact r1, by rw [Nat.add_assoc]; exact r2, by rw [Nat.add_assoc]; exact r3⟩
    · obtain ⟨i, hi', rfl⟩ := List.mem_map.1 hp
      exact (hq i (List.mem_range.1 hi')).2.1
    · obtain ⟨i, hi', rfl⟩ := List.mem_map.1 hp
      exact (hq i (List.mem_range.1 hi')).2.2.1
    · simp only [List.getElem_map, List.getElem_range]
      exact (hq j (by simpa using hj)).2.2.2
/-- Nodes. -/
theorem trod_ndSl {t e tA eA : TypeId} {f0 f1 f2 f3 a0 a1 : Field} {fuel : Nat} {cs : List Value} {x : DataW H × List MemPlace} (ht : P.underlying t = some (.slice e)) (he : P.underlying e = some (.struct #[f0, f1, f2, f3])) (ce : P.cellsOf e = 4)
    (o0 : f0.offset = 0) (o1 : f1.offset = 1) (o2 : f2.offset = 2) (o3 : f3.offset = 3) (c0 : P.cellsOf f0.type = 1) (c1 : P.cellsOf f1.type = 1) (c2 : P.cellsOf f2.type = 1) (c3 : P.cellsOf f3.type = 1)
    (k0 : P.underlying f0.type = some .string) (e1 : f1.type = tA) (k2 : P.underlying f2.type = some .string) (k3 : P.underlying f3.type = some (.int .i64))
    (hA : P.underlying tA = some (.slice eA)) (heA : P.underlying eA = some (.struct #[a0, a1])) (ceA : P.cellsOf eA = 2) (p0 : a0.offset = 0) (p1 : a1.offset = 1) (b0 : P.cellsOf a0.type = 1) (b1 : P.cellsOf a1.type = 1) (l0 : P.underlying a0.type = some .string) (l1 : P.underlying a1.type = some .string)
    (h : DataW.trod enc P w 0 (fun _ => true) true fuel t cs = some x) : ∃ v Q, cs = [v] ∧ NdSl w v Q ∧ Q.length ≤ maxLen ∧ (∀ p ∈ Q, p.1.attrs.length ≤ maxLen) ∧
      ((x.1 = .nil ∧ Q = []) ∨ ∃ (D : Nat → DataW H) (sp : List (DataW H)), x.1 = .slice ((List.range Q.length).map D) sp ∧ ∀ j (hj : j < Q.length), NodeD (Q[j]'hj).1 (D j)) := by
  rcases open_slice ht h with ⟨hcs, hx⟩ | ⟨a, len, cap, m, n, D, Pl, hcs, hb, hl, hm, hmm, hx, hi⟩
  · exact ⟨_, [], hcs, ⟨Or.inl ⟨rfl, _, _, rfl⟩, fun p hp => by simp at hp⟩, Nat.zero_le _, fun p hp => by simp at hp, Or.inl ⟨by rw [hx], rfl⟩⟩
  · simp only [if_true] at hmm
    subst hmm
    have each : ∀ i, i < len → ∃ q : Nd × Value, (w.cell? (a.add (i * 4)) = some (strV q.1.name) ∧ w.cell? (a.add (i * 4 + 1)) = some q.2 ∧ w.cell? (a.add (i * 4 + 2)) = some (strV q.1.text) ∧ w.cell? (a.add (i * 4 + 3)) = some (.int .i64 q.1.up)) ∧ AtSl w q.2 q.1.attrs ∧ q.1.attrs.length ≤ maxLen ∧ NodeD q.1 (D i) := by
      intro i hi'
      obtain ⟨cs', h1, h2⟩ := hi i (by omega)
      rw [ce] at h1
      obtain ⟨_, hlen, hcell⟩ := World.cells?_some h1
      obtain ⟨y0, y1, y2, y3, n', hy, _, g0, g1, g2, g3⟩ := Go.Joins.trod_struct4 he h2
      rw [o0, c0] at g0
      rw [o1, c1, e1] at g1
      rw [o2, c2] at g2
      rw [o3, c3] at g3
      match cs', hlen with
      | [v0, v1, v2, v3], _ =>
        obtain ⟨s0, e0, f0', _⟩ := DataW.trod_string k0 g0
        obtain ⟨vA, lA, eA', hatA, hlA, hdA⟩ := trod_atSl hA heA ceA p0 p1 b0 b1 l0 l1 g1
        obtain ⟨s2, e2, f2', _⟩ := DataW.trod_string k2 g2
        obtain ⟨z3, e3, f3', _⟩ := DataW.trod_int k3 g3
        have q0 := hcell 0 (by omega)
        have q1 := hcell 1 (by omega)
        have q2 := hcell 2 (by omega)
        have q3 := hcell 3 (by omega)
        rw [add_add] at q0 q1 q2 q3
        simp at e0 eA' e2 e3
        subst e0 eA' e2 e3
        refine ⟨(⟨s0.data.toList, lA, s2.data.toList, z3⟩, v1), ⟨by simpa [strV] using q0, by simpa using q1, by simpa [strV] using q2, by simpa using q3⟩, hatA, hlA, y1.1, ?_, hdA⟩
        have := congrArg Prod.fst hy
        simp only at this
        rw [this, f0', f2', f3']
    haveI : Inhabited (Nd × Value) := ⟨(nd0, .nilIface)⟩
    obtain ⟨q, hq⟩ := choose_lt each
    have hlen : ((List.range len).map q).length = len := by simp
    refine ⟨_, (List.range len).map q, hcs, ⟨?_, fun p hp => ?_⟩, by simp; omega, fun p hp => ?_, Or.inr ⟨D, _, by rw [hx, hlen], fun j hj => ?_⟩⟩
    · by_cases h0 : len = 0
      · subst h0; exact Or.inl ⟨rfl, _, _, rfl⟩
      · obtain ⟨b, off, rfl, _⟩ := spot_none (by have := (hq 0 (by omega)).1.1; rwa [Nat.zero_mul] at this)
        refine Or.inr ⟨b, off, m, by simpa using hl, by simp, fun j hj => ?_⟩
        have hj' : j < len := by simpa using hj
        obtain ⟨⟨r0, r1, r2, r3⟩, _⟩ := hq j hj'
        rw [add_plain] at r0 r1 r2 r3
        simp only [List.getElem_map, List.getElem_range]
        exact ⟨r0, by rw [Nat.add_assoc]; exact r1, by rw [Nat.add_assoc]; exact r2, by rw [Nat.add_assoc]; exact r3⟩
    · obtain ⟨i, hi', rfl⟩ := List.mem_map.1 hp
      exact (hq i (List.mem_range.1 hi')).2.1
    · obtain ⟨i, hi', rfl⟩ := List.mem_map.1 hp
      exact (hq i (List.mem_range.1 hi')).2.2.1
    · simp only [List.getElem_map, List.getElem_range]
      exact (hq j (by simpa using hj)).2.2.2
/-- The weights of a part are weights of the whole. -/
theorem weights_mem_all {e : TypeId} {d : DataW H} {n : Nat} : ∀ {l : List (DataW H)}, d ∈ l → n ∈ d.weights P e → n ∈ DataW.weightsAll P e l
  | x :: r, hd, hn => by
    simp only [DataW.weightsAll, List.mem_append]
    rcases List.mem_cons.1 hd with rfl | hd
    · exact Or.inl hn
    · exact Or.inr (weights_mem_all hd hn)
/-- A token's attributes are no more than may be reached. -/
theorem tok_weight {e eA : TypeId} {f0 f1 f2 f3 : Field} {tA : TypeId} {t : Tk} {d : DataW H} (he : P.underlying e = some (.struct #[f0, f1, f2, f3])) (e2 : f2.type = tA) (hA : P.underlying tA = some (.slice eA)) (h : TokD t d) (hw : ∀ n ∈ d.weights P e, n ≤ reachBytes) : t.attrs.length * P.bytesOf eA ≤ reachBytes := by
  obtain ⟨dA, rfl, hd⟩ := h
  rcases hd with ⟨rfl, h0⟩ | ⟨es, sp, rfl, hl, _⟩
  · rw [h0]; simp
  · have hm := hw ((es.length + sp.length) * P.bytesOf eA) (by
      simp [DataW.weights, he, DataW.weightsEach, e2, hA])
    rw [← hl]
    exact Nat.le_trans (Nat.mul_le_mul_right _ (Nat.le_add_right _ _)) hm
end
end Go.Proofs.YtkjjjbipmobdaaaGreatDoor

/- Tokens and nodes that came in; what a reading's bulk says of their texts. -/
namespace Go.Proofs.YtkjjjbipmobdaaaGreatDoor
open Go.ChangeShapes Go.WideShapes Go.ChangeAt Go.RowKit

section
variable {H : Type}
theorem bulk_app (l r : List (DataW H)) : Rows.uptoBulkAll (l ++ r) = Rows.uptoBulkAll l + Rows.uptoBulkAll r := by
  induction l with
  | nil => simp [Rows.uptoBulkAll]
  | cons x l ih => simp only [List.cons_append, Rows.uptoBulkAll, ih]; omega
theorem bulk_tok {t : Tk} {d : DataW H} (h : TokD t d) : t.text.length ≤ Rows.uptoBulk d := by
  obtain ⟨dA, rfl, _⟩ := h
  simp only [Rows.uptoBulk, Rows.uptoBulkAll]
  omega
theorem bulk_node {x : Nd} {d : DataW H} (h : NodeD x d) : x.text.length ≤ Rows.uptoBulk d := by
  obtain ⟨dA, rfl, _⟩ := h
  simp only [Rows.uptoBulk, Rows.uptoBulkAll]
  omega
theorem bulk_in {l : List (DataW H)} {d : DataW H} (h : d ∈ l) : Rows.uptoBulk d ≤ Rows.uptoBulkAll l := by
  induction l with
  | nil => cases h
  | cons x l ih =>
    simp only [Rows.uptoBulkAll]
    rcases List.mem_cons.1 h with rfl | h
    · omega
    · have := ih h; omega
theorem bulk_ats {l : List At} {d : DataW H} (h : AtD l d) : ∀ a ∈ l, a.2.length ≤ Rows.uptoBulk d := by
  intro a ha
  rcases h with ⟨_, rfl⟩ | ⟨es, sp, rfl, hl, he⟩
  · cases ha
  · obtain ⟨j, hj, rfl⟩ := List.mem_iff_getElem.1 ha
    have hj2 : j < es.length := by omega
    have h1 := bulk_in (List.getElem_mem hj2)
    rw [he j hj hj2] at h1
    simp only [Rows.uptoBulk, Rows.uptoBulkAll] at h1 ⊢
    omega
theorem bulk_nats {x : Nd} {d : DataW H} (h : NodeD x d) : ∀ a ∈ x.attrs, a.2.length ≤ Rows.uptoBulk d := by
  obtain ⟨dA, rfl, hA⟩ := h
  intro a ha
  have := bulk_ats hA a ha
  simp only [Rows.uptoBulk, Rows.uptoBulkAll]
  omega
/-- Texts, put together, are no more than the bulk. -/
theorem bulk_sum {α : Type} (f : α → Nat) (Q : List α) (D : Nat → DataW H) (h : ∀ j (hj : j < Q.length), f (Q[j]'hj) ≤ Rows.uptoBulk (D j)) : (Q.map f).sum ≤ Rows.uptoBulkAll ((List.range Q.length).map D) := by
  have key : ∀ n, n ≤ Q.length → ((Q.take n).map f).sum ≤ Rows.uptoBulkAll ((List.range n).map D) := by
    intro n
    induction n with
    | zero => intro _; simp [Rows.uptoBulkAll]
    | succ n ih =>
      intro hn
      have h1 := h n (by omega)
      have h2 := ih (by omega)
      rw [List.take_add_one, List.getElem?_eq_getElem (by omega), Option.toList_some, List.map_append, List.sum_append, List.range_succ, List.map_append, bulk_app]
      simp only [List.map_cons, List.map_nil, List.sum_cons, List.sum_nil, Rows.uptoBulkAll]
      omega
  have := key Q.length (Nat.le_refl _)
  rwa [List.take_length] at this
end
set_option maxRecDepth 100000 in
/-- Tokens that came in. -/
theorem open_tks {H : Type} {enc : TypeId × Value → H} {r : Reach} {b0 : Nat} {W : World} {v : Value} {d : DataW H} {ps : List MemPlace} (hval : Value.okWide Tryz.prog W r b0 64 v) (hd : DataW.Trod enc Tryz.prog W 0 (fun _ => true) true 64 v d ps) :
    ∃ Q, TkSl W v Q ∧ Q.length ≤ maxLen ∧ (∀ p ∈ Q, p.1.attrs.length ≤ maxLen) ∧ ((d = .nil ∧ Q = []) ∨ ∃ (D : Nat → DataW H) (sp : List (DataW H)), d = .slice ((List.range Q.length).map D) sp ∧ ∀ j (hj : j < Q.length), TokD (Q[j]'hj).1 (D j)) := by
  obtain ⟨a0, len, cap, rfl⟩ := okWide_slice Tryz.underlying64 hval
  obtain ⟨fuel, hf⟩ := hd
  obtain ⟨u, Q, hcs, h⟩ := trod_tkSl Tryz.underlying64 Tryz.underlying100 (by kernel_rfl) rfl rfl rfl rfl (by kernel_rfl) (by kernel_rfl) (by kernel_rfl) (by kernel_rfl) Tryz.underlying3 Tryz.underlying9 rfl Tryz.underlying9
    Tryz.underlying49 Tryz.underlying85 (by kernel_rfl) rfl rfl (by kernel_rfl) (by kernel_rfl) Tryz.underlying9 Tryz.underlying9 hf
  simp [Value.cells] at hcs
  subst hcs
  exact ⟨Q, h⟩
set_option maxRecDepth 100000 in
/-- Nodes that came in. -/
theorem open_nds {H : Type} {enc : TypeId × Value → H} {r : Reach} {b0 : Nat} {W : World} {v : Value} {d : DataW H} {ps : List MemPlace} (hval : Value.okWide Tryz.prog W r b0 22 v) (hd : DataW.Trod enc Tryz.prog W 0 (fun _ => true) true 22 v d ps) :
    ∃ Q, NdSl W v Q ∧ Q.length ≤ maxLen ∧ (∀ p ∈ Q, p.1.attrs.length ≤ maxLen) ∧ ((d = .nil ∧ Q = []) ∨ ∃ (D : Nat → DataW H) (sp : List (DataW H)), d = .slice ((List.range Q.length).map D) sp ∧ ∀ j (hj : j < Q.length), NodeD (Q[j]'hj).1 (D j)) := by
  obtain ⟨a0, len, cap, rfl⟩ := okWide_slice Tryz.underlying22 hval
  obtain ⟨fuel, hf⟩ := hd
  obtain ⟨u, Q, hcs, h⟩ := trod_ndSl Tryz.underlying22 Tryz.underlying51 (by kernel_rfl) rfl rfl rfl rfl (by kernel_rfl) (by kernel_rfl) (by kernel_rfl) (by kernel_rfl) Tryz.underlying9 rfl Tryz.underlying9 Tryz.underlying3
    Tryz.underlying49 Tryz.underlying85 (by kernel_rfl) rfl rfl (by kernel_rfl) (by kernel_rfl) Tryz.underlying9 Tryz.underlying9 hf
  simp [Value.cells] at hcs
  subst hcs
  exact ⟨Q, h⟩
section
variable {H : Type}
/-- No token has more attributes than may be reached. -/
theorem toks_weight {Q : List (Tk × Value)} {d : DataW H} (hd : (d = .nil ∧ Q = []) ∨ ∃ (D : Nat → DataW H) (sp : List (DataW H)), d = .slice ((List.range Q.length).map D) sp ∧ ∀ j (hj : j < Q.length), TokD (Q[j]'hj).1 (D j)) (hw : ∀ n ∈ d.weights Tryz.prog 64, n ≤ reachBytes) : ∀ p ∈ Q, p.1.attrs.length * 32 ≤ 140737488355328 := by
  intro p hp
  rcases hd with ⟨_, rfl⟩ | ⟨D, sp, rfl, hD⟩
  · simp at hp
  · obtain ⟨j, hj, rfl⟩ := List.mem_iff_getElem.1 hp
    have hb : Tryz.prog.bytesOf 85 = 32 := by kernel_rfl
    have := tok_weight (P := Tryz.prog) Tryz.underlying100 rfl Tryz.underlying49 (hD j hj) fun n hn => hw n (by
      simp only [DataW.weights, Tryz.underlying64, List.mem_cons, List.mem_append]
      exact Or.inr (Or.inl (weights_mem_all (List.mem_map.2 ⟨j, List.mem_range.2 hj, rfl⟩) hn)))
    rw [hb] at this
    unfold reachBytes at this
    omega
theorem weights_one {P : Program} {t : TypeId} {ts : List TypeId} {d : DataW H} {ds : List (DataW H)} (h : (DataW.weightsEach P (t :: ts) (d :: ds)).all (fun n => decide (n ≤ reachBytes)) = true) : ∀ n ∈ d.weights P t, n ≤ reachBytes := fun n hn => by
  have := List.all_eq_true.1 h n (by simp only [DataW.weightsEach, List.mem_append]; exact Or.inl hn)
  simpa using this
theorem toks_bulk {Q : List (Tk × Value)} {d : DataW H} (hd : (d = .nil ∧ Q = []) ∨ ∃ (D : Nat → DataW H) (sp : List (DataW H)), d = .slice ((List.range Q.length).map D) sp ∧ ∀ j (hj : j < Q.length), TokD (Q[j]'hj).1 (D j)) : sumK (Q.map Prod.fst) ≤ Rows.uptoBulk d := by
  unfold sumK
  rw [List.map_map]
  rcases hd with ⟨_, rfl⟩ | ⟨D, sp, rfl, hD⟩
  · simp
  · have := bulk_sum (fun p : Tk × Value => p.1.text.length) Q D fun j hj => bulk_tok (hD j hj)
    simp only [Rows.uptoBulk]
    refine Nat.le_trans this ?_
    omega
theorem nds_bulk {Q : List (Nd × Value)} {d : DataW H} (hd : (d = .nil ∧ Q = []) ∨ ∃ (D : Nat → DataW H) (sp : List (DataW H)), d = .slice ((List.range Q.length).map D) sp ∧ ∀ j (hj : j < Q.length), NodeD (Q[j]'hj).1 (D j)) : sumT (nodes Q) ≤ Rows.uptoBulk d := by
  unfold sumT nodes
  rw [List.map_map]
  rcases hd with ⟨_, rfl⟩ | ⟨D, sp, rfl, hD⟩
  · simp
  · have := bulk_sum (fun p : Nd × Value => p.1.text.length) Q D fun j hj => bulk_node (hD j hj)
    simp only [Rows.uptoBulk]
    refine Nat.le_trans this ?_
    omega
/-- No node's attribute is longer than the bulk. -/
theorem nds_ats {Q : List (Nd × Value)} {d : DataW H} (hd : (d = .nil ∧ Q = []) ∨ ∃ (D : Nat → DataW H) (sp : List (DataW H)), d = .slice ((List.range Q.length).map D) sp ∧ ∀ j (hj : j < Q.length), NodeD (Q[j]'hj).1 (D j)) : ∀ x ∈ nodes Q, ∀ a ∈ x.attrs, a.2.length ≤ Rows.uptoBulk d := by
  intro x hx a ha
  rcases hd with ⟨_, rfl⟩ | ⟨D, sp, rfl, hD⟩
  · cases hx
  · obtain ⟨p, hp, rfl⟩ := List.mem_map.1 hx
    obtain ⟨j, hj, rfl⟩ := List.mem_iff_getElem.1 hp
    have h1 := bulk_nats (hD j hj) a ha
    have h2 := bulk_in (List.mem_map.2 ⟨j, List.mem_range.2 hj, rfl⟩ : D j ∈ (List.range Q.length).map D)
    simp only [Rows.uptoBulk]
    omega
end
end Go.Proofs.YtkjjjbipmobdaaaGreatDoor
