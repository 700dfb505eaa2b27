/- Layer 12, plain: what holds of the nodes of tokens that make a tree. -/
import Derived.Test.YtodocdbnflmgnaaDoorD12p
namespace Go.Proofs.YtodocdbnflmgnaaDoor

theorem take_fold_app : ∀ (l m : List Tk) (s : Bs), foldB s (l ++ m) = match foldB s l with | none => none | some s' => foldB s' m
  | [], m, s => rfl
  | x :: t, m, s => by
    rw [List.cons_append, foldB, foldB]
    cases takeB s x with
    | none => rfl
    | some s' => exact take_fold_app t m s'
/-- Any property that each token keeps. -/
theorem foldB_keeps (J : Bs → List Tk → Prop) (hJ : ∀ s l x s', J s l → takeB s x = some s' → J s' (l ++ [x])) : ∀ (m : List Tk) (s s' : Bs) (l : List Tk), J s l → foldB s m = some s' → J s' (l ++ m)
  | [], s, s', l, h, e => by
    injection e with e
    subst e
    rw [List.append_nil]; exact h
  | x :: t, s, s', l, h, e => by
    rw [foldB] at e
    cases ht : takeB s x with
    | none => rw [ht] at e; cases e
    | some s1 =>
      rw [ht] at e
      have := foldB_keeps J hJ t s1 s' (l ++ [x]) (hJ s l x s1 h ht) e
      rwa [List.append_assoc] at this
/-- What a token that is taken does. -/
theorem takeB_cases {s s' : Bs} {x : Tk} (e : takeB s x = some s') :
    (∃ y, s' = ⟨s.nds ++ [y], s.nds.length⟩ ∧ y.up = s.up ∧ y.name ≠ [] ∧ (y.attrs = x.attrs) ∧ y.text = [] ∧ ¬ (s.up = -1 ∧ s.nds ≠ []) ∧ x.kind = 1) ∨
    (∃ y, s' = ⟨s.nds ++ [y], s.up⟩ ∧ y.up = s.up ∧ (y.attrs = x.attrs ∧ y.text = [] ∨ y.attrs = [] ∧ y.text = x.text) ∧ ¬ (s.up = -1 ∧ s.nds ≠ []) ∧ x.kind ≠ 2) ∨
    (s' = ⟨s.nds, upN s.nds s.up⟩ ∧ s.up ≠ -1 ∧ x.kind = 2) := by
  unfold takeB at e
  split at e
  · cases e
  rename_i h0
  split at e
  · rename_i hc; injection e with e; exact Or.inl ⟨elemN x s.up, e.symm, rfl, hc.2, rfl, rfl, h0, hc.1⟩
  split at e
  · rename_i hc; injection e with e; exact Or.inr (Or.inl ⟨elemN x s.up, e.symm, rfl, Or.inl ⟨rfl, rfl⟩, h0, by omega⟩)
  split at e
  · rename_i hc; injection e with e; exact Or.inr (Or.inl ⟨textN x s.up, e.symm, rfl, Or.inr ⟨rfl, rfl⟩, h0, by omega⟩)
  split at e
  · rename_i hc; injection e with e; exact Or.inr (Or.inr ⟨e.symm, hc.2.1, hc.1⟩)
  · cases e
/-- How many tokens begin something, or are texts. -/
def cntB (l : List Tk) : Nat := l.countP fun x => x.kind != 2
theorem foldB_count {l : List Tk} {s : Bs} (e : foldB bs0 l = some s) : s.nds.length = cntB l := by
  have := foldB_keeps (fun s l => s.nds.length = cntB l) (fun s l x s' h e => by
    unfold cntB at h ⊢
    rw [List.countP_append, ← h]
    rcases takeB_cases e with ⟨y, rfl, _, _, _, _, _, hk⟩ | ⟨y, rfl, _, _, _, hk⟩ | ⟨rfl, _, hk⟩
    · simp [hk]
    · simp [hk]
    · simp [hk]) l bs0 s [] rfl e
  simpa using this
/-- Attributes are a token's, or none; texts are no more than the tokens'. -/
theorem foldB_attrs {l : List Tk} {s : Bs} (e : foldB bs0 l = some s) : ∀ x ∈ s.nds, x.attrs = [] ∨ ∃ t ∈ l, x.attrs = t.attrs := by
  have := foldB_keeps (fun s l => ∀ x ∈ s.nds, x.attrs = [] ∨ ∃ t ∈ l, x.attrs = t.attrs) (fun s l x s' h e => by
    have hold : ∀ z ∈ s.nds, z.attrs = [] ∨ ∃ t ∈ l ++ [x], z.attrs = t.attrs := fun z hz => by
      rcases h z hz with h | ⟨t, ht, h⟩
      · exact Or.inl h
      · exact Or.inr ⟨t, List.mem_append_left _ ht, h⟩
    rcases takeB_cases e with ⟨y, rfl, _, _, ha, _⟩ | ⟨y, rfl, _, ha, _⟩ | ⟨rfl, _⟩
    · intro z hz
      rcases List.mem_append.1 hz with hz | hz
      · exact hold z hz
      · rw [List.mem_singleton] at hz; subst hz; exact Or.inr ⟨x, by simp, ha⟩
    · intro z hz
      rcases List.mem_append.1 hz with hz | hz
      · exact hold z hz
      · rw [List.mem_singleton] at hz; subst hz
        rcases ha with ha | ha
        · exact Or.inr ⟨x, by simp, ha.1⟩
        · exact Or.inl ha.1
    · exact hold) l bs0 s [] (fun x h => by simp [bs0] at h) e
  simpa using this
def sumK (l : List Tk) : Nat := (l.map fun x => x.text.length).sum
theorem foldB_sum {l : List Tk} {s : Bs} (e : foldB bs0 l = some s) : sumT s.nds ≤ sumK l := by
  have := foldB_keeps (fun s l => sumT s.nds ≤ sumK l) (fun s l x s' h e => by
    have e2 : sumK (l ++ [x]) = sumK l + x.text.length := by unfold sumK; simp
    rw [e2]
    have e3 : ∀ y, sumT (s.nds ++ [y]) = sumT s.nds + y.text.length := fun y => by unfold sumT; simp
    rcases takeB_cases e with ⟨y, rfl, _, _, _, ht, _⟩ | ⟨y, rfl, _, ht, _⟩ | ⟨rfl, _⟩
    · show sumT (s.nds ++ [y]) ≤ _
      rw [e3, ht]; simp; omega
    · show sumT (s.nds ++ [y]) ≤ _
      rw [e3]
      rcases ht with ht | ht
      · rw [ht.2]; simp; omega
      · rw [ht.2]; omega
    · show sumT s.nds ≤ _
      omega) l bs0 s [] (Nat.le_refl _) e
  simpa using this
section
variable {l : List Nd} {y : Nd}
theorem atN_app {k : Int} (h : placeB l k = true) : atN (l ++ [y]) k = atN l k := by
  have := place_iff.1 h
  unfold atN
  rw [getD_app _ _ _ _ (by omega)]
theorem atN_last : atN (l ++ [y]) (l.length : Int) = y := by unfold atN; rw [Int.toNat_natCast, getD_last]
theorem place_app {k : Int} (h : placeB l k = true) : placeB (l ++ [y]) k = true := by
  rw [place_iff] at h ⊢
  simp only [List.length_append, List.length_cons, List.length_nil]; omega
theorem within_app {i k : Int} (h : Within l i k) : Within (l ++ [y]) i k := by
  induction h with
  | here h => exact .here (place_app h)
  | up hp _ ih =>
    refine .up (place_app hp) ?_
    unfold upN
    rw [atN_app hp]
    exact ih
theorem within_trans {i j k : Int} (h : Within l i k) (h2 : Within l j i) : Within l j k := by
  induction h with
  | here _ => exact h2
  | up hp _ ih => exact .up hp ih
end
/-- Nodes that stand as those of a tree do; up: where the next one would stand. -/
structure TreeAt (l : List Nd) : Prop where
  ups : ∀ j : Nat, j < l.length → (j = 0 ∧ upN l (j : Int) = -1) ∨ (0 < j ∧ 0 ≤ upN l (j : Int) ∧ upN l (j : Int) < j)
  elem : ∀ j : Nat, 0 < j → j < l.length → (atN l (upN l (j : Int))).name ≠ []
  anc : ∀ j : Nat, 0 < j → j < l.length → Within l (upN l (j : Int)) ((j : Int) - 1)
structure BsT (s : Bs) : Prop where
  ok : BsOk s
  tree : TreeAt s.nds
  here : s.up ≠ -1 → (atN s.nds s.up).name ≠ []
  last : s.up ≠ -1 → Within s.nds s.up ((s.nds.length : Int) - 1)
theorem bsT_0 : BsT bs0 := ⟨bsOk_0, ⟨fun j h => by simp [bs0] at h, fun j _ h => by simp [bs0] at h, fun j _ h => by simp [bs0] at h⟩, fun e => absurd rfl e, fun e => absurd rfl e⟩
theorem BsT.place {s : Bs} (h : BsT s) (hu : s.up ≠ -1) : placeB s.nds s.up = true := by
  rcases h.ok.up with e | e
  · exact absurd e hu
  · exact place_iff.2 e
theorem BsT.push {s : Bs} (h : BsT s) {y : Nd} (hy : y.up = s.up) (hn : ¬ (s.up = -1 ∧ s.nds ≠ [])) : TreeAt (s.nds ++ [y]) := by
  have hlen : (s.nds ++ [y]).length = s.nds.length + 1 := by simp
  have hup : ∀ j : Nat, j < s.nds.length → upN (s.nds ++ [y]) (j : Int) = upN s.nds (j : Int) := fun j hj => by unfold upN; rw [atN_app (place_nat hj)]
  have hlast : upN (s.nds ++ [y]) (s.nds.length : Int) = s.up := by unfold upN; rw [atN_last, hy]
  have hne : 0 < s.nds.length → s.up ≠ -1 := fun h0 e => hn ⟨e, List.length_pos_iff.1 h0⟩
  have hz : s.nds.length = 0 → s.up = -1 := fun h0 => by
    rcases h.ok.up with e | e
    · exact e
    · omega
  refine ⟨fun j hj => ?_, fun j h0 hj => ?_, fun j h0 hj => ?_⟩
  · rw [hlen] at hj
    by_cases e : j < s.nds.length
    · rw [hup j e]; exact h.tree.ups j e
    · obtain rfl : j = s.nds.length := by omega
      rw [hlast]
      rcases Nat.eq_zero_or_pos s.nds.length with h0 | h0
      · exact Or.inl ⟨h0, hz h0⟩
      · rcases h.ok.up with e | e
        · exact absurd e (hne h0)
        · exact Or.inr ⟨h0, e⟩
  · rw [hlen] at hj
    by_cases e : j < s.nds.length
    · rw [hup j e]
      have hu := h.tree.ups j e
      rw [atN_app (place_iff.2 (by omega))]
      exact h.tree.elem j h0 e
    · obtain rfl : j = s.nds.length := by omega
      rw [hlast, atN_app (h.place (hne h0))]
      exact h.here (hne h0)
  · rw [hlen] at hj
    by_cases e : j < s.nds.length
    · rw [hup j e]; exact within_app (h.tree.anc j h0 e)
    · obtain rfl : j = s.nds.length := by omega
      rw [hlast]
      exact within_app (h.last (hne h0))
theorem BsT.take {s s' : Bs} {x : Tk} (h : BsT s) (e : takeB s x = some s') : BsT s' := by
  have hok := (takeB_ok h.ok e).1
  rcases takeB_cases e with ⟨y, rfl, hy, hnm, _, _, hn, _⟩ | ⟨y, rfl, hy, _, hn, _⟩ | ⟨rfl, hu, _⟩
  · refine ⟨hok, h.push hy hn, fun _ => ?_, fun _ => ?_⟩
    · show (atN (s.nds ++ [y]) (s.nds.length : Int)).name ≠ []
      rw [atN_last]; exact hnm
    · show Within (s.nds ++ [y]) (s.nds.length : Int) (((s.nds ++ [y]).length : Int) - 1)
      rw [show (((s.nds ++ [y]).length : Int) - 1) = (s.nds.length : Int) by simp]
      exact .here (place_iff.2 (by simp; omega))
  · refine ⟨hok, h.push hy hn, fun hu => ?_, fun hu => ?_⟩
    · show (atN (s.nds ++ [y]) s.up).name ≠ []
      rw [atN_app (h.place hu)]; exact h.here hu
    · show Within (s.nds ++ [y]) s.up (((s.nds ++ [y]).length : Int) - 1)
      rw [show (((s.nds ++ [y]).length : Int) - 1) = (s.nds.length : Int) by simp]
      refine .up (place_iff.2 (by simp; omega)) ?_
      rw [show upN (s.nds ++ [y]) (s.nds.length : Int) = s.up by unfold upN; rw [atN_last, hy]]
      exact .here (place_app (h.place hu))
  · have hp := h.place hu
    have hp' := place_iff.1 hp
    have hc : ((s.up.toNat : Nat) : Int) = s.up := Int.toNat_of_nonneg hp'.1
    have hups := h.tree.ups s.up.toNat (by omega)
    rw [hc] at hups
    refine ⟨hok, h.tree, fun hu2 => ?_, fun hu2 => ?_⟩
    · have := h.tree.elem s.up.toNat (by have : upN s.nds s.up ≠ -1 := hu2; omega) (by omega)
      rw [hc] at this
      exact this
    · have hu3 : upN s.nds s.up ≠ -1 := hu2
      exact within_trans (h.last hu) (show Within s.nds (upN s.nds s.up) s.up from .up hp (.here (place_iff.2 (by omega))))
theorem buildB_tree {l : List Tk} {nds : List Nd} (e : buildB l = some nds) : TreeAt nds ∧ nds ≠ [] ∧ nds.length = cntB l ∧ sumT nds ≤ sumK l ∧ ∀ x ∈ nds, x.attrs = [] ∨ ∃ t ∈ l, x.attrs = t.attrs := by
  unfold buildB at e
  cases hf : foldB bs0 l with
  | none => rw [hf] at e; cases e
  | some s =>
    rw [hf] at e
    simp only at e
    split at e
    · rename_i hc
      injection e with e
      subst e
      have := foldB_keeps (fun s _ => BsT s) (fun s _ x s' h e => h.take e) l bs0 s [] bsT_0 hf
      exact ⟨this.tree, hc.2, foldB_count hf, foldB_sum hf, foldB_attrs hf⟩
    · cases e
section
variable {l : List Nd}
theorem TreeAt.up_lt {k : Int} (h : TreeAt l) (hp : placeB l k = true) : upN l k < k := by
  have hp' := place_iff.1 hp
  have := h.ups k.toNat (by omega)
  rw [Int.toNat_of_nonneg hp'.1] at this
  omega
theorem TreeAt.le {i k : Int} (h : TreeAt l) (hw : Within l i k) : i ≤ k := by
  induction hw with
  | here _ => exact Int.le_refl _
  | up hp _ ih => have := h.up_lt hp; omega
/-- What stands within a node stands together. -/
theorem TreeAt.between {c : Int} (h : TreeAt l) : ∀ (d : Nat) (k j : Int), k = j + d → c ≤ j → Within l c k → Within l c j
  | 0, k, j, e, _, hw => by
    obtain rfl : k = j := by omega
    exact hw
  | d + 1, k, j, e, hc, hw => by
    refine TreeAt.between h d (k - 1) j (by omega) hc ?_
    have hp' := place_iff.1 hw.place
    have ht' := place_iff.1 hw.top
    cases hw with
    | here _ => omega
    | up hp hw =>
      have hk : ((k.toNat : Nat) : Int) = k := Int.toNat_of_nonneg hp'.1
      have := h.anc k.toNat (by omega) (by omega)
      rw [hk] at this
      exact within_trans this hw
/-- A kid of i doesn't stand within another one. -/
theorem TreeAt.apart {i c k : Int} (h : TreeAt l) (hc : upN l c = i) (hcp : placeB l c = true) (hk : upN l k = i) (hne : k ≠ c) : ¬ Within l c k := by
  intro hw
  cases hw with
  | here _ => exact hne rfl
  | up hp hw =>
    rw [hk] at hw
    have h1 := h.le hw
    have h2 := h.up_lt hcp
    omega
theorem TreeAt.text {i : Nat} (h : TreeAt l) (hi : i < l.length) (hn : (atN l (i : Int)).name = []) : kidsB l (i : Int) = [] ∧ textB l (i : Int) = (atN l (i : Int)).text := by
  have hno : ∀ k : Int, placeB l k = true → upN l k ≠ (i : Int) := fun k hp e => by
    have hp' := place_iff.1 hp
    have hk : ((k.toNat : Nat) : Int) = k := Int.toNat_of_nonneg hp'.1
    have hu := h.ups k.toNat (by omega)
    rw [hk] at hu
    have := h.elem k.toNat (by omega) (by omega)
    rw [hk, e] at this
    exact this hn
  refine ⟨?_, ?_⟩
  · rw [List.eq_nil_iff_forall_not_mem]
    intro j hj
    have := kidsB_bd hj
    exact hno j this.1 this.2.1
  · have honly : ∀ k : Int, Within l (i : Int) k → k = (i : Int) := fun k hw => by
      induction hw with
      | here _ => rfl
      | up hp _ ih => exact absurd ih (hno _ hp)
    have key : ∀ m : Nat, textTo l (i : Int) m = if i < m then (atN l (i : Int)).text else [] := fun m => by
      induction m with
      | zero => rfl
      | succ m ih =>
        rw [textTo_next, ih]
        by_cases e : m = i
        · subst e
          rw [if_neg (by omega), if_pos (by omega), List.nil_append]
          unfold bitB
          rw [if_pos ⟨hn, winB_iff.2 (.here (place_nat hi))⟩]
        · have hb : bitB l (i : Int) m = [] := by
            unfold bitB
            rw [if_neg]
            intro hc
            have := honly _ (winB_iff.1 hc.2)
            omega
          rw [hb, List.append_nil]
          by_cases e2 : i < m
          · rw [if_pos e2, if_pos (by omega)]
          · rw [if_neg e2, if_neg (by omega)]
    unfold textB
    rw [if_pos (place_nat hi), key, if_pos hi]
theorem kidsTo_still {i : Int} {a : Nat} : ∀ b : Nat, a ≤ b → (∀ j : Nat, a ≤ j → j < b → ¬ (upN l (j : Int) = i ∧ (j : Int) ≠ i)) → kidsTo l i b = kidsTo l i a
  | 0, hab, _ => by obtain rfl : a = 0 := by omega
                    rfl
  | b + 1, hab, hno => by
    by_cases e : a = b + 1
    · rw [e]
    · rw [kidsTo_next, if_neg (hno b (by omega) (by omega)), List.append_nil]
      exact kidsTo_still b (by omega) fun j h1 h2 => hno j h1 (by omega)
/-- What stands within i stands within one of its kids. -/
theorem kid_of {i k : Int} (hw : Within l i k) (hne : k ≠ i) : ∃ c, upN l c = i ∧ c ≠ i ∧ placeB l c = true ∧ Within l c k := by
  induction hw with
  | here _ => exact absurd rfl hne
  | @up k hp hw ih =>
    by_cases e : upN l k = i
    · exact ⟨k, e, hne, hp, .here hp⟩
    · obtain ⟨c, h1, h2, h3, h4⟩ := ih e
      exact ⟨c, h1, h2, h3, .up hp h4⟩
theorem flatMap_same {f g : Int → List UInt8} {xs : List Int} (hfg : ∀ c ∈ xs, f c = g c) : xs.flatMap f = xs.flatMap g := by
  rw [List.flatMap_def, List.flatMap_def, List.map_congr_left hfg]
theorem TreeAt.kids_text {i : Nat} (h : TreeAt l) (hi : i < l.length) (hn : (atN l (i : Int)).name ≠ []) : ∀ m : Nat, m ≤ l.length → textTo l (i : Int) m = (kidsTo l (i : Int) m).flatMap fun c => textTo l c m
  | 0, _ => rfl
  | m + 1, hm => by
    have ih := TreeAt.kids_text h hi hn m (by omega)
    have hpm : placeB l (m : Int) = true := place_nat (by omega)
    have hpi : placeB l (i : Int) = true := place_nat hi
    have hstep : ∀ xs : List Int, (∀ c ∈ xs, bitB l c m = []) → xs.flatMap (fun c => textTo l c (m + 1)) = xs.flatMap fun c => textTo l c m := fun xs hx =>
      flatMap_same fun c hc => by rw [textTo_next, hx c hc, List.append_nil]
    have hbit : ∀ c : Int, ¬ Within l c (m : Int) → bitB l c m = [] := fun c hc => by
      unfold bitB; rw [if_neg (fun e => hc (winB_iff.1 e.2))]
    rw [textTo_next]
    by_cases hkid : upN l (m : Int) = (i : Int) ∧ (m : Int) ≠ (i : Int)
    · -- a kid
      rw [kidsTo_next, if_pos hkid, List.flatMap_append, hstep _ (fun c hc => ?_), ← ih]
      · congr 1
        have hown : textTo l (m : Int) m = [] := by
          unfold textTo
          rw [List.flatMap_eq_nil_iff]
          intro j hj
          have hj := List.mem_range.1 hj
          unfold bitB
          rw [if_neg]
          intro e
          have := h.le (winB_iff.1 e.2)
          omega
        simp only [List.flatMap_cons, List.flatMap_nil, List.append_nil]
        rw [textTo_next, hown, List.nil_append]
        unfold bitB
        have w1 : winB l (i : Int) (m : Int) = true := winB_iff.2 (.up hpm (by rw [hkid.1]; exact .here hpi))
        have w2 : winB l (m : Int) (m : Int) = true := winB_iff.2 (.here hpm)
        rw [w1, w2]
      · have hb := kidsTo_bd hc
        exact hbit c (h.apart hb.2.2.1 (place_iff.2 (by omega)) hkid.1 (by omega))
    · rw [kidsTo_next, if_neg hkid, List.append_nil]
      by_cases hw : Within l (i : Int) (m : Int)
      · by_cases hmi : (m : Int) = (i : Int)
        · have hb : bitB l (i : Int) m = [] := by
            unfold bitB
            rw [if_neg (fun e => hn (by rw [← hmi]; exact e.1))]
          rw [hb, List.append_nil, ih]
          refine (hstep _ fun c hc => ?_).symm
          have hb2 := kidsTo_bd hc
          have := h.up_lt (k := c) (place_iff.2 (by omega))
          omega
        · obtain ⟨c, hc1, hc2, hc3, hc4⟩ := kid_of hw hmi
          have hcm := h.le hc4
          have hcp := place_iff.1 hc3
          have hne : c ≠ (m : Int) := fun e => hkid ⟨by rw [← e]; exact hc1, hmi⟩
          obtain ⟨q, rfl⟩ : ∃ q : Nat, c = q := ⟨c.toNat, by omega⟩
          have hq : q < m := by omega
          have hstill : kidsTo l (i : Int) m = kidsTo l (i : Int) q ++ [(q : Int)] := by
            rw [kidsTo_still (a := q + 1) m (by omega) (fun j h1 h2 e => ?_), kidsTo_next, if_pos ⟨hc1, hc2⟩]
            exact h.apart hc1 hc3 e.1 (by omega) (h.between (m - j) (m : Int) (j : Int) (by omega) (by omega) hc4)
          rw [ih, hstill, List.flatMap_append, List.flatMap_append, List.append_assoc, hstep (kidsTo l (i : Int) q) (fun c' hc' => ?_)]
          · congr 1
            simp only [List.flatMap_cons, List.flatMap_nil, List.append_nil]
            rw [textTo_next]
            congr 1
            unfold bitB
            have w1 : winB l (i : Int) (m : Int) = true := winB_iff.2 hw
            have w2 : winB l (q : Int) (m : Int) = true := winB_iff.2 hc4
            rw [w1, w2]
          · have hb := kidsTo_bd hc'
            refine hbit c' fun hw' => ?_
            exact h.apart hb.2.2.1 (place_iff.2 (by omega)) hc1 (by omega) (h.between (m - q) (m : Int) (q : Int) (by omega) (by omega) hw')
      · have hb := hbit (i : Int) hw
        rw [hb, List.append_nil, ih]
        refine (hstep _ fun c hc => hbit c fun hw' => hw ?_).symm
        have hb2 := kidsTo_bd hc
        exact within_trans hw' (.up (place_iff.2 (by omega)) (by rw [hb2.2.2.1]; exact .here hpi))
/-- The text of a node is that of its kids. -/
theorem TreeAt.kids {i : Nat} (h : TreeAt l) (hi : i < l.length) (hn : (atN l (i : Int)).name ≠ []) : textB l (i : Int) = (kidsB l (i : Int)).flatMap (textB l) := by
  have hk : kidsB l (i : Int) = kidsTo l (i : Int) l.length := by unfold kidsB; rw [if_pos (place_nat hi)]
  have ht : textB l (i : Int) = textTo l (i : Int) l.length := by unfold textB; rw [if_pos (place_nat hi)]
  rw [ht, hk, h.kids_text hi hn l.length (Nat.le_refl _)]
  refine flatMap_same fun c hc => ?_
  have hb := kidsTo_bd hc
  unfold textB
  rw [if_pos (place_iff.2 (by omega))]
end
end Go.Proofs.YtodocdbnflmgnaaDoor
