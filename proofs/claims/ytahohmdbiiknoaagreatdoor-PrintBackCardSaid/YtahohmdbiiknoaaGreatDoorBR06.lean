/- Layer 14, plain: a field; which item each node stands within; the part of a list that tells of one item. -/
import Derived.Test.YtahohmdbiiknoaaGreatDoorBR05
import Derived.Test.YtahohmdbiiknoaaGreatDoorBR02
import Derived.Test.YtahohmdbiiknoaaGreatDoorBR04
namespace Go.Proofs.YtahohmdbiiknoaaGreatDoor

/-- A field: the first kid's text of a name, cleaned. -/
def fieldB (l : List Nd) (i : Int) (nm : List UInt8) : Option (List UInt8) :=
  match namedB l i nm with
  | [] => none
  | j :: _ => some (cleanB (textB l j))
def linkL : List UInt8 := [108, 105, 110, 107]
/-- The attributes of the kids link. -/
def linksB (l : List Nd) (i : Int) : List (List At) := (namedB l i linkL).map fun j => (atN l j).attrs
/-- The nearest place of S at j or above. -/
inductive Near (l : List Nd) (S : List Int) : Int → Int → Prop where
  | here {j : Int} : placeB l j = true → j ∈ S → Near l S j j
  | up {j p : Int} : placeB l j = true → j ∉ S → Near l S (upN l j) p → Near l S j p
section
variable {l : List Nd} {S : List Int} {c p q x : Int}
theorem Near.place (h : Near l S x p) : placeB l x = true := by cases h <;> assumption
theorem Near.mem (h : Near l S x p) : p ∈ S := by induction h with
  | here _ h => exact h
  | up _ _ _ ih => exact ih
theorem Near.top (h : Near l S x p) : placeB l p = true := by induction h with
  | here h _ => exact h
  | up _ _ _ ih => exact ih
theorem near_uniq (h : Near l S x p) : Near l S x q → p = q := by
  induction h with
  | here hp hm =>
    intro k
    cases k with
    | here => rfl
    | up _ hn _ => exact absurd hm hn
  | up hp hn _ ih =>
    intro k
    cases k with
    | here _ hm => exact absurd hm hn
    | up _ _ k => exact ih k
theorem near_up (hS : ∀ s ∈ S, upN l s = c) (hc : Near l S c q) (h : Near l S x q) : Near l S (upN l x) q := by
  cases h with
  | here _ hm => rw [hS _ hm]; exact hc
  | up _ _ h => exact h
theorem near_of_within (hp : p ∈ S) (h : Within l p x) : ∃ q, Near l S x q := by
  induction h with
  | here h => exact ⟨_, .here h hp⟩
  | @up k h _ ih =>
    by_cases hk : k ∈ S
    · exact ⟨_, .here h hk⟩
    · obtain ⟨q, hq⟩ := ih
      exact ⟨q, .up h hk hq⟩
theorem near_keep (hS : ∀ s ∈ S, upN l s = c) (hc : Near l S c q) (h : Within l p x) : Near l S x q → Near l S p q := by
  induction h with
  | here _ => exact id
  | up _ _ ih => exact fun k => ih (near_up hS hc k)
/-- What the channel doesn't stand within, of that nothing is above it. -/
theorem not_within (hS : ∀ s ∈ S, upN l s = c) (hp : p ∈ S) (hno : ¬ Near l S c p) : ¬ Within l p c := fun h => by
  obtain ⟨q, hq⟩ := near_of_within hp h
  have h2 := near_keep hS hq h hq
  have h3 := near_uniq (Near.here h2.place hp) h2
  subst h3
  exact hno hq
end
/-- The list of owners: each node's nearest item's number. -/
structure Own (l : List Nd) (S : List Int) (O : List Int) : Prop where
  len : O.length = l.length
  ok : ∀ j, j < l.length → (O.getD j (-2) = -1 ∧ ∀ p, ¬ Near l S (j : Int) p) ∨ ∃ i, i < S.length ∧ O.getD j (-2) = (i : Int) ∧ Near l S (j : Int) (S.getD i 0)
theorem nodup_inj {α : Type} {S : List α} (hn : S.Nodup) {i j : Nat} (hi : i < S.length) (hj : j < S.length) (h : S[i] = S[j]) : i = j := by
  have hp := List.pairwise_iff_getElem.1 hn
  rcases Nat.lt_trichotomy i j with e | e | e
  · exact absurd h (hp i j hi hj e)
  · exact e
  · exact absurd h.symm (hp j i hj hi e)
theorem getD_inj {S : List Int} (hn : S.Nodup) {i j : Nat} (hi : i < S.length) (hj : j < S.length) (h : S.getD i 0 = S.getD j 0) : i = j := by
  have e1 : S.getD i 0 = S[i] := by simp [List.getD, hi]
  have e2 : S.getD j 0 = S[j] := by simp [List.getD, hj]
  rw [e1, e2] at h
  exact nodup_inj hn hi hj h
theorem Own.iff {l : List Nd} {S O : List Int} (h : Own l S O) (hn : S.Nodup) {i j : Nat} (hi : i < S.length) (hj : j < l.length) : O.getD j (-2) = (i : Int) ↔ Near l S (j : Int) (S.getD i 0) := by
  rcases h.ok j hj with ⟨e, hno⟩ | ⟨i', hi', e, hnr⟩
  · exact ⟨fun e2 => by omega, fun k => absurd k (hno _)⟩
  · refine ⟨fun e2 => ?_, fun k => ?_⟩
    · have : i' = i := by omega
      subst this; exact hnr
    · have := getD_inj hn hi' hi (near_uniq hnr k)
      rw [e, this]
/-- The places of one owner, among the first t. -/
def ownL (O : List Int) (k : Int) (t : Nat) : List Nat := (List.range t).filter fun j => decide (O.getD j (-2) = k)
/-- A node's place among those of its owner. -/
def plN (O : List Int) (j : Nat) : Nat := (ownL O (O.getD j (-2)) j).length
theorem ownL_succ (O : List Int) (k : Int) (t : Nat) : ownL O k (t + 1) = ownL O k t ++ if O.getD t (-2) = k then [t] else [] := by
  unfold ownL
  rw [List.range_succ, List.filter_append]
  congr 1
  by_cases h : O.getD t (-2) = k
  · rw [if_pos h, List.filter_cons, if_pos (by rw [decide_eq_true_eq]; exact h)]; rfl
  · rw [if_neg h, List.filter_cons, if_neg (by rw [decide_eq_true_eq]; exact h)]; rfl
theorem ownL_app (O : List Int) (k : Int) (t d : Nat) : ∃ r, ownL O k (t + d) = ownL O k t ++ r := by
  induction d with
  | zero => exact ⟨[], by simp⟩
  | succ d ih =>
    obtain ⟨r, hr⟩ := ih
    rw [← Nat.add_assoc, ownL_succ, hr, List.append_assoc]
    exact ⟨_, rfl⟩
theorem ownL_mem {O : List Int} {k : Int} {t j : Nat} : j ∈ ownL O k t ↔ j < t ∧ O.getD j (-2) = k := by unfold ownL; simp
theorem own_at {O : List Int} {k : Int} {n j : Nat} (hj : j < n) (ho : O.getD j (-2) = k) : (ownL O k n)[plN O j]? = some j ∧ plN O j < (ownL O k n).length := by
  obtain ⟨r, hr⟩ := ownL_app O k (j + 1) (n - (j + 1))
  rw [show j + 1 + (n - (j + 1)) = n by omega, ownL_succ, if_pos ho] at hr
  have hp : plN O j = (ownL O k j).length := by unfold plN; rw [ho]
  rw [hr, hp]
  refine ⟨by simp [List.append_assoc], by simp⟩
theorem ownL_nodup (O : List Int) (k : Int) (t : Nat) : (ownL O k t).Nodup := List.Pairwise.filter _ List.nodup_range
theorem own_back {O : List Int} {k : Int} {n t : Nat} (ht : t < (ownL O k n).length) : plN O ((ownL O k n)[t]'ht) = t := by
  have hm := ownL_mem.1 (List.getElem_mem ht)
  obtain ⟨h1, h2⟩ := own_at hm.1 hm.2
  rw [List.getElem?_eq_getElem h2] at h1
  injection h1 with h1
  exact nodup_inj (ownL_nodup O k n) h2 ht h1
theorem plN_inj {O : List Int} {k : Int} {n i j : Nat} (hi : i < n) (hj : j < n) (h1 : O.getD i (-2) = k) (h2 : O.getD j (-2) = k) (h : plN O i = plN O j) : i = j := by
  have a := (own_at hi h1).1
  have b := (own_at hj h2).1
  rw [h, b] at a
  injection a with a
  exact a.symm
/-- A node within the part of s. -/
def pcNd (l : List Nd) (O : List Int) (s : Nat) (j : Nat) : Nd := { atN l (j : Int) with up := if j = s then -1 else (plN O (upN l (j : Int)).toNat : Int) }
/-- The part of l that tells of the item s, whose number is k. -/
def pieceB (l : List Nd) (O : List Int) (k : Int) (s t : Nat) : List Nd := (ownL O k t).map (pcNd l O s)

theorem flat_filter {α β : Type} (p : α → Bool) (f : α → List β) : ∀ l : List α, (∀ x ∈ l, p x = false → f x = []) → l.flatMap f = (l.filter p).flatMap f
  | [], _ => rfl
  | x :: t, h => by
    have ih := flat_filter p f t (fun y hy => h y (List.mem_cons_of_mem _ hy))
    cases hp : p x
    · rw [List.flatMap_cons, h x (List.mem_cons_self ..) hp, List.filter_cons, hp]; simpa using ih
    · rw [List.flatMap_cons, List.filter_cons, hp]; simp [ih]
theorem range_map (J : List Nat) : (List.range J.length).map (fun t => J.getD t 0) = J := by
  refine List.ext_getElem (by simp) fun i h1 h2 => ?_
  simp [List.getD, h2]
theorem range_flat {β : Type} (J : List Nat) (g : Nat → List β) : (List.range J.length).flatMap (fun t => g (J.getD t 0)) = J.flatMap g := by
  have := congrArg (fun L => List.flatMap g L) (range_map J)
  simpa [List.flatMap_map] using this
theorem filter_map' {α β : Type} (p : β → Bool) (f : α → β) (l : List α) : (l.map f).filter p = (l.filter fun x => p (f x)).map f := by
  rw [List.filter_map]; rfl

/-- What a part of a list keeps: the item s stands at S's number i, its channel at c. -/
structure PcOk (l : List Nd) (S O : List Int) (c : Int) (i s : Nat) : Prop where
  own : Own l S O
  nodup : S.Nodup
  lt : i < S.length
  at_ : S.getD i 0 = (s : Int)
  kids : ∀ x ∈ S, placeB l x = true ∧ upN l x = c ∧ x ≠ c
  no : ¬ Near l S c (s : Int)
section
variable {l : List Nd} {S O : List Int} {c : Int} {i s : Nat}
theorem PcOk.mem (h : PcOk l S O c i s) : (s : Int) ∈ S := by
  rw [← h.at_]
  have : S.getD i 0 = S[i]'h.lt := by simp [List.getD, h.lt]
  rw [this]
  exact List.getElem_mem _
theorem PcOk.sl (h : PcOk l S O c i s) : s < l.length := by have := place_iff.1 (h.kids _ h.mem).1; omega
theorem PcOk.iff (h : PcOk l S O c i s) {j : Nat} (hj : j < l.length) : O.getD j (-2) = (i : Int) ↔ Near l S (j : Int) (s : Int) := by
  have := h.own.iff h.nodup h.lt hj
  rw [h.at_] at this
  exact this
theorem PcOk.item (h : PcOk l S O c i s) : O.getD s (-2) = (i : Int) := (h.iff h.sl).2 (.here (h.kids _ h.mem).1 h.mem)
/-- One step up, within the part. -/
theorem PcOk.step (_h : PcOk l S O c i s) {x : Int} (hn : Near l S x (s : Int)) (hne : x ≠ (s : Int)) : x ∉ S ∧ Near l S (upN l x) (s : Int) := by
  cases hn with
  | here => exact absurd rfl hne
  | up _ h1 h2 => exact ⟨h1, h2⟩
/-- A kid of the item. -/
structure KidOf (l : List Nd) (S : List Int) (s a : Nat) : Prop where
  up : upN l (a : Int) = (s : Int)
  ne : (a : Int) ≠ (s : Int)
  lt : a < l.length
theorem PcOk.kid (h : PcOk l S O c i s) {a : Nat} (k : KidOf l S s a) : (a : Int) ∉ S := fun hm => by
  have h1 := (h.kids _ hm).2.1
  rw [k.up] at h1
  have h2 := (h.kids _ h.mem).2.2
  exact h2 h1
theorem PcOk.near (h : PcOk l S O c i s) {a : Nat} (k : KidOf l S s a) {x : Int} (hw : Within l (a : Int) x) : Near l S x (s : Int) := by
  induction hw with
  | here hp => exact .up hp (h.kid k) (by rw [k.up]; exact .here (h.kids _ h.mem).1 h.mem)
  | @up y hp _ ih =>
    by_cases hy : y ∈ S
    · have e := (h.kids _ hy).2.1
      rw [e] at ih
      exact absurd ih h.no
    · exact .up hp hy ih
theorem PcOk.not_item (h : PcOk l S O c i s) {a : Nat} (k : KidOf l S s a) {y : Int} (hw : Within l (a : Int) (upN l y)) : y ∉ S := fun hy => by
  have e := (h.kids _ hy).2.1
  have := h.near k hw
  rw [e] at this
  exact h.no this
theorem pc_len (t : Nat) : (pieceB l O (i : Int) s t).length = (ownL O (i : Int) t).length := by unfold pieceB; simp
theorem PcOk.atP (_h : PcOk l S O c i s) {j : Nat} (hj : j < l.length) (ho : O.getD j (-2) = (i : Int)) : atN (pieceB l O (i : Int) s l.length) (plN O j : Int) = pcNd l O s j ∧ placeB (pieceB l O (i : Int) s l.length) (plN O j : Int) = true := by
  obtain ⟨h1, h2⟩ := own_at hj ho
  refine ⟨?_, place_nat (by rw [pc_len]; exact h2)⟩
  unfold atN pieceB
  rw [Int.toNat_natCast, List.getD, List.getElem?_map, h1]
  rfl
theorem PcOk.upP (h : PcOk l S O c i s) {j : Nat} (hj : j < l.length) (ho : O.getD j (-2) = (i : Int)) : upN (pieceB l O (i : Int) s l.length) (plN O j : Int) = if j = s then -1 else (plN O (upN l (j : Int)).toNat : Int) := by
  unfold upN
  rw [(h.atP hj ho).1]
  rfl
theorem PcOk.within (h : PcOk l S O c i s) {a : Nat} (k : KidOf l S s a) : ∀ x, Within l (a : Int) x → ∀ j : Nat, x = (j : Int) → Within (pieceB l O (i : Int) s l.length) (plN O a : Int) (plN O j : Int) := by
  intro x hw
  have hak := (h.iff k.lt).2 (h.near k (.here (place_nat k.lt)))
  induction hw with
  | here hp =>
    intro j e
    have : a = j := by omega
    subst this
    exact .here (h.atP k.lt hak).2
  | @up y hp hw ih =>
    intro j e
    subst e
    have hj : j < l.length := by have := place_iff.1 hp; omega
    have hnr := h.near k (.up hp hw)
    have ho := (h.iff hj).2 hnr
    have hys := h.not_item k hw
    have hne : j ≠ s := fun e => hys (by rw [e]; exact h.mem)
    refine .up (h.atP hj ho).2 ?_
    rw [h.upP hj ho, if_neg hne]
    have hpl := place_iff.1 hw.place
    exact ih (upN l (j : Int)).toNat (by omega)
theorem PcOk.back (h : PcOk l S O c i s) {a : Nat} (k : KidOf l S s a) : ∀ x, Within (pieceB l O (i : Int) s l.length) (plN O a : Int) x → ∀ j : Nat, j < l.length → O.getD j (-2) = (i : Int) → x = (plN O j : Int) → Within l (a : Int) (j : Int) := by
  intro x hw
  have hak := (h.iff k.lt).2 (h.near k (.here (place_nat k.lt)))
  induction hw with
  | here _ =>
    intro j hj ho e
    have : a = j := plN_inj k.lt hj hak ho (by omega)
    subst this
    exact .here (place_nat hj)
  | up _ hw ih =>
    intro j hj ho e
    subst e
    rw [h.upP hj ho] at hw ih
    by_cases hne : j = s
    · rw [if_pos hne] at hw
      have := place_iff.1 hw.place
      omega
    · rw [if_neg hne] at ih
      have hst := h.step ((h.iff hj).1 ho) (by omega)
      have hpl := place_iff.1 hst.2.place
      have e3 : ((upN l (j : Int)).toNat : Int) = upN l (j : Int) := by omega
      have := ih (upN l (j : Int)).toNat (by omega) ((h.iff (by omega)).2 (by rw [e3]; exact hst.2)) rfl
      rw [e3] at this
      exact .up (place_nat hj) this
theorem PcOk.win (h : PcOk l S O c i s) {a : Nat} (k : KidOf l S s a) {j : Nat} (hj : j < l.length) (ho : O.getD j (-2) = (i : Int)) : winB (pieceB l O (i : Int) s l.length) (plN O a : Int) (plN O j : Int) = winB l (a : Int) (j : Int) := by
  rw [Bool.eq_iff_iff, winB_iff, winB_iff]
  exact ⟨fun w => h.back k _ w j hj ho rfl, fun w => h.within k _ w j rfl⟩
/-- The text of a kid is the same. -/
theorem PcOk.text (h : PcOk l S O c i s) {a : Nat} (k : KidOf l S s a) : textB (pieceB l O (i : Int) s l.length) (plN O a : Int) = textB l (a : Int) := by
  have hak := (h.iff k.lt).2 (h.near k (.here (place_nat k.lt)))
  unfold textB
  rw [if_pos (h.atP k.lt hak).2, if_pos (place_nat k.lt)]
  unfold textTo
  rw [flat_filter (fun j => decide (O.getD j (-2) = (i : Int))) (bitB l (a : Int)) (List.range l.length) (fun j hj ho => by
    rw [List.mem_range] at hj
    rw [decide_eq_false_iff_not] at ho
    unfold bitB
    rw [if_neg]
    rintro ⟨_, hw⟩
    exact ho ((h.iff hj).2 (h.near k (winB_iff.1 hw))))]
  show _ = (ownL O (i : Int) l.length).flatMap _
  rw [pc_len, ← range_flat (ownL O (i : Int) l.length) (bitB l (a : Int))]
  unfold List.flatMap
  congr 1
  refine List.map_congr_left fun t ht => ?_
  rw [List.mem_range] at ht
  have hg : (ownL O (i : Int) l.length).getD t 0 = (ownL O (i : Int) l.length)[t] := by simp [List.getD, ht]
  obtain ⟨j1, j2⟩ := ownL_mem.1 (List.getElem_mem ht)
  have hb := own_back ht
  rw [hg]
  generalize (ownL O (i : Int) l.length)[t] = j at j1 j2 hb
  have e := (h.atP j1 j2).1
  have w := h.win k j1 j2
  rw [hb] at e w
  unfold bitB
  rw [e, w]
  rfl
/-- Its kids, too. -/
theorem PcOk.named (h : PcOk l S O c i s) (nm : List UInt8) (hnm : nm ≠ []) : namedB l (s : Int) nm = (namedB (pieceB l O (i : Int) s l.length) (plN O s : Int) nm).map fun t => (((ownL O (i : Int) l.length).getD t.toNat 0 : Nat) : Int) := by
  have hsi := h.item
  unfold namedB kidsB
  rw [if_neg hnm, if_neg hnm, if_pos (place_nat h.sl), if_pos (h.atP h.sl hsi).2]
  unfold kidsTo
  rw [filter_map', filter_map', List.filter_filter, List.filter_filter, List.map_map]
  have hJ : (List.range l.length).filter (fun j : Nat => ((atN l (j : Int)).name == nm) && (decide (upN l (j : Int) = (s : Int)) && decide ((j : Int) ≠ (s : Int)))) = (ownL O (i : Int) l.length).filter (fun j : Nat => ((atN l (j : Int)).name == nm) && (decide (upN l (j : Int) = (s : Int)) && decide ((j : Int) ≠ (s : Int)))) := by
    unfold ownL
    rw [List.filter_filter]
    refine List.filter_congr fun j hj => ?_
    rw [List.mem_range] at hj
    cases hq : ((atN l (j : Int)).name == nm) && (decide (upN l (j : Int) = (s : Int)) && decide ((j : Int) ≠ (s : Int)))
    · rfl
    · simp only [Bool.and_eq_true, decide_eq_true_eq] at hq
      have k : KidOf l S s j := ⟨hq.2.1, hq.2.2, hj⟩
      rw [decide_eq_true ((h.iff hj).2 (h.near k (.here (place_nat hj))))]
      rfl
  rw [hJ, ← range_map (ownL O (i : Int) l.length), filter_map', List.map_map, range_map, pc_len]
  have hf : (List.range (ownL O (i : Int) l.length).length).filter (fun t => ((atN l (((ownL O (i : Int) l.length).getD t 0 : Nat) : Int)).name == nm) && (decide (upN l (((ownL O (i : Int) l.length).getD t 0 : Nat) : Int) = (s : Int)) && decide ((((ownL O (i : Int) l.length).getD t 0 : Nat) : Int) ≠ (s : Int)))) =
      (List.range (ownL O (i : Int) l.length).length).filter (fun t : Nat => ((atN (pieceB l O (i : Int) s l.length) (t : Int)).name == nm) && (decide (upN (pieceB l O (i : Int) s l.length) (t : Int) = (plN O s : Int)) && decide ((t : Int) ≠ (plN O s : Int)))) := by
    refine List.filter_congr fun t ht => ?_
    rw [List.mem_range] at ht
    have hg : (ownL O (i : Int) l.length).getD t 0 = (ownL O (i : Int) l.length)[t] := by simp [List.getD, ht]
    obtain ⟨j1, j2⟩ := ownL_mem.1 (List.getElem_mem ht)
    have hb := own_back ht
    rw [hg]
    generalize (ownL O (i : Int) l.length)[t] = j at j1 j2 hb
    have e := (h.atP j1 j2).1
    have u := h.upP j1 j2
    rw [hb] at e u
    rw [e, u]
    have e1 : (pcNd l O s j).name = (atN l (j : Int)).name := rfl
    rw [e1]
    congr 1
    rw [Bool.eq_iff_iff]
    simp only [Bool.and_eq_true, decide_eq_true_eq]
    by_cases hjs : j = s
    · subst hjs
      rw [if_pos rfl, hb]
      exact ⟨fun h => absurd rfl h.2, fun h => absurd rfl h.2⟩
    · rw [if_neg hjs]
      have hst := h.step ((h.iff j1).1 j2) (by omega)
      have hpl := place_iff.1 hst.2.place
      have e3 : ((upN l (j : Int)).toNat : Int) = upN l (j : Int) := by omega
      have ho := (h.iff (j := (upN l (j : Int)).toNat) (by omega)).2 (by rw [e3]; exact hst.2)
      refine ⟨fun ⟨a, b⟩ => ⟨by rw [a]; simp, fun e => hjs (plN_inj j1 h.sl j2 hsi (by omega))⟩, fun ⟨a, b⟩ => ⟨?_, by omega⟩⟩
      have := plN_inj (by omega) h.sl ho hsi (by omega)
      omega
  rw [hf]
  refine List.map_congr_left fun t ht => ?_
  simp
theorem PcOk.field (h : PcOk l S O c i s) (nm : List UInt8) : fieldB (pieceB l O (i : Int) s l.length) (plN O s : Int) nm = fieldB l (s : Int) nm := by
  by_cases hnm : nm = []
  · subst hnm
    unfold fieldB namedB
    simp
  have hn := h.named nm hnm
  unfold fieldB
  rw [hn]
  cases e : namedB (pieceB l O (i : Int) s l.length) (plN O s : Int) nm with
  | nil => rfl
  | cons t r =>
    have ht : t ∈ namedB (pieceB l O (i : Int) s l.length) (plN O s : Int) nm := by rw [e]; exact List.mem_cons_self ..
    have ht2 : t ∈ kidsB (pieceB l O (i : Int) s l.length) (plN O s : Int) := by unfold namedB at ht; rw [if_neg hnm] at ht; exact (List.mem_filter.1 ht).1
    have hp := place_iff.1 (kidsB_bd ht2).1
    rw [pc_len] at hp
    have htl : t.toNat < (ownL O (i : Int) l.length).length := by omega
    have hg : (ownL O (i : Int) l.length).getD t.toNat 0 = (ownL O (i : Int) l.length)[t.toNat] := by simp [List.getD, htl]
    have ha : (((ownL O (i : Int) l.length).getD t.toNat 0 : Nat) : Int) ∈ namedB l (s : Int) nm := by rw [hn, e]; exact List.mem_cons_self ..
    have ha2 : (((ownL O (i : Int) l.length).getD t.toNat 0 : Nat) : Int) ∈ kidsB l (s : Int) := by unfold namedB at ha; rw [if_neg hnm] at ha; exact (List.mem_filter.1 ha).1
    obtain ⟨k1, k2, k3, _⟩ := kidsB_bd ha2
    have hb := own_back htl
    rw [← hg] at hb
    have k : KidOf l S s ((ownL O (i : Int) l.length).getD t.toNat 0) := ⟨k2, k3, by have := place_iff.1 k1; omega⟩
    have htx := h.text k
    rw [hb] at htx
    rw [show ((t.toNat : Nat) : Int) = t by omega] at htx
    show some (cleanB (textB _ t)) = some (cleanB (textB l _))
    rw [htx]
/-- What a link's attributes are looked for in. -/
theorem PcOk.links (h : PcOk l S O c i s) : linksB (pieceB l O (i : Int) s l.length) (plN O s : Int) = linksB l (s : Int) := by
  have hn := h.named linkL (by decide)
  unfold linksB
  rw [hn, List.map_map]
  refine List.map_congr_left fun t ht => ?_
  have ht2 : t ∈ kidsB (pieceB l O (i : Int) s l.length) (plN O s : Int) := by unfold namedB at ht; rw [if_neg (by decide)] at ht; exact (List.mem_filter.1 ht).1
  have hp := place_iff.1 (kidsB_bd ht2).1
  rw [pc_len] at hp
  have htl : t.toNat < (ownL O (i : Int) l.length).length := by omega
  have hg : (ownL O (i : Int) l.length).getD t.toNat 0 = (ownL O (i : Int) l.length)[t.toNat] := by simp [List.getD, htl]
  obtain ⟨j1, j2⟩ := ownL_mem.1 (List.getElem_mem htl)
  have hb := own_back htl
  have e := (h.atP j1 j2).1
  rw [hb, show ((t.toNat : Nat) : Int) = t by omega] at e
  show (atN _ t).attrs = (atN l ((((ownL O (i : Int) l.length).getD t.toNat 0 : Nat) : Int))).attrs
  rw [e, hg]
  rfl
end
/-- A part tells of an item what the list does. -/
structure Told (q : List Nd) (j : Int) (l : List Nd) (i : Int) : Prop where
  field : ∀ nm, fieldB q j nm = fieldB l i nm
  links : linksB q j = linksB l i
  from_ : ∀ x ∈ q, ∃ y ∈ l, x.attrs = y.attrs
theorem Told.same (l : List Nd) (i : Int) : Told l i l i := ⟨fun _ => rfl, rfl, fun x hx => ⟨x, hx, rfl⟩⟩
theorem PcOk.told {l : List Nd} {S O : List Int} {c : Int} {i s : Nat} (h : PcOk l S O c i s) : Told (pieceB l O (i : Int) s l.length) (plN O s : Int) l (s : Int) := by
  refine ⟨h.field, h.links, fun x hx => ?_⟩
  unfold pieceB at hx
  obtain ⟨j, hj, rfl⟩ := List.mem_map.1 hx
  have hlt := (ownL_mem.1 hj).1
  refine ⟨l[j], List.getElem_mem hlt, ?_⟩
  unfold pcNd atN
  simp [List.getD, hlt]
end Go.Proofs.YtahohmdbiiknoaaGreatDoor

/- Layer 17, plain: kids, names and texts in a list of nodes that is put together of elements with a text each. -/
namespace Go.Proofs.YtahohmdbiiknoaaGreatDoor

/-- The places of i's kids among nodes that stand from place b on. -/
def kidsF (i : Int) : Nat → List Nd → List Int
  | _, [] => []
  | b, x :: r => (if x.up = i ∧ (b : Int) ≠ i then [(b : Int)] else []) ++ kidsF i (b + 1) r
theorem kidsF_app (i : Int) : ∀ (A : List Nd) (b : Nat) (C : List Nd), kidsF i b (A ++ C) = kidsF i b A ++ kidsF i (b + A.length) C
  | [], b, C => by simp [kidsF]
  | x :: r, b, C => by
    rw [List.cons_append, kidsF, kidsF, kidsF_app i r (b + 1) C, List.append_assoc, List.length_cons, show b + 1 + r.length = b + (r.length + 1) by omega]
theorem kidsF_none (i : Int) : ∀ (C : List Nd) (b : Nat), (∀ x ∈ C, x.up ≠ i) → kidsF i b C = []
  | [], _, _ => rfl
  | x :: r, b, h => by
    rw [kidsF, if_neg (fun e => h x (by simp) e.1), kidsF_none i r (b + 1) (fun y hy => h y (by simp [hy]))]; rfl
theorem kidsTo_F (l : List Nd) (i : Int) : ∀ k : Nat, k ≤ l.length → kidsTo l i k = kidsF i 0 (l.take k)
  | 0, _ => by simp [kidsTo, kidsF]
  | k + 1, h => by
    rw [kidsTo_next, kidsTo_F l i k (by omega), List.take_succ_eq_append_getElem (by omega), kidsF_app, List.length_take, Nat.min_eq_left (by omega), Nat.zero_add]
    have : upN l (k : Int) = (l[k]'(by omega)).up := by unfold upN atN; simp [List.getD, show k < l.length by omega]
    rw [this]
    simp [kidsF]
theorem kidsB_F {l : List Nd} {i : Int} (h : placeB l i = true) : kidsB l i = kidsF i 0 l := by
  unfold kidsB; rw [if_pos h, kidsTo_F l i l.length (Nat.le_refl _), List.take_length]
theorem atN_mid (A C : List Nd) (x : Nd) : atN (A ++ x :: C) (A.length : Int) = x := by unfold atN; simp [List.getD]

/-- An element that has a text. -/
structure Fd where
  nm : List UInt8
  ats : List At
  txt : List UInt8
/-- Its nodes, at place q, as a kid of p. -/
def elN (f : Fd) (p : Int) (q : Nat) : List Nd := ⟨f.nm, f.ats, [], p⟩ :: (if f.txt = [] then [] else [⟨[], [], f.txt, q⟩])
def elL (f : Fd) : Nat := if f.txt = [] then 1 else 2
theorem elN_len (f : Fd) (p : Int) (q : Nat) : (elN f p q).length = elL f := by unfold elN elL; split <;> rfl
def fldN (p : Int) : Nat → List Fd → List Nd
  | _, [] => []
  | q, f :: r => elN f p q ++ fldN p (q + elL f) r
def fldL : List Fd → Nat
  | [] => 0
  | f :: r => elL f + fldL r
theorem fldN_len (p : Int) : ∀ (F : List Fd) (q : Nat), (fldN p q F).length = fldL F
  | [], _ => rfl
  | f :: r, q => by rw [fldN, List.length_append, elN_len, fldN_len p r, fldL]
def fldAt : Nat → List Fd → List (Nat × Fd)
  | _, [] => []
  | q, f :: r => (q, f) :: fldAt (q + elL f) r
theorem fldAt_snd : ∀ (F : List Fd) (q : Nat), (fldAt q F).map Prod.snd = F
  | [], _ => rfl
  | f :: r, q => by rw [fldAt, List.map_cons, fldAt_snd r]
theorem elL_pos (f : Fd) : 1 ≤ elL f := by unfold elL; split <;> omega
theorem fldN_up (p : Int) : ∀ (F : List Fd) (q : Nat), ∀ x ∈ fldN p q F, x.up = p ∨ ((q : Int) ≤ x.up ∧ x.up < q + fldL F)
  | [], _, x, h => by cases h
  | f :: r, q, x, h => by
    have hl := elL_pos f
    rw [fldN] at h
    rw [fldL]
    rcases List.mem_append.1 h with h | h
    · unfold elN at h
      rcases List.mem_cons.1 h with h | h
      · subst h; exact Or.inl rfl
      · split at h
        · cases h
        · rw [List.mem_singleton] at h
          subst h
          right
          simp only
          omega
    · rcases fldN_up p r (q + elL f) x h with e | ⟨e1, e2⟩
      · exact Or.inl e
      · right; omega
theorem fld_kids (p : Int) : ∀ (F : List Fd) (q : Nat), p < q → kidsF p q (fldN p q F) = (fldAt q F).map fun z => (z.1 : Int)
  | [], _, _ => rfl
  | f :: r, q, h => by
    rw [fldN, kidsF_app, elN_len, fld_kids p r (q + elL f) (by omega), fldAt, List.map_cons]
    have : kidsF p q (elN f p q) = [(q : Int)] := by
      unfold elN
      rw [kidsF, if_pos ⟨rfl, by omega⟩]
      split
      · rfl
      · rw [kidsF_none p _ _ (by intro x hx; rw [List.mem_singleton] at hx; subst hx; simp only; omega)]; rfl
    rw [this]; rfl
theorem el_text {L A C : List Nd} {f : Fd} {p : Int} (hL : L = A ++ elN f p A.length ++ C) (hT : TreeAt L) (hn : f.nm ≠ []) (hp : p < A.length) (hA : ∀ x ∈ A, x.up < A.length) (hC : ∀ x ∈ C, x.up ≠ (A.length : Int)) :
    A.length < L.length ∧ atN L (A.length : Int) = ⟨f.nm, f.ats, [], p⟩ ∧ textB L (A.length : Int) = f.txt := by
  have hlt : A.length < L.length := by rw [hL]; simp only [List.length_append, elN_len]; have := elL_pos f; omega
  have hat : atN L (A.length : Int) = ⟨f.nm, f.ats, [], p⟩ := by
    rw [hL, List.append_assoc]; unfold elN; rw [List.cons_append]; exact atN_mid _ _ _
  refine ⟨hlt, hat, ?_⟩
  rw [hT.kids hlt (by rw [hat]; exact hn), kidsB_F (place_nat hlt)]
  have hk : kidsF (A.length : Int) 0 L = if f.txt = [] then [] else [((A.length + 1 : Nat) : Int)] := by
    rw [hL, kidsF_app, kidsF_app, kidsF_none _ A 0 (fun x hx => by have := hA x hx; omega), kidsF_none _ C _ hC, List.nil_append, List.append_nil, Nat.zero_add]
    unfold elN
    rw [kidsF, if_neg (fun e => by have e1 : p = A.length := e.1; omega), List.nil_append]
    split
    · rfl
    · rw [kidsF, if_pos ⟨rfl, by omega⟩]; rfl
  rw [hk]
  by_cases ht : f.txt = []
  · rw [if_pos ht, ht]; rfl
  · rw [if_neg ht]
    have hlt2 : A.length + 1 < L.length := by rw [hL]; simp only [List.length_append, elN_len]; unfold elL; rw [if_neg ht]; omega
    have hat2 : atN L ((A.length + 1 : Nat) : Int) = ⟨[], [], f.txt, A.length⟩ := by
      have e : L = (A ++ [⟨f.nm, f.ats, [], p⟩]) ++ ⟨[], [], f.txt, A.length⟩ :: C := by rw [hL]; unfold elN; rw [if_neg ht]; simp
      have := atN_mid (A ++ [⟨f.nm, f.ats, [], p⟩]) C ⟨[], [], f.txt, A.length⟩
      rw [← e] at this
      simpa using this
    have h2 := (hT.text hlt2 (by rw [hat2])).2
    rw [hat2] at h2
    simp only [List.flatMap_cons, List.flatMap_nil, List.append_nil]
    exact h2
theorem fld_at {L : List Nd} {p : Int} (hT : TreeAt L) : ∀ (F : List Fd) (A C : List Nd), L = A ++ fldN p A.length F ++ C → p < A.length → (∀ f ∈ F, f.nm ≠ []) → (∀ x ∈ A, x.up < A.length) → (∀ x ∈ C, x.up < A.length ∨ ((A.length + fldL F : Nat) : Int) ≤ x.up) →
    ∀ z ∈ fldAt A.length F, z.1 < L.length ∧ atN L (z.1 : Int) = ⟨z.2.nm, z.2.ats, [], p⟩ ∧ textB L (z.1 : Int) = z.2.txt
  | [], _, _, _, _, _, _, _, z, hz => by cases hz
  | f :: r, A, C, hL, hp, hF, hA, hC, z, hz => by
    have hl := elL_pos f
    rw [fldN, List.append_assoc, List.append_assoc] at hL
    rw [fldL] at hC
    rcases List.mem_cons.1 hz with hz | hz
    · subst hz
      refine el_text (C := fldN p (A.length + elL f) r ++ C) (by rw [hL, List.append_assoc]) hT (hF f (by simp)) hp hA (fun x hx => ?_)
      rcases List.mem_append.1 hx with hx | hx
      · rcases fldN_up p r _ x hx with e | ⟨e1, _⟩ <;> omega
      · rcases hC x hx with e | e <;> omega
    · have hle : (A ++ elN f p A.length).length = A.length + elL f := by rw [List.length_append, elN_len]
      refine fld_at hT r (A ++ elN f p A.length) C (by rw [hle, hL]; simp) (by rw [hle]; omega) (fun g hg => hF g (by simp [hg])) (fun x hx => ?_) (fun x hx => ?_) z (by rw [hle]; exact hz)
      · rw [hle]
        rcases List.mem_append.1 hx with hx | hx
        · have := hA x hx; omega
        · unfold elN at hx
          rcases List.mem_cons.1 hx with hx | hx
          · subst hx; simp only; omega
          · split at hx
            · cases hx
            · rw [List.mem_singleton] at hx; subst hx; simp only; omega
      · rw [hle]
        rcases hC x hx with e | e
        · left; omega
        · right; omega
/-- What one says of an entry whose kids are so. -/
theorem fld_field {L A C : List Nd} {F : List Fd} {p : Int} (hL : L = A ++ fldN p A.length F ++ C) (hT : TreeAt L) (hp0 : 0 ≤ p) (hp : p < A.length) (hF : ∀ f ∈ F, f.nm ≠ []) (hA : ∀ x ∈ A, x.up < A.length ∧ x.up ≠ p)
    (hC : ∀ x ∈ C, (x.up < A.length ∨ ((A.length + fldL F : Nat) : Int) ≤ x.up) ∧ x.up ≠ p) :
    (∀ nm, nm ≠ [] → fieldB L p nm = (F.find? fun f => f.nm == nm).map fun f => cleanB f.txt) ∧ linksB L p = (F.filter fun f => f.nm == linkL).map Fd.ats := by
  have hat := fld_at hT F A C hL hp hF (fun x hx => (hA x hx).1) (fun x hx => (hC x hx).1)
  have hpl : placeB L p = true := by rw [place_iff, hL]; simp only [List.length_append]; omega
  have hk : kidsB L p = (fldAt A.length F).map fun z => (z.1 : Int) := by
    rw [kidsB_F hpl]
    conv => lhs; rw [hL]
    rw [kidsF_app, kidsF_app, kidsF_none _ A 0 (fun x hx => (hA x hx).2), kidsF_none _ C _ (fun x hx => (hC x hx).2), List.nil_append, List.append_nil, Nat.zero_add, fld_kids p F _ hp]
  have hnm : ∀ nm, nm ≠ [] → namedB L p nm = ((fldAt A.length F).filter fun z => z.2.nm == nm).map fun z => (z.1 : Int) := fun nm hn => by
    unfold namedB
    rw [if_neg hn, hk, List.filter_map]
    congr 1
    refine List.filter_congr fun z hz => ?_
    show ((atN L (z.1 : Int)).name == nm) = _
    rw [(hat z hz).2.1]
  have hsn := fldAt_snd F A.length
  refine ⟨fun nm hn => ?_, ?_⟩
  · unfold fieldB
    rw [hnm nm hn]
    conv => rhs; rw [← hsn, List.find?_map]
    generalize hE : fldAt A.length F = E at hat
    clear hk hnm hsn hE
    induction E with
    | nil => rfl
    | cons z r ih =>
      cases hz : z.2.nm == nm with
      | true =>
        rw [List.filter_cons, if_pos hz, List.map_cons, List.find?_cons, show ((fun f : Fd => f.nm == nm) ∘ Prod.snd) z = true from hz]
        simp only [Option.map_some]
        rw [(hat z (by simp)).2.2]
      | false =>
        rw [List.filter_cons, if_neg (by rw [hz]; decide), List.find?_cons, show ((fun f : Fd => f.nm == nm) ∘ Prod.snd) z = false from hz]
        exact ih fun y hy => hat y (by simp [hy])
  · unfold linksB
    rw [hnm linkL (by decide), List.map_map]
    conv => rhs; rw [← hsn, List.filter_map, List.map_map]
    refine List.map_congr_left fun z hz => ?_
    have := (List.mem_filter.1 hz).1
    simp only [Function.comp]
    rw [(hat z this).2.1]
end Go.Proofs.YtahohmdbiiknoaaGreatDoor

/- Layer 17, plain: what is printed is read, piece by piece: texts whose signs are hidden, elements. -/
namespace Go.Proofs.YtahohmdbiiknoaaGreatDoor

/-- A sign by its name. -/
def esc1 (c : UInt8) : List UInt8 := if c = 38 then [38, 97, 109, 112, 59] else if c = 60 then [38, 108, 116, 59] else if c = 62 then [38, 103, 116, 59] else if c = 34 then [38, 113, 117, 111, 116, 59] else [c]
/-- A text whose signs are hidden. -/
def escB (l : List UInt8) : List UInt8 := l.flatMap esc1
theorem refP_amp (t : List UInt8) : refP (38 :: 97 :: 109 :: 112 :: 59 :: t) = some ([38], 5) := by rfl
theorem refP_lt (t : List UInt8) : refP (38 :: 108 :: 116 :: 59 :: t) = some ([60], 4) := by rfl
theorem refP_gt (t : List UInt8) : refP (38 :: 103 :: 116 :: 59 :: t) = some ([62], 4) := by rfl
theorem refP_quot (t : List UInt8) : refP (38 :: 113 :: 117 :: 111 :: 116 :: 59 :: t) = some ([34], 6) := by rfl
/-- A hidden sign is a byte that isn't one, or a ref to it. -/
theorem esc1_ways (c : UInt8) : (esc1 c = [c] ∧ c ≠ 38 ∧ c ≠ 60 ∧ c ≠ 62 ∧ c ≠ 34) ∨ ∃ r, esc1 c = 38 :: r ∧ ∀ t, refP (esc1 c ++ t) = some ([c], (esc1 c).length) := by
  unfold esc1
  by_cases h1 : c = 38
  · subst h1; right; exact ⟨_, rfl, fun t => refP_amp t⟩
  by_cases h2 : c = 60
  · subst h2; right; exact ⟨_, rfl, fun t => refP_lt t⟩
  by_cases h3 : c = 62
  · subst h3; right; exact ⟨_, rfl, fun t => refP_gt t⟩
  by_cases h4 : c = 34
  · subst h4; right; exact ⟨_, rfl, fun t => refP_quot t⟩
  · left; rw [if_neg h1, if_neg h2, if_neg h3, if_neg h4]; exact ⟨rfl, h1, h2, h3, h4⟩
theorem pre_ne {c x : UInt8} (h : c ≠ x) (d r : List UInt8) : Lib.hasPrefix (c :: d) (x :: r) = false := by
  unfold Lib.hasPrefix
  rw [List.isPrefixOf]
  simp
  intro e
  exact absurd e.symm h
theorem pre_own1 (c : UInt8) (d : List UInt8) : Lib.hasPrefix (c :: d) [c] = true := by unfold Lib.hasPrefix; simp
/-- What a document's reader comes to. -/
def finR (dep : Int) (s : Sc) (d : List UInt8) : Option Int × Sc := ((loopK (stepR dep) s d 0).1, (loopK (stepR dep) s d 0).2.1)
theorem finR_step {dep : Int} {s s' : Sc} {d : List UInt8} {n : Nat} (e : stepR dep s d = .go s' n) : finR dep s d = finR dep s' (d.drop n) := by
  unfold finR
  have := loopK_off (stepR_steps dep) s' (d.drop n) 0 n
  rw [Nat.add_zero] at this
  rw [loopK_go (stepR_steps dep) 0 e, Nat.zero_add, this]
theorem finR_nil (dep : Int) (s : Sc) : finR dep s [] = (none, s) := by
  unfold finR
  rw [loopK_stop 0 (show stepR dep s [] = .stop by unfold stepR; rw [if_pos rfl])]
section
variable {dep : Int} {s : Sc}
theorem moreT_more (s : Sc) (x y : List UInt8) : moreT (moreT s x) y = moreT s (x ++ y) := by unfold moreT; simp
theorem finR_byte {c : UInt8} (ho : s.opn ≠ []) (h60 : c ≠ 60) (h38 : c ≠ 38) (d : List UInt8) : finR dep s (c :: d) = finR dep (moreT s [c]) d := by
  refine finR_step (n := 1) (d := c :: d) ?_
  unfold stepR innerR
  rw [if_neg (by simp), if_neg ho, if_neg (by rw [pre_ne h60]; decide), if_neg (by rw [pre_ne h60]; decide), if_neg (by rw [pre_ne h60]; decide), if_neg (by rw [pre_ne h60]; decide), if_neg (by rw [pre_ne h38]; decide)]
  rfl
theorem finR_ref {x r : List UInt8} {n : Nat} (ho : s.opn ≠ []) (h : refP (38 :: r) = some (x, n)) : finR dep s (38 :: r) = finR dep (moreT s x) ((38 :: r).drop n) := by
  refine finR_step ?_
  unfold stepR innerR
  rw [if_neg (by simp), if_neg ho, if_neg (by rw [pre_ne (by decide)]; decide), if_neg (by rw [pre_ne (by decide)]; decide), if_neg (by rw [pre_ne (by decide)]; decide), if_neg (by rw [pre_ne (by decide)]; decide), if_pos (pre_own1 _ _), h]
theorem finR_esc : ∀ (x : List UInt8) (s : Sc) (d : List UInt8), s.opn ≠ [] → finR dep s (escB x ++ d) = finR dep (moreT s x) d
  | [], s, d, _ => by unfold moreT escB; simp
  | c :: x, s, d, ho => by
    have ih := finR_esc x (moreT s [c]) d ho
    rw [moreT_more] at ih
    show finR dep s (escB ([c] ++ x) ++ d) = _
    have e : escB ([c] ++ x) ++ d = esc1 c ++ (escB x ++ d) := by unfold escB; simp
    rw [e]
    rcases esc1_ways c with ⟨h1, h2, h3, _, _⟩ | ⟨r, h1, h2⟩
    · rw [h1]
      exact (finR_byte ho h3 h2 _).trans ih
    · have h3 := h2 (escB x ++ d)
      rw [h1] at h3 ⊢
      refine (finR_ref ho h3).trans ?_
      show finR dep (moreT s [c]) (List.drop (38 :: r).length ((38 :: r) ++ (escB x ++ d))) = _
      rw [List.drop_left]
      exact ih

theorem span_app {p : Int → Bool} : ∀ {nm : List UInt8} {c : UInt8} {t : List UInt8}, (nm.all fun x => p x.toNat) = true → p c.toNat = false → spanN p (nm ++ c :: t) = nm.length
  | [], c, t, _, hc => by rw [List.nil_append, spanN, if_neg (by rw [hc]; decide)]; rfl
  | x :: nm, c, t, h, hc => by
    rw [List.all_cons, Bool.and_eq_true] at h
    rw [List.cons_append, spanN, if_pos h.1, span_app h.2 hc]; rfl
theorem nameP_app {nm : List UInt8} {c : UInt8} {t : List UInt8} (h : nameB nm = true) (hc : follI c.toNat = false) : nameP (nm ++ c :: t) = some (nm, nm.length) := by
  have hall : (nm.all fun x => follI x.toNat) = true := by unfold nameB at h; simp only [Bool.and_eq_true] at h; exact h.2
  unfold nameP
  rw [span_app hall hc, List.take_left, if_pos h]
theorem name_head {nm : List UInt8} (h : nameB nm = true) : ∃ c r, nm = c :: r ∧ leadI c.toNat = true := by
  unfold nameB at h
  simp only [Bool.and_eq_true, decide_eq_true_eq] at h
  cases nm with
  | nil => simp at h
  | cons c r => exact ⟨c, r, rfl, h.1.2⟩
theorem lead_ne {c : UInt8} (h : leadI c.toNat = true) : c ≠ 33 ∧ c ≠ 47 ∧ c ≠ 63 ∧ c ≠ 32 ∧ blI c.toNat = false := by
  unfold leadI at h
  simp only [decide_eq_true_eq] at h
  refine ⟨?_, ?_, ?_, ?_, ?_⟩
  · rintro rfl; revert h; decide
  · rintro rfl; revert h; decide
  · rintro rfl; revert h; decide
  · rintro rfl; revert h; decide
  · unfold blI; rw [decide_eq_false_iff_not]; omega
theorem attrsR_none (d : List UInt8) : attrsR (62 :: d) = some (([], false), 1) := by
  have h0 : spanN blI (62 :: d) = 0 := rfl
  have e : attrsRF [] (62 :: d) = .stop := by unfold attrsRF; rw [h0, List.drop_zero, if_pos (pre_own1 _ _)]
  unfold attrsR
  rw [loopK_stop 0 e]
  simp only [h0, List.drop_zero, Nat.zero_add]
  rw [if_pos (pre_own1 _ _)]
/-- A begin, wherever one may stand. -/
theorem finR_beginR {n : Nat} {s' : Sc} {c : UInt8} {r : List UInt8} (hc : leadI c.toNat = true) (ho : s.opn ≠ [] ∨ s.rooted = false) (h : beginR dep s (60 :: c :: r) = .go s' n) : finR dep s (60 :: c :: r) = finR dep s' ((60 :: c :: r).drop n) := by
  obtain ⟨h33, h47, _, _, _⟩ := lead_ne hc
  have hl : leadsB ((60 :: c :: r).drop 1) = true := by
    show leadsB (c :: r) = true
    unfold leadsB
    rw [Bool.and_eq_true]
    exact ⟨by simp, hc⟩
  have p1 : Lib.hasPrefix (60 :: c :: r) [60, 47] = false := by unfold Lib.hasPrefix; simp [List.isPrefixOf, Ne.symm h47]
  have p2 : Lib.hasPrefix (60 :: c :: r) [60, 33, 45, 45] = false := by unfold Lib.hasPrefix; simp [List.isPrefixOf]; intro e; exact absurd e.symm h33
  have p3 : Lib.hasPrefix (60 :: c :: r) [60, 33, 91, 67, 68, 65, 84, 65, 91] = false := by unfold Lib.hasPrefix; simp [List.isPrefixOf]; intro e; exact absurd e.symm h33
  refine finR_step ?_
  unfold stepR
  rw [if_neg (by simp)]
  by_cases h0 : s.opn = []
  · have hr : s.rooted = false := ho.resolve_left (fun e => e h0)
    rw [if_pos h0]
    unfold outerR
    rw [if_neg (show ¬ 0 < spanN blI (60 :: c :: r) from Nat.lt_irrefl 0), if_neg (by rw [p2]; decide), if_pos ⟨hr, by unfold elemB; rw [Bool.and_eq_true]; exact ⟨pre_own1 _ _, hl⟩⟩]
    exact h
  · rw [if_neg h0]
    unfold innerR
    rw [if_neg (by rw [p1]; decide), if_neg (by rw [p2]; decide), if_neg (by rw [p3]; decide), if_pos (pre_own1 _ _), if_pos hl]
    exact h
theorem finR_begin {nm : List UInt8} (hn : nameB nm = true) (ho : s.opn ≠ [] ∨ s.rooted = false) (hd : (s.opn.length : Int) < dep) (d : List UInt8) :
    finR dep s (60 :: (nm ++ 62 :: d)) = finR dep ⟨true, s.opn ++ [nm], [], addT s.text s.toks ⟨1, nm, [], []⟩⟩ d := by
  obtain ⟨c, r, rfl, hc⟩ := name_head hn
  have hnp := nameP_app (t := d) hn (show follI (62 : UInt8).toNat = false by decide)
  have h : beginR dep s (60 :: ((c :: r) ++ 62 :: d)) = .go ⟨true, s.opn ++ [c :: r], [], addT s.text s.toks ⟨1, c :: r, [], []⟩⟩ (1 + (c :: r).length + 1) := by
    unfold beginR
    rw [if_neg (by omega), show (60 :: ((c :: r) ++ 62 :: d)).drop 1 = (c :: r) ++ 62 :: d from rfl, hnp]
    simp only
    rw [show (60 :: ((c :: r) ++ 62 :: d)).drop (1 + (c :: r).length) = 62 :: d by rw [Nat.add_comm, List.drop_succ_cons, List.drop_left], attrsR_none]
  have := finR_beginR hc ho (r := r ++ 62 :: d) h
  refine this.trans ?_
  congr 1
  show List.drop (1 + (c :: r).length + 1) (60 :: ((c :: r) ++ 62 :: d)) = d
  rw [show 1 + (c :: r).length + 1 = (c :: r).length + 1 + 1 by omega, List.drop_succ_cons, ← List.drop_drop, List.drop_left]
  rfl
theorem finR_end {nm : List UInt8} {o : List (List UInt8)} (hn : nameB nm = true) (ho : s.opn = o ++ [nm]) (d : List UInt8) :
    finR dep s (60 :: 47 :: (nm ++ 62 :: d)) = finR dep ⟨s.rooted, o, [], addT s.text s.toks ⟨2, nm, [], []⟩⟩ d := by
  have hnp := nameP_app (t := d) hn (show follI (62 : UInt8).toNat = false by decide)
  have hne : s.opn ≠ [] := by rw [ho]; simp
  have h : stepR dep s (60 :: 47 :: (nm ++ 62 :: d)) = .go ⟨s.rooted, o, [], addT s.text s.toks ⟨2, nm, [], []⟩⟩ (2 + nm.length + 1) := by
    unfold stepR innerR
    rw [if_neg (by simp), if_neg hne, if_pos (by unfold Lib.hasPrefix; simp)]
    unfold endR
    rw [show (60 :: 47 :: (nm ++ 62 :: d)).drop 2 = nm ++ 62 :: d from rfl, hnp]
    simp only
    have hdr : (60 :: 47 :: (nm ++ 62 :: d)).drop (2 + nm.length) = 62 :: d := by rw [Nat.add_comm, List.drop_succ_cons, List.drop_succ_cons, List.drop_left]
    have h0 : spanN blI (62 :: d) = 0 := rfl
    rw [if_neg hne, if_neg (by rw [ho]; simp), hdr, h0, Nat.add_zero, hdr, if_pos (pre_own1 _ _), ho, List.dropLast_concat]
  refine (finR_step h).trans ?_
  congr 1
  rw [show 2 + nm.length + 1 = nm.length + 1 + 1 + 1 by omega, List.drop_succ_cons, List.drop_succ_cons, ← List.drop_drop, List.drop_left]
  rfl
end
end Go.Proofs.YtahohmdbiiknoaaGreatDoor
