/- Layer 14, plain: a field; which item each node stands within; the part of a list that tells of one item. -/
import Derived.Test.YtkjjjbipmobdaaaGreatDoorBR05
import Derived.Test.YtkjjjbipmobdaaaGreatDoorBR07
import Derived.Test.YtkjjjbipmobdaaaGreatDoorBR01
import Derived.LaidEql
import Derived.LaidEqlPtr
import Derived.Stop.Asserts
import Derived.RowKitTokens
import Derived.Outline
namespace Go.Proofs.YtkjjjbipmobdaaaGreatDoor

/-- A field: the first kid's text of a name, cleaned. -/
def fieldB (l : List Nd) (i : Int) (nm : List UInt8) : Option (List UInt8) :=
  match namedB l i nm with
  | [] => none
  | j :: _ => some (cleanB (textB l j))
def linkL : List UInt8 := [108, 105, 110, 107]
/-- The attributes of the kids link. -/
def linksB (l : List Nd) (i : Int) : List (List At) := (namedB l i linkL).map fun j => (atN l j).attrs
/-- The nearest place of S at j or above. -/
inductive Near (l : List Nd) (S : List Int) : Int → Int → Prop where
  | here {j : Int} : placeB l j = true → j ∈ S → Near l S j j
  | up {j p : Int} : placeB l j = true → j ∉ S → Near l S (upN l j) p → Near l S j p
section
variable {l : List Nd} {S : List Int} {c p q x : Int}
theorem Near.place (h : Near l S x p) : placeB l x = true := by cases h <;> assumption
theorem Near.mem (h : Near l S x p) : p ∈ S := by induction h with
  | here _ h => exact h
  | up _ _ _ ih => exact ih
theorem Near.top (h : Near l S x p) : placeB l p = true := by induction h with
  | here h _ => exact h
  | up _ _ _ ih => exact ih
theorem near_uniq (h : Near l S x p) : Near l S x q → p = q := by
  induction h with
  | here hp hm =>
    intro k
    cases k with
    | here => rfl
    | up _ hn _ => exact absurd hm hn
  | up hp hn _ ih =>
    intro k
    cases k with
    | here _ hm => exact absurd hm hn
    | up _ _ k => exact ih k
theorem near_up (hS : ∀ s ∈ S, upN l s = c) (hc : Near l S c q) (h : Near l S x q) : Near l S (upN l x) q := by
  cases h with
  | here _ hm => rw [hS _ hm]; exact hc
  | up _ _ h => exact h
theorem near_of_within (hp : p ∈ S) (h : Within l p x) : ∃ q, Near l S x q := by
  induction h with
  | here h => exact ⟨_, .here h hp⟩
  | @up k h _ ih =>
    by_cases hk : k ∈ S
    · exact ⟨_, .here h hk⟩
    · obtain ⟨q, hq⟩ := ih
      exact ⟨q, .up h hk hq⟩
theorem near_keep (hS : ∀ s ∈ S, upN l s = c) (hc : Near l S c q) (h : Within l p x) : Near l S x q → Near l S p q := by
  induction h with
  | here _ => exact id
  | up _ _ ih => exact fun k => ih (near_up hS hc k)
/-- What the channel doesn't stand within, of that nothing is above it. -/
theorem not_within (hS : ∀ s ∈ S, upN l s = c) (hp : p ∈ S) (hno : ¬ Near l S c p) : ¬ Within l p c := fun h => by
  obtain ⟨q, hq⟩ := near_of_within hp h
  have h2 := near_keep hS hq h hq
  have h3 := near_uniq (Near.here h2.place hp) h2
  subst h3
  exact hno hq
end
/-- The list of owners: each node's nearest item's number. -/
structure Own (l : List Nd) (S : List Int) (O : List Int) : Prop where
  len : O.length = l.length
  ok : ∀ j, j < l.length → (O.getD j (-2) = -1 ∧ ∀ p, ¬ Near l S (j : Int) p) ∨ ∃ i, i < S.length ∧ O.getD j (-2) = (i : Int) ∧ Near l S (j : Int) (S.getD i 0)
theorem nodup_inj {α : Type} {S : List α} (hn : S.Nodup) {i j : Nat} (hi : i < S.length) (hj : j < S.length) (h : S[i] = S[j]) : i = j := by
  have hp := List.pairwise_iff_getElem.1 hn
  rcases Nat.lt_trichotomy i j with e | e | e
  · exact absurd h (hp i j hi hj e)
  · exact e
  · exact absurd h.symm (hp j i hj hi e)
theorem getD_inj {S : List Int} (hn : S.Nodup) {i j : Nat} (hi : i < S.length) (hj : j < S.length) (h : S.getD i 0 = S.getD j 0) : i = j := by
  have e1 : S.getD i 0 = S[i] := by simp [List.getD, hi]
  have e2 : S.getD j 0 = S[j] := by simp [List.getD, hj]
  rw [e1, e2] at h
  exact nodup_inj hn hi hj h
theorem Own.iff {l : List Nd} {S O : List Int} (h : Own l S O) (hn : S.Nodup) {i j : Nat} (hi : i < S.length) (hj : j < l.length) : O.getD j (-2) = (i : Int) ↔ Near l S (j : Int) (S.getD i 0) := by
  rcases h.ok j hj with ⟨e, hno⟩ | ⟨i', hi', e, hnr⟩
  · exact ⟨fun e2 => by omega, fun k => absurd k (hno _)⟩
  · refine ⟨fun e2 => ?_, fun k => ?_⟩
    · have : i' = i := by omega
      subst this; exact hnr
    · have := getD_inj hn hi' hi (near_uniq hnr k)
      rw [e, this]
/-- The places of one owner, among the first t. -/
def ownL (O : List Int) (k : Int) (t : Nat) : List Nat := (List.range t).filter fun j => decide (O.getD j (-2) = k)
/-- A node's place among those of its owner. -/
def plN (O : List Int) (j : Nat) : Nat := (ownL O (O.getD j (-2)) j).length
theorem ownL_succ (O : List Int) (k : Int) (t : Nat) : ownL O k (t + 1) = ownL O k t ++ if O.getD t (-2) = k then [t] else [] := by
  unfold ownL
  rw [List.range_succ, List.filter_append]
  congr 1
  by_cases h : O.getD t (-2) = k
  · rw [if_pos h, List.filter_cons, if_pos (by rw [decide_eq_true_eq]; exact h)]; rfl
  · rw [if_neg h, List.filter_cons, if_neg (by rw [decide_eq_true_eq]; exact h)]; rfl
theorem ownL_app (O : List Int) (k : Int) (t d : Nat) : ∃ r, ownL O k (t + d) = ownL O k t ++ r := by
  induction d with
  | zero => exact ⟨[], by simp⟩
  | succ d ih =>
    obtain ⟨r, hr⟩ := ih
    rw [← Nat.add_assoc, ownL_succ, hr, List.append_assoc]
    exact ⟨_, rfl⟩
theorem ownL_mem {O : List Int} {k : Int} {t j : Nat} : j ∈ ownL O k t ↔ j < t ∧ O.getD j (-2) = k := by unfold ownL; simp
theorem own_at {O : List Int} {k : Int} {n j : Nat} (hj : j < n) (ho : O.getD j (-2) = k) : (ownL O k n)[plN O j]? = some j ∧ plN O j < (ownL O k n).length := by
  obtain ⟨r, hr⟩ := ownL_app O k (j + 1) (n - (j + 1))
  rw [show j + 1 + (n - (j + 1)) = n by omega, ownL_succ, if_pos ho] at hr
  have hp : plN O j = (ownL O k j).length := by unfold plN; rw [ho]
  rw [hr, hp]
  refine ⟨by simp [List.append_assoc], by simp⟩
theorem ownL_nodup (O : List Int) (k : Int) (t : Nat) : (ownL O k t).Nodup := List.Pairwise.filter _ List.nodup_range
theorem own_back {O : List Int} {k : Int} {n t : Nat} (ht : t < (ownL O k n).length) : plN O ((ownL O k n)[t]'ht) = t := by
  have hm := ownL_mem.1 (List.getElem_mem ht)
  obtain ⟨h1, h2⟩ := own_at hm.1 hm.2
  rw [List.getElem?_eq_getElem h2] at h1
  injection h1 with h1
  exact nodup_inj (ownL_nodup O k n) h2 ht h1
theorem plN_inj {O : List Int} {k : Int} {n i j : Nat} (hi : i < n) (hj : j < n) (h1 : O.getD i (-2) = k) (h2 : O.getD j (-2) = k) (h : plN O i = plN O j) : i = j := by
  have a := (own_at hi h1).1
  have b := (own_at hj h2).1
  rw [h, b] at a
  injection a with a
  exact a.symm
/-- A node within the part of s. -/
def pcNd (l : List Nd) (O : List Int) (s : Nat) (j : Nat) : Nd := { atN l (j : Int) with up := if j = s then -1 else (plN O (upN l (j : Int)).toNat : Int) }
/-- The part of l that tells of the item s, whose number is k. -/
def pieceB (l : List Nd) (O : List Int) (k : Int) (s t : Nat) : List Nd := (ownL O k t).map (pcNd l O s)

theorem flat_filter {α β : Type} (p : α → Bool) (f : α → List β) : ∀ l : List α, (∀ x ∈ l, p x = false → f x = []) → l.flatMap f = (l.filter p).flatMap f
  | [], _ => rfl
  | x :: t, h => by
    have ih := flat_filter p f t (fun y hy => h y (List.mem_cons_of_mem _ hy))
    cases hp : p x
    · rw [List.flatMap_cons, h x (List.mem_cons_self ..) hp, List.filter_cons, hp]; simpa using ih
    · rw [List.flatMap_cons, List.filter_cons, hp]; simp [ih]
theorem range_map (J : List Nat) : (List.range J.length).map (fun t => J.getD t 0) = J := by
  refine List.ext_getElem (by simp) fun i h1 h2 => ?_
  simp [List.getD, h2]
theorem range_flat {β : Type} (J : List Nat) (g : Nat → List β) : (List.range J.length).flatMap (fun t => g (J.getD t 0)) = J.flatMap g := by
  have := congrArg (fun L => List.flatMap g L) (range_map J)
  simpa [List.flatMap_map] using this
theorem filter_map' {α β : Type} (p : β → Bool) (f : α → β) (l : List α) : (l.map f).filter p = (l.filter fun x => p (f x)).map f := by
  rw [List.filter_map]; rfl

/-- What a part of a list keeps: the item s stands at S's number i, its channel at c. -/
structure PcOk (l : List Nd) (S O : List Int) (c : Int) (i s : Nat) : Prop where
  own : Own l S O
  nodup : S.Nodup
  lt : i < S.length
  at_ : S.getD i 0 = (s : Int)
  kids : ∀ x ∈ S, placeB l x = true ∧ upN l x = c ∧ x ≠ c
  no : ¬ Near l S c (s : Int)
section
variable {l : List Nd} {S O : List Int} {c : Int} {i s : Nat}
theorem PcOk.mem (h : PcOk l S O c i s) : (s : Int) ∈ S := by
  rw [← h.at_]
  have : S.getD i 0 = S[i]'h.lt := by simp [List.getD, h.lt]
  rw [this]
  exact List.getElem_mem _
theorem PcOk.sl (h : PcOk l S O c i s) : s < l.length := by have := place_iff.1 (h.kids _ h.mem).1; omega
theorem PcOk.iff (h : PcOk l S O c i s) {j : Nat} (hj : j < l.length) : O.getD j (-2) = (i : Int) ↔ Near l S (j : Int) (s : Int) := by
  have := h.own.iff h.nodup h.lt hj
  rw [h.at_] at this
  exact this
theorem PcOk.item (h : PcOk l S O c i s) : O.getD s (-2) = (i : Int) := (h.iff h.sl).2 (.here (h.kids _ h.mem).1 h.mem)
/-- One step up, within the part. -/
theorem PcOk.step (_h : PcOk l S O c i s) {x : Int} (hn : Near l S x (s : Int)) (hne : x ≠ (s : Int)) : x ∉ S ∧ Near l S (upN l x) (s : Int) := by
  cases hn with
  | here => exact absurd rfl hne
  | up _ h1 h2 => exact ⟨h1, h2⟩
/-- A kid of the item. -/
structure KidOf (l : List Nd) (S : List Int) (s a : Nat) : Prop where
  up : upN l (a : Int) = (s : Int)
  ne : (a : Int) ≠ (s : Int)
  lt : a < l.length
theorem PcOk.kid (h : PcOk l S O c i s) {a : Nat} (k : KidOf l S s a) : (a : Int) ∉ S := fun hm => by
  have h1 := (h.kids _ hm).2.1
  rw [k.up] at h1
  have h2 := (h.kids _ h.mem).2.2
  exact h2 h1
theorem PcOk.near (h : PcOk l S O c i s) {a : Nat} (k : KidOf l S s a) {x : Int} (hw : Within l (a : Int) x) : Near l S x (s : Int) := by
  induction hw with
  | here hp => exact .up hp (h.kid k) (by rw [k.up]; exact .here (h.kids _ h.mem).1 h.mem)
  | @up y hp _ ih =>
    by_cases hy : y ∈ S
    · have e := (h.kids _ hy).2.1
      rw [e] at ih
      exact absurd ih h.no
    · exact .up hp hy ih
theorem PcOk.not_item (h : PcOk l S O c i s) {a : Nat} (k : KidOf l S s a) {y : Int} (hw : Within l (a : Int) (upN l y)) : y ∉ S := fun hy => by
  have e := (h.kids _ hy).2.1
  have := h.near k hw
  rw [e] at this
  exact h.no this
theorem pc_len (t : Nat) : (pieceB l O (i : Int) s t).length = (ownL O (i : Int) t).length := by unfold pieceB; simp
theorem PcOk.atP (_h : PcOk l S O c i s) {j : Nat} (hj : j < l.length) (ho : O.getD j (-2) = (i : Int)) : atN (pieceB l O (i : Int) s l.length) (plN O j : Int) = pcNd l O s j ∧ placeB (pieceB l O (i : Int) s l.length) (plN O j : Int) = true := by
  obtain ⟨h1, h2⟩ := own_at hj ho
  refine ⟨?_, place_nat (by rw [pc_len]; exact h2)⟩
  unfold atN pieceB
  rw [Int.toNat_natCast, List.getD, List.getElem?_map, h1]
  rfl
theorem PcOk.upP (h : PcOk l S O c i s) {j : Nat} (hj : j < l.length) (ho : O.getD j (-2) = (i : Int)) : upN (pieceB l O (i : Int) s l.length) (plN O j : Int) = if j = s then -1 else (plN O (upN l (j : Int)).toNat : Int) := by
  unfold upN
  rw [(h.atP hj ho).1]
  rfl
theorem PcOk.within (h : PcOk l S O c i s) {a : Nat} (k : KidOf l S s a) : ∀ x, Within l (a : Int) x → ∀ j : Nat, x = (j : Int) → Within (pieceB l O (i : Int) s l.length) (plN O a : Int) (plN O j : Int) := by
  intro x hw
  have hak := (h.iff k.lt).2 (h.near k (.here (place_nat k.lt)))
  induction hw with
  | here hp =>
    intro j e
    have : a = j := by omega
    subst this
    exact .here (h.atP k.lt hak).2
  | @up y hp hw ih =>
    intro j e
    subst e
    have hj : j < l.length := by have := place_iff.1 hp; omega
    have hnr := h.near k (.up hp hw)
    have ho := (h.iff hj).2 hnr
    have hys := h.not_item k hw
    have hne : j ≠ s := fun e => hys (by rw [e]; exact h.mem)
    refine .up (h.atP hj ho).2 ?_
    rw [h.upP hj ho, if_neg hne]
    have hpl := place_iff.1 hw.place
    exact ih (upN l (j : Int)).toNat (by omega)
theorem PcOk.back (h : PcOk l S O c i s) {a : Nat} (k : KidOf l S s a) : ∀ x, Within (pieceB l O (i : Int) s l.length) (plN O a : Int) x → ∀ j : Nat, j < l.length → O.getD j (-2) = (i : Int) → x = (plN O j : Int) → Within l (a : Int) (j : Int) := by
  intro x hw
  have hak := (h.iff k.lt).2 (h.near k (.here (place_nat k.lt)))
  induction hw with
  | here _ =>
    intro j hj ho e
    have : a = j := plN_inj k.lt hj hak ho (by omega)
    subst this
    exact .here (place_nat hj)
  | up _ hw ih =>
    intro j hj ho e
    subst e
    rw [h.upP hj ho] at hw ih
    by_cases hne : j = s
    · rw [if_pos hne] at hw
      have := place_iff.1 hw.place
      omega
    · rw [if_neg hne] at ih
      have hst := h.step ((h.iff hj).1 ho) (by omega)
      have hpl := place_iff.1 hst.2.place
      have e3 : ((upN l (j : Int)).toNat : Int) = upN l (j : Int) := by omega
      have := ih (upN l (j : Int)).toNat (by omega) ((h.iff (by omega)).2 (by rw [e3]; exact hst.2)) rfl
      rw [e3] at this
      exact .up (place_nat hj) this
theorem PcOk.win (h : PcOk l S O c i s) {a : Nat} (k : KidOf l S s a) {j : Nat} (hj : j < l.length) (ho : O.getD j (-2) = (i : Int)) : winB (pieceB l O (i : Int) s l.length) (plN O a : Int) (plN O j : Int) = winB l (a : Int) (j : Int) := by
  rw [Bool.eq_iff_iff, winB_iff, winB_iff]
  exact ⟨fun w => h.back k _ w j hj ho rfl, fun w => h.within k _ w j rfl⟩
/-- The text of a kid is the same. -/
theorem PcOk.text (h : PcOk l S O c i s) {a : Nat} (k : KidOf l S s a) : textB (pieceB l O (i : Int) s l.length) (plN O a : Int) = textB l (a : Int) := by
  have hak := (h.iff k.lt).2 (h.near k (.here (place_nat k.lt)))
  unfold textB
  rw [if_pos (h.atP k.lt hak).2, if_pos (place_nat k.lt)]
  unfold textTo
  rw [flat_filter (fun j => decide (O.getD j (-2) = (i : Int))) (bitB l (a : Int)) (List.range l.length) (fun j hj ho => by
    rw [List.mem_range] at hj
    rw [decide_eq_false_iff_not] at ho
    unfold bitB
    rw [if_neg]
    rintro ⟨_, hw⟩
    exact ho ((h.iff hj).2 (h.near k (winB_iff.1 hw))))]
  show _ = (ownL O (i : Int) l.length).flatMap _
  rw [pc_len, ← range_flat (ownL O (i : Int) l.length) (bitB l (a : Int))]
  unfold List.flatMap
  congr 1
  refine List.map_congr_left fun t ht => ?_
  rw [List.mem_range] at ht
  have hg : (ownL O (i : Int) l.length).getD t 0 = (ownL O (i : Int) l.length)[t] := by simp [List.getD, ht]
  obtain ⟨j1, j2⟩ := ownL_mem.1 (List.getElem_mem ht)
  have hb := own_back ht
  rw [hg]
  generalize (ownL O (i : Int) l.length)[t] = j at j1 j2 hb
  have e := (h.atP j1 j2).1
  have w := h.win k j1 j2
  rw [hb] at e w
  unfold bitB
  rw [e, w]
  rfl
/-- Its kids, too. -/
theorem PcOk.named (h : PcOk l S O c i s) (nm : List UInt8) (hnm : nm ≠ []) : namedB l (s : Int) nm = (namedB (pieceB l O (i : Int) s l.length) (plN O s : Int) nm).map fun t => (((ownL O (i : Int) l.length).getD t.toNat 0 : Nat) : Int) := by
  have hsi := h.item
  unfold namedB kidsB
  rw [if_neg hnm, if_neg hnm, if_pos (place_nat h.sl), if_pos (h.atP h.sl hsi).2]
  unfold kidsTo
  rw [filter_map', filter_map', List.filter_filter, List.filter_filter, List.map_map]
  have hJ : (List.range l.length).filter (fun j : Nat => ((atN l (j : Int)).name == nm) && (decide (upN l (j : Int) = (s : Int)) && decide ((j : Int) ≠ (s : Int)))) = (ownL O (i : Int) l.length).filter (fun j : Nat => ((atN l (j : Int)).name == nm) && (decide (upN l (j : Int) = (s : Int)) && decide ((j : Int) ≠ (s : Int)))) := by
    unfold ownL
    rw [List.filter_filter]
    refine List.filter_congr fun j hj => ?_
    rw [List.mem_range] at hj
    cases hq : ((atN l (j : Int)).name == nm) && (decide (upN l (j : Int) = (s : Int)) && decide ((j : Int) ≠ (s : Int)))
    · rfl
    · simp only [Bool.and_eq_true, decide_eq_true_eq] at hq
      have k : KidOf l S s j := ⟨hq.2.1, hq.2.2, hj⟩
      rw [decide_eq_true ((h.iff hj).2 (h.near k (.here (place_nat hj))))]
      rfl
  rw [hJ, ← range_map (ownL O (i : Int) l.length), filter_map', List.map_map, range_map, pc_len]
  have hf : (List.range (ownL O (i : Int) l.length).length).filter (fun t => ((atN l (((ownL O (i : Int) l.length).getD t 0 : Nat) : Int)).name == nm) && (decide (upN l (((ownL O (i : Int) l.length).getD t 0 : Nat) : Int) = (s : Int)) && decide ((((ownL O (i : Int) l.length).getD t 0 : Nat) : Int) ≠ (s : Int)))) =
      (List.range (ownL O (i : Int) l.length).length).filter (fun t : Nat => ((atN (pieceB l O (i : Int) s l.length) (t : Int)).name == nm) && (decide (upN (pieceB l O (i : Int) s l.length) (t : Int) = (plN O s : Int)) && decide ((t : Int) ≠ (plN O s : Int)))) := by
    refine List.filter_congr fun t ht => ?_
    rw [List.mem_range] at ht
    have hg : (ownL O (i : Int) l.length).getD t 0 = (ownL O (i : Int) l.length)[t] := by simp [List.getD, ht]
    obtain ⟨j1, j2⟩ := ownL_mem.1 (List.getElem_mem ht)
    have hb := own_back ht
    rw [hg]
    generalize (ownL O (i : Int) l.length)[t] = j at j1 j2 hb
    have e := (h.atP j1 j2).1
    have u := h.upP j1 j2
    rw [hb] at e u
    rw [e, u]
    have e1 : (pcNd l O s j).name = (atN l (j : Int)).name := rfl
    rw [e1]
    congr 1
    rw [Bool.eq_iff_iff]
    simp only [Bool.and_eq_true, decide_eq_true_eq]
    by_cases hjs : j = s
    · subst hjs
      rw [if_pos rfl, hb]
      exact ⟨fun h => absurd rfl h.2, fun h => absurd rfl h.2⟩
    · rw [if_neg hjs]
      have hst := h.step ((h.iff j1).1 j2) (by omega)
      have hpl := place_iff.1 hst.2.place
      have e3 : ((upN l (j : Int)).toNat : Int) = upN l (j : Int) := by omega
      have ho := (h.iff (j := (upN l (j : Int)).toNat) (by omega)).2 (by rw [e3]; exact hst.2)
      refine ⟨fun ⟨a, b⟩ => ⟨by rw [a]; simp, fun e => hjs (plN_inj j1 h.sl j2 hsi (by omega))⟩, fun ⟨a, b⟩ => ⟨?_, by omega⟩⟩
      have := plN_inj (by omega) h.sl ho hsi (by omega)
      omega
  rw [hf]
  refine List.map_congr_left fun t ht => ?_
  simp
theorem PcOk.field (h : PcOk l S O c i s) (nm : List UInt8) : fieldB (pieceB l O (i : Int) s l.length) (plN O s : Int) nm = fieldB l (s : Int) nm := by
  by_cases hnm : nm = []
  · subst hnm
    unfold fieldB namedB
    simp
  have hn := h.named nm hnm
  unfold fieldB
  rw [hn]
  cases e : namedB (pieceB l O (i : Int) s l.length) (plN O s : Int) nm with
  | nil => rfl
  | cons t r =>
    have ht : t ∈ namedB (pieceB l O (i : Int) s l.length) (plN O s : Int) nm := by rw [e]; exact List.mem_cons_self ..
    have ht2 : t ∈ kidsB (pieceB l O (i : Int) s l.length) (plN O s : Int) := by unfold namedB at ht; rw [if_neg hnm] at ht; exact (List.mem_filter.1 ht).1
    have hp := place_iff.1 (kidsB_bd ht2).1
    rw [pc_len] at hp
    have htl : t.toNat < (ownL O (i : Int) l.length).length := by omega
    have hg : (ownL O (i : Int) l.length).getD t.toNat 0 = (ownL O (i : Int) l.length)[t.toNat] := by simp [List.getD, htl]
    have ha : (((ownL O (i : Int) l.length).getD t.toNat 0 : Nat) : Int) ∈ namedB l (s : Int) nm := by rw [hn, e]; exact List.mem_cons_self ..
    have ha2 : (((ownL O (i : Int) l.length).getD t.toNat 0 : Nat) : Int) ∈ kidsB l (s : Int) := by unfold namedB at ha; rw [if_neg hnm] at ha; exact (List.mem_filter.1 ha).1
    obtain ⟨k1, k2, k3, _⟩ := kidsB_bd ha2
    have hb := own_back htl
    rw [← hg] at hb
    have k : KidOf l S s ((ownL O (i : Int) l.length).getD t.toNat 0) := ⟨k2, k3, by have := place_iff.1 k1; omega⟩
    have htx := h.text k
    rw [hb] at htx
    rw [show ((t.toNat : Nat) : Int) = t by omega] at htx
    show some (cleanB (textB _ t)) = some (cleanB (textB l _))
    rw [htx]
/-- What a link's attributes are looked for in. -/
theorem PcOk.links (h : PcOk l S O c i s) : linksB (pieceB l O (i : Int) s l.length) (plN O s : Int) = linksB l (s : Int) := by
  have hn := h.named linkL (by decide)
  unfold linksB
  rw [hn, List.map_map]
  refine List.map_congr_left fun t ht => ?_
  have ht2 : t ∈ kidsB (pieceB l O (i : Int) s l.length) (plN O s : Int) := by unfold namedB at ht; rw [if_neg (by decide)] at ht; exact (List.mem_filter.1 ht).1
  have hp := place_iff.1 (kidsB_bd ht2).1
  rw [pc_len] at hp
  have htl : t.toNat < (ownL O (i : Int) l.length).length := by omega
  have hg : (ownL O (i : Int) l.length).getD t.toNat 0 = (ownL O (i : Int) l.length)[t.toNat] := by simp [List.getD, htl]
  obtain ⟨j1, j2⟩ := ownL_mem.1 (List.getElem_mem htl)
  have hb := own_back htl
  have e := (h.atP j1 j2).1
  rw [hb, show ((t.toNat : Nat) : Int) = t by omega] at e
  show (atN _ t).attrs = (atN l ((((ownL O (i : Int) l.length).getD t.toNat 0 : Nat) : Int))).attrs
  rw [e, hg]
  rfl
end
/-- A part tells of an item what the list does. -/
structure Told (q : List Nd) (j : Int) (l : List Nd) (i : Int) : Prop where
  field : ∀ nm, fieldB q j nm = fieldB l i nm
  links : linksB q j = linksB l i
  from_ : ∀ x ∈ q, ∃ y ∈ l, x.attrs = y.attrs
theorem Told.same (l : List Nd) (i : Int) : Told l i l i := ⟨fun _ => rfl, rfl, fun x hx => ⟨x, hx, rfl⟩⟩
theorem PcOk.told {l : List Nd} {S O : List Int} {c : Int} {i s : Nat} (h : PcOk l S O c i s) : Told (pieceB l O (i : Int) s l.length) (plN O s : Int) l (s : Int) := by
  refine ⟨h.field, h.links, fun x hx => ?_⟩
  unfold pieceB at hx
  obtain ⟨j, hj, rfl⟩ := List.mem_map.1 hx
  have hlt := (ownL_mem.1 hj).1
  refine ⟨l[j], List.getElem_mem hlt, ?_⟩
  unfold pcNd atN
  simp [List.getD, hlt]
end Go.Proofs.YtkjjjbipmobdaaaGreatDoor

/- errors.Is: of a number of package api, of a fault that wraps one, of the program's own error. -/
namespace Go.Proofs.YtkjjjbipmobdaaaGreatDoor
open Go.RowKit Go.Extern.Stop Go.Stop Go.Extern

def rowComp : Array Value → Sem Value := Extern.ReflectliteType.method fun t => do Go.Extern.Rtype.noPackHeld "Comparable" t; pure (.bool (← typeInfo t).comparable)
theorem er_typeOf_c (v : Value) (w : World) : (Extern.ReflectliteType.typeOf #[.iface 29 v]).run Tryz.prog w = .ok (.iface 136 (.agg #[.pointer (some ⟨4, 29, none⟩)])) w := by kernel_rfl
theorem er_comp_c (w : World) : (rowComp #[.agg #[.pointer (some ⟨4, 29, none⟩)]]).run Tryz.prog w = .ok (.bool true) w := by kernel_rfl
theorem er_method (n : Nat) (v : Value) (w : World) : (Go.method (n + 1) 136 v "Comparable").run Tryz.prog w = .ok (193, v) w := by kernel_rfl
theorem er_no1 (v : Value) (xT : TypeId) (w : World) : (Instr.typeAssert (.iface 29 v) xT 138 true).run Tryz.prog w = .ok (.tuple #[.nilIface, .bool false]) w := run_typeAssert_lacksB Tryz.underlying138 (by kernel_rfl) (by kernel_rfl) v xT w
theorem er_no2 (v : Value) (xT : TypeId) (w : World) : (Instr.typeAssert (.iface 29 v) xT 141 true).run Tryz.prog w = .ok (.tuple #[.nilIface, .bool false]) w := run_typeAssert_lacksB Tryz.underlying141 (by kernel_rfl) (by kernel_rfl) v xT w
theorem er_no3 (v : Value) (xT : TypeId) (w : World) : (Instr.typeAssert (.iface 29 v) xT 143 true).run Tryz.prog w = .ok (.tuple #[.nilIface, .bool false]) w := run_typeAssert_lacksB Tryz.underlying143 (by kernel_rfl) (by kernel_rfl) v xT w
theorem er_fo1 (v : Value) (xT : TypeId) (w : World) : (Instr.typeAssert (.iface 71 v) xT 138 true).run Tryz.prog w = .ok (.tuple #[.nilIface, .bool false]) w := run_typeAssert_lacksB Tryz.underlying138 (by kernel_rfl) (by kernel_rfl) v xT w
theorem er_fo2 (v : Value) (xT : TypeId) (w : World) : (Instr.typeAssert (.iface 71 v) xT 141 true).run Tryz.prog w = .ok (.tuple #[.iface 71 v, .bool true]) w := run_typeAssert_hasB Tryz.underlying141 (by kernel_rfl) v xT w
theorem er_unwrap (n : Nat) (v : Value) (w : World) : (Go.method (n + 1) 71 v "Unwrap").run Tryz.prog w = .ok (187, v) w := by kernel_rfl
theorem er_eql_cc (x c : Int) (w : World) : (binOp .eql 26 (.iface 29 (.int .i64 x)) (.iface 29 (.int .i64 c))).run Tryz.prog w = .ok (.bool (x == c)) w := by
  have hcmp : (Tryz.prog.info? 29).map (·.comparable) = some true := by kernel_rfl
  obtain ⟨i, hi, hc⟩ := Option.map_eq_some_iff.1 hcmp
  have h : ∀ d : Nat, (Op.equalIn (d + 2) 26 (.iface 29 (.int .i64 x)) (.iface 29 (.int .i64 c))).run Tryz.prog w = .ok (x == c) w := fun d => by
    simp [Op.equalIn, run_underlying Tryz.underlying26, run_underlying Tryz.underlying29, typeInfo, hi, hc]
  show (do let b ← Op.equal _ _ _; pure (Value.bool b) : Sem Value).run _ _ = _
  simp [Op.equal, Op.maxDepth, h 9998]
theorem er_eql_fc (p : Value) (c : Int) (w : World) : (binOp .eql 26 (.iface 71 p) (.iface 29 (.int .i64 c))).run Tryz.prog w = .ok (.bool false) w := run_eql_iface_types _ _ _ _ Tryz.underlying26 (by decide) w

set_option maxRecDepth 100000 in
/-- errors.Is of two numbers. -/
theorem is11_code (x c : Int) (w : World) : Calls Tryz.prog 40 #[.iface 29 (.int .i64 x), .iface 29 (.int .i64 c)] w fun e w' => e = .returned (.bool (x == c)) ∧ w = w' := by
  have h8 := @run_callFunc_extern Tryz.prog 63 _ Extern.ReflectliteType.typeOf Tryz.func63 (by kernel_rfl) (by kernel_rfl) (by kernel_rfl) (by kernel_rfl)
  have h32 := @run_callFunc_extern Tryz.prog 193 _ rowComp Tryz.func193 (by kernel_rfl) (by kernel_rfl) (by kernel_rfl) (by kernel_rfl)
  have tT := er_typeOf_c
  have cT := er_comp_c
  have mR := er_method
  have heq := er_eql_cc x c
  have n1 := er_no1
  have n2 := er_no2
  have n3 := er_no3
  cases hb : (x == c)
  all_goals
    rw [hb] at heq
    replace hb := Lib.hid hb
    go_enter Tryz.func40, Tryz.ntmps40
    go_wp2
    refine wp_loop_rounds 1 ?_
    rw [rounds_succ]
    go_wp2
    go_ret
    exact ⟨rfl, rfl⟩
set_option maxRecDepth 100000 in
/-- errors.Is of a fault with a number: it is the one that it wraps. -/
theorem is11_fault (p : Nat) (x c : Int) (w : World) (h1 : w.cell? ⟨p, 1, none⟩ = some (.iface 29 (.int .i64 x))) : Calls Tryz.prog 40 #[.iface 71 (.pointer (some ⟨p, 0, none⟩)), .iface 29 (.int .i64 c)] w fun e w' => e = .returned (.bool (x == c)) ∧ w = w' := by
  have h8 := @run_callFunc_extern Tryz.prog 63 _ Extern.ReflectliteType.typeOf Tryz.func63 (by kernel_rfl) (by kernel_rfl) (by kernel_rfl) (by kernel_rfl)
  have h32 := @run_callFunc_extern Tryz.prog 193 _ rowComp Tryz.func193 (by kernel_rfl) (by kernel_rfl) (by kernel_rfl) (by kernel_rfl)
  have tT := er_typeOf_c
  have cT := er_comp_c
  have mR := er_method
  have heq := er_eql_cc x c
  have hef := er_eql_fc
  have n1 := er_no1
  have n2 := er_no2
  have n3 := er_no3
  have f1 := er_fo1
  have f2 := er_fo2
  have mU := er_unwrap
  cases hb : (x == c)
  all_goals
    rw [hb] at heq
    replace hb := Lib.hid hb
    go_enter Tryz.func40, Tryz.ntmps40
    go_wp2
    refine wp_loop_rounds 2 ?_
    rw [rounds_succ]
    go_wp2
    rw [rounds_succ]
    go_wp2
    go_ret
    exact ⟨rfl, rfl⟩
end Go.Proofs.YtkjjjbipmobdaaaGreatDoor
