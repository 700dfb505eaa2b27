/- Layer 12, plain: nodes of tokens; what stands within a node. -/
import Derived.Test.YtahohmdbiiknoaaGreatDoorBR02
import Derived.Test.YtahohmdbiiknoaaGreatDoorBR03
namespace Go.Proofs.YtahohmdbiiknoaaGreatDoor

def nd0 : Nd := ⟨[], [], [], -1⟩
/-- Whether k is a place of l. -/
def placeB (l : List Nd) (k : Int) : Bool := decide (0 ≤ k) && decide (k < l.length)
def atN (l : List Nd) (k : Int) : Nd := l.getD k.toNat nd0
def upN (l : List Nd) (k : Int) : Int := (atN l k).up
theorem place_iff {l : List Nd} {k : Int} : placeB l k = true ↔ 0 ≤ k ∧ k < l.length := by unfold placeB; simp
theorem place_nat {l : List Nd} {k : Nat} (h : k < l.length) : placeB l k = true := by rw [place_iff]; omega
/-- What a builder has come to: its nodes, the place of the innermost open element. -/
structure Bs where
  nds : List Nd
  up : Int
def elemN (x : Tk) (up : Int) : Nd := ⟨x.name, x.attrs, [], up⟩
def textN (x : Tk) (up : Int) : Nd := ⟨[], [], x.text, up⟩
/-- One token more. -/
def takeB (s : Bs) (x : Tk) : Option Bs :=
  if s.up = -1 ∧ s.nds ≠ [] then none
  else if x.kind = 1 ∧ x.name ≠ [] then some ⟨s.nds ++ [elemN x s.up], s.nds.length⟩
  else if x.kind = 3 ∧ x.name ≠ [] then some ⟨s.nds ++ [elemN x s.up], s.up⟩
  else if x.kind = 4 ∧ s.up ≠ -1 then some ⟨s.nds ++ [textN x s.up], s.up⟩
  else if x.kind = 2 ∧ s.up ≠ -1 ∧ x.name = (atN s.nds s.up).name then some ⟨s.nds, upN s.nds s.up⟩
  else none
def foldB : Bs → List Tk → Option Bs
  | s, [] => some s
  | s, x :: t => match takeB s x with
    | none => none
    | some s' => foldB s' t
def bs0 : Bs := ⟨[], -1⟩
/-- The nodes of tokens that make a tree. -/
def buildB (l : List Tk) : Option (List Nd) :=
  match foldB bs0 l with
  | none => none
  | some s => if s.up = -1 ∧ s.nds ≠ [] then some s.nds else none
/-- The places of a builder are such, and stand ahead. -/
structure BsOk (s : Bs) : Prop where
  up : s.up = -1 ∨ 0 ≤ s.up ∧ s.up < s.nds.length
  ups : ∀ j, j < s.nds.length → (s.nds.getD j nd0).up = -1 ∨ 0 ≤ (s.nds.getD j nd0).up ∧ (s.nds.getD j nd0).up < j
theorem bsOk_0 : BsOk bs0 := ⟨Or.inl rfl, fun j h => by simp [bs0] at h⟩
theorem getD_app {α : Type} (l : List α) (x d : α) (j : Nat) (h : j < l.length) : (l ++ [x]).getD j d = l.getD j d := by simp [List.getD, List.getElem?_append_left h]
theorem getD_last {α : Type} (l : List α) (x d : α) : (l ++ [x]).getD l.length d = x := by simp [List.getD]
theorem BsOk.app {s : Bs} (h : BsOk s) (y : Nd) (u : Int) (hy : y.up = s.up) (hu : u = s.up ∨ u = s.nds.length) : BsOk ⟨s.nds ++ [y], u⟩ := by
  refine ⟨?_, fun j hj => ?_⟩
  · rcases hu with rfl | rfl
    · rcases h.up with e | e
      · exact Or.inl e
      · right; simp only [List.length_append, List.length_cons, List.length_nil]; omega
    · right; simp only [List.length_append, List.length_cons, List.length_nil]; omega
  · simp only [List.length_append, List.length_cons, List.length_nil] at hj
    by_cases e : j < s.nds.length
    · simp only [getD_app _ _ _ _ e]; exact h.ups j e
    · obtain rfl : j = s.nds.length := by omega
      simp only [getD_last, hy]
      exact h.up
theorem upN_ok {s : Bs} (h : BsOk s) (hu : s.up ≠ -1) : upN s.nds s.up = -1 ∨ 0 ≤ upN s.nds s.up ∧ upN s.nds s.up < s.up := by
  rcases h.up with e | e
  · exact absurd e hu
  · have := h.ups s.up.toNat (by omega)
    unfold upN atN
    omega
theorem takeB_ok {s s' : Bs} {x : Tk} (h : BsOk s) (e : takeB s x = some s') : BsOk s' ∧ s'.nds ≠ [] ∧ s'.nds.length ≤ s.nds.length + 1 := by
  unfold takeB at e
  split at e
  · cases e
  split at e
  · injection e with e; subst e; exact ⟨h.app _ _ rfl (Or.inr rfl), by simp, by simp⟩
  split at e
  · injection e with e; subst e; exact ⟨h.app _ _ rfl (Or.inl rfl), by simp, by simp⟩
  split at e
  · injection e with e; subst e; exact ⟨h.app _ _ rfl (Or.inl rfl), by simp, by simp⟩
  split at e
  · rename_i hc
    injection e with e
    subst e
    have := upN_ok h hc.2.1
    rcases h.up with hu | hu
    · exact absurd hu hc.2.1
    · refine ⟨⟨?_, h.ups⟩, by intro e; rw [e] at hu; simp at hu; omega, by simp⟩
      show upN s.nds s.up = -1 ∨ 0 ≤ upN s.nds s.up ∧ upN s.nds s.up < s.nds.length
      omega
  · cases e

/-- A node stands within i. -/
inductive Within (l : List Nd) (i : Int) : Int → Prop where
  | here : placeB l i = true → Within l i i
  | up {k : Int} : placeB l k = true → Within l i (upN l k) → Within l i k
theorem Within.place {l : List Nd} {i k : Int} (h : Within l i k) : placeB l k = true := by cases h <;> assumption
theorem Within.top {l : List Nd} {i k : Int} (h : Within l i k) : placeB l i = true := by
  induction h with
  | here h => exact h
  | up _ _ ih => exact ih
/-- The same, told in so many steps. -/
def winF (l : List Nd) (i : Int) : Nat → Int → Bool
  | 0, _ => false
  | F + 1, k => placeB l k && (k == i || winF l i F (upN l k))
def winB (l : List Nd) (i k : Int) : Bool := winF l i (l.length + 1) k
theorem within_of_win {l : List Nd} {i : Int} : ∀ (F : Nat) (k : Int), winF l i F k = true → Within l i k
  | 0, _, h => by cases h
  | F + 1, k, h => by
    unfold winF at h
    rw [Bool.and_eq_true, Bool.or_eq_true, beq_iff_eq] at h
    rcases h.2 with rfl | e
    · exact .here h.1
    · exact .up h.1 (within_of_win F _ e)
theorem winF_up {l : List Nd} {i : Int} : ∀ (F : Nat) (k : Int), winF l i F k = true → winF l i (F + 1) k = true
  | 0, _, h => by cases h
  | F + 1, k, h => by
    rw [winF] at h
    rw [winF]
    rw [Bool.and_eq_true, Bool.or_eq_true] at h ⊢
    refine ⟨h.1, ?_⟩
    rcases h.2 with e | e
    · exact Or.inl e
    · exact Or.inr (winF_up F _ e)
theorem winF_le {l : List Nd} {i : Int} {k : Int} {F G : Nat} (hle : F ≤ G) (h : winF l i F k = true) : winF l i G k = true := by
  induction G with
  | zero => obtain rfl : F = 0 := by omega
            exact h
  | succ G ih =>
    by_cases e : F = G + 1
    · subst e; exact h
    · exact winF_up _ _ (ih (by omega))
theorem win_of_within {l : List Nd} {i k : Int} (h : Within l i k) : ∃ F, winF l i F k = true := by
  induction h with
  | here h => exact ⟨1, by unfold winF; simp [h]⟩
  | up hp _ ih =>
    obtain ⟨F, hF⟩ := ih
    exact ⟨F + 1, by rw [winF]; simp [hp, hF]⟩
theorem count_le {α : Type} (p q : α → Bool) : ∀ l : List α, (∀ x ∈ l, p x = true → q x = true) → l.countP p < l.countP q ∨ ∀ x ∈ l, p x = q x
  | [], _ => Or.inr (fun x h => by cases h)
  | a :: t, h => by
    have ih := count_le p q t (fun x hx => h x (List.mem_cons_of_mem _ hx))
    have hmono : t.countP p ≤ t.countP q := List.countP_mono_left (fun x hx => h x (List.mem_cons_of_mem _ hx))
    have ha := h a (List.mem_cons_self ..)
    rw [List.countP_cons, List.countP_cons]
    cases hp : p a
    · cases hq : q a
      · rcases ih with e | e
        · left; simpa using e
        · right; intro x hx; rcases List.mem_cons.1 hx with rfl | hx
          · rw [hp, hq]
          · exact e x hx
      · left; simp; omega
    · have hq := ha hp
      rcases ih with e | e
      · left; simp [hq]; omega
      · right; intro x hx; rcases List.mem_cons.1 hx with rfl | hx
        · rw [hp, hq]
        · exact e x hx
/-- Steps of no account: from some number of them on nothing more is told. -/
theorem win_still {l : List Nd} {i : Int} : ∀ F : Nat, F ≤ (List.range l.length).countP (fun j : Nat => winF l i F (j : Int)) ∨ ∃ G, G < F ∧ ∀ j, j < l.length → winF l i G (j : Int) = winF l i (G + 1) (j : Int)
  | 0 => Or.inl (Nat.zero_le _)
  | F + 1 => by
    rcases win_still (l := l) (i := i) F with h | ⟨G, hG, h⟩
    · rcases count_le (fun j : Nat => winF l i F (j : Int)) (fun j : Nat => winF l i (F + 1) (j : Int)) (List.range l.length) (fun x _ => winF_up F _) with e | e
      · left; omega
      · exact Or.inr ⟨F, by omega, fun j hj => e j (List.mem_range.2 hj)⟩
    · exact Or.inr ⟨G, by omega, h⟩
theorem win_no {l : List Nd} {i k : Int} (h : ¬ placeB l k = true) (F : Nat) : winF l i F k = false := by
  cases F with
  | zero => rfl
  | succ F => unfold winF; rw [Bool.eq_false_iff.2 h]; rfl
theorem win_same {l : List Nd} {i : Int} {G : Nat} (h : ∀ j, j < l.length → winF l i G (j : Int) = winF l i (G + 1) (j : Int)) : ∀ (F : Nat) (k : Int), G ≤ F → winF l i F k = winF l i G k := by
  have h' : ∀ k : Int, winF l i G k = winF l i (G + 1) k := fun k => by
    by_cases hp : placeB l k = true
    · rw [place_iff] at hp
      have := h k.toNat (by omega)
      rwa [Int.toNat_of_nonneg hp.1] at this
    · rw [win_no hp, win_no hp]
  intro F
  induction F with
  | zero => intro k hk; obtain rfl : G = 0 := by omega
            rfl
  | succ F ih =>
    intro k hk
    by_cases e : G = F + 1
    · rw [e]
    · rw [h' k, winF, winF, ih _ (by omega)]
theorem winB_iff {l : List Nd} {i k : Int} : winB l i k = true ↔ Within l i k := by
  refine ⟨within_of_win _ _, fun h => ?_⟩
  obtain ⟨F, hF⟩ := win_of_within h
  unfold winB
  rcases win_still (l := l) (i := i) (l.length + 1) with e | ⟨G, hG, e⟩
  · have := List.countP_le_length (p := fun j : Nat => winF l i (l.length + 1) (j : Int)) (l := List.range l.length)
    rw [List.length_range] at this
    omega
  · rcases Nat.le_total F (l.length + 1) with hle | hle
    · exact winF_le hle hF
    · rw [win_same e F k (by omega)] at hF
      exact winF_le (by omega) hF

/-- The places of a node's kids among the first k. -/
def kidsTo (l : List Nd) (i : Int) (k : Nat) : List Int := ((List.range k).filter fun j : Nat => decide (upN l (j : Int) = i) && decide ((j : Int) ≠ i)).map fun j : Nat => (j : Int)
def kidsB (l : List Nd) (i : Int) : List Int := if placeB l i = true then kidsTo l i l.length else []
def namedB (l : List Nd) (i : Int) (nm : List UInt8) : List Int := if nm = [] then [] else (kidsB l i).filter fun j => (atN l j).name == nm
/-- What the node at j adds to the text of the one at i. -/
def bitB (l : List Nd) (i : Int) (j : Nat) : List UInt8 := if (atN l (j : Int)).name = [] ∧ winB l i (j : Int) = true then (atN l (j : Int)).text else []
def textTo (l : List Nd) (i : Int) (k : Nat) : List UInt8 := (List.range k).flatMap (bitB l i)
def textB (l : List Nd) (i : Int) : List UInt8 := if placeB l i = true then textTo l i l.length else []
def attrB (l : List At) (nm : List UInt8) : List UInt8 × Bool :=
  match l.find? fun a => a.1 == nm with
  | some a => (a.2, true)
  | none => ([], false)
theorem kidsTo_next (l : List Nd) (i : Int) (k : Nat) : kidsTo l i (k + 1) = kidsTo l i k ++ if upN l (k : Int) = i ∧ (k : Int) ≠ i then [(k : Int)] else [] := by
  unfold kidsTo
  rw [List.range_succ, List.filter_append, List.map_append]
  congr 1
  by_cases h : upN l (k : Int) = i ∧ (k : Int) ≠ i
  · rw [if_pos h]; simp [h.1, h.2]
  · rw [if_neg h, List.filter_cons, if_neg (by simpa using h)]; rfl
theorem textTo_next (l : List Nd) (i : Int) (k : Nat) : textTo l i (k + 1) = textTo l i k ++ bitB l i k := by
  unfold textTo; rw [List.range_succ, List.flatMap_append]; simp
theorem kidsTo_bd {l : List Nd} {i : Int} {k : Nat} {j : Int} (h : j ∈ kidsTo l i k) : 0 ≤ j ∧ j < k ∧ upN l j = i ∧ j ≠ i := by
  unfold kidsTo at h
  simp only [List.mem_map, List.mem_filter, List.mem_range, Bool.and_eq_true, decide_eq_true_eq] at h
  obtain ⟨a, ⟨h1, h2, h3⟩, rfl⟩ := h
  exact ⟨by omega, by omega, h2, h3⟩
theorem kidsB_bd {l : List Nd} {i j : Int} (h : j ∈ kidsB l i) : placeB l j = true ∧ upN l j = i ∧ j ≠ i ∧ placeB l i = true := by
  unfold kidsB at h
  split at h
  · have := kidsTo_bd h
    exact ⟨by rw [place_iff]; omega, this.2.2.1, this.2.2.2, by assumption⟩
  · cases h
theorem kidsTo_len (l : List Nd) (i : Int) (k : Nat) : (kidsTo l i k).length ≤ k := by
  unfold kidsTo
  rw [List.length_map]
  exact Nat.le_trans (List.length_filter_le _ _) (by simp)
theorem kidsB_len (l : List Nd) (i : Int) : (kidsB l i).length ≤ l.length := by
  unfold kidsB
  split
  · exact kidsTo_len _ _ _
  · simp
def sumT (l : List Nd) : Nat := (l.map fun x => x.text.length).sum
theorem sum_getD (l : List Nd) : ∀ k, k ≤ l.length → ((List.range k).map fun j => (l.getD j nd0).text.length).sum = ((l.take k).map fun x => x.text.length).sum
  | 0, _ => by simp
  | k + 1, h => by
    rw [List.range_succ, List.map_append, List.sum_append, sum_getD l k (by omega), List.take_add_one, List.map_append, List.sum_append]
    simp [List.getD, List.getElem?_eq_getElem (show k < l.length by omega)]
theorem textTo_len (l : List Nd) (i : Int) (k : Nat) (h : k ≤ l.length) : (textTo l i k).length ≤ sumT l := by
  have h1 : (textTo l i k).length ≤ ((List.range k).map fun j => (l.getD j nd0).text.length).sum := by
    clear h
    induction k with
    | zero => simp [textTo]
    | succ k ih =>
      rw [textTo_next, List.length_append, List.range_succ, List.map_append, List.sum_append]
      have : (bitB l i k).length ≤ (l.getD k nd0).text.length := by
        unfold bitB atN
        split
        · simp
        · simp
      simp only [List.map_cons, List.map_nil, List.sum_cons, List.sum_nil]
      omega
  have h2 : ((l.take k).map fun x => x.text.length).sum ≤ sumT l := by
    have : sumT l = ((l.take k).map fun x => x.text.length).sum + ((l.drop k).map fun x => x.text.length).sum := by
      unfold sumT
      rw [← List.sum_append, ← List.map_append, List.take_append_drop]
    omega
  rw [sum_getD l k h] at h1
  omega
theorem textB_len (l : List Nd) (i : Int) : (textB l i).length ≤ sumT l := by
  unfold textB
  split
  · exact textTo_len l i _ (Nat.le_refl _)
  · simp
end Go.Proofs.YtahohmdbiiknoaaGreatDoor

/- Layer 12, plain: what holds of the nodes of tokens that make a tree. -/
namespace Go.Proofs.YtahohmdbiiknoaaGreatDoor

theorem take_fold_app : ∀ (l m : List Tk) (s : Bs), foldB s (l ++ m) = match foldB s l with | none => none | some s' => foldB s' m
  | [], m, s => rfl
  | x :: t, m, s => by
    rw [List.cons_append, foldB, foldB]
    cases takeB s x with
    | none => rfl
    | some s' => exact take_fold_app t m s'
/-- Any property that each token keeps. -/
theorem foldB_keeps (J : Bs → List Tk → Prop) (hJ : ∀ s l x s', J s l → takeB s x = some s' → J s' (l ++ [x])) : ∀ (m : List Tk) (s s' : Bs) (l : List Tk), J s l → foldB s m = some s' → J s' (l ++ m)
  | [], s, s', l, h, e => by
    injection e with e
    subst e
    rw [List.append_nil]; exact h
  | x :: t, s, s', l, h, e => by
    rw [foldB] at e
    cases ht : takeB s x with
    | none => rw [ht] at e; cases e
    | some s1 =>
      rw [ht] at e
      have := foldB_keeps J hJ t s1 s' (l ++ [x]) (hJ s l x s1 h ht) e
      rwa [List.append_assoc] at this
/-- What a token that is taken does. -/
theorem takeB_cases {s s' : Bs} {x : Tk} (e : takeB s x = some s') :
    (∃ y, s' = ⟨s.nds ++ [y], s.nds.length⟩ ∧ y.up = s.up ∧ y.name ≠ [] ∧ (y.attrs = x.attrs) ∧ y.text = [] ∧ ¬ (s.up = -1 ∧ s.nds ≠ []) ∧ x.kind = 1) ∨
    (∃ y, s' = ⟨s.nds ++ [y], s.up⟩ ∧ y.up = s.up ∧ (y.attrs = x.attrs ∧ y.text = [] ∨ y.attrs = [] ∧ y.text = x.text) ∧ ¬ (s.up = -1 ∧ s.nds ≠ []) ∧ x.kind ≠ 2) ∨
    (s' = ⟨s.nds, upN s.nds s.up⟩ ∧ s.up ≠ -1 ∧ x.kind = 2) := by
  unfold takeB at e
  split at e
  · cases e
  rename_i h0
  split at e
  · rename_i hc; injection e with e; exact Or.inl ⟨elemN x s.up, e.symm, rfl, hc.2, rfl, rfl, h0, hc.1⟩
  split at e
  · rename_i hc; injection e with e; exact Or.inr (Or.inl ⟨elemN x s.up, e.symm, rfl, Or.inl ⟨rfl, rfl⟩, h0, by omega⟩)
  split at e
  · rename_i hc; injection e with e; exact Or.inr (Or.inl ⟨textN x s.up, e.symm, rfl, Or.inr ⟨rfl, rfl⟩, h0, by omega⟩)
  split at e
  · rename_i hc; injection e with e; exact Or.inr (Or.inr ⟨e.symm, hc.2.1, hc.1⟩)
  · cases e
/-- How many tokens begin something, or are texts. -/
def cntB (l : List Tk) : Nat := l.countP fun x => x.kind != 2
theorem foldB_count {l : List Tk} {s : Bs} (e : foldB bs0 l = some s) : s.nds.length = cntB l := by
  have := foldB_keeps (fun s l => s.nds.length = cntB l) (fun s l x s' h e => by
    unfold cntB at h ⊢
    rw [List.countP_append, ← h]
    rcases takeB_cases e with ⟨y, rfl, _, _, _, _, _, hk⟩ | ⟨y, rfl, _, _, _, hk⟩ | ⟨rfl, _, hk⟩
    · simp [hk]
    · simp [hk]
    · simp [hk]) l bs0 s [] rfl e
  simpa using this
/-- Attributes are a token's, or none; texts are no more than the tokens'. -/
theorem foldB_attrs {l : List Tk} {s : Bs} (e : foldB bs0 l = some s) : ∀ x ∈ s.nds, x.attrs = [] ∨ ∃ t ∈ l, x.attrs = t.attrs := by
  have := foldB_keeps (fun s l => ∀ x ∈ s.nds, x.attrs = [] ∨ ∃ t ∈ l, x.attrs = t.attrs) (fun s l x s' h e => by
    have hold : ∀ z ∈ s.nds, z.attrs = [] ∨ ∃ t ∈ l ++ [x], z.attrs = t.attrs := fun z hz => by
      rcases h z hz with h | ⟨t, ht, h⟩
      · exact Or.inl h
      · exact Or.inr ⟨t, List.mem_append_left _ ht, h⟩
    rcases takeB_cases e with ⟨y, rfl, _, _, ha, _⟩ | ⟨y, rfl, _, ha, _⟩ | ⟨rfl, _⟩
    · intro z hz
      rcases List.mem_append.1 hz with hz | hz
      · exact hold z hz
      · rw [List.mem_singleton] at hz; subst hz; exact Or.inr ⟨x, by simp, ha⟩
    · intro z hz
      rcases List.mem_append.1 hz with hz | hz
      · exact hold z hz
      · rw [List.mem_singleton] at hz; subst hz
        rcases ha with ha | ha
        · exact Or.inr ⟨x, by simp, ha.1⟩
        · exact Or.inl ha.1
    · exact hold) l bs0 s [] (fun x h => by simp [bs0] at h) e
  simpa using this
def sumK (l : List Tk) : Nat := (l.map fun x => x.text.length).sum
theorem foldB_sum {l : List Tk} {s : Bs} (e : foldB bs0 l = some s) : sumT s.nds ≤ sumK l := by
  have := foldB_keeps (fun s l => sumT s.nds ≤ sumK l) (fun s l x s' h e => by
    have e2 : sumK (l ++ [x]) = sumK l + x.text.length := by unfold sumK; simp
    rw [e2]
    have e3 : ∀ y, sumT (s.nds ++ [y]) = sumT s.nds + y.text.length := fun y => by unfold sumT; simp
    rcases takeB_cases e with ⟨y, rfl, _, _, _, ht, _⟩ | ⟨y, rfl, _, ht, _⟩ | ⟨rfl, _⟩
    · show sumT (s.nds ++ [y]) ≤ _
      rw [e3, ht]; simp; omega
    · show sumT (s.nds ++ [y]) ≤ _
      rw [e3]
      rcases ht with ht | ht
      · rw [ht.2]; simp; omega
      · rw [ht.2]; omega
    · show sumT s.nds ≤ _
      omega) l bs0 s [] (Nat.le_refl _) e
  simpa using this
section
variable {l : List Nd} {y : Nd}
theorem atN_app {k : Int} (h : placeB l k = true) : atN (l ++ [y]) k = atN l k := by
  have := place_iff.1 h
  unfold atN
  rw [getD_app _ _ _ _ (by omega)]
theorem atN_last : atN (l ++ [y]) (l.length : Int) = y := by unfold atN; rw [Int.toNat_natCast, getD_last]
theorem place_app {k : Int} (h : placeB l k = true) : placeB (l ++ [y]) k = true := by
  rw [place_iff] at h ⊢
  simp only [List.length_append, List.length_cons, List.length_nil]; omega
theorem within_app {i k : Int} (h : Within l i k) : Within (l ++ [y]) i k := by
  induction h with
  | here h => exact .here (place_app h)
  | up hp _ ih =>
    refine .up (place_app hp) ?_
    unfold upN
    rw [atN_app hp]
    exact ih
theorem within_trans {i j k : Int} (h : Within l i k) (h2 : Within l j i) : Within l j k := by
  induction h with
  | here _ => exact h2
  | up hp _ ih => exact .up hp ih
end
/-- Nodes that stand as those of a tree do; up: where the next one would stand. -/
structure TreeAt (l : List Nd) : Prop where
  ups : ∀ j : Nat, j < l.length → (j = 0 ∧ upN l (j : Int) = -1) ∨ (0 < j ∧ 0 ≤ upN l (j : Int) ∧ upN l (j : Int) < j)
  elem : ∀ j : Nat, 0 < j → j < l.length → (atN l (upN l (j : Int))).name ≠ []
  anc : ∀ j : Nat, 0 < j → j < l.length → Within l (upN l (j : Int)) ((j : Int) - 1)
structure BsT (s : Bs) : Prop where
  ok : BsOk s
  tree : TreeAt s.nds
  here : s.up ≠ -1 → (atN s.nds s.up).name ≠ []
  last : s.up ≠ -1 → Within s.nds s.up ((s.nds.length : Int) - 1)
theorem bsT_0 : BsT bs0 := ⟨bsOk_0, ⟨fun j h => by simp [bs0] at h, fun j _ h => by simp [bs0] at h, fun j _ h => by simp [bs0] at h⟩, fun e => absurd rfl e, fun e => absurd rfl e⟩
theorem BsT.place {s : Bs} (h : BsT s) (hu : s.up ≠ -1) : placeB s.nds s.up = true := by
  rcases h.ok.up with e | e
  · exact absurd e hu
  · exact place_iff.2 e
theorem BsT.push {s : Bs} (h : BsT s) {y : Nd} (hy : y.up = s.up) (hn : ¬ (s.up = -1 ∧ s.nds ≠ [])) : TreeAt (s.nds ++ [y]) := by
  have hlen : (s.nds ++ [y]).length = s.nds.length + 1 := by simp
  have hup : ∀ j : Nat, j < s.nds.length → upN (s.nds ++ [y]) (j : Int) = upN s.nds (j : Int) := fun j hj => by unfold upN; rw [atN_app (place_nat hj)]
  have hlast : upN (s.nds ++ [y]) (s.nds.length : Int) = s.up := by unfold upN; rw [atN_last, hy]
  have hne : 0 < s.nds.length → s.up ≠ -1 := fun h0 e => hn ⟨e, List.length_pos_iff.1 h0⟩
  have hz : s.nds.length = 0 → s.up = -1 := fun h0 => by
    rcases h.ok.up with e | e
    · exact e
    · omega
  refine ⟨fun j hj => ?_, fun j h0 hj => ?_, fun j h0 hj => ?_⟩
  · rw [hlen] at hj
    by_cases e : j < s.nds.length
    · rw [hup j e]; exact h.tree.ups j e
    · obtain rfl : j = s.nds.length := by omega
      rw [hlast]
      rcases Nat.eq_zero_or_pos s.nds.length with h0 | h0
      · exact Or.inl ⟨h0, hz h0⟩
      · rcases h.ok.up with e | e
        · exact absurd e (hne h0)
        · exact Or.inr ⟨h0, e⟩
  · rw [hlen] at hj
    by_cases e : j < s.nds.length
    · rw [hup j e]
      have hu := h.tree.ups j e
      rw [atN_app (place_iff.2 (by omega))]
      exact h.tree.elem j h0 e
    · obtain rfl : j = s.nds.length := by omega
      rw [hlast, atN_app (h.place (hne h0))]
      exact h.here (hne h0)
  · rw [hlen] at hj
    by_cases e : j < s.nds.length
    · rw [hup j e]; exact within_app (h.tree.anc j h0 e)
    · obtain rfl : j = s.nds.length := by omega
      rw [hlast]
      exact within_app (h.last (hne h0))
theorem BsT.take {s s' : Bs} {x : Tk} (h : BsT s) (e : takeB s x = some s') : BsT s' := by
  have hok := (takeB_ok h.ok e).1
  rcases takeB_cases e with ⟨y, rfl, hy, hnm, _, _, hn, _⟩ | ⟨y, rfl, hy, _, hn, _⟩ | ⟨rfl, hu, _⟩
  · refine ⟨hok, h.push hy hn, fun _ => ?_, fun _ => ?_⟩
    · show (atN (s.nds ++ [y]) (s.nds.length : Int)).name ≠ []
      rw [atN_last]; exact hnm
    · show Within (s.nds ++ [y]) (s.nds.length : Int) (((s.nds ++ [y]).length : Int) - 1)
      rw [show (((s.nds ++ [y]).length : Int) - 1) = (s.nds.length : Int) by simp]
      exact .here (place_iff.2 (by simp; omega))
  · refine ⟨hok, h.push hy hn, fun hu => ?_, fun hu => ?_⟩
    · show (atN (s.nds ++ [y]) s.up).name ≠ []
      rw [atN_app (h.place hu)]; exact h.here hu
    · show Within (s.nds ++ [y]) s.up (((s.nds ++ [y]).length : Int) - 1)
      rw [show (((s.nds ++ [y]).length : Int) - 1) = (s.nds.length : Int) by simp]
      refine .up (place_iff.2 (by simp; omega)) ?_
      rw [show upN (s.nds ++ [y]) (s.nds.length : Int) = s.up by unfold upN; rw [atN_last, hy]]
      exact .here (place_app (h.place hu))
  · have hp := h.place hu
    have hp' := place_iff.1 hp
    have hc : ((s.up.toNat : Nat) : Int) = s.up := Int.toNat_of_nonneg hp'.1
    have hups := h.tree.ups s.up.toNat (by omega)
    rw [hc] at hups
    refine ⟨hok, h.tree, fun hu2 => ?_, fun hu2 => ?_⟩
    · have := h.tree.elem s.up.toNat (by have : upN s.nds s.up ≠ -1 := hu2; omega) (by omega)
      rw [hc] at this
      exact this
    · have hu3 : upN s.nds s.up ≠ -1 := hu2
      exact within_trans (h.last hu) (show Within s.nds (upN s.nds s.up) s.up from .up hp (.here (place_iff.2 (by omega))))
theorem buildB_tree {l : List Tk} {nds : List Nd} (e : buildB l = some nds) : TreeAt nds ∧ nds ≠ [] ∧ nds.length = cntB l ∧ sumT nds ≤ sumK l ∧ ∀ x ∈ nds, x.attrs = [] ∨ ∃ t ∈ l, x.attrs = t.attrs := by
  unfold buildB at e
  cases hf : foldB bs0 l with
  | none => rw [hf] at e; cases e
  | some s =>
    rw [hf] at e
    simp only at e
    split at e
    · rename_i hc
      injection e with e
      subst e
      have := foldB_keeps (fun s _ => BsT s) (fun s _ x s' h e => h.take e) l bs0 s [] bsT_0 hf
      exact ⟨this.tree, hc.2, foldB_count hf, foldB_sum hf, foldB_attrs hf⟩
    · cases e
section
variable {l : List Nd}
theorem TreeAt.up_lt {k : Int} (h : TreeAt l) (hp : placeB l k = true) : upN l k < k := by
  have hp' := place_iff.1 hp
  have := h.ups k.toNat (by omega)
  rw [Int.toNat_of_nonneg hp'.1] at this
  omega
theorem TreeAt.le {i k : Int} (h : TreeAt l) (hw : Within l i k) : i ≤ k := by
  induction hw with
  | here _ => exact Int.le_refl _
  | up hp _ ih => have := h.up_lt hp; omega
/-- What stands within a node stands together. -/
theorem TreeAt.between {c : Int} (h : TreeAt l) : ∀ (d : Nat) (k j : Int), k = j + d → c ≤ j → Within l c k → Within l c j
  | 0, k, j, e, _, hw => by
    obtain rfl : k = j := by omega
    exact hw
  | d + 1, k, j, e, hc, hw => by
    refine TreeAt.between h d (k - 1) j (by omega) hc ?_
    have hp' := place_iff.1 hw.place
    have ht' := place_iff.1 hw.top
    cases hw with
    | here _ => omega
    | up hp hw =>
      have hk : ((k.toNat : Nat) : Int) = k := Int.toNat_of_nonneg hp'.1
      have := h.anc k.toNat (by omega) (by omega)
      rw [hk] at this
      exact within_trans this hw
/-- A kid of i doesn't stand within another one. -/
theorem TreeAt.apart {i c k : Int} (h : TreeAt l) (hc : upN l c = i) (hcp : placeB l c = true) (hk : upN l k = i) (hne : k ≠ c) : ¬ Within l c k := by
  intro hw
  cases hw with
  | here _ => exact hne rfl
  | up hp hw =>
    rw [hk] at hw
    have h1 := h.le hw
    have h2 := h.up_lt hcp
    omega
theorem TreeAt.text {i : Nat} (h : TreeAt l) (hi : i < l.length) (hn : (atN l (i : Int)).name = []) : kidsB l (i : Int) = [] ∧ textB l (i : Int) = (atN l (i : Int)).text := by
  have hno : ∀ k : Int, placeB l k = true → upN l k ≠ (i : Int) := fun k hp e => by
    have hp' := place_iff.1 hp
    have hk : ((k.toNat : Nat) : Int) = k := Int.toNat_of_nonneg hp'.1
    have hu := h.ups k.toNat (by omega)
    rw [hk] at hu
    have := h.elem k.toNat (by omega) (by omega)
    rw [hk, e] at this
    exact this hn
  refine ⟨?_, ?_⟩
  · rw [List.eq_nil_iff_forall_not_mem]
    intro j hj
    have := kidsB_bd hj
    exact hno j this.1 this.2.1
  · have honly : ∀ k : Int, Within l (i : Int) k → k = (i : Int) := fun k hw => by
      induction hw with
      | here _ => rfl
      | up hp _ ih => exact absurd ih (hno _ hp)
    have key : ∀ m : Nat, textTo l (i : Int) m = if i < m then (atN l (i : Int)).text else [] := fun m => by
      induction m with
      | zero => rfl
      | succ m ih =>
        rw [textTo_next, ih]
        by_cases e : m = i
        · subst e
          rw [if_neg (by omega), if_pos (by omega), List.nil_append]
          unfold bitB
          rw [if_pos ⟨hn, winB_iff.2 (.here (place_nat hi))⟩]
        · have hb : bitB l (i : Int) m = [] := by
            unfold bitB
            rw [if_neg]
            intro hc
            have := honly _ (winB_iff.1 hc.2)
            omega
          rw [hb, List.append_nil]
          by_cases e2 : i < m
          · rw [if_pos e2, if_pos (by omega)]
          · rw [if_neg e2, if_neg (by omega)]
    unfold textB
    rw [if_pos (place_nat hi), key, if_pos hi]
theorem kidsTo_still {i : Int} {a : Nat} : ∀ b : Nat, a ≤ b → (∀ j : Nat, a ≤ j → j < b → ¬ (upN l (j : Int) = i ∧ (j : Int) ≠ i)) → kidsTo l i b = kidsTo l i a
  | 0, hab, _ => by obtain rfl : a = 0 := by omega
                    rfl
  | b + 1, hab, hno => by
    by_cases e : a = b + 1
    · rw [e]
    · rw [kidsTo_next, if_neg (hno b (by omega) (by omega)), List.append_nil]
      exact kidsTo_still b (by omega) fun j h1 h2 => hno j h1 (by omega)
/-- What stands within i stands within one of its kids. -/
theorem kid_of {i k : Int} (hw : Within l i k) (hne : k ≠ i) : ∃ c, upN l c = i ∧ c ≠ i ∧ placeB l c = true ∧ Within l c k := by
  induction hw with
  | here _ => exact absurd rfl hne
  | @up k hp hw ih =>
    by_cases e : upN l k = i
    · exact ⟨k, e, hne, hp, .here hp⟩
    · obtain ⟨c, h1, h2, h3, h4⟩ := ih e
      exact ⟨c, h1, h2, h3, .up hp h4⟩
theorem flatMap_same {f g : Int → List UInt8} {xs : List Int} (hfg : ∀ c ∈ xs, f c = g c) : xs.flatMap f = xs.flatMap g := by
  rw [List.flatMap_def, List.flatMap_def, List.map_congr_left hfg]
theorem TreeAt.kids_text {i : Nat} (h : TreeAt l) (hi : i < l.length) (hn : (atN l (i : Int)).name ≠ []) : ∀ m : Nat, m ≤ l.length → textTo l (i : Int) m = (kidsTo l (i : Int) m).flatMap fun c => textTo l c m
  | 0, _ => rfl
  | m + 1, hm => by
    have ih := TreeAt.kids_text h hi hn m (by omega)
    have hpm : placeB l (m : Int) = true := place_nat (by omega)
    have hpi : placeB l (i : Int) = true := place_nat hi
    have hstep : ∀ xs : List Int, (∀ c ∈ xs, bitB l c m = []) → xs.flatMap (fun c => textTo l c (m + 1)) = xs.flatMap fun c => textTo l c m := fun xs hx =>
      flatMap_same fun c hc => by rw [textTo_next, hx c hc, List.append_nil]
    have hbit : ∀ c : Int, ¬ Within l c (m : Int) → bitB l c m = [] := fun c hc => by
      unfold bitB; rw [if_neg (fun e => hc (winB_iff.1 e.2))]
    rw [textTo_next]
    by_cases hkid : upN l (m : Int) = (i : Int) ∧ (m : Int) ≠ (i : Int)
    · -- a kid
      rw [kidsTo_next, if_pos hkid, List.flatMap_append, hstep _ (fun c hc => ?_), ← ih]
      · congr 1
        have hown : textTo l (m : Int) m = [] := by
          unfold textTo
          rw [List.flatMap_eq_nil_iff]
          intro j hj
          have hj := List.mem_range.1 hj
          unfold bitB
          rw [if_neg]
          intro e
          have := h.le (winB_iff.1 e.2)
          omega
        simp only [List.flatMap_cons, List.flatMap_nil, List.append_nil]
        rw [textTo_next, hown, List.nil_append]
        unfold bitB
        have w1 : winB l (i : Int) (m : Int) = true := winB_iff.2 (.up hpm (by rw [hkid.1]; exact .here hpi))
        have w2 : winB l (m : Int) (m : Int) = true := winB_iff.2 (.here hpm)
        rw [w1, w2]
      · have hb := kidsTo_bd hc
        exact hbit c (h.apart hb.2.2.1 (place_iff.2 (by omega)) hkid.1 (by omega))
    · rw [kidsTo_next, if_neg hkid, List.append_nil]
      by_cases hw : Within l (i : Int) (m : Int)
      · by_cases hmi : (m : Int) = (i : Int)
        · have hb : bitB l (i : Int) m = [] := by
            unfold bitB
            rw [if_neg (fun e => hn (by rw [← hmi]; exact e.1))]
          rw [hb, List.append_nil, ih]
          refine (hstep _ fun c hc => ?_).symm
          have hb2 := kidsTo_bd hc
          have := h.up_lt (k := c) (place_iff.2 (by omega))
          omega
        · obtain ⟨c, hc1, hc2, hc3, hc4⟩ := kid_of hw hmi
          have hcm := h.le hc4
          have hcp := place_iff.1 hc3
          have hne : c ≠ (m : Int) := fun e => hkid ⟨by rw [← e]; exact hc1, hmi⟩
          obtain ⟨q, rfl⟩ : ∃ q : Nat, c = q := ⟨c.toNat, by omega⟩
          have hq : q < m := by omega
          have hstill : kidsTo l (i : Int) m = kidsTo l (i : Int) q ++ [(q : Int)] := by
            rw [kidsTo_still (a := q + 1) m (by omega) (fun j h1 h2 e => ?_), kidsTo_next, if_pos ⟨hc1, hc2⟩]
            exact h.apart hc1 hc3 e.1 (by omega) (h.between (m - j) (m : Int) (j : Int) (by omega) (by omega) hc4)
          rw [ih, hstill, List.flatMap_append, List.flatMap_append, List.append_assoc, hstep (kidsTo l (i : Int) q) (fun c' hc' => ?_)]
          · congr 1
            simp only [List.flatMap_cons, List.flatMap_nil, List.append_nil]
            rw [textTo_next]
            congr 1
            unfold bitB
            have w1 : winB l (i : Int) (m : Int) = true := winB_iff.2 hw
            have w2 : winB l (q : Int) (m : Int) = true := winB_iff.2 hc4
            rw [w1, w2]
          · have hb := kidsTo_bd hc'
            refine hbit c' fun hw' => ?_
            exact h.apart hb.2.2.1 (place_iff.2 (by omega)) hc1 (by omega) (h.between (m - q) (m : Int) (q : Int) (by omega) (by omega) hw')
      · have hb := hbit (i : Int) hw
        rw [hb, List.append_nil, ih]
        refine (hstep _ fun c hc => hbit c fun hw' => hw ?_).symm
        have hb2 := kidsTo_bd hc
        exact within_trans hw' (.up (place_iff.2 (by omega)) (by rw [hb2.2.2.1]; exact .here hpi))
/-- The text of a node is that of its kids. -/
theorem TreeAt.kids {i : Nat} (h : TreeAt l) (hi : i < l.length) (hn : (atN l (i : Int)).name ≠ []) : textB l (i : Int) = (kidsB l (i : Int)).flatMap (textB l) := by
  have hk : kidsB l (i : Int) = kidsTo l (i : Int) l.length := by unfold kidsB; rw [if_pos (place_nat hi)]
  have ht : textB l (i : Int) = textTo l (i : Int) l.length := by unfold textB; rw [if_pos (place_nat hi)]
  rw [ht, hk, h.kids_text hi hn l.length (Nat.le_refl _)]
  refine flatMap_same fun c hc => ?_
  have hb := kidsTo_bd hc
  unfold textB
  rw [if_pos (place_iff.2 (by omega))]
end
end Go.Proofs.YtahohmdbiiknoaaGreatDoor

/- Tokens whose attributes are few and short; the bytes of their texts. -/
namespace Go.Proofs.YtahohmdbiiknoaaGreatDoor

theorem sumK_app (a b : List Tk) : sumK (a ++ b) = sumK a + sumK b := by unfold sumK; simp
theorem addT_sum {text : List UInt8} {toks : List Tk} {x : Tk} (hx : x.text = []) : sumK (addT text toks x) ≤ text.length + sumK toks ∧ (addT text toks x).length ≤ toks.length + 2 := by
  unfold addT
  split
  · refine ⟨?_, by simp⟩
    rw [sumK_app, sumK_app]
    simp [sumK, hx]; omega
  · refine ⟨?_, by simp⟩
    rw [sumK_app]
    simp [sumK, hx]
theorem runF_more {ends acc x d : List UInt8} {n : Nat} (h : runF ends acc d = .go x n) : 1 ≤ n ∧ n ≤ d.length ∧ x.length ≤ acc.length + 4 * n := by
  cases d with
  | nil => rw [runF] at h; cases h
  | cons c t =>
    rw [runF] at h
    split at h
    · cases h
    split at h
    · injection h with ha hb
      subst ha hb
      simp
    · split at h
      · cases h
      · rename_i y m e
        have := refP_bd e
        injection h with ha hb
        subst ha hb
        refine ⟨by omega, by omega, ?_⟩
        rw [List.length_append]
        omega
theorem run_long (ends : List UInt8) : ∀ s d, ∀ k, (loopK (runF ends) s d k).2.1.length ≤ s.length + 4 * d.length := by
  have hs : Steps (runF ends) := fun _ _ _ _ h => ⟨(runF_more h).1, (runF_more h).2.1⟩
  refine loopK_ind hs (P := fun s d => ∀ k, (loopK (runF ends) s d k).2.1.length ≤ s.length + 4 * d.length) ?_ ?_ ?_
  · intro s d x e k; rw [loopK_bad _ e]; show s.length ≤ _; omega
  · intro s d e k; rw [loopK_stop _ e]; show s.length ≤ _; omega
  · intro s d s' n e ih k
    have hm := runF_more e
    have := ih (k + n)
    rw [loopK_go hs _ e]
    rw [List.length_drop] at this
    omega
theorem runP_long {ends d x : List UInt8} {n : Nat} (h : runP ends d = some (x, n)) : x.length ≤ 4 * d.length := by
  have := run_long ends [] d 0
  unfold runP at h
  cases e : loopK (runF ends) [] d 0 with
  | mk o y =>
    obtain ⟨z, m⟩ := y
    rw [e] at h this
    cases o with
    | some _ => cases h
    | none =>
      injection h with h
      injection h with h1 h2
      subst h1
      simpa using this
theorem valueP_long {d x : List UInt8} {n : Nat} (h : valueP d = some (x, n)) : x.length ≤ 4 * d.length := by
  unfold valueP at h
  generalize (if Lib.hasPrefix d [39] = true then (39 : UInt8) else 34) = q at h
  split at h
  · cases h
  split at h
  · cases h
  · rename_i y m e
    have := runP_long e
    rw [List.length_drop] at this
    split at h
    · injection h with h
      injection h with h1 h2
      subst h1
      omega
    · cases h
theorem attrP_long {d : List UInt8} {x : At} {n : Nat} (h : attrP d = some (x, n)) : x.2.length ≤ 4 * d.length := by
  unfold attrP at h
  split at h
  · cases h
  · split at h
    · cases h
    split at h
    · cases h
    · rename_i v m e
      have := valueP_long e
      rw [List.length_drop] at this
      injection h with h
      injection h with h1 h2
      subst h1
      show v.length ≤ _
      omega
/-- Few attributes, and short ones. -/
def AtFew (N : Nat) (l : List At) : Prop := l.length ≤ 16 ∧ ∀ a ∈ l, a.2.length ≤ 4 * N
theorem AtFew.nil (N : Nat) : AtFew N [] := ⟨by simp, by simp⟩
def TkFew (N : Nat) (l : List Tk) : Prop := ∀ t ∈ l, AtFew N t.attrs
theorem addT_few {N : Nat} {text : List UInt8} {toks : List Tk} {x : Tk} (h : TkFew N toks) (hx : AtFew N x.attrs) : TkFew N (addT text toks x) := by
  intro t ht
  unfold addT at ht
  rcases List.mem_append.1 ht with ht | ht
  · split at ht
    · rcases List.mem_append.1 ht with ht | ht
      · exact h t ht
      · rw [List.mem_singleton] at ht
        subst ht
        exact AtFew.nil N
    · exact h t ht
  · rw [List.mem_singleton] at ht
    subst ht
    exact hx
end Go.Proofs.YtahohmdbiiknoaaGreatDoor
