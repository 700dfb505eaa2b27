/- Layer 20, plain: files by names, operations on them, what may be, what a crash leaves; what was made safe outlives crashes. -/
import Derived.Test.YtahndjgamoojkaaBR05
namespace Go.Proofs.Ytahndjgamoojkaa

/-- May it be a file's name: 1 to 16 letters from a to z? -/
def name20 (s : List UInt8) : Bool := s.all (fun c => decide (97 ≤ c.toNat) && decide (c.toNat ≤ 122)) && decide (1 ≤ s.length) && decide (s.length ≤ 16)
section
variable {α : Type}
/-- What is kept by a name. -/
def get20 : List (List UInt8 × α) → List UInt8 → Option α
  | [], _ => none
  | f :: r, n => if f.1 = n then some f.2 else get20 r n
def rep20 : List (List UInt8 × α) → List UInt8 → α → List (List UInt8 × α)
  | [], _, _ => []
  | f :: r, n, d => if f.1 = n then (n, d) :: r else f :: rep20 r n d
def ins20 : List (List UInt8 × α) → List UInt8 → α → List (List UInt8 × α)
  | [], n, d => [(n, d)]
  | f :: r, n, d => if f.1 < n then f :: ins20 r n d else (n, d) :: f :: r
def put20 (l : List (List UInt8 × α)) (n : List UInt8) (d : α) : List (List UInt8 × α) := if (get20 l n).isSome = true then rep20 l n d else ins20 l n d
def drop20 (l : List (List UInt8 × α)) (n : List UInt8) : List (List UInt8 × α) := l.filter fun f => decide (f.1 ≠ n)
theorem get_mem : ∀ {l : List (List UInt8 × α)} {n : List UInt8} {d : α}, get20 l n = some d → (n, d) ∈ l
  | f :: r, n, d, h => by
    rw [get20] at h
    by_cases e : f.1 = n
    · rw [if_pos e] at h
      injection h with h
      subst h e
      exact List.mem_cons_self
    · rw [if_neg e] at h
      exact List.mem_cons_of_mem _ (get_mem h)
theorem get_none : ∀ {l : List (List UInt8 × α)} {n : List UInt8}, get20 l n = none ↔ ∀ f ∈ l, f.1 ≠ n
  | [], _ => by simp [get20]
  | f :: r, n => by
    rw [get20]
    by_cases e : f.1 = n
    · rw [if_pos e]
      simp [e]
    · rw [if_neg e, get_none]
      simp [e]
theorem rep_get : ∀ (l : List (List UInt8 × α)) (n m : List UInt8) (d : α), m ≠ n → get20 (rep20 l n d) m = get20 l m
  | [], _, _, _, _ => rfl
  | f :: r, n, m, d, h => by
    rw [rep20]
    by_cases e : f.1 = n
    · rw [if_pos e, get20, get20, if_neg (fun e2 => h e2.symm), if_neg (fun e2 => h (e2.symm.trans e))]
    · rw [if_neg e, get20, get20, rep_get r n m d h]
theorem ins_get : ∀ (l : List (List UInt8 × α)) (n m : List UInt8) (d : α), m ≠ n → get20 (ins20 l n d) m = get20 l m
  | [], n, m, _, h => by simp [ins20, get20, Ne.symm h]
  | f :: r, n, m, d, h => by
    rw [ins20]
    by_cases e : f.1 < n
    · rw [if_pos e, get20, get20, ins_get r n m d h]
    · rw [if_neg e, get20, if_neg (fun e2 => h e2.symm)]
theorem put_get (l : List (List UInt8 × α)) (n m : List UInt8) (d : α) (h : m ≠ n) : get20 (put20 l n d) m = get20 l m := by
  unfold put20
  split
  · exact rep_get l n m d h
  · exact ins_get l n m d h
theorem dropf_get : ∀ (l : List (List UInt8 × α)) (n m : List UInt8), m ≠ n → get20 (drop20 l n) m = get20 l m
  | [], _, _, _ => rfl
  | f :: r, n, m, h => by
    have ih := dropf_get r n m h
    unfold drop20 at ih ⊢
    by_cases e : f.1 = n
    · rw [List.filter_cons_of_neg (by simp [e]), ih, get20, if_neg (fun e2 => h (e2.symm.trans e))]
    · rw [List.filter_cons_of_pos (by simp [e]), get20, get20, ih]
theorem rep_here : ∀ (l : List (List UInt8 × α)) (n : List UInt8) (d : α), (get20 l n).isSome = true → get20 (rep20 l n d) n = some d
  | [], _, _, h => by cases h
  | f :: r, n, d, h => by
    rw [rep20]
    by_cases e : f.1 = n
    · rw [if_pos e, get20, if_pos rfl]
    · rw [if_neg e, get20, if_neg e]
      rw [get20, if_neg e] at h
      exact rep_here r n d h
theorem ins_new : ∀ (l : List (List UInt8 × α)) (n : List UInt8) (d : α), get20 l n = none → get20 (ins20 l n d) n = some d
  | [], n, d, _ => by rw [ins20, get20, if_pos rfl]
  | f :: r, n, d, h => by
    rw [get20] at h
    by_cases e : f.1 = n
    · rw [if_pos e] at h; cases h
    · rw [if_neg e] at h
      rw [ins20]
      by_cases e2 : f.1 < n
      · rw [if_pos e2, get20, if_neg e, ins_new r n d h]
      · rw [if_neg e2, get20, if_pos rfl]
theorem put_here (l : List (List UInt8 × α)) (n : List UInt8) (d : α) : get20 (put20 l n d) n = some d := by
  unfold put20
  cases h : get20 l n with
  | none => rw [if_neg (by simp)]; exact ins_new l n d h
  | some x => rw [if_pos (by simp)]; exact rep_here l n d (by rw [h]; rfl)
/-- The names alone. -/
abbrev names20 (l : List (List UInt8 × α)) : List (List UInt8) := l.map Prod.fst
theorem rep_names : ∀ (l : List (List UInt8 × α)) (n : List UInt8) (d : α), names20 (rep20 l n d) = names20 l
  | [], _, _ => rfl
  | f :: r, n, d => by
    rw [rep20]
    by_cases e : f.1 = n
    · rw [if_pos e]; simp [names20, e]
    · rw [if_neg e]
      have := rep_names r n d
      simp only [names20, List.map_cons] at this ⊢
      rw [this]
theorem ins_mem : ∀ (l : List (List UInt8 × α)) (n : List UInt8) (d : α) (f : List UInt8 × α), f ∈ ins20 l n d ↔ f = (n, d) ∨ f ∈ l
  | [], n, d, f => by simp [ins20]
  | x :: r, n, d, f => by
    rw [ins20]
    split
    · rw [List.mem_cons, ins_mem r n d f, List.mem_cons]
      constructor
      · rintro (h | h | h)
        · exact Or.inr (Or.inl h)
        · exact Or.inl h
        · exact Or.inr (Or.inr h)
      · rintro (h | h | h)
        · exact Or.inr (Or.inl h)
        · exact Or.inl h
        · exact Or.inr (Or.inr h)
    · rw [List.mem_cons]
theorem ins_len : ∀ (l : List (List UInt8 × α)) (n : List UInt8) (d : α), (ins20 l n d).length = l.length + 1
  | [], _, _ => rfl
  | x :: r, n, d => by
    rw [ins20]
    split
    · rw [List.length_cons, ins_len r n d, List.length_cons]
    · rfl
theorem rep_len (l : List (List UInt8 × α)) (n : List UInt8) (d : α) : (rep20 l n d).length = l.length := by
  have := congrArg List.length (rep_names l n d)
  simpa [names20] using this
theorem rep_mem : ∀ (l : List (List UInt8 × α)) (n : List UInt8) (d : α) (f : List UInt8 × α), f ∈ rep20 l n d → f ∈ l ∨ f = (n, d)
  | [], _, _, _, h => by cases h
  | x :: r, n, d, f, h => by
    rw [rep20] at h
    split at h
    · rcases List.mem_cons.1 h with h | h
      · exact Or.inr h
      · exact Or.inl (List.mem_cons_of_mem _ h)
    · rcases List.mem_cons.1 h with h | h
      · exact Or.inl (by rw [h]; exact List.mem_cons_self)
      · rcases rep_mem r n d f h with h | h
        · exact Or.inl (List.mem_cons_of_mem _ h)
        · exact Or.inr h
/-- By names, rising. -/
def Rise20 (l : List (List UInt8 × α)) : Prop := l.Pairwise fun f g => f.1 < g.1
theorem rise_names {l : List (List UInt8 × α)} : Rise20 l ↔ (names20 l).Pairwise (· < ·) := by unfold Rise20 names20; rw [List.pairwise_map]
theorem lt_or_gt {a b : List UInt8} (h : ¬ a < b) (hne : a ≠ b) : b < a := by
  have h1 : b ≤ a := List.not_lt.1 h
  rcases Classical.em (b < a) with h2 | h2
  · exact h2
  · exact absurd (List.le_antisymm (List.not_lt.1 h2) h1) hne
theorem ins_rise : ∀ {l : List (List UInt8 × α)} {n : List UInt8} (d : α), Rise20 l → (∀ f ∈ l, f.1 ≠ n) → Rise20 (ins20 l n d)
  | [], n, d, _, _ => by unfold Rise20 ins20; simp
  | f :: r, n, d, h, hn => by
    have hf := hn f List.mem_cons_self
    obtain ⟨h1, h2⟩ := List.pairwise_cons.1 h
    rw [ins20]
    by_cases e : f.1 < n
    · rw [if_pos e]
      refine List.pairwise_cons.2 ⟨fun g hg => ?_, ins_rise d h2 fun g hg => hn g (List.mem_cons_of_mem _ hg)⟩
      rcases (ins_mem r n d g).1 hg with rfl | hg
      · exact e
      · exact h1 g hg
    · rw [if_neg e]
      have hlt := lt_or_gt e hf
      refine List.pairwise_cons.2 ⟨fun g hg => ?_, h⟩
      rcases List.mem_cons.1 hg with rfl | hg
      · exact hlt
      · exact List.lt_trans hlt (h1 g hg)
theorem put_rise {l : List (List UInt8 × α)} {n : List UInt8} (d : α) (h : Rise20 l) : Rise20 (put20 l n d) := by
  unfold put20
  cases e : get20 l n with
  | none => rw [if_neg (by simp)]; exact ins_rise d h (get_none.1 e)
  | some x => rw [if_pos (by simp)]; rw [rise_names, rep_names, ← rise_names]; exact h
theorem drop_rise {l : List (List UInt8 × α)} (n : List UInt8) (h : Rise20 l) : Rise20 (drop20 l n) := List.Pairwise.filter _ h
theorem drop_len {l : List (List UInt8 × α)} {n : List UInt8} (h : (get20 l n).isSome = true) : (drop20 l n).length + 1 ≤ l.length := by
  obtain ⟨d, hd⟩ := Option.isSome_iff_exists.1 h
  have hm := get_mem hd
  have : (drop20 l n).length < l.length := by
    unfold drop20
    rw [List.length_filter_lt_length_iff_exists]
    exact ⟨_, hm, by simp⟩
  omega
/-- Told through a function of what is kept. -/
def map20 {β : Type} (g : α → β) (l : List (List UInt8 × α)) : List (List UInt8 × β) := l.map fun f => (f.1, g f.2)
theorem map_get {β : Type} (g : α → β) : ∀ (l : List (List UInt8 × α)) (n : List UInt8), get20 (map20 g l) n = (get20 l n).map g
  | [], _ => rfl
  | f :: r, n => by
    have ih := map_get g r n
    unfold map20 at ih ⊢
    rw [List.map_cons, get20, get20]
    simp only
    split
    · rfl
    · exact ih
theorem map_put {β : Type} (g : α → β) (l : List (List UInt8 × α)) (n : List UInt8) (d : α) : map20 g (put20 l n d) = put20 (map20 g l) n (g d) := by
  have h1 : ∀ l : List (List UInt8 × α), map20 g (rep20 l n d) = rep20 (map20 g l) n (g d) := by
    intro l
    induction l with
    | nil => rfl
    | cons f r ih =>
      unfold map20 at ih ⊢
      rw [rep20, List.map_cons, rep20]
      simp only
      split
      · rfl
      · rw [List.map_cons, ih]
  have h2 : ∀ l : List (List UInt8 × α), map20 g (ins20 l n d) = ins20 (map20 g l) n (g d) := by
    intro l
    induction l with
    | nil => rfl
    | cons f r ih =>
      unfold map20 at ih ⊢
      rw [ins20, List.map_cons, ins20]
      simp only
      split
      · rw [List.map_cons, ih]
      · rfl
  unfold put20
  rw [map_get, Option.isSome_map]
  split
  · exact h1 l
  · exact h2 l
theorem map_drop {β : Type} (g : α → β) (l : List (List UInt8 × α)) (n : List UInt8) : map20 g (drop20 l n) = drop20 (map20 g l) n := by
  unfold map20 drop20
  rw [List.filter_map]
  rfl
end
/-- A file. -/
abbrev Fl20 := List UInt8 × List UInt8
structure Op20 where
  kind : Int
  name : List UInt8
  to : List UInt8
  data : List UInt8
  size : Int
/-- A file's bytes; none, if it isn't there. -/
def data20 (l : List Fl20) (n : List UInt8) : List UInt8 := (get20 l n).getD []
/-- Files behind an operation that may be. -/
def done20 (l : List Fl20) (o : Op20) : List Fl20 :=
  if o.kind = 1 then put20 l o.name (data20 l o.name ++ o.data)
  else if o.kind = 2 then put20 l o.name ((data20 l o.name).take (max 0 o.size).toNat)
  else if o.kind = 3 then put20 (drop20 l o.name) o.to (data20 l o.name)
  else drop20 l o.name
/-- May an operation be, on files? the error. -/
def may20 (l : List Fl20) (o : Op20) : Int :=
  if o.kind < 1 ∨ 4 < o.kind ∨ name20 o.name = false ∨ o.kind = 3 ∧ name20 o.to = false then 1
  else if o.kind ≠ 1 ∧ (get20 l o.name).isSome = false then 9
  else if o.kind = 2 ∧ (o.size < 0 ∨ ((data20 l o.name).length : Int) < o.size) then 1
  else if o.kind = 1 ∧ (get20 l o.name).isSome = false ∧ 8 ≤ l.length then 11
  else if o.kind = 1 ∧ (1048576 < o.data.length ∨ (get20 l o.name).isSome = true ∧ 1048576 < (data20 l o.name).length + o.data.length) then 8
  else 0
/-- Files that may be. -/
structure Val20 (l : List Fl20) : Prop where
  few : l.length ≤ 8
  name : ∀ f ∈ l, name20 f.1 = true
  room : ∀ f ∈ l, f.2.length ≤ 1048576
  rise : Rise20 l
theorem Val20.put {l : List Fl20} {n d : List UInt8} (h : Val20 l) (hn : name20 n = true) (hd : d.length ≤ 1048576) (hf : (get20 l n).isSome = true ∨ l.length < 8) : Val20 (put20 l n d) := by
  have hm : ∀ f ∈ put20 l n d, f ∈ l ∨ f = (n, d) := by
    intro f hf'
    unfold put20 at hf'
    split at hf'
    · exact rep_mem l n d f hf'
    · rcases (ins_mem l n d f).1 hf' with e | e
      · exact Or.inr e
      · exact Or.inl e
  refine ⟨?_, fun f hf' => ?_, fun f hf' => ?_, put_rise d h.rise⟩
  · have := h.few
    unfold put20
    split
    · rw [rep_len]; exact this
    · rename_i hc
      rw [ins_len]
      rcases hf with e | e
      · exact absurd e hc
      · omega
  · rcases hm f hf' with e | rfl
    · exact h.name f e
    · exact hn
  · rcases hm f hf' with e | rfl
    · exact h.room f e
    · exact hd
theorem Val20.drop {l : List Fl20} (h : Val20 l) (n : List UInt8) : Val20 (drop20 l n) := by
  have hs : ∀ f ∈ drop20 l n, f ∈ l := fun f hf => (List.mem_filter.1 hf).1
  refine ⟨?_, fun f hf => h.name f (hs f hf), fun f hf => h.room f (hs f hf), drop_rise n h.rise⟩
  have := h.few
  have h2 : (drop20 l n).length ≤ l.length := by unfold drop20; exact List.length_filter_le _ _
  omega
theorem Val20.data {l : List Fl20} (h : Val20 l) (n : List UInt8) : (data20 l n).length ≤ 1048576 := by
  unfold data20
  cases e : get20 l n with
  | none => simp
  | some d => exact h.room _ (get_mem e)
/-- What may be keeps files that may be. -/
theorem Val20.done {l : List Fl20} {o : Op20} (h : Val20 l) (hm : may20 l o = 0) : Val20 (done20 l o) := by
  unfold may20 at hm
  by_cases c1 : o.kind < 1 ∨ 4 < o.kind ∨ name20 o.name = false ∨ o.kind = 3 ∧ name20 o.to = false
  · rw [if_pos c1] at hm; cases hm
  rw [if_neg c1] at hm
  by_cases c2 : o.kind ≠ 1 ∧ (get20 l o.name).isSome = false
  · rw [if_pos c2] at hm; cases hm
  rw [if_neg c2] at hm
  by_cases c3 : o.kind = 2 ∧ (o.size < 0 ∨ ((data20 l o.name).length : Int) < o.size)
  · rw [if_pos c3] at hm; cases hm
  rw [if_neg c3] at hm
  by_cases c4 : o.kind = 1 ∧ (get20 l o.name).isSome = false ∧ 8 ≤ l.length
  · rw [if_pos c4] at hm; cases hm
  rw [if_neg c4] at hm
  by_cases c5 : o.kind = 1 ∧ (1048576 < o.data.length ∨ (get20 l o.name).isSome = true ∧ 1048576 < (data20 l o.name).length + o.data.length)
  · rw [if_pos c5] at hm; cases hm
  clear hm
  have hname : name20 o.name = true := by
    cases e : name20 o.name with
    | true => rfl
    | false => exact absurd (Or.inr (Or.inr (Or.inl e))) c1
  have hdl := h.data o.name
  unfold done20
  by_cases k1 : o.kind = 1
  · rw [if_pos k1]
    have hb : ¬ (1048576 < o.data.length) := fun e => c5 ⟨k1, Or.inl e⟩
    cases e : (get20 l o.name).isSome with
    | true =>
      refine h.put hname ?_ (Or.inl e)
      have : ¬ 1048576 < (data20 l o.name).length + o.data.length := fun e2 => c5 ⟨k1, Or.inr ⟨e, e2⟩⟩
      rw [List.length_append]
      omega
    | false =>
      refine h.put hname ?_ (Or.inr ?_)
      · have h0 : data20 l o.name = [] := by
          unfold data20
          cases e2 : get20 l o.name with
          | none => rfl
          | some d => rw [e2] at e; cases e
        rw [h0, List.nil_append]
        omega
      · have : ¬ 8 ≤ l.length := fun e2 => c4 ⟨k1, e, e2⟩
        omega
  · have hhas : (get20 l o.name).isSome = true := by
      cases e : (get20 l o.name).isSome with
      | true => rfl
      | false => exact absurd ⟨k1, e⟩ c2
    rw [if_neg k1]
    by_cases k2 : o.kind = 2
    · rw [if_pos k2]
      refine h.put hname ?_ (Or.inl hhas)
      rw [List.length_take]
      omega
    · rw [if_neg k2]
      by_cases k3 : o.kind = 3
      · rw [if_pos k3]
        refine (h.drop o.name).put ?_ hdl (Or.inr ?_)
        · cases e : name20 o.to with
          | true => rfl
          | false => exact absurd (Or.inr (Or.inr (Or.inr ⟨k3, e⟩))) c1
        · have := drop_len hhas
          have := h.few
          omega
      · rw [if_neg k3]
        exact h.drop o.name
/-- A file that an operation doesn't name is as it was. -/
theorem done_get (l : List Fl20) (o : Op20) (n : List UInt8) (h1 : n ≠ o.name) (h2 : n ≠ o.to) : get20 (done20 l o) n = get20 l n := by
  unfold done20
  split
  · exact put_get _ _ _ _ h1
  · split
    · exact put_get _ _ _ _ h1
    · split
      · rw [put_get _ _ _ _ h2, dropf_get _ _ _ h1]
      · exact dropf_get _ _ _ h1
/-- Files behind operations. -/
def all20 (l : List Fl20) (os : List Op20) : List Fl20 := os.foldl done20 l
def mays20 : List Fl20 → List Op20 → Bool
  | _, [] => true
  | l, o :: r => decide (may20 l o = 0) && mays20 (done20 l o) r
theorem all_get : ∀ (os : List Op20) (l : List Fl20) (n : List UInt8), (∀ o ∈ os, n ≠ o.name ∧ n ≠ o.to) → get20 (all20 l os) n = get20 l n
  | [], _, _, _ => rfl
  | o :: r, l, n, h => by
    have h0 := h o List.mem_cons_self
    show get20 (all20 (done20 l o) r) n = _
    rw [all_get r _ n fun x hx => h x (List.mem_cons_of_mem _ hx), done_get l o n h0.1 h0.2]
theorem Val20.all : ∀ {os : List Op20} {l : List Fl20}, Val20 l → mays20 l os = true → Val20 (all20 l os)
  | [], _, h, _ => h
  | o :: r, l, h, hm => by
    rw [mays20, Bool.and_eq_true, decide_eq_true_eq] at hm
    show Val20 (all20 (done20 l o) r)
    exact Val20.all (h.done hm.1) hm.2
theorem mays_app : ∀ (a b : List Op20) (l : List Fl20), mays20 l (a ++ b) = (mays20 l a && mays20 (all20 l a) b)
  | [], b, l => by simp [mays20, all20]
  | o :: a, b, l => by
    rw [List.cons_append, mays20, mays_app a b, mays20, Bool.and_assoc]
    rfl
/-- An operation's form: all but what its bytes are. -/
def form20 (o : Op20) : Int × List UInt8 × List UInt8 × Nat × Int := (o.kind, o.name, o.to, o.data.length, o.size)
abbrev lens20 (l : List Fl20) : List (List UInt8 × Nat) := map20 List.length l
theorem lens_data (l : List Fl20) (n : List UInt8) : (data20 l n).length = ((get20 (lens20 l) n).getD 0) := by
  unfold data20
  rw [map_get]
  cases get20 l n <;> rfl
theorem lens_some (l : List Fl20) (n : List UInt8) : (get20 l n).isSome = (get20 (lens20 l) n).isSome := by rw [map_get, Option.isSome_map]
theorem lens_len (l : List Fl20) : l.length = (lens20 l).length := by unfold lens20 map20; simp
theorem mayop_form {l l' : List Fl20} {o o' : Op20} (hl : lens20 l = lens20 l') (ho : form20 o = form20 o') : may20 l o = may20 l' o' := by
  unfold form20 at ho
  simp only [Prod.mk.injEq] at ho
  obtain ⟨h1, h2, h3, h4, h5⟩ := ho
  unfold may20
  rw [lens_some, lens_some, lens_data, lens_data, lens_len l, lens_len l', hl, h1, h2, h3, h4, h5]
theorem done_form {l l' : List Fl20} {o o' : Op20} (hl : lens20 l = lens20 l') (ho : form20 o = form20 o') : lens20 (done20 l o) = lens20 (done20 l' o') := by
  unfold form20 at ho
  simp only [Prod.mk.injEq] at ho
  obtain ⟨h1, h2, h3, h4, h5⟩ := ho
  have hd : ∀ n, (data20 l n).length = (data20 l' n).length := fun n => by rw [lens_data, lens_data, hl]
  unfold done20 lens20 at *
  rw [h1]
  split
  · rw [map_put, map_put, hl, h2, List.length_append, List.length_append, hd, h4]
  · split
    · rw [map_put, map_put, hl, h2, List.length_take, List.length_take, hd, h5]
    · split
      · rw [map_put, map_put, map_drop, map_drop, hl, h2, h3, hd]
      · rw [map_drop, map_drop, hl, h2]
theorem mays_form : ∀ {os os' : List Op20} {l l' : List Fl20}, lens20 l = lens20 l' → os.map form20 = os'.map form20 → mays20 l os = mays20 l' os'
  | [], [], _, _, _, _ => rfl
  | [], _ :: _, _, _, _, h => by cases h
  | _ :: _, [], _, _, _, h => by cases h
  | o :: r, o' :: r', l, l', hl, h => by
    rw [List.map_cons, List.map_cons] at h
    injection h with h1 h2
    rw [mays20, mays20, mayop_form hl h1, mays_form (done_form hl h1) h2]
/-- An append of fewer bytes may be, too. -/
theorem may_torn {l : List Fl20} {o : Op20} (hm : may20 l o = 0) (hk : o.kind = 1) (k : Nat) : may20 l { o with data := o.data.take k } = 0 := by
  have hle : (o.data.take k).length ≤ o.data.length := by rw [List.length_take]; omega
  unfold may20 at hm ⊢
  simp only at hm ⊢
  by_cases c1 : o.kind < 1 ∨ 4 < o.kind ∨ name20 o.name = false ∨ o.kind = 3 ∧ name20 o.to = false
  · rw [if_pos c1] at hm; cases hm
  rw [if_neg c1] at hm ⊢
  by_cases c2 : o.kind ≠ 1 ∧ (get20 l o.name).isSome = false
  · rw [if_pos c2] at hm; cases hm
  rw [if_neg c2] at hm ⊢
  by_cases c3 : o.kind = 2 ∧ (o.size < 0 ∨ ((data20 l o.name).length : Int) < o.size)
  · rw [if_pos c3] at hm; cases hm
  rw [if_neg c3] at hm ⊢
  by_cases c4 : o.kind = 1 ∧ (get20 l o.name).isSome = false ∧ 8 ≤ l.length
  · rw [if_pos c4] at hm; cases hm
  rw [if_neg c4] at hm ⊢
  by_cases c5 : o.kind = 1 ∧ (1048576 < o.data.length ∨ (get20 l o.name).isSome = true ∧ 1048576 < (data20 l o.name).length + o.data.length)
  · rw [if_pos c5] at hm; cases hm
  rw [if_neg]
  rintro ⟨_, h | ⟨h1, h2⟩⟩
  · exact c5 ⟨hk, Or.inl (by omega)⟩
  · exact c5 ⟨hk, Or.inr ⟨h1, by omega⟩⟩
end Go.Proofs.Ytahndjgamoojkaa
