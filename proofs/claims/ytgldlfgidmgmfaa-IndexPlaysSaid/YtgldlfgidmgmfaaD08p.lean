/- Layer 8's plain words: lists that rise, and what a table holds. -/
import Derived.Test.YtgldlfgidmgmfaaTb
namespace Go.Proofs.Ytgldlfgidmgmfaa
open Go.RowKit

theorem countP_split : ∀ {zs : List Int} (x : Int), zs.Pairwise (· < ·) → (∀ y ∈ zs.take (zs.countP (· < x)), y < x) ∧ ∀ y ∈ zs.drop (zs.countP (· < x)), x ≤ y
  | [], x, _ => by simp
  | z :: zs, x, h => by
    obtain ⟨h1, h2⟩ := List.pairwise_cons.1 h
    obtain ⟨i1, i2⟩ := countP_split x h2
    by_cases hz : z < x
    · rw [List.countP_cons_of_pos (by simpa using hz), List.take_succ_cons, List.drop_succ_cons]
      refine ⟨fun y hy => ?_, i2⟩
      rcases List.mem_cons.1 hy with rfl | hy
      · exact hz
      · exact i1 y hy
    · have h0 : zs.countP (· < x) = 0 := List.countP_eq_zero.2 fun y hy => by have := h1 y hy; simp; omega
      rw [List.countP_cons_of_neg (by simpa using hz), h0]
      refine ⟨by simp, fun y hy => ?_⟩
      rcases List.mem_cons.1 (by simpa using hy) with rfl | hy
      · omega
      · have := h1 y hy; omega
theorem countP_le_len {zs : List Int} (x : Int) : zs.countP (· < x) ≤ zs.length := List.countP_le_length
theorem mem_take_drop {α : Type} (l : List α) (p : Nat) (y : α) : y ∈ l ↔ y ∈ l.take p ∨ y ∈ l.drop p := by
  conv => lhs; rw [← List.take_append_drop p l]
  exact List.mem_append
theorem rise_ins {zs : List Int} {x : Int} (h : zs.Pairwise (· < ·)) (hx : x ∉ zs) {p : Nat} (hp : p = zs.countP (· < x)) :
    (zs.take p ++ [x] ++ zs.drop p).Pairwise (· < ·) ∧ ∀ y, y ∈ zs.take p ++ [x] ++ zs.drop p ↔ y ∈ zs ∨ y = x := by
  obtain ⟨h1, h2⟩ := countP_split x h
  rw [← hp] at h1 h2
  constructor
  · rw [List.append_assoc, List.pairwise_append]
    refine ⟨h.sublist (List.take_sublist _ _), List.pairwise_cons.2 ⟨fun y hy => ?_, h.sublist (List.drop_sublist _ _)⟩, fun a ha b hb => ?_⟩
    · have := h2 y hy
      have : y ≠ x := fun e => hx (e ▸ List.mem_of_mem_drop hy)
      omega
    · have := h1 a ha
      rcases List.mem_cons.1 hb with rfl | hb
      · exact this
      · have := h2 b hb; omega
  · intro y
    rw [mem_take_drop zs p y]
    simp only [List.mem_append, List.mem_singleton]
    constructor
    · rintro ((h | h) | h)
      · exact Or.inl (Or.inl h)
      · exact Or.inr h
      · exact Or.inl (Or.inr h)
    · rintro ((h | h) | h)
      · exact Or.inl (Or.inl h)
      · exact Or.inr h
      · exact Or.inl (Or.inr h)
theorem rise_del {zs : List Int} {x : Int} (h : zs.Pairwise (· < ·)) (hx : x ∈ zs) {p : Nat} (hp : p = zs.countP (· < x)) :
    p < zs.length ∧ (zs.take p ++ zs.drop (p + 1)).Pairwise (· < ·) ∧ ∀ y, y ∈ zs.take p ++ zs.drop (p + 1) ↔ y ∈ zs ∧ y ≠ x := by
  obtain ⟨h1, h2⟩ := countP_split x h
  rw [← hp] at h1 h2
  have hxd : x ∈ zs.drop p := by
    rcases (mem_take_drop zs p x).1 hx with h' | h'
    · have := h1 x h'; omega
    · exact h'
  have hlt : p < zs.length := by
    rcases Nat.lt_or_ge p zs.length with h' | h'
    · exact h'
    · rw [List.drop_of_length_le h'] at hxd; simp at hxd
  have hd : zs.drop p = zs[p] :: zs.drop (p + 1) := List.drop_eq_getElem_cons hlt
  have hpd : (zs.drop p).Pairwise (· < ·) := h.sublist (List.drop_sublist _ _)
  rw [hd] at hpd hxd h2
  obtain ⟨g1, g2⟩ := List.pairwise_cons.1 hpd
  have hpx : zs[p] = x := by
    rcases List.mem_cons.1 hxd with h' | h'
    · exact h'.symm
    · have := g1 x h'; have := h2 zs[p] List.mem_cons_self; omega
  refine ⟨hlt, ?_, fun y => ?_⟩
  · rw [List.pairwise_append]
    refine ⟨h.sublist (List.take_sublist _ _), g2, fun a ha b hb => ?_⟩
    have := h1 a ha; have := g1 b hb; omega
  · rw [mem_take_drop zs p y, hd, List.mem_append, List.mem_cons, hpx]
    rw [hpx] at g1
    constructor
    · rintro (h' | h')
      · exact ⟨Or.inl h', by have := h1 y h'; omega⟩
      · exact ⟨Or.inr (Or.inr h'), by have := g1 y h'; omega⟩
    · rintro ⟨h' | h' | h', hne⟩
      · exact Or.inl h'
      · exact absurd h' hne
      · exact Or.inr h'

/-- What a table holds: to each band its names. -/
structure TabHas (tb : List Bk) (R : Int → Int → Prop) (m : Nat) : Prop where
  rises : (tb.map Bk.band).Pairwise (· < ·)
  names : ∀ k ∈ tb, k.names ≠ [] ∧ k.names.Pairwise (· < ·) ∧ k.names.length ≤ m
  len : tb.length ≤ m
  mem : ∀ b x, R b x ↔ ∃ k ∈ tb, k.band = b ∧ x ∈ k.names
theorem TabHas.empty (R : Int → Int → Prop) (h : ∀ b x, ¬ R b x) (m : Nat) : TabHas [] R m := ⟨by simp, by simp, Nat.zero_le _, fun b x => ⟨fun hr => absurd hr (h b x), fun ⟨_, hk, _⟩ => by simp at hk⟩⟩
theorem TabHas.mono {tb : List Bk} {R : Int → Int → Prop} {m m' : Nat} (h : TabHas tb R m) (hm : m ≤ m') : TabHas tb R m' := ⟨h.rises, fun k hk => ⟨(h.names k hk).1, (h.names k hk).2.1, Nat.le_trans (h.names k hk).2.2 hm⟩, Nat.le_trans h.len hm, h.mem⟩
theorem TabHas.congr {tb : List Bk} {R R' : Int → Int → Prop} {m : Nat} (h : TabHas tb R m) (hr : ∀ b x, R b x ↔ R' b x) : TabHas tb R' m := ⟨h.rises, h.names, h.len, fun b x => (hr b x).symm.trans (h.mem b x)⟩
theorem split_at {tb : List Bk} {i : Nat} (h : i < tb.length) : ∃ A C, tb = A ++ (tb[i]'h) :: C ∧ A.length = i := ⟨tb.take i, tb.drop (i + 1), by simp, by simp; omega⟩
theorem band_only {A C : List Bk} {k : Bk} (h : ((A ++ k :: C).map Bk.band).Pairwise (· < ·)) : ∀ j, j ∈ A ∨ j ∈ C → j.band ≠ k.band := by
  rw [List.map_append, List.map_cons, List.pairwise_append] at h
  obtain ⟨_, h2, h3⟩ := h
  obtain ⟨h4, _⟩ := List.pairwise_cons.1 h2
  rintro j (hj | hj)
  · have := h3 j.band (List.mem_map_of_mem hj) k.band (by simp); omega
  · have := h4 j.band (List.mem_map_of_mem hj); omega
/-- One name more in a bucket. -/
theorem TabHas.more {A C : List Bk} {k k' : Bk} {R : Int → Int → Prop} {m : Nat} (h : TabHas (A ++ k :: C) R m) (x : Int) (hb : k'.band = k.band) (hn : k'.names.Pairwise (· < ·)) (hl : k'.names.length ≤ m + 1) (hm : ∀ y, y ∈ k'.names ↔ y ∈ k.names ∨ y = x) :
    TabHas (A ++ k' :: C) (fun b y => R b y ∨ (b = k.band ∧ y = x)) (m + 1) := by
  have hbo := band_only h.rises
  refine ⟨?_, ?_, by have := h.len; simp at this ⊢; omega, fun b y => ?_⟩
  · have := h.rises; simpa [hb] using this
  · intro j hj
    rcases List.mem_append.1 hj with hj | hj
    · have := h.names j (by simp [hj]); exact ⟨this.1, this.2.1, by omega⟩
    · rcases List.mem_cons.1 hj with rfl | hj
      · exact ⟨fun e => by have := (hm x).2 (Or.inr rfl); rw [e] at this; simp at this, hn, hl⟩
      · have := h.names j (by simp [hj]); exact ⟨this.1, this.2.1, by omega⟩
  · rw [h.mem]
    constructor
    · rintro (⟨j, hj, hb', hy⟩ | ⟨rfl, rfl⟩)
      · rcases List.mem_append.1 hj with hj | hj
        · exact ⟨j, by simp [hj], hb', hy⟩
        · rcases List.mem_cons.1 hj with rfl | hj
          · exact ⟨k', by simp, hb.trans hb', (hm y).2 (Or.inl hy)⟩
          · exact ⟨j, by simp [hj], hb', hy⟩
      · exact ⟨k', by simp, hb, (hm y).2 (Or.inr rfl)⟩
    · rintro ⟨j, hj, hb', hy⟩
      rcases List.mem_append.1 hj with hj | hj
      · exact Or.inl ⟨j, by simp [hj], hb', hy⟩
      · rcases List.mem_cons.1 hj with rfl | hj
        · rcases (hm y).1 hy with hy | hy
          · exact Or.inl ⟨k, by simp, hb.symm.trans hb', hy⟩
          · exact Or.inr ⟨hb'.symm.trans hb, hy⟩
        · exact Or.inl ⟨j, by simp [hj], hb', hy⟩
/-- A bucket more. -/
theorem TabHas.fresh {A C : List Bk} {k' : Bk} {R : Int → Int → Prop} {m : Nat} (h : TabHas (A ++ C) R m) (x : Int) (hn : k'.names = [x]) (hA : ∀ j ∈ A, j.band < k'.band) (hC : ∀ j ∈ C, k'.band < j.band) :
    TabHas (A ++ k' :: C) (fun b y => R b y ∨ (b = k'.band ∧ y = x)) (m + 1) := by
  have hr := h.rises
  rw [List.map_append, List.pairwise_append] at hr
  refine ⟨?_, ?_, by have := h.len; simp at this ⊢; omega, fun b y => ?_⟩
  · rw [List.map_append, List.map_cons, List.pairwise_append]
    refine ⟨hr.1, List.pairwise_cons.2 ⟨fun b hb => ?_, hr.2.1⟩, fun a ha b hb => ?_⟩
    · obtain ⟨j, hj, rfl⟩ := List.mem_map.1 hb; exact hC j hj
    · rcases List.mem_cons.1 hb with rfl | hb
      · obtain ⟨j, hj, rfl⟩ := List.mem_map.1 ha; exact hA j hj
      · exact hr.2.2 a ha b hb
  · intro j hj
    rcases List.mem_append.1 hj with hj | hj
    · have := h.names j (by simp [hj]); exact ⟨this.1, this.2.1, by omega⟩
    · rcases List.mem_cons.1 hj with rfl | hj
      · rw [hn]; exact ⟨by simp, by simp, by simp⟩
      · have := h.names j (by simp [hj]); exact ⟨this.1, this.2.1, by omega⟩
  · rw [h.mem]
    constructor
    · rintro (⟨j, hj, hb', hy⟩ | ⟨rfl, rfl⟩)
      · rcases List.mem_append.1 hj with hj | hj
        · exact ⟨j, by simp [hj], hb', hy⟩
        · exact ⟨j, by simp [hj], hb', hy⟩
      · exact ⟨k', by simp, rfl, by rw [hn]; simp⟩
    · rintro ⟨j, hj, hb', hy⟩
      rcases List.mem_append.1 hj with hj | hj
      · exact Or.inl ⟨j, by simp [hj], hb', hy⟩
      · rcases List.mem_cons.1 hj with rfl | hj
        · exact Or.inr ⟨hb'.symm, by rw [hn] at hy; simpa using hy⟩
        · exact Or.inl ⟨j, by simp [hj], hb', hy⟩
/-- One name less in a bucket of more than one. -/
theorem TabHas.less {A C : List Bk} {k k' : Bk} {R : Int → Int → Prop} {m : Nat} (h : TabHas (A ++ k :: C) R m) (x : Int) (hb : k'.band = k.band) (hn : k'.names.Pairwise (· < ·)) (hl : k'.names.length ≤ m) (h0 : k'.names ≠ []) (hm : ∀ y, y ∈ k'.names ↔ y ∈ k.names ∧ y ≠ x) :
    TabHas (A ++ k' :: C) (fun b y => R b y ∧ ¬ (b = k.band ∧ y = x)) m := by
  have hbo := band_only h.rises
  refine ⟨?_, ?_, by have := h.len; simpa using this, fun b y => ?_⟩
  · have := h.rises; simpa [hb] using this
  · intro j hj
    rcases List.mem_append.1 hj with hj | hj
    · exact h.names j (by simp [hj])
    · rcases List.mem_cons.1 hj with rfl | hj
      · exact ⟨h0, hn, hl⟩
      · exact h.names j (by simp [hj])
  · rw [h.mem]
    constructor
    · rintro ⟨⟨j, hj, hb', hy⟩, hne⟩
      rcases List.mem_append.1 hj with hj | hj
      · exact ⟨j, by simp [hj], hb', hy⟩
      · rcases List.mem_cons.1 hj with rfl | hj
        · exact ⟨k', by simp, hb.trans hb', (hm y).2 ⟨hy, fun e => hne ⟨hb'.symm, e⟩⟩⟩
        · exact ⟨j, by simp [hj], hb', hy⟩
    · rintro ⟨j, hj, hb', hy⟩
      rcases List.mem_append.1 hj with hj | hj
      · exact ⟨⟨j, by simp [hj], hb', hy⟩, fun e => hbo j (Or.inl hj) (hb'.trans e.1)⟩
      · rcases List.mem_cons.1 hj with rfl | hj
        · have := (hm y).1 hy
          exact ⟨⟨k, by simp, hb.symm.trans hb', this.1⟩, fun e => this.2 e.2⟩
        · exact ⟨⟨j, by simp [hj], hb', hy⟩, fun e => hbo j (Or.inr hj) (hb'.trans e.1)⟩
/-- A bucket of one name goes with it. -/
theorem TabHas.gone {A C : List Bk} {k : Bk} {R : Int → Int → Prop} {m : Nat} (h : TabHas (A ++ k :: C) R m) (x : Int) (hn : k.names = [x]) :
    TabHas (A ++ C) (fun b y => R b y ∧ ¬ (b = k.band ∧ y = x)) m := by
  have hbo := band_only h.rises
  have hsub : (A ++ C).Sublist (A ++ k :: C) := List.Sublist.append_left (List.sublist_cons_self _ _) _
  refine ⟨h.rises.sublist (hsub.map _), fun j hj => h.names j (hsub.subset hj), Nat.le_trans hsub.length_le h.len, fun b y => ?_⟩
  rw [h.mem]
  constructor
  · rintro ⟨⟨j, hj, hb', hy⟩, hne⟩
    rcases List.mem_append.1 hj with hj | hj
    · exact ⟨j, by simp [hj], hb', hy⟩
    · rcases List.mem_cons.1 hj with rfl | hj
      · rw [hn] at hy
        exact absurd ⟨hb'.symm, by simpa using hy⟩ hne
      · exact ⟨j, by simp [hj], hb', hy⟩
  · rintro ⟨j, hj, hb', hy⟩
    refine ⟨⟨j, hsub.subset hj, hb', hy⟩, fun e => ?_⟩
    rcases List.mem_append.1 hj with hj | hj
    · exact hbo j (Or.inl hj) (hb'.trans e.1)
    · exact hbo j (Or.inr hj) (hb'.trans e.1)
end Go.Proofs.Ytgldlfgidmgmfaa
