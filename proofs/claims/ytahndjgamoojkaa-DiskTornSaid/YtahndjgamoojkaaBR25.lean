/- Drafts of layer 20 in memory: names, each with pieces of bytes; a slice of them of the call's own. -/
import Derived.Test.YtahndjgamoojkaaBR24
import Derived.Test.YtahndjgamoojkaaBR03
import Derived.Test.YtahndjgamoojkaaBR10
import Derived.Test.YtahndjgamoojkaaBR09
import Derived.Shelf.Small.Strs
import Derived.Test.YtahndjgamoojkaaBR01
namespace Go.Proofs.Ytahndjgamoojkaa
open Go.RowKit

/-- A draft: its name, its pieces, and the slice in which they lie. -/
structure Dr20 where
  name : List UInt8
  ps : List (List UInt8)
  pv : Value
def Dr20.text (d : Dr20) : List UInt8 := d.ps.flatten
def drC (d : Dr20) : List Value := [strV d.name, d.pv, .int .i64 d.text.length]
def drV (d : Dr20) : Value := .agg (drC d).toArray
theorem drC_len (d : Dr20) : (drC d).length = 3 := rfl
/-- The files that drafts are. -/
def fls20 (ds : List Dr20) : List Fl20 := ds.map fun d => (d.name, d.text)
theorem fls_len (ds : List Dr20) : (fls20 ds).length = ds.length := by unfold fls20; rw [List.length_map]
theorem fls_at (ds : List Dr20) (i : Nat) (h : i < ds.length) : (fls20 ds)[i]'(by rw [fls_len]; exact h) = ((ds[i]'h).name, (ds[i]'h).text) := by simp [fls20]
theorem fls_app (a b : List Dr20) : fls20 (a ++ b) = fls20 a ++ fls20 b := by simp [fls20]
/-- The pieces of drafts: each one's in a block of its own. -/
structure PsAt (w : World) (B : Nat) (ds : List Dr20) : Prop where
  ins : ∀ d ∈ ds, Strs w B d.pv d.ps
  apart : ds.Pairwise fun x y => ∀ b, x.pv.ownBlock = some b → y.pv.ownBlock ≠ some b
/-- A slice of drafts of the call's own. -/
structure DrAt (w : World) (B : Nat) (v : Value) (ds : List Dr20) : Prop where
  row : w.ownsRow B 64 3 v ds.length (ds.flatMap drC)
  pcs : PsAt w B ds
theorem t_ds : (64 : TypeId) ≠ 9 := by decide
theorem PsAt.perm {w : World} {B : Nat} {ds es : List Dr20} (h : PsAt w B ds) (hp : ds.Perm es) : PsAt w B es :=
  ⟨fun d hd => h.ins d (hp.mem_iff.2 hd), (hp.pairwise_iff (fun h1 b h2 h3 => h1 b h3 h2)).1 h.apart⟩
theorem PsAt.turned {S : Nat → Prop} {w w' : World} {B : Nat} {ds : List Dr20} (h : PsAt w B ds) (ht : Turned S w w') (hS : ∀ d ∈ ds, ∀ b, d.pv.ownBlock = some b → ¬ S b) : PsAt w' B ds :=
  ⟨fun d hd => ownsRow_turned (h.ins d hd) ht (hS d hd), h.apart⟩
theorem PsAt.below {w w' : World} {B : Nat} {ds : List Dr20} (h : PsAt w B ds) (hb : Below w.heap.size w w') : PsAt w' B ds := ⟨fun d hd => ownsRow_below (h.ins d hd) hb, h.apart⟩
theorem PsAt.mono {w : World} {B B' : Nat} {ds : List Dr20} (h : PsAt w B ds) (hB : B' ≤ B) : PsAt w B' ds := ⟨fun d hd => ownsRow_mono (h.ins d hd) hB, h.apart⟩
theorem PsAt.tail {w : World} {B : Nat} {d : Dr20} {ds : List Dr20} (h : PsAt w B (d :: ds)) : PsAt w B ds := ⟨fun x hx => h.ins x (List.mem_cons_of_mem _ hx), (List.pairwise_cons.1 h.apart).2⟩
/-- What turns a row of drafts turns no piece. -/
theorem PsAt.row {w w' : World} {B B' : Nat} {ds : List Dr20} {v : Value} {n : Nat} {xs : List Value} (h : PsAt w B ds) (hr : w.ownsRow B' 64 3 v n xs) (ht : Turned (fun b => v.ownBlock = some b) w w') : PsAt w' B ds :=
  h.turned ht fun d hd _b hb hS => own_apart hr (h.ins d hd) t_ds hS hb
/-- One draft's pieces have turned, the others' haven't. -/
theorem PsAt.swap {w w' : World} {B : Nat} {k k' : Dr20} {R : List Dr20} (h : PsAt w B (k :: R)) (ho : Strs w' B k'.pv k'.ps) (ht : Turned (fun b => k.pv.ownBlock = some b) w w') (hw : k'.pv.ownBlock = k.pv.ownBlock ∨ ∀ b, k'.pv.ownBlock = some b → w.heap.size ≤ b) : PsAt w' B (k' :: R) := by
  obtain ⟨a1, a2⟩ := List.pairwise_cons.1 h.apart
  have hR := h.tail.turned ht fun d hd b hb hS => a1 d hd b hS hb
  refine ⟨fun d hd => ?_, List.pairwise_cons.2 ⟨fun y hy b h1 h2 => ?_, a2⟩⟩
  · rcases List.mem_cons.1 hd with rfl | hd
    · exact ho
    · exact hR.ins d hd
  · rcases hw with e | e
    · rw [e] at h1
      exact a1 y hy b h1 h2
    · have h3 := e b h1
      have h4 := ((h.ins y (List.mem_cons_of_mem _ hy)).lt b h2).2
      omega
theorem DrAt.turned {S : Nat → Prop} {w w' : World} {B : Nat} {v : Value} {ds : List Dr20} (h : DrAt w B v ds) (ht : Turned S w w') (h1 : ∀ b, v.ownBlock = some b → ¬ S b) (h2 : ∀ d ∈ ds, ∀ b, d.pv.ownBlock = some b → ¬ S b) : DrAt w' B v ds := ⟨ownsRow_turned h.row ht h1, h.pcs.turned ht h2⟩
theorem DrAt.below {w w' : World} {B : Nat} {v : Value} {ds : List Dr20} (h : DrAt w B v ds) (hb : Below w.heap.size w w') : DrAt w' B v ds := ⟨ownsRow_below h.row hb, h.pcs.below hb⟩
theorem DrAt.mono {w : World} {B B' : Nat} {v : Value} {ds : List Dr20} (h : DrAt w B v ds) (hB : B' ≤ B) : DrAt w B' v ds := ⟨ownsRow_mono h.row hB, h.pcs.mono hB⟩
theorem drAt_nil (w : World) (B : Nat) : DrAt w B (.slice none 0 0) [] := ⟨World.ownsRow_nil _ _ _ _, ⟨(by intro _ h; cases h), List.Pairwise.nil⟩⟩
theorem PsAt.one {w : World} {B : Nat} {ds : List Dr20} (h : PsAt w B ds) : ∀ u ∈ ds.flatMap drC, u.oneCell' = true := by
  intro u hu
  obtain ⟨d, hd, hu⟩ := List.mem_flatMap.1 hu
  obtain ⟨a, c, e⟩ := own_form (h.ins d hd)
  unfold drC at hu
  rw [e] at hu
  simp only [List.mem_cons, List.not_mem_nil, or_false] at hu
  rcases hu with rfl | rfl | rfl <;> rfl
theorem DrAt.form {w : World} {B : Nat} {v : Value} {ds : List Dr20} (h : DrAt w B v ds) : ∃ a c, v = .slice a ds.length c := own_form h.row
/-- The cells of a draft. -/
theorem DrAt.some_ {w : World} {B : Nat} {v : Value} {ds : List Dr20} (h : DrAt w B v ds) (h0 : 0 < ds.length) : ∃ g cap, v = .slice (some ⟨g, 0, none⟩) ds.length cap ∧ ds.length ≤ cap ∧ cap ≤ 9223372036854775807 ∧ B ≤ g ∧ g < w.heap.size ∧
    ∀ i (hi : i < ds.length), w.cell? ⟨g, i * 3, none⟩ = some (strV (ds[i]'hi).name) ∧ w.cell? ⟨g, i * 3 + 1, none⟩ = some (ds[i]'hi).pv ∧ w.cell? ⟨g, i * 3 + 2, none⟩ = some (.int .i64 (ds[i]'hi).text.length) := by
  rcases id h.row.2 with ⟨_, h2⟩ | ⟨g, cap, cur, hv, _, hg, hn, hc, _⟩
  · omega
  · have hl := h.row.lt g (by rw [hv]; rfl)
    unfold maxLen at hc
    have hr := h.row
    rw [hv] at hr
    refine ⟨g, cap, hv, hn, hc, hl.1, hl.2, fun i hi => ?_⟩
    have hf := fun t ht => flat_at (f := drC) drC_len ds i t hi ht
    have e0 := hf 0 (by decide)
    have e1 := hf 1 (by decide)
    have e2 := hf 2 (by decide)
    rw [Nat.add_zero] at e0
    exact ⟨(hr.cellAt _ (by omega)).trans e0, (hr.cellAt _ (by omega)).trans e1, (hr.cellAt _ (by omega)).trans e2⟩
theorem drC_take (ds : List Dr20) (i : Nat) : (ds.flatMap drC).take (i * 3) = (ds.take i).flatMap drC := by
  rcases Nat.lt_or_ge i ds.length with h | h
  · have e : ds = ds.take i ++ ds.drop i := (List.take_append_drop _ _).symm
    conv => lhs; rw [e]
    rw [List.flatMap_append, List.take_left']
    rw [flat_len drC_len, List.length_take]
    omega
  · rw [List.take_of_length_le h, List.take_of_length_le]
    rw [flat_len drC_len]
    omega
theorem drC_drop (ds : List Dr20) (i : Nat) : (ds.flatMap drC).drop (i * 3) = (ds.drop i).flatMap drC := by
  rcases Nat.lt_or_ge i ds.length with h | h
  · have e : ds = ds.take i ++ ds.drop i := (List.take_append_drop _ _).symm
    conv => lhs; rw [e]
    rw [List.flatMap_append, List.drop_left']
    rw [flat_len drC_len, List.length_take]
    omega
  · rw [List.drop_of_length_le h, List.drop_of_length_le]
    · rfl
    · rw [flat_len drC_len]
      omega
theorem drC_set (A C : List Dr20) (k k' : Dr20) : ((((A ++ k :: C).flatMap drC).set (A.length * 3) (strV k'.name)).set (A.length * 3 + 1) k'.pv).set (A.length * 3 + 2) (.int .i64 k'.text.length) = (A ++ k' :: C).flatMap drC := by
  have hl : (A.flatMap drC).length = A.length * 3 := flat_len drC_len A
  rw [List.flatMap_append, List.flatMap_append, List.flatMap_cons, List.flatMap_cons, List.set_append_right _ _ (by omega), hl, List.set_append_right _ _ (by omega), hl, List.set_append_right _ _ (by omega), hl]
  rw [show A.length * 3 - A.length * 3 = 0 by omega, show A.length * 3 + 1 - A.length * 3 = 1 by omega, show A.length * 3 + 2 - A.length * 3 = 2 by omega]
  rfl
theorem owns_base {w : World} {B n z : Nat} {E : TypeId} {v : Value} {xs : List Value} (h : w.ownsRow 0 E z v n xs) (hb : ∀ g, v.ownBlock = some g → B ≤ g) : w.ownsRow B E z v n xs := by
  rcases h with ⟨h1, h | ⟨g, cap, cur, rfl, _, h3⟩⟩
  · exact ⟨h1, Or.inl h⟩
  · exact ⟨h1, Or.inr ⟨g, cap, cur, rfl, hb g rfl, h3⟩⟩
/-- The three cells of one place are stored. -/
theorem DrAt.put {w : World} {B : Nat} {A C : List Dr20} {k k' : Dr20} {g cap : Nat} (hr : w.ownsRow B 64 3 (.slice (some ⟨g, 0, none⟩) (A ++ k :: C).length cap) (A ++ k :: C).length ((A ++ k :: C).flatMap drC)) (hp : PsAt w B (A ++ k' :: C)) {u : Value} (hu : u = .int .i64 k'.text.length) (hB : B ≤ g) :
    DrAt (((w.setCell ⟨g, A.length * 3, none⟩ (strV k'.name)).setCell ⟨g, A.length * 3 + 1, none⟩ k'.pv).setCell ⟨g, A.length * 3 + 2, none⟩ u) B (.slice (some ⟨g, 0, none⟩) (A ++ k :: C).length cap) (A ++ k' :: C) ∧ Below B w (((w.setCell ⟨g, A.length * 3, none⟩ (strV k'.name)).setCell ⟨g, A.length * 3 + 1, none⟩ k'.pv).setCell ⟨g, A.length * 3 + 2, none⟩ u) := by
  subst hu
  have hl : (A ++ k' :: C).length = (A ++ k :: C).length := by simp
  have s1 := (hr.stored (A.length * 3) (strV k'.name)).1
  have s2 := (s1.stored (A.length * 3 + 1) k'.pv).1
  have s3 := (s2.stored (A.length * 3 + 2) (.int .i64 k'.text.length)).1
  rw [drC_set] at s3
  have t1 := turned_setCell w ⟨g, A.length * 3, none⟩ (strV k'.name)
  have t2 := turned_setCell (w.setCell ⟨g, A.length * 3, none⟩ (strV k'.name)) ⟨g, A.length * 3 + 1, none⟩ k'.pv
  have t3 := turned_setCell ((w.setCell ⟨g, A.length * 3, none⟩ (strV k'.name)).setCell ⟨g, A.length * 3 + 1, none⟩ k'.pv) ⟨g, A.length * 3 + 2, none⟩ (.int .i64 k'.text.length)
  have t := (t1.trans t2 fun i _ e => e).trans t3 fun i _ e => e
  refine ⟨⟨by rw [hl]; exact s3, hp.turned t fun d hd b hb hS => own_apart hr (hp.ins d hd) t_ds (by rw [show b = g from hS] at hb; rfl) (by rw [← show b = g from hS]; exact hb)⟩, ?_⟩
  exact (((Below.refl B w).setCell (p := ⟨g, A.length * 3, none⟩) hB _).setCell (p := ⟨g, A.length * 3 + 1, none⟩) hB _).setCell (p := ⟨g, A.length * 3 + 2, none⟩) hB _
theorem three_cells {w : World} {g : Nat} {t : TypeId} {a b c : Value} (h : ArrAt w g t [a, b, c]) : w.cell? ⟨g, 0, none⟩ = some a ∧ w.cell? ⟨g, 1, none⟩ = some b ∧ w.cell? ⟨g, 2, none⟩ = some c := ⟨h.cell 0, h.cell 1, h.cell 2⟩
end Go.Proofs.Ytahndjgamoojkaa

/- strings.Compare by the library's contract. -/
namespace Go.Proofs.Ytahndjgamoojkaa
open Go.RowKit Go.Shelf
def Laid.cmp_ren : Go.Shelf.Ren := ⟨fun | 106 => 48 | 213 => 59 | 265 => 68 | n => n, fun | 3 => 3 | 9 => 9 | n => n, fun | n => n⟩
theorem Laid.lays106 : Go.Proofs.Lays.n106 Try.prog Laid.cmp_ren := {
  mixed := by kernel_rfl
  f106 := Try.func48.trans (congrArg some (by kernel_rfl))
  f213 := Try.func59.trans (congrArg some (by kernel_rfl))
  f265 := Try.func68.trans (congrArg some (by kernel_rfl))
  t3 := Try.underlying3
  a3 := Try.isAgg3
  z3 := Try.sizeOf3
  v3 := Try.zeroValue3
  t9 := Try.underlying9
  a9 := Try.isAgg9
  z9 := Try.sizeOf9
  v9 := Try.zeroValue9 }
theorem strcmp_any (a b : List UInt8) (w : World) : Calls Try.prog 48 #[.string ⟨a.toArray⟩, .string ⟨b.toArray⟩] w fun e w' => e = .returned (.int .i64 (Lib.compareBytes a b)) ∧ w = w' := by
  refine (Any.strings_Compare Laid.lays106 ⟨a.toArray⟩ ⟨b.toArray⟩ w).mono ?_
  rintro e w' ⟨rfl, rfl⟩
  exact ⟨rfl, rfl⟩
theorem cmpB_bd : ∀ a b : List UInt8, -1 ≤ Lib.compareBytes a b ∧ Lib.compareBytes a b ≤ 1
  | [], [] => by decide
  | [], _ :: _ => by simp [Lib.compareBytes]
  | _ :: _, [] => by simp [Lib.compareBytes]
  | a :: x, b :: y => by
    have ih := cmpB_bd x y
    rw [Lib.compareBytes]
    split
    · omega
    · split
      · omega
      · exact ih
theorem cmpB_neg : ∀ a b : List UInt8, Lib.compareBytes a b < 0 ↔ a < b
  | [], [] => by simp [Lib.compareBytes]
  | [], _ :: _ => by simp [Lib.compareBytes]
  | _ :: _, [] => by simp [Lib.compareBytes]
  | a :: x, b :: y => by
    have ih := cmpB_neg x y
    rw [Lib.compareBytes, List.cons_lt_cons_iff]
    by_cases h1 : a < b
    · simp [h1]
    · rw [if_neg h1]
      by_cases h2 : b < a
      · rw [if_pos h2]
        have : a ≠ b := fun e => by subst e; exact h1 h2
        simp [h1, this]
      · rw [if_neg h2, ih]
        have e : a = b := UInt8.le_antisymm (UInt8.not_lt.1 h2) (UInt8.not_lt.1 h1)
        simp [e]
theorem cmpB_zero : ∀ a b : List UInt8, Lib.compareBytes a b = 0 ↔ a = b
  | [], [] => by simp [Lib.compareBytes]
  | [], _ :: _ => by simp [Lib.compareBytes]
  | _ :: _, [] => by simp [Lib.compareBytes]
  | a :: x, b :: y => by
    have ih := cmpB_zero x y
    rw [Lib.compareBytes, List.cons.injEq]
    by_cases h1 : a < b
    · rw [if_pos h1]
      have : a ≠ b := fun e => by subst e; exact absurd h1 (UInt8.lt_irrefl _)
      simp [this]
    · rw [if_neg h1]
      by_cases h2 : b < a
      · rw [if_pos h2]
        have : a ≠ b := fun e => by subst e; exact h1 h2
        simp [this]
      · rw [if_neg h2, ih]
        have e : a = b := UInt8.le_antisymm (UInt8.not_lt.1 h2) (UInt8.not_lt.1 h1)
        simp [e]
end Go.Proofs.Ytahndjgamoojkaa

/- Walks of layer 20's drafts: the search for a file. -/
namespace Go.Proofs.Ytahndjgamoojkaa
open Go.RowKit

theorem at_is {α : Type} : ∀ (L : List (List UInt8 × α)) (n : List UInt8) (i : Nat), i ≤ L.length → (∀ t (h : t < L.length), t < i → (L[t]'h).1 < n) → (∀ h : i < L.length, ¬ (L[i]'h).1 < n) → at20 L n = i
  | [], _, i, h, _, _ => by simp at h; subst h; rfl
  | f :: r, n, 0, _, _, h2 => by
    have := h2 (by simp)
    rw [at20, if_neg (show ¬ f.1 < n from this)]
  | f :: r, n, i + 1, h, h1, h2 => by
    have h0 := h1 0 (by simp) (by omega)
    rw [at20, if_pos (show f.1 < n from h0), at_is r n i (by simpa using h) (fun t ht hti => by have := h1 (t + 1) (by simpa using ht) (by omega); simpa using this) (fun hi => by have := h2 (by simpa using hi); simpa using this)]
theorem rise_get20 {α : Type} {L : List (List UInt8 × α)} (h : Rise20 L) {i j : Nat} (hij : i < j) (hj : j < L.length) : (L[i]'(by omega)).1 < (L[j]'hj).1 := List.pairwise_iff_getElem.1 h i j (by omega) hj hij
theorem lt_irr (n : List UInt8) : ¬ n < n := List.lt_irrefl n
theorem at_pos {α : Type} {L : List (List UInt8 × α)} {n : List UInt8} (h : Rise20 L) (hp : pos20 L n < L.length) : at20 L n = pos20 L n := by
  have hn := pos_name L n hp
  refine at_is L n _ (Nat.le_of_lt hp) (fun t ht hti => ?_) fun h' => ?_
  · have := rise_get20 h hti hp
    rw [hn] at this
    exact this
  · rw [hn]; exact lt_irr n
theorem at_no {α : Type} {L : List (List UInt8 × α)} {n : List UInt8} (hp : ¬ pos20 L n < L.length) (t : Nat) (ht : t < L.length) : (L[t]'ht).1 ≠ n := by
  have h0 : get20 L n = none := by
    have := pos_some L n
    rw [decide_eq_false hp] at this
    cases e : get20 L n with
    | none => rfl
    | some x => rw [e] at this; cases this
  exact get_none.1 h0 _ (List.getElem_mem ht)
/-- What the search keeps: below i all names are less, from j on none is. -/
def Part20 (L : List Fl20) (n : List UInt8) (i j : Nat) : Prop := i ≤ j ∧ j ≤ L.length ∧ (∀ t (h : t < L.length), t < i → (L[t]'h).1 < n) ∧ ∀ t (h : t < L.length), j ≤ t → ¬ (L[t]'h).1 < n
theorem Part20.start (L : List Fl20) (n : List UInt8) : Part20 L n 0 L.length := ⟨Nat.zero_le _, Nat.le_refl _, fun t _ h => by omega, fun t h h2 => by omega⟩
theorem Part20.up {L : List Fl20} {n : List UInt8} {i j h : Nat} (hp : Part20 L n i j) (hs : Rise20 L) (h1 : i ≤ h) (h2 : h < j) (hl : h < L.length) (hb : (L[h]'hl).1 < n) : Part20 L n (h + 1) j := by
  refine ⟨by omega, hp.2.1, fun t ht hlt => ?_, hp.2.2.2⟩
  rcases Nat.lt_or_ge t h with h' | h'
  · exact List.lt_trans (rise_get20 hs h' hl) hb
  · obtain rfl : t = h := by omega
    exact hb
theorem Part20.down {L : List Fl20} {n : List UInt8} {i j h : Nat} (hp : Part20 L n i j) (hs : Rise20 L) (h1 : i ≤ h) (h2 : h < j) (hl : h < L.length) (hb : ¬ (L[h]'hl).1 < n) : Part20 L n i h := by
  refine ⟨h1, by omega, hp.2.2.1, fun t ht hlt => ?_⟩
  rcases Nat.lt_or_ge h t with h' | h'
  · exact fun e => hb (List.lt_trans (rise_get20 hs h' ht) e)
  · obtain rfl : t = h := by omega
    exact hb
theorem Part20.at {L : List Fl20} {n : List UInt8} {i : Nat} (hp : Part20 L n i i) : at20 L n = i := at_is L n i hp.2.1 hp.2.2.1 fun h => hp.2.2.2 i h (Nat.le_refl _)
def FindPost20 (w : World) (L : List Fl20) (n : List UInt8) (e : Ending) (w' : World) : Prop := e = .returned (.tuple #[.int .i64 (at20 L n), .bool (decide (pos20 L n < L.length))]) ∧ Below w.heap.size w w'
theorem sought_yes {L : List Fl20} {n : List UInt8} {i : Nat} (_hs : Rise20 L) (_hp : Part20 L n i i) (hi : i < L.length) (hn : (L[i]'hi).1 = n) : decide (pos20 L n < L.length) = true := by
  refine decide_eq_true ?_
  rcases Nat.lt_or_ge (pos20 L n) L.length with h | h
  · exact h
  · exact absurd hn (at_no (by omega) i hi)
theorem sought_no {L : List Fl20} {n : List UInt8} {i : Nat} (hs : Rise20 L) (hp : Part20 L n i i) (hn : ∀ hi : i < L.length, (L[i]'hi).1 ≠ n) : decide (pos20 L n < L.length) = false := by
  refine decide_eq_false fun h => ?_
  have e := at_pos hs h
  rw [hp.at] at e
  subst e
  exact hn h (pos_name L n h)
theorem drcls_any (a b : List UInt8) (u : Value) (z : Int) (w : World) (_hu : u.oneCell' = true) : Calls Try.prog 47 #[.agg #[.string ⟨a.toArray⟩, u, .int .i64 z], .string ⟨b.toArray⟩] w fun e w' => e = .returned (.int .i64 (Lib.compareBytes a b)) ∧ Below w.heap.size w w' := by
  have hc := Lib.hid (fun W => strcmp_any a b W)
  generalize Lib.compareBytes a b = c at hc ⊢
  go_enter Try.func47, Try.ntmps47
  go_wp2_with fail
  refine (hc.out _).mono ?_; rintro e w1 ⟨rfl, rfl⟩
  go_wp2_with fail
  go_ret
  exact ⟨rfl, (Below.refl _ _).alloc (Nat.le_refl _) _⟩

set_option maxHeartbeats 1000000 in
theorem bsf20_any (v : Value) (ds : List Dr20) (n : List UInt8) (B : Nat) (w : World) (h : DrAt w B v ds) (hs : Rise20 (fls20 ds)) (hn : ds.length ≤ 1000000) :
    Calls Try.prog 46 #[v, .string ⟨n.toArray⟩, .func (.func 47) #[] #[]] w (FindPost20 w (fls20 ds) n) := by
  obtain ⟨a, c, rfl⟩ := h.form
  have hfl := fls_len ds
  have hst := Part20.start (fls20 ds) n
  rw [hfl] at hst
  replace hst := Lib.hid hst
  replace hs := Lib.hid hs
  replace h := Lib.hid h
  go_enter Try.func46, Try.ntmps46
  go_wp2_with fail
  go_loopw [9, 10] (fun i j wr => ∃ I J : Nat, i = .int .i64 I ∧ j = .int .i64 J ∧ I ≤ J ∧ J ≤ ds.length ∧ Hid (Part20 (fls20 ds) n I J) ∧ Hid (Below w.heap.size w wr)) (fun i j _ => (intOf j).toNat - (intOf i).toNat)
  case atStart => exact ⟨0, ds.length, rfl, rfl, Nat.zero_le _, Nat.le_refl _, hst, Below.refl _ _⟩
  case round =>
    clear hst
    obtain ⟨I, J, rfl, rfl, hIJ, hJ, hp, hb⟩ := hrel
    by_cases hlt : I < J
    · obtain ⟨H, hH⟩ : ∃ H : Nat, ((I : Int) + J) / 2 = H := ⟨(I + J) / 2, by omega⟩
      have hH1 : I ≤ H := by omega
      have hH2 : H < J := by omega
      have hHl : H < ds.length := by omega
      obtain ⟨g, cap, hv, hc1, hc2, _, hg, hcell⟩ := (h.out.below hb.out).some_ (by omega)
      injection hv with hv1 hv2 hv3
      subst hv1 hv3
      clear hv2
      obtain ⟨x0, x1, x2⟩ := hcell H hHl
      clear hcell
      have hone := (h.out.pcs.one) (ds[H]'hHl).pv (List.mem_flatMap.2 ⟨_, List.getElem_mem hHl, by simp [drC]⟩)
      have hcl := fun W => drcls_any (ds[H]'hHl).name n (ds[H]'hHl).pv (ds[H]'hHl).text.length W hone
      have hcn := cmpB_neg (ds[H]'hHl).name n
      have hcb := cmpB_bd (ds[H]'hHl).name n
      generalize Lib.compareBytes (ds[H]'hHl).name n = r at hcl hcn hcb
      have hfa := fls_at ds H hHl
      have hup := hp.out.up hs.out hH1 hH2 (by rw [hfl]; exact hHl)
      have hdn := hp.out.down hs.out hH1 hH2 (by rw [hfl]; exact hHl)
      rw [hfa] at hup hdn
      simp only at hup hdn
      clear hfa
      unfold strV at x0
      generalize (ds[H]'hHl).name = x at hcl hcn x0 hup hdn
      generalize (ds[H]'hHl).pv = y at hcl x1 hone
      generalize (ds[H]'hHl).text.length = z at hcl x2
      replace hup := Lib.hid hup
      replace hdn := Lib.hid hdn
      replace hcl := Lib.hid hcl
      replace hcn := Lib.hid hcn
      replace hone := Lib.hid hone
      have k0 : (0 : Int) ≤ H := by omega
      have k1 : (H : Int) < ds.length := by omega
      by_cases hr : r < 0
      · have hU := Lib.hid (hup.out (hcn.out.1 hr))
        go_wp2_with (go_at_call 47; refine (hcl.out _).mono ?_; rintro e w1 ⟨rfl, hb1⟩; replace hb1 := Lib.hid (hb.out.andThen hb1))
        exact ⟨⟨H + 1, J, by go_num, rfl, by omega, hJ, hU.out, hb1.out⟩, by simp [intOf]; omega⟩
      · have hU := Lib.hid (hdn.out (fun hx => hr (hcn.out.2 hx)))
        go_wp2_with (go_at_call 47; refine (hcl.out _).mono ?_; rintro e w1 ⟨rfl, hb1⟩; replace hb1 := Lib.hid (hb.out.andThen hb1))
        exact ⟨⟨I, H, rfl, rfl, hH1, by omega, hU.out, hb1.out⟩, by simp [intOf]; omega⟩
    · obtain rfl : I = J := by omega
      have hat := hp.out.at
      by_cases hIl : I < ds.length
      · obtain ⟨g, cap, hv, hc1, hc2, _, hg, hcell⟩ := (h.out.below hb.out).some_ (by omega)
        injection hv with hv1 hv2 hv3
        subst hv1 hv3
        clear hv2
        obtain ⟨x0, x1, x2⟩ := hcell I hIl
        clear hcell
        have hone := (h.out.pcs.one) (ds[I]'hIl).pv (List.mem_flatMap.2 ⟨_, List.getElem_mem hIl, by simp [drC]⟩)
        have hcl := fun W => drcls_any (ds[I]'hIl).name n (ds[I]'hIl).pv (ds[I]'hIl).text.length W hone
        have hcz := cmpB_zero (ds[I]'hIl).name n
        have hcb := cmpB_bd (ds[I]'hIl).name n
        generalize Lib.compareBytes (ds[I]'hIl).name n = r at hcl hcz hcb
        have hfa := fls_at ds I hIl
        have hIf : I < (fls20 ds).length := by rw [hfl]; exact hIl
        have hyes : (ds[I]'hIl).name = n → decide (pos20 (fls20 ds) n < (fls20 ds).length) = true := fun he => sought_yes hs.out hp.out hIf (by rw [hfa]; exact he)
        have hno : (ds[I]'hIl).name ≠ n → decide (pos20 (fls20 ds) n < (fls20 ds).length) = false := fun he => sought_no hs.out hp.out (fun hi e => he (by rw [hfa] at e; exact e))
        clear hfa
        unfold strV at x0
        generalize (ds[I]'hIl).name = x at hcl hcz x0 hyes hno
        generalize (ds[I]'hIl).pv = y at hcl x1 hone
        generalize (ds[I]'hIl).text.length = z at hcl x2
        replace hyes := Lib.hid hyes
        replace hno := Lib.hid hno
        replace hcl := Lib.hid hcl
        replace hcz := Lib.hid hcz
        replace hone := Lib.hid hone
        have k0 : (0 : Int) ≤ I := by omega
        have k1 : (I : Int) < ds.length := by omega
        by_cases hr : r = 0
        · subst hr
          have hU := Lib.hid (hyes.out (hcz.out.1 rfl))
          go_wp2_with (go_at_call 47; refine (hcl.out _).mono ?_; rintro e w1 ⟨rfl, hb1⟩; replace hb1 := Lib.hid (hb.out.andThen hb1))
          go_ret2
          exact ⟨by rw [hat, hU.out]; rfl, hb1.out⟩
        · have hU := Lib.hid (hno.out (fun hx => hr (hcz.out.2 hx)))
          have hr' : (r == 0) = false := by simpa using hr
          go_wp2_with (go_at_call 47; refine (hcl.out _).mono ?_; rintro e w1 ⟨rfl, hb1⟩; replace hb1 := Lib.hid (hb.out.andThen hb1))
          go_ret2
          exact ⟨by rw [hat, hU.out]; rfl, hb1.out⟩
      · have k1 : ¬ ((I : Int) < ds.length) := by omega
        have hno := Lib.hid (sought_no hs.out hp.out (fun hi => absurd hi (by rw [hfl]; exact hIl)))
        go_wp2_with fail
        go_ret2
        exact ⟨by rw [hat, hno.out]; rfl, hb.out⟩

theorem dskfind20_any (v : Value) (ds : List Dr20) (n : List UInt8) (B : Nat) (w : World) (h : DrAt w B v ds) (hs : Rise20 (fls20 ds)) (hn : ds.length ≤ 1000000) :
    Calls Try.prog 33 #[v, .string ⟨n.toArray⟩] w (FindPost20 w (fls20 ds) n) := by
  have hc := Lib.hid (bsf20_any v ds n B w h hs hn)
  clear h hs
  unfold FindPost20 at hc ⊢
  generalize decide (pos20 (fls20 ds) n < (fls20 ds).length) = q at hc ⊢
  generalize at20 (fls20 ds) n = i at hc ⊢
  go_enter Try.func33, Try.ntmps33
  go_wp2_with fail
  refine hc.out.mono ?_; rintro e w1 ⟨rfl, hb⟩
  replace hb := Lib.hid hb
  go_wp2_with fail
  go_ret2
  exact ⟨rfl, hb.out⟩
end Go.Proofs.Ytahndjgamoojkaa
