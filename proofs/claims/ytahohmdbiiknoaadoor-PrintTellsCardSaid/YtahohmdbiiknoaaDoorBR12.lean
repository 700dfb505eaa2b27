/- Layer 14, plain: an entry of its fields; a part's field; errors.Is of no error. -/
import Derived.Test.YtahohmdbiiknoaaDoorBR11
import Derived.Test.YtahohmdbiiknoaaDoorBR10
import Derived.Test.YtahohmdbiiknoaaDoorBR05
import Derived.KernelRfl
namespace Go.Proofs.YtahohmdbiiknoaaDoor
open Go.RowKit

theorem spT_bd : ∀ (l : List UInt8) (a g : Bool) (n : Nat), (spT a g n l).length ≤ 2 * l.length
  | [], a, g, n => by rw [spT_nil]; simp
  | c :: t, a, g, n + 1 => by have := spT_bd t a g n; rw [spT, List.length_cons]; omega
  | c :: t, a, g, 0 => by
    rw [spT]
    split
    · have := spT_bd t true false 0
      rw [List.length_append, List.length_cons, List.length_cons]
      split <;> simp <;> omega
    · have := spT_bd t a true (blankN (c :: t) - 1)
      rw [List.length_cons]; omega
theorem cleanB_bd (l : List UInt8) : (cleanB l).length ≤ 8 * l.length := by
  unfold cleanB spB
  have h1 := spT_bd (entB (stripB l)) false false 0
  have h2 := ent_len (stripB l)
  have h3 := strip_len l
  omega
theorem fieldB_bd {l : List Nd} {i : Int} {nm s : List UInt8} (h : fieldB l i nm = some s) : s.length ≤ 8 * sumT l := by
  rw [fieldB_first] at h
  cases hf : firstB l i nm with
  | none => rw [hf] at h; cases h
  | some j =>
    rw [hf] at h
    injection h with h
    subst h
    show (cleanB (textB l j)).length ≤ _
    have := cleanB_bd (textB l j)
    have := textB_len l j
    omega

def guidL : List UInt8 := [103, 117, 105, 100]
def titleL : List UInt8 := [116, 105, 116, 108, 101]
def descL : List UInt8 := [100, 101, 115, 99, 114, 105, 112, 116, 105, 111, 110]
def pubL : List UInt8 := [112, 117, 98, 68, 97, 116, 101]
def itemL : List UInt8 := [105, 116, 101, 109]
/-- The entry of the fields F, where dates are read by R. -/
def oneB (F : List UInt8 → Option (List UInt8)) (R : List UInt8 → Int × Bool) : It where
  guid := (F guidL).getD []
  title := (F titleL).getD []
  link := (F linkL).getD []
  body := (F descL).getD []
  date := match F pubL with | none => 0 | some s => (R s).1
  dated := match F pubL with | none => false | some s => (R s).2
/-- Is the date a wrong one? -/
def lateB (F : List UInt8 → Option (List UInt8)) (R : List UInt8 → Int × Bool) : Bool := match F pubL with | none => false | some s => !(R s).2
/-- An entry, or what is wrong. -/
inductive ItO where
  | bad (q : Int)
  | it (x : It)
def itO (F : List UInt8 → Option (List UInt8)) (R : List UInt8 → Int × Bool) (most : Int) : ItO :=
  if shortB (oneB F R) most = false then .bad 6 else if (oneB F R).guid = [] ∨ lateB F R = true then .bad 7 else .it (oneB F R)
def it0 : It := ⟨[], [], [], [], 0, false⟩
theorem cell_next {w w' : World} {p : Addr} {v : Value} (h : w.cell? p = some v) (hb : Below w.heap.size w w') : w'.cell? p = some v := (hb.cell (p := p) (World.block_lt_of_cell? w p h)).trans h
end Go.Proofs.YtahohmdbiiknoaaDoor

/- Layer 14: the entries of a channel, plain; entries in a row of one's own. -/
namespace Go.Proofs.YtahohmdbiiknoaaDoor
open Go.RowKit

/-- Entries, or what is wrong. -/
inductive ItsO where
  | bad (q : Int)
  | its (l : List It)
def gatherB : List ItO → List It → Bool → ItsO
  | [], acc, bad => if bad = true then .bad 7 else .its acc
  | .bad q :: r, acc, _ => if q = 6 then .bad 6 else gatherB r acc true
  | .it x :: r, acc, bad => gatherB r (acc ++ [x]) bad
/-- The entries of the kids of a name, by what one says of each. -/
def readB (l : List Nd) (c : Int) (nm : List UInt8) (G : Int → ItO) (many : Int) : ItsO := if many < (namedB l c nm).length then .bad 6 else gatherB ((namedB l c nm).map G) [] false
def itsB (l : List Nd) (R : List UInt8 → Int × Bool) (many most : Int) : ItsO :=
  match chanB l with
  | none => .bad 5
  | some c => readB l c itemL (fun i => itO (fieldB l i) R most) many
theorem itO_cases (F : List UInt8 → Option (List UInt8)) (R : List UInt8 → Int × Bool) (most : Int) : itO F R most = .bad 6 ∨ itO F R most = .bad 7 ∨ ∃ x, itO F R most = .it x := by
  unfold itO
  by_cases h1 : shortB (oneB F R) most = false
  · rw [if_pos h1]; exact Or.inl rfl
  · rw [if_neg h1]
    by_cases h2 : (oneB F R).guid = [] ∨ lateB F R = true
    · rw [if_pos h2]; exact Or.inr (Or.inl rfl)
    · rw [if_neg h2]; exact Or.inr (Or.inr ⟨_, rfl⟩)
theorem kidsB_nodup (l : List Nd) (i : Int) : (kidsB l i).Nodup := by
  unfold kidsB
  split
  · unfold kidsTo
    refine List.Pairwise.map _ (R := (· ≠ ·)) ?_ (List.Pairwise.filter _ List.nodup_range)
    intro a b h; omega
  · exact List.nodup_nil
theorem namedB_nodup (l : List Nd) (i : Int) (nm : List UInt8) : (namedB l i nm).Nodup := by
  unfold namedB
  split
  · exact List.nodup_nil
  · exact List.Pairwise.filter _ (kidsB_nodup l i)
theorem namedB_bd {l : List Nd} {i j : Int} {nm : List UInt8} (h : j ∈ namedB l i nm) : placeB l j = true ∧ upN l j = i ∧ j ≠ i ∧ placeB l i = true := by
  unfold namedB at h
  split at h
  · cases h
  · exact kidsB_bd (List.mem_filter.1 h).1
theorem namedB_len (l : List Nd) (i : Int) (nm : List UInt8) : (namedB l i nm).length ≤ l.length := by
  unfold namedB
  split
  · simp
  · refine Nat.le_trans (List.length_filter_le _ _) ?_
    unfold kidsB
    split
    · exact kidsTo_len _ _ _
    · simp
theorem chanB_place {l : List Nd} {c : Int} (h : chanB l = some c) : 0 ≤ c ∧ c < l.length := by
  unfold chanB at h
  split at h
  · cases h
  · unfold firstB at h
    have := namedB_bd (List.mem_of_mem_head? h)
    exact place_iff.1 this.1
theorem info_item : (Tryd.prog.info? 30).map (fun i => (i.zero, i.size, i.bytes)) = some (some (.agg #[.string ⟨#[]⟩, .string ⟨#[]⟩, .string ⟨#[]⟩, .string ⟨#[]⟩, .int .i64 0, .bool false]), 6, 80) := by kernel_rfl
def cellsI (l : List It) : List Value := l.flatMap itC
theorem cellsI_app (l : List It) (x : It) : cellsI (l ++ [x]) = cellsI l ++ itC x := by simp [cellsI]
/-- Entries in a row that the call itself made. -/
def OwnI (w : World) (B : Nat) (v : Value) (l : List It) : Prop := w.ownsRow B 30 6 v l.length (cellsI l)
theorem drop_some {α : Type} {l : List α} {k : Nat} {x : α} (h : l[k]? = some x) : l.drop k = x :: l.drop (k + 1) := by
  obtain ⟨hlt, rfl⟩ := List.getElem?_eq_some_iff.1 h
  exact List.drop_eq_getElem_cons hlt
end Go.Proofs.YtahohmdbiiknoaaDoor

/- Layer 14, plain: greater limits; what holds of each entry. -/
namespace Go.Proofs.YtahohmdbiiknoaaDoor
open Go.RowKit

theorem dateC_range {s : RSt} {y m d : Nat} {c : Int} (h : (dateC s y m d c).2 = true) : 0 ≤ (dateC s y m d c).1 ∧ (dateC s y m d c).1 ≤ 253402300799 := by
  by_cases hc : s.2 = true ∨ s.1 ≠ [] ∨ (daysB y m d).2 = false ∨ (daysB y m d).1 * 86400 + c < 0 ∨ 253402300799 < (daysB y m d).1 * 86400 + c
  · rw [dateC_no hc] at h; cases h
  · rw [dateC_yes hc]
    have h1 : ¬ ((daysB y m d).1 * 86400 + c < 0) := fun e => hc (Or.inr (Or.inr (Or.inr (Or.inl e))))
    have h2 : ¬ (253402300799 < (daysB y m d).1 * 86400 + c) := fun e => hc (Or.inr (Or.inr (Or.inr (Or.inr e))))
    exact ⟨Int.not_lt.1 h1, Int.not_lt.1 h2⟩
theorem r822C_range {l : List UInt8} (h : (r822C l).2 = true) : 0 ≤ (r822C l).1 ∧ (r822C l).1 ≤ 253402300799 := by
  unfold r822C r822a r822b r822d r822e r822f at h ⊢
  split at h
  · rename_i e; rw [if_pos e]; exact dateC_range h
  · rename_i e; rw [if_neg e]; exact dateC_range h
/-- An entry as it should be. -/
def ItGood (most : Int) (x : It) : Prop := x.guid ≠ [] ∧ shortB x most = true ∧ (x.dated = true → 0 ≤ x.date ∧ x.date ≤ 253402300799)
theorem shortB_iff {x : It} {most : Int} : shortB x most = true ↔ (x.guid.length : Int) ≤ most ∧ (x.guid.length : Int) ≤ 256 ∧ (x.title.length : Int) ≤ most ∧ (x.link.length : Int) ≤ most ∧ (x.body.length : Int) ≤ most := by
  unfold shortB
  simp only [Bool.and_eq_true, decide_eq_true_eq]
  constructor
  · rintro ⟨⟨⟨⟨h1, h2⟩, h3⟩, h4⟩, h5⟩; exact ⟨h1, h2, h3, h4, h5⟩
  · rintro ⟨h1, h2, h3, h4, h5⟩; exact ⟨⟨⟨⟨h1, h2⟩, h3⟩, h4⟩, h5⟩
theorem shortB_more {x : It} {a b : Int} (h : shortB x a = true) (hab : a ≤ b) : shortB x b = true := by
  rw [shortB_iff] at h ⊢
  omega
theorem itO_it {F : List UInt8 → Option (List UInt8)} {most : Int} {x : It} (h : itO F r822C most = .it x) : ItGood most x ∧ ∀ more, most ≤ more → itO F r822C more = .it x := by
  unfold itO at h
  by_cases h1 : shortB (oneB F r822C) most = false
  · rw [if_pos h1] at h; cases h
  · rw [if_neg h1] at h
    have h1' : shortB (oneB F r822C) most = true := by simpa using h1
    by_cases h2 : (oneB F r822C).guid = [] ∨ lateB F r822C = true
    · rw [if_pos h2] at h; cases h
    · rw [if_neg h2] at h
      injection h with h
      subst h
      refine ⟨⟨fun e => h2 (Or.inl e), h1', fun hd => ?_⟩, fun more hm => ?_⟩
      · unfold oneB at hd ⊢
        simp only at hd ⊢
        cases hp : F pubL with
        | none => rw [hp] at hd; cases hd
        | some s => rw [hp] at hd; exact r822C_range hd
      · unfold itO
        rw [if_neg (by rw [shortB_more h1' hm]; decide), if_neg h2]
theorem gatherB_all : ∀ (os : List ItO) (acc : List It) (bad : Bool) (l : List It), gatherB os acc bad = .its l → bad = false ∧ ∃ xs : List It, os = xs.map .it ∧ l = acc ++ xs
  | [], acc, bad, l, h => by
    unfold gatherB at h
    split at h
    · cases h
    · rename_i hb
      injection h with h
      exact ⟨by simpa using hb, [], rfl, by simp [h]⟩
  | .bad p :: r, acc, bad, l, h => by
    unfold gatherB at h
    split at h
    · cases h
    · have := (gatherB_all r acc true l h).1; cases this
  | .it x :: r, acc, bad, l, h => by
    obtain ⟨h1, xs, h2, h3⟩ := gatherB_all r (acc ++ [x]) bad l h
    exact ⟨h1, x :: xs, by rw [h2]; rfl, by rw [h3]; simp⟩
theorem gatherB_its : ∀ (xs acc : List It), gatherB (xs.map .it) acc false = .its (acc ++ xs)
  | [], acc => by simp [gatherB]
  | x :: r, acc => by
    show gatherB (r.map .it) (acc ++ [x]) false = _
    rw [gatherB_its r]; simp
theorem itsB_all {l : List Nd} {many most : Int} {xs : List It} (h : itsB l r822C many most = .its xs) : (∀ x ∈ xs, ItGood most x) ∧ (xs.length : Int) ≤ many ∧ ∀ more, 0 ≤ more → itsB l r822C (many + more) (most + more) = .its xs := by
  unfold itsB readB at h ⊢
  cases hc : chanB l with
  | none => rw [hc] at h; cases h
  | some c =>
    rw [hc] at h
    simp only at h ⊢
    by_cases hm : many < ((namedB l c itemL).length : Int)
    · rw [if_pos hm] at h; cases h
    · rw [if_neg hm] at h
      obtain ⟨_, ys, h2, h3⟩ := gatherB_all _ _ _ _ h
      rw [List.nil_append] at h3
      subst h3
      have hlen : (namedB l c itemL).length = xs.length := by
        have := congrArg List.length h2
        simpa using this
      have hat : ∀ i ∈ namedB l c itemL, ∃ x ∈ xs, itO (fieldB l i) r822C most = .it x := fun i hi => by
        have hmem : itO (fieldB l i) r822C most ∈ xs.map ItO.it := by rw [← h2]; exact List.mem_map.2 ⟨i, hi, rfl⟩
        obtain ⟨x, hx, e⟩ := List.mem_map.1 hmem
        exact ⟨x, hx, e.symm⟩
      refine ⟨fun x hx => ?_, by omega, fun more h0 => ?_⟩
      · have hmem : ItO.it x ∈ (namedB l c itemL).map fun i => itO (fieldB l i) r822C most := by rw [h2]; exact List.mem_map.2 ⟨x, hx, rfl⟩
        obtain ⟨i, _, e⟩ := List.mem_map.1 hmem
        exact (itO_it e).1
      · rw [if_neg (by omega)]
        have e : ((namedB l c itemL).map fun i => itO (fieldB l i) r822C (most + more)) = xs.map ItO.it := by
          rw [← h2]
          refine List.map_congr_left fun i hi => ?_
          obtain ⟨x, _, e⟩ := hat i hi
          rw [e]
          exact (itO_it e).2 _ (by omega)
        rw [e, gatherB_its]
        rfl
theorem gatherB_codes : ∀ (os : List ItO) (acc : List It) (bad : Bool) (q : Int), gatherB os acc bad = .bad q → q = 6 ∨ q = 7
  | [], acc, bad, q, h => by
    unfold gatherB at h
    split at h
    · injection h with h; exact Or.inr h.symm
    · cases h
  | .bad p :: r, acc, bad, q, h => by
    unfold gatherB at h
    split at h
    · injection h with h; exact Or.inl h.symm
    · exact gatherB_codes r acc true q h
  | .it x :: r, acc, bad, q, h => gatherB_codes r (acc ++ [x]) bad q h
theorem gatherB_len : ∀ (os : List ItO) (acc : List It) (bad : Bool) (l : List It), gatherB os acc bad = .its l → l.length ≤ acc.length + os.length
  | [], acc, bad, l, h => by
    unfold gatherB at h
    split at h
    · cases h
    · injection h with h; subst h; simp
  | .bad p :: r, acc, bad, l, h => by
    unfold gatherB at h
    split at h
    · cases h
    · have := gatherB_len r acc true l h; simp; omega
  | .it x :: r, acc, bad, l, h => by have := gatherB_len r (acc ++ [x]) bad l h; simp at this ⊢; omega
theorem itsB_codes {l : List Nd} {R : List UInt8 → Int × Bool} {many most q : Int} (h : itsB l R many most = .bad q) : q = 5 ∨ q = 6 ∨ q = 7 := by
  unfold itsB readB at h
  split at h
  · injection h with h; exact Or.inl h.symm
  · split at h
    · injection h with h; exact Or.inr (Or.inl h.symm)
    · exact Or.inr (gatherB_codes _ _ _ _ h)
theorem itsB_len {l : List Nd} {R : List UInt8 → Int × Bool} {many most : Int} {x : List It} (h : itsB l R many most = .its x) : x.length ≤ l.length ∧ (x.length : Int) ≤ many := by
  unfold itsB readB at h
  split at h
  · cases h
  · rename_i c _
    split at h
    · cases h
    · have h1 := gatherB_len _ _ _ _ h
      have h2 := namedB_len l c itemL
      rw [List.length_map] at h1
      simp at h1
      omega
end Go.Proofs.YtahohmdbiiknoaaDoor

/- Layer 17, plain: a list of nodes with entries, each behind a line's end; what is read of it. -/
namespace Go.Proofs.YtahohmdbiiknoaaDoor

/-- An entry's nodes, from place b on, as u's kids: a line's end, an element of fields. -/
def blkN (u : Int) (nme : List UInt8) (b : Nat) (F : List Fd) : List Nd := ⟨[], [], [10], u⟩ :: ⟨nme, [], [], u⟩ :: fldN ((b + 1 : Nat) : Int) (b + 2) F
def blksN (u : Int) (nme : List UInt8) : Nat → List (List Fd) → List Nd
  | _, [] => []
  | b, F :: r => blkN u nme b F ++ blksN u nme (b + 2 + fldL F) r
def blksL : List (List Fd) → Nat
  | [] => 0
  | F :: r => 2 + fldL F + blksL r
def blkAt : Nat → List (List Fd) → List (Nat × List Fd)
  | _, [] => []
  | b, F :: r => (b + 1, F) :: blkAt (b + 2 + fldL F) r
theorem blkN_len (u : Int) (nme : List UInt8) (b : Nat) (F : List Fd) : (blkN u nme b F).length = 2 + fldL F := by unfold blkN; simp only [List.length_cons, fldN_len]; omega
theorem blksN_len (u : Int) (nme : List UInt8) : ∀ (Fs : List (List Fd)) (b : Nat), (blksN u nme b Fs).length = blksL Fs
  | [], _ => rfl
  | F :: r, b => by rw [blksN, List.length_append, blkN_len, blksN_len u nme r, blksL]
theorem blkAt_snd : ∀ (Fs : List (List Fd)) (b : Nat), (blkAt b Fs).map Prod.snd = Fs
  | [], _ => rfl
  | F :: r, b => by rw [blkAt, List.map_cons, blkAt_snd r]
theorem blksN_up (u : Int) (nme : List UInt8) : ∀ (Fs : List (List Fd)) (b : Nat), ∀ x ∈ blksN u nme b Fs, x.up = u ∨ ((b : Int) < x.up ∧ x.up < b + blksL Fs)
  | [], _, x, h => by cases h
  | F :: r, b, x, h => by
    rw [blksN] at h
    rw [blksL]
    rcases List.mem_append.1 h with h | h
    · unfold blkN at h
      rcases List.mem_cons.1 h with h | h
      · subst h; exact Or.inl rfl
      rcases List.mem_cons.1 h with h | h
      · subst h; exact Or.inl rfl
      · rcases fldN_up _ F _ x h with e | ⟨e1, e2⟩ <;> right <;> omega
    · rcases blksN_up u nme r _ x h with e | ⟨e1, e2⟩
      · exact Or.inl e
      · right; omega
/-- What one says of i: it has the fields F. -/
def SaysF (L : List Nd) (i : Int) (F : List Fd) : Prop := (∀ nm, nm ≠ [] → fieldB L i nm = (F.find? fun f => f.nm == nm).map fun f => cleanB f.txt) ∧ linksB L i = (F.filter fun f => f.nm == linkL).map Fd.ats
theorem blks_says {L : List Nd} {u : Int} {nme : List UInt8} (hT : TreeAt L) (hu0 : 0 ≤ u) : ∀ (Fs : List (List Fd)) (A C : List Nd), L = A ++ blksN u nme A.length Fs ++ C → u < A.length → (∀ F ∈ Fs, ∀ f ∈ F, f.nm ≠ []) → (∀ x ∈ A, x.up < A.length) →
    (∀ x ∈ C, x.up < A.length ∨ ((A.length + blksL Fs : Nat) : Int) ≤ x.up) → ∀ z ∈ blkAt A.length Fs, SaysF L (z.1 : Int) z.2 ∧ (atN L (z.1 : Int)).name = nme ∧ (atN L ((z.1 : Int) - 1)).name = []
  | [], _, _, _, _, _, _, _, z, hz => by cases hz
  | F :: r, A, C, hL, hu, hF, hA, hC, z, hz => by
    rw [blksN, blkN] at hL
    rw [blksL] at hC
    rcases List.mem_cons.1 hz with hz | hz
    · subst hz
      have hle : (A ++ [⟨[], [], [10], u⟩, ⟨nme, [], [], u⟩] : List Nd).length = A.length + 2 := by simp
      have hL2 : L = (A ++ [⟨[], [], [10], u⟩, ⟨nme, [], [], u⟩]) ++ fldN ((A.length + 1 : Nat) : Int) (A ++ [⟨[], [], [10], u⟩, ⟨nme, [], [], u⟩] : List Nd).length F ++ (blksN u nme (A.length + 2 + fldL F) r ++ C) := by rw [hle, hL]; simp
      refine ⟨?_, ?_, ?_⟩
      · refine fld_field (C := blksN u nme (A.length + 2 + fldL F) r ++ C) hL2 hT (by omega) (by rw [hle]; omega) (hF F (by simp)) (fun x hx => ?_) (fun x hx => ?_)
        · rw [hle]
          rcases List.mem_append.1 hx with hx | hx
          · have := hA x hx; omega
          · have : x.up = u := by
              rcases List.mem_cons.1 hx with hx | hx
              · subst hx; rfl
              · rw [List.mem_singleton] at hx; subst hx; rfl
            omega
        · dsimp only
          rw [hle]
          rcases List.mem_append.1 hx with hx | hx
          · rcases blksN_up u nme r _ x hx with e | ⟨e1, e2⟩ <;> omega
          · rcases hC x hx with e | e <;> omega
      · have e : L = (A ++ [⟨[], [], [10], u⟩]) ++ ⟨nme, [], [], u⟩ :: (fldN ((A.length + 1 : Nat) : Int) (A.length + 2) F ++ (blksN u nme (A.length + 2 + fldL F) r ++ C)) := by rw [hL]; simp
        have := atN_mid (A ++ [⟨[], [], [10], u⟩]) (fldN ((A.length + 1 : Nat) : Int) (A.length + 2) F ++ (blksN u nme (A.length + 2 + fldL F) r ++ C)) ⟨nme, [], [], u⟩
        rw [← e] at this
        rw [show ((A.length + 1 : Nat) : Int) = ((A ++ [⟨[], [], [10], u⟩] : List Nd).length : Int) by simp, this]
      · have e : L = A ++ ⟨[], [], [10], u⟩ :: (⟨nme, [], [], u⟩ :: (fldN ((A.length + 1 : Nat) : Int) (A.length + 2) F ++ (blksN u nme (A.length + 2 + fldL F) r ++ C))) := by rw [hL]; simp
        have := atN_mid A (⟨nme, [], [], u⟩ :: (fldN ((A.length + 1 : Nat) : Int) (A.length + 2) F ++ (blksN u nme (A.length + 2 + fldL F) r ++ C))) ⟨[], [], [10], u⟩
        rw [← e] at this
        show (atN L (((A.length + 1 : Nat) : Int) - 1)).name = []
        rw [show ((A.length + 1 : Nat) : Int) - 1 = (A.length : Int) by omega, this]
    · have hle : (A ++ blkN u nme A.length F).length = A.length + 2 + fldL F := by rw [List.length_append, blkN_len]; omega
      refine blks_says hT hu0 r (A ++ blkN u nme A.length F) C (by rw [hle, hL]; unfold blkN; simp) (by rw [hle]; omega) (fun G hG => hF G (by simp [hG])) (fun x hx => ?_) (fun x hx => ?_) z (by rw [hle]; exact hz)
      · rw [hle]
        rcases List.mem_append.1 hx with hx | hx
        · have := hA x hx; omega
        · have h2 := blksN_up u nme [F] A.length x (by rw [blksN, blksN, List.append_nil]; exact hx)
          rw [blksL, blksL] at h2
          omega
      · rw [hle]
        rcases hC x hx with e | e
        · left; omega
        · right; omega
theorem blks_kids (u : Int) (nme : List UInt8) : ∀ (Fs : List (List Fd)) (b : Nat), u < b → kidsF u b (blksN u nme b Fs) = (blkAt b Fs).flatMap fun z => [(z.1 : Int) - 1, (z.1 : Int)]
  | [], _, _ => rfl
  | F :: r, b, h => by
    rw [blksN, kidsF_app, blkN_len, show b + (2 + fldL F) = b + 2 + fldL F by omega, blks_kids u nme r _ (by omega), blkAt, List.flatMap_cons]
    congr 1
    unfold blkN
    rw [kidsF, if_pos ⟨rfl, by omega⟩, kidsF, if_pos ⟨rfl, by omega⟩, kidsF_none u _ _ (fun x hx => by rcases fldN_up _ F _ x hx with e | ⟨e1, e2⟩ <;> omega)]
    simp
/-- The places of the entries. -/
theorem blks_named {L H E : List Nd} {u : Int} {nme : List UInt8} {Fs : List (List Fd)} (hL : L = H ++ blksN u nme H.length Fs ++ E) (hT : TreeAt L) (hu0 : 0 ≤ u) (hu : u < H.length) (hn : nme ≠ []) (hF : ∀ F ∈ Fs, ∀ f ∈ F, f.nm ≠ []) (hH : ∀ x ∈ H, x.up < H.length)
    (hE : E = [⟨[], [], [10], u⟩]) (hno : (kidsF u 0 H).filter (fun j => (atN L j).name == nme) = []) :
    namedB L u nme = (blkAt H.length Fs).map (fun z => (z.1 : Int)) ∧ ∀ z ∈ blkAt H.length Fs, SaysF L (z.1 : Int) z.2 := by
  have hs := blks_says hT hu0 Fs H E hL hu hF hH (fun x hx => by subst hE; rw [List.mem_singleton] at hx; subst hx; left; exact hu)
  refine ⟨?_, fun z hz => (hs z hz).1⟩
  have hpl : placeB L u = true := by rw [place_iff, hL]; simp only [List.length_append]; omega
  unfold namedB
  rw [if_neg hn, kidsB_F hpl]
  have hlast : (atN L ((H.length + blksL Fs : Nat) : Int)).name = [] := by
    have := atN_mid (H ++ blksN u nme H.length Fs) [] ⟨[], [], [10], u⟩
    rw [← hE, ← hL, List.length_append, blksN_len] at this
    rw [this]
  have hkl : kidsF u 0 L = kidsF u 0 H ++ ((blkAt H.length Fs).flatMap (fun z => [(z.1 : Int) - 1, (z.1 : Int)]) ++ [((H.length + blksL Fs : Nat) : Int)]) := by
    conv => lhs; rw [hL]
    rw [kidsF_app, kidsF_app, Nat.zero_add, Nat.zero_add, blks_kids u nme Fs _ (by omega), List.append_assoc, List.length_append, blksN_len, hE, kidsF, if_pos ⟨rfl, by omega⟩, kidsF, List.append_nil]
  rw [hkl, List.filter_append, hno, List.nil_append, List.filter_append]
  have h1 : [((H.length + blksL Fs : Nat) : Int)].filter (fun j => (atN L j).name == nme) = [] := by
    rw [List.filter_cons, hlast, if_neg (by simpa using hn)]; rfl
  rw [h1, List.append_nil]
  generalize blkAt H.length Fs = zs at hs
  clear hkl hL hno hE hF
  induction zs with
  | nil => rfl
  | cons z r ih =>
    have hz := hs z (by simp)
    rw [List.flatMap_cons, List.filter_append, ih fun y hy => hs y (by simp [hy]), List.map_cons, List.filter_cons, hz.2.2, if_neg (by simpa using hn), List.filter_cons, hz.2.1, if_pos (by simp)]
    rfl
/-- The entries are read, each by its fields. -/
theorem read_blks {L H E : List Nd} {u : Int} {nme : List UInt8} {Fs : List (List Fd)} (hL : L = H ++ blksN u nme H.length Fs ++ E) (hT : TreeAt L) (hu0 : 0 ≤ u) (hu : u < H.length) (hn : nme ≠ []) (hF : ∀ F ∈ Fs, ∀ f ∈ F, f.nm ≠ []) (hH : ∀ x ∈ H, x.up < H.length)
    (hE : E = [⟨[], [], [10], u⟩]) (hno : (kidsF u 0 H).filter (fun j => (atN L j).name == nme) = []) (G : Int → ItO) (g : List Fd → ItO) (hG : ∀ i F, F ∈ Fs → SaysF L i F → G i = g F) (many : Int) (hm : (Fs.length : Int) ≤ many) :
    readB L u nme G many = gatherB (Fs.map g) [] false := by
  obtain ⟨h1, h2⟩ := blks_named hL hT hu0 hu hn hF hH hE hno
  have hs := blkAt_snd Fs H.length
  unfold readB
  rw [h1, if_neg (by have := congrArg List.length hs; simp only [List.length_map] at this ⊢; omega)]
  congr 1
  have hmem : ∀ z ∈ blkAt H.length Fs, z.2 ∈ Fs := fun z hz => by rw [← hs]; exact List.mem_map.2 ⟨z, hz, rfl⟩
  rw [List.map_map]
  conv => rhs; rw [← hs, List.map_map]
  exact List.map_congr_left fun z hz => hG _ _ (hmem z hz) (h2 z hz)
end Go.Proofs.YtahohmdbiiknoaaDoor

/- Layer 15, plain: links; an entry of its fields and its link; the entries of a feed. -/
namespace Go.Proofs.YtahohmdbiiknoaaDoor
open Go.RowKit

def hrefL : List UInt8 := [104, 114, 101, 102]
def relL : List UInt8 := [114, 101, 108]
def altL : List UInt8 := [97, 108, 116, 101, 114, 110, 97, 116, 101]
def idL : List UInt8 := [105, 100]
def sumL : List UInt8 := [115, 117, 109, 109, 97, 114, 121]
def contL : List UInt8 := [99, 111, 110, 116, 101, 110, 116]
def updL : List UInt8 := [117, 112, 100, 97, 116, 101, 100]
def pubdL : List UInt8 := [112, 117, 98, 108, 105, 115, 104, 101, 100]
def feedL : List UInt8 := [102, 101, 101, 100]
def entryL : List UInt8 := [101, 110, 116, 114, 121]
/-- Are these the attributes of a link that leads somewhere? -/
def goodA (a : List At) : Bool := (attrB a hrefL).2 && (!(attrB a relL).2 || (attrB a relL).1 == altL)
/-- Where the first of links leads. -/
def leadB (L : List (List At)) : Option (List UInt8) := (L.find? goodA).map fun a => cleanB (attrB a hrefL).1
/-- A node's link. -/
def linkB (l : List Nd) (i : Int) : Option (List UInt8) := leadB (linksB l i)
/-- The first of two that is there. -/
def orB (a b : Option (List UInt8)) : Option (List UInt8) := match a with | some s => some s | none => b
/-- The entry of the fields F and the link L, where dates are read by R. -/
def oneA (F : List UInt8 → Option (List UInt8)) (L : Option (List UInt8)) (R : List UInt8 → Int × Bool) : It where
  guid := (F idL).getD []
  title := (F titleL).getD []
  link := L.getD []
  body := (orB (F sumL) (F contL)).getD []
  date := (R ((orB (F updL) (F pubdL)).getD [])).1
  dated := (R ((orB (F updL) (F pubdL)).getD [])).2
def itA (F : List UInt8 → Option (List UInt8)) (L : Option (List UInt8)) (R : List UInt8 → Int × Bool) (most : Int) : ItO :=
  if shortB (oneA F L R) most = false then .bad 6 else if (oneA F L R).guid = [] ∨ (oneA F L R).dated = false then .bad 7 else .it (oneA F L R)
/-- What Items says of a list of nodes. -/
def itsA (l : List Nd) (R : List UInt8 → Int × Bool) (many most : Int) : ItsO :=
  if l = [] ∨ (atN l 0).name ≠ feedL then .bad 5 else readB l 0 entryL (fun i => itA (fieldB l i) (linkB l i) R most) many
theorem itA_cases (F : List UInt8 → Option (List UInt8)) (L : Option (List UInt8)) (R : List UInt8 → Int × Bool) (most : Int) : itA F L R most = .bad 6 ∨ itA F L R most = .bad 7 ∨ ∃ x, itA F L R most = .it x := by
  unfold itA
  by_cases h1 : shortB (oneA F L R) most = false
  · rw [if_pos h1]; exact Or.inl rfl
  · rw [if_neg h1]
    by_cases h2 : (oneA F L R).guid = [] ∨ (oneA F L R).dated = false
    · rw [if_pos h2]; exact Or.inr (Or.inl rfl)
    · rw [if_neg h2]; exact Or.inr (Or.inr ⟨_, rfl⟩)
theorem itA_told {q l : List Nd} {j i : Int} (h : Told q j l i) (R : List UInt8 → Int × Bool) (most : Int) : itA (fieldB q j) (linkB q j) R most = itA (fieldB l i) (linkB l i) R most := by
  unfold linkB
  rw [h.links, show fieldB q j = fieldB l i from funext h.field]
theorem datedA (F : List UInt8 → Option (List UInt8)) (L : Option (List UInt8)) (R : List UInt8 → Int × Bool) : (oneA F L R).dated = (R ((orB (F updL) (F pubdL)).getD [])).2 := rfl
theorem r3339f_range {y m d c : Nat} {s : RSt} (h : (r3339f y m d c s).2 = true) : 0 ≤ (r3339f y m d c s).1 ∧ (r3339f y m d c s).1 ≤ 253402300799 := by
  unfold r3339f r3339g at h ⊢
  by_cases e1 : (skipC s [90]).1 = true
  · rw [if_pos e1] at h ⊢; exact dateC_range h
  · rw [if_neg e1] at h ⊢
    by_cases e2 : (skipC (skipC s [90]).2 [122]).1 = true
    · rw [if_pos e2] at h ⊢; exact dateC_range h
    · rw [if_neg e2] at h ⊢; exact dateC_range h
theorem r3339e_range {y m d c : Nat} {k : Bool × RSt} (h : (r3339e y m d c k).2 = true) : 0 ≤ (r3339e y m d c k).1 ∧ (r3339e y m d c k).1 ≤ 253402300799 := by
  unfold r3339e at h ⊢
  by_cases e1 : k.1 = true
  · rw [if_pos e1] at h ⊢; exact r3339f_range h
  · rw [if_neg e1] at h ⊢; exact r3339f_range h
theorem r3339C_range {l : List UInt8} (h : (r3339C l).2 = true) : 0 ≤ (r3339C l).1 ∧ (r3339C l).1 ≤ 253402300799 := by
  unfold r3339C r3339y r3339a r3339b r3339c r3339d at h ⊢
  exact r3339e_range h
/-- An entry of a feed as it should be. -/
theorem itA_it {F : List UInt8 → Option (List UInt8)} {L : Option (List UInt8)} {R : List UInt8 → Int × Bool} (hR : ∀ l, (R l).2 = true → 0 ≤ (R l).1 ∧ (R l).1 ≤ 253402300799) {most : Int} {x : It} (h : itA F L R most = .it x) : ItGood most x ∧ x.dated = true := by
  unfold itA at h
  by_cases h1 : shortB (oneA F L R) most = false
  · rw [if_pos h1] at h; cases h
  · rw [if_neg h1] at h
    have h1' : shortB (oneA F L R) most = true := by simpa using h1
    by_cases h2 : (oneA F L R).guid = [] ∨ (oneA F L R).dated = false
    · rw [if_pos h2] at h; cases h
    · rw [if_neg h2] at h
      injection h with h
      subst h
      clear h1
      have hd : (oneA F L R).dated = true := by
        cases hc : (oneA F L R).dated with
        | true => rfl
        | false => exact absurd (Or.inr hc) h2
      exact ⟨⟨fun e => h2 (Or.inl e), h1', fun hd => by rw [datedA] at hd; exact hR _ hd⟩, hd⟩
theorem readB_its {l : List Nd} {c : Int} {nm : List UInt8} {G : Int → ItO} {many : Int} {xs : List It} (h : readB l c nm G many = .its xs) : (xs.length : Int) ≤ many ∧ xs.length ≤ l.length ∧ ∀ x ∈ xs, ∃ i, G i = .it x := by
  unfold readB at h
  by_cases hm : many < ((namedB l c nm).length : Int)
  · rw [if_pos hm] at h; cases h
  · rw [if_neg hm] at h
    obtain ⟨_, ys, h2, h3⟩ := gatherB_all _ _ _ _ h
    rw [List.nil_append] at h3
    subst h3
    have hlen : (namedB l c nm).length = xs.length := by
      have := congrArg List.length h2
      simpa using this
    have := namedB_len l c nm
    refine ⟨by omega, by omega, fun x hx => ?_⟩
    have hmem : ItO.it x ∈ (namedB l c nm).map G := by rw [h2]; exact List.mem_map.2 ⟨x, hx, rfl⟩
    obtain ⟨i, _, e⟩ := List.mem_map.1 hmem
    exact ⟨i, e⟩
theorem itsA_its {l : List Nd} {many most : Int} {xs : List It} (h : itsA l r3339C many most = .its xs) : (xs.length : Int) ≤ many ∧ xs.length ≤ l.length ∧ ∀ x ∈ xs, ItGood most x ∧ x.dated = true := by
  unfold itsA at h
  split at h
  · cases h
  · obtain ⟨h1, h2, h3⟩ := readB_its h
    refine ⟨h1, h2, fun x hx => ?_⟩
    obtain ⟨i, e⟩ := h3 x hx
    exact itA_it (fun _ => r3339C_range) e
end Go.Proofs.YtahohmdbiiknoaaDoor

/- Layer 17, plain: the tokens of printed documents, and their nodes. -/
namespace Go.Proofs.YtahohmdbiiknoaaDoor

theorem foldB_cat : ∀ (a b : List Tk) (s : Bs), foldB s (a ++ b) = match foldB s a with | none => none | some s' => foldB s' b
  | [], b, s => rfl
  | x :: a, b, s => by
    rw [List.cons_append, foldB, foldB]
    cases takeB s x with
    | none => rfl
    | some s' => exact foldB_cat a b s'
theorem name_ne {nm : List UInt8} (h : nameB nm = true) : nm ≠ [] := by
  obtain ⟨c, r, rfl, _⟩ := name_head h
  simp
theorem take_begin {N : List Nd} {u : Int} {nm : List UInt8} (a : List At) (hu : u ≠ -1) (hn : nm ≠ []) : takeB ⟨N, u⟩ ⟨1, nm, a, []⟩ = some ⟨N ++ [⟨nm, a, [], u⟩], N.length⟩ := by
  unfold takeB
  rw [if_neg (fun e => hu e.1), if_pos ⟨rfl, hn⟩]; rfl
theorem take_empty {N : List Nd} {u : Int} {nm : List UInt8} (a : List At) (hu : u ≠ -1) (hn : nm ≠ []) : takeB ⟨N, u⟩ ⟨3, nm, a, []⟩ = some ⟨N ++ [⟨nm, a, [], u⟩], u⟩ := by
  unfold takeB
  rw [if_neg (fun e => hu e.1), if_neg (fun e => by simp at e), if_pos ⟨rfl, hn⟩]; rfl
theorem take_text {N : List Nd} {u : Int} (x : List UInt8) (hu : u ≠ -1) : takeB ⟨N, u⟩ (tx x) = some ⟨N ++ [⟨[], [], x, u⟩], u⟩ := by
  unfold takeB tx
  rw [if_neg (fun e => hu e.1), if_neg (fun e => by simp at e), if_neg (fun e => by simp at e), if_pos ⟨rfl, hu⟩]; rfl
theorem take_end {N : List Nd} {u : Int} {nm : List UInt8} (hu : u ≠ -1) (hn : (atN N u).name = nm) : takeB ⟨N, u⟩ ⟨2, nm, [], []⟩ = some ⟨N, upN N u⟩ := by
  unfold takeB
  rw [if_neg (fun e => hu e.1), if_neg (fun e => by simp at e), if_neg (fun e => by simp at e), if_neg (fun e => by simp at e), if_pos ⟨rfl, hu, hn.symm⟩]
theorem fold_field {N : List Nd} {u : Int} (hu : u ≠ -1) (f : Pf) (hf : f.ok = true) : foldB ⟨N, u⟩ f.toks = some ⟨N ++ elN f.fd u N.length, u⟩ := by
  cases f with
  | el nm x =>
    have hn := name_ne (show nameB nm = true from hf)
    unfold Pf.toks Pf.fd elN
    rw [foldB, take_begin [] hu hn]
    simp only
    by_cases hx : x = []
    · have hat := atN_mid N [] ⟨nm, [], [], u⟩
      rw [if_pos hx, if_pos hx, List.nil_append, foldB, take_end (by omega) (by rw [hat])]
      simp only [foldB]
      unfold upN
      rw [hat]
    · have hat := atN_mid N [⟨[], [], x, N.length⟩] ⟨nm, [], [], u⟩
      rw [if_neg hx, if_neg hx, List.singleton_append, foldB, take_text x (by omega)]
      simp only
      rw [List.append_assoc, List.singleton_append, foldB, take_end (by omega) (by rw [hat])]
      simp only [foldB]
      unfold upN
      rw [hat]
  | lk nm an x =>
    have hn : nameB nm = true ∧ nameB an = true := by have : (nameB nm && nameB an) = true := hf; simpa using this
    unfold Pf.toks Pf.fd elN
    rw [foldB, take_empty _ hu (name_ne hn.1)]
    rfl
theorem fold_fields {u : Int} (hu : u ≠ -1) : ∀ (F : List Pf) (N : List Nd), (∀ f ∈ F, f.ok = true) → foldB ⟨N, u⟩ (F.flatMap Pf.toks) = some ⟨N ++ fldN u N.length (F.map Pf.fd), u⟩
  | [], N, _ => by simp [foldB, fldN]
  | f :: r, N, h => by
    rw [List.flatMap_cons, foldB_cat, fold_field hu f (h f (by simp))]
    simp only
    rw [fold_fields hu r _ (fun g hg => h g (by simp [hg])), List.map_cons, fldN, List.length_append, elN_len, List.append_assoc]
theorem fold_item {N : List Nd} {u : Int} {nme : List UInt8} (hu : u ≠ -1) (hn : nme ≠ []) (F : List Pf) (h : ∀ f ∈ F, f.ok = true) : foldB ⟨N, u⟩ (itemT nme F) = some ⟨N ++ blkN u nme N.length (F.map Pf.fd), u⟩ := by
  unfold itemT blkN
  rw [foldB, take_text [10] hu]
  simp only
  rw [foldB, take_begin [] hu hn]
  simp only
  rw [foldB_cat, fold_fields (by omega) F _ h]
  simp only
  have hl : (N ++ [⟨[], [], [10], u⟩] : List Nd).length = N.length + 1 := by simp
  have hl2 : (N ++ [⟨[], [], [10], u⟩] ++ [⟨nme, [], [], u⟩] : List Nd).length = N.length + 2 := by simp
  rw [hl2, hl]
  have hat : atN (N ++ [⟨[], [], [10], u⟩] ++ [⟨nme, [], [], u⟩] ++ fldN ((N.length + 1 : Nat) : Int) (N.length + 2) (F.map Pf.fd)) ((N.length + 1 : Nat) : Int) = ⟨nme, [], [], u⟩ := by
    have := atN_mid (N ++ [⟨[], [], [10], u⟩]) (fldN ((N.length + 1 : Nat) : Int) (N.length + 2) (F.map Pf.fd)) ⟨nme, [], [], u⟩
    rw [hl] at this
    rw [List.append_assoc (N ++ _), List.singleton_append]
    exact this
  rw [foldB, take_end (by omega) (by rw [hat])]
  simp only [foldB]
  unfold upN
  rw [hat]
  simp
theorem fold_items {u : Int} {nme : List UInt8} (hu : u ≠ -1) (hn : nme ≠ []) : ∀ (Fs : List (List Pf)) (N : List Nd), (∀ F ∈ Fs, ∀ f ∈ F, f.ok = true) → foldB ⟨N, u⟩ (Fs.flatMap (itemT nme)) = some ⟨N ++ blksN u nme N.length (Fs.map fun F => F.map Pf.fd), u⟩
  | [], N, _ => by simp [foldB, blksN]
  | F :: r, N, h => by
    rw [List.flatMap_cons, foldB_cat, fold_item hu hn F (h F (by simp))]
    simp only
    rw [fold_items hu hn r _ (fun G hG => h G (by simp [hG])), List.map_cons, blksN, List.length_append, blkN_len, List.append_assoc]
    rw [show N.length + (2 + fldL (F.map Pf.fd)) = N.length + 2 + fldL (F.map Pf.fd) by omega]
/-- A document whose reader comes to its end. -/
theorem tokR_of {dep : Int} {l : List UInt8} {m : Nat} {s : Sc} (hg : goodN l = l.length) (hp : preR l = some m) (hf : finR dep sc0 (l.drop m) = (none, s)) (hr : s.rooted = true) (ho : s.opn = []) : tokR dep l = .toks s.toks := by
  have h := loopK_off (stepR_steps dep) sc0 (l.drop m) 0 m
  rw [Nat.add_zero] at h
  unfold finR at hf
  injection hf with h1 h2
  unfold tokR
  rw [hg, List.take_length, hp]
  simp only
  rw [h, h1, h2]
  simp only
  rw [if_neg (by rw [hr, ho]; simp)]
theorem finR_blank {dep : Int} {s : Sc} (ho : s.opn = []) (d : List UInt8) (hd : spanN blI (10 :: d) = 1) : finR dep s (10 :: d) = finR dep s d := by
  refine finR_step (n := 1) ?_
  unfold stepR outerR
  rw [if_neg (by simp), if_pos ho, hd, if_pos (by omega)]

def headL : List UInt8 := [60, 63, 120, 109, 108, 32, 118, 101, 114, 115, 105, 111, 110, 61, 34, 49, 46, 48, 34, 63, 62]
def verL : List UInt8 := [118, 101, 114, 115, 105, 111, 110]
def twoL : List UInt8 := [50, 46, 48]
def newsL : List UInt8 := [110, 101, 119, 115, 114, 101, 101, 108]
def nsL : List UInt8 := [120, 109, 108, 110, 115]
def w3L : List UInt8 := [104, 116, 116, 112, 58, 47, 47, 119, 119, 119, 46, 119, 51, 46, 111, 114, 103, 47, 50, 48, 48, 53, 47, 65, 116, 111, 109]
/-- A document of RSS, with these fields of each entry. -/
def rssD (Fs : List (List Pf)) : List UInt8 :=
  headL ++ 10 :: 60 :: (rssL ++ 32 :: (verL ++ 61 :: 34 :: (escB twoL ++ 34 :: 62 :: 60 :: (chanL ++ 62 :: ((Pf.el titleL newsL).bytes ++ 10 :: (Fs.flatMap (itemP itemL) ++ 60 :: 47 :: (chanL ++ 62 :: 60 :: 47 :: (rssL ++ [62, 10]))))))))
def rssT (Fs : List (List Pf)) : List Tk := [⟨1, rssL, [(verL, twoL)], []⟩, ⟨1, chanL, [], []⟩] ++ (Pf.el titleL newsL).toks ++ Fs.flatMap (itemT itemL) ++ [tx [10], ⟨2, chanL, [], []⟩, ⟨2, rssL, [], []⟩]
def rssH : List Nd := [⟨rssL, [(verL, twoL)], [], -1⟩, ⟨chanL, [], [], 0⟩, ⟨titleL, [], [], 1⟩, ⟨[], [], newsL, 2⟩]
def rssN (Fs : List (List Pf)) : List Nd := rssH ++ blksN 1 itemL 4 (Fs.map fun F => F.map Pf.fd) ++ [⟨[], [], [10], 1⟩]
theorem rss_toks {Fs : List (List Pf)} (h : ∀ F ∈ Fs, ∀ f ∈ F, f.ok = true) : finR 8 sc0 (10 :: 60 :: (rssL ++ 32 :: (verL ++ 61 :: 34 :: (escB twoL ++ 34 :: 62 :: 60 :: (chanL ++ 62 :: ((Pf.el titleL newsL).bytes ++ 10 :: (Fs.flatMap (itemP itemL) ++ 60 :: 47 :: (chanL ++ 62 :: 60 :: 47 :: (rssL ++ [62, 10]))))))))) = (none, ⟨true, [], [], rssT Fs⟩) := by
  rw [finR_blank rfl _ rfl, (finR_begin1 (nm := rssL) (an := verL) (by decide) (by decide) (Or.inr rfl) (by decide) twoL _).1, finR_begin (nm := chanL) (by decide) (Or.inl (by simp)) (by decide)]
  show finR 8 ⟨true, [rssL, chanL], [], [⟨1, rssL, [(verL, twoL)], []⟩, ⟨1, chanL, [], []⟩]⟩ _ = _
  rw [finR_field (by simp) (by decide) _ (by decide), finR_byte (by simp) (by decide) (by decide)]
  show finR 8 ⟨true, [rssL, chanL], [10], _⟩ _ = _
  rw [finR_items (by simp) (by decide) (by decide) Fs _ _ h, finR_end (nm := chanL) (o := [rssL]) (by decide) rfl, finR_end (nm := rssL) (o := []) (by decide) rfl, finR_blank rfl _ rfl, finR_nil]
  unfold rssT addT tx
  simp
theorem rss_nodes {Fs : List (List Pf)} (h : ∀ F ∈ Fs, ∀ f ∈ F, f.ok = true) : buildB (rssT Fs) = some (rssN Fs) := by
  have e1 : foldB bs0 ([⟨1, rssL, [(verL, twoL)], []⟩, ⟨1, chanL, [], []⟩] ++ (Pf.el titleL newsL).toks) = some ⟨rssH, 1⟩ := by kernel_rfl
  have e2 : foldB bs0 (rssT Fs) = some ⟨rssN Fs, -1⟩ := by
    unfold rssT
    rw [List.append_assoc, foldB_cat, e1]
    simp only
    rw [foldB_cat, fold_items (by decide) (by decide) Fs rssH h]
    simp only
    rw [foldB, take_text [10] (by decide)]
    simp only
    rw [foldB, take_end (by decide) (show (atN _ 1).name = chanL from rfl)]
    simp only
    rw [show upN (rssH ++ blksN 1 itemL rssH.length (Fs.map fun F => F.map Pf.fd) ++ [⟨[], [], [10], 1⟩]) 1 = 0 from rfl, foldB, take_end (by decide) (show (atN _ 0).name = rssL from rfl)]
    rfl
  unfold buildB
  rw [e2]
  simp only
  rw [if_pos ⟨trivial, by unfold rssN rssH; simp⟩]
theorem rss_docN {Fs : List (List Pf)} (h : ∀ F ∈ Fs, ∀ f ∈ F, f.ok = true) (hg : goodN (rssD Fs) = (rssD Fs).length) : tokR 8 (rssD Fs) = .toks (rssT Fs) := by
  exact tokR_of (m := 21) (s := ⟨true, [], [], rssT Fs⟩) hg (by unfold rssD headL; rfl) (rss_toks h) rfl rfl

/-- A document of Atom, with these fields of each entry. -/
def atomD (Fs : List (List Pf)) : List UInt8 :=
  headL ++ 10 :: 60 :: (feedL ++ 32 :: (nsL ++ 61 :: 34 :: (escB w3L ++ 34 :: 62 :: ((Pf.el titleL newsL).bytes ++ 10 :: (Fs.flatMap (itemP entryL) ++ 60 :: 47 :: (feedL ++ [62, 10]))))))
def atomT (Fs : List (List Pf)) : List Tk := [⟨1, feedL, [(nsL, w3L)], []⟩] ++ (Pf.el titleL newsL).toks ++ Fs.flatMap (itemT entryL) ++ [tx [10], ⟨2, feedL, [], []⟩]
def atomH : List Nd := [⟨feedL, [(nsL, w3L)], [], -1⟩, ⟨titleL, [], [], 0⟩, ⟨[], [], newsL, 1⟩]
def atomN (Fs : List (List Pf)) : List Nd := atomH ++ blksN 0 entryL 3 (Fs.map fun F => F.map Pf.fd) ++ [⟨[], [], [10], 0⟩]
theorem atom_toks {Fs : List (List Pf)} (h : ∀ F ∈ Fs, ∀ f ∈ F, f.ok = true) : finR 8 sc0 (10 :: 60 :: (feedL ++ 32 :: (nsL ++ 61 :: 34 :: (escB w3L ++ 34 :: 62 :: ((Pf.el titleL newsL).bytes ++ 10 :: (Fs.flatMap (itemP entryL) ++ 60 :: 47 :: (feedL ++ [62, 10]))))))) = (none, ⟨true, [], [], atomT Fs⟩) := by
  rw [finR_blank rfl _ rfl, (finR_begin1 (nm := feedL) (an := nsL) (by decide) (by decide) (Or.inr rfl) (by decide) w3L _).1]
  show finR 8 ⟨true, [feedL], [], [⟨1, feedL, [(nsL, w3L)], []⟩]⟩ _ = _
  rw [finR_field (by simp) (by decide) _ (by decide), finR_byte (by simp) (by decide) (by decide)]
  show finR 8 ⟨true, [feedL], [10], _⟩ _ = _
  rw [finR_items (by simp) (by decide) (by decide) Fs _ _ h, finR_end (nm := feedL) (o := []) (by decide) rfl, finR_blank rfl _ rfl, finR_nil]
  unfold atomT addT tx
  simp
theorem atom_nodes {Fs : List (List Pf)} (h : ∀ F ∈ Fs, ∀ f ∈ F, f.ok = true) : buildB (atomT Fs) = some (atomN Fs) := by
  have e1 : foldB bs0 ([⟨1, feedL, [(nsL, w3L)], []⟩] ++ (Pf.el titleL newsL).toks) = some ⟨atomH, 0⟩ := by kernel_rfl
  have e2 : foldB bs0 (atomT Fs) = some ⟨atomN Fs, -1⟩ := by
    unfold atomT
    rw [List.append_assoc, foldB_cat, e1]
    simp only
    rw [foldB_cat, fold_items (by decide) (by decide) Fs atomH h]
    simp only
    rw [foldB, take_text [10] (by decide)]
    simp only
    rw [foldB, take_end (by decide) (show (atN _ 0).name = feedL from rfl)]
    rfl
  unfold buildB
  rw [e2]
  simp only
  rw [if_pos ⟨trivial, by unfold atomN atomH; simp⟩]
theorem atom_docN {Fs : List (List Pf)} (h : ∀ F ∈ Fs, ∀ f ∈ F, f.ok = true) (hg : goodN (atomD Fs) = (atomD Fs).length) : tokR 8 (atomD Fs) = .toks (atomT Fs) := by
  exact tokR_of (m := 21) (s := ⟨true, [], [], atomT Fs⟩) hg (by unfold atomD headL; rfl) (atom_toks h) rfl rfl
end Go.Proofs.YtahohmdbiiknoaaDoor

/- Layer 13, plain: dates as texts; single bytes ahead of a text. -/
namespace Go.Proofs.YtahohmdbiiknoaaDoor

/-- A digit. -/
def dig (k : Nat) : UInt8 := UInt8.ofNat (48 + k)
def two13 (n : Nat) : List UInt8 := [dig (n / 10), dig (n % 10)]
def four13 (n : Nat) : List UInt8 := [dig (n / 1000), dig (n / 100 % 10), dig (n / 10 % 10), dig (n % 10)]
/-- Hours, minutes, seconds. -/
def clock13 (n : Nat) : List UInt8 := two13 (n / 3600) ++ [58] ++ two13 (n / 60 % 60) ++ [58] ++ two13 (n % 60)
/-- A date of RFC 3339, of one that is a date. -/
def p39 (y m d c : Nat) : List UInt8 := four13 y ++ [45] ++ two13 m ++ [45] ++ two13 d ++ [84] ++ clock13 c ++ [90]
def p82 (k y m d c : Nat) : List UInt8 := weekL.getD k [] ++ [44, 32] ++ two13 d ++ [32] ++ monthsL.getD (m - 1) [] ++ [32] ++ four13 y ++ [32] ++ clock13 c ++ [32, 71, 77, 84]
def print39 (n : Int) : List UInt8 := if n < 0 ∨ 253402300799 < n then [] else p39 (civN (n.toNat / 86400)).1 (civN (n.toNat / 86400)).2.1 (civN (n.toNat / 86400)).2.2 (n.toNat % 86400)
def print82 (n : Int) : List UInt8 := if n < 0 ∨ 253402300799 < n then [] else p82 ((n.toNat / 86400 + 3) % 7) (civN (n.toNat / 86400)).1 (civN (n.toNat / 86400)).2.1 (civN (n.toNat / 86400)).2.2 (n.toNat % 86400)
theorem pre_nil (c : UInt8) : Lib.hasPrefix [] [c] = false := rfl
theorem pre_cons (c x : UInt8) (t : List UInt8) : Lib.hasPrefix (x :: t) [c] = (c == x) := by
  show (c == x && List.isPrefixOf [] t) = (c == x)
  simp
theorem trim_cons (c : UInt8) (t : List UInt8) : Lib.trimPrefix (c :: t) [c] = t := by
  unfold Lib.trimPrefix
  rw [if_pos (by rw [pre_cons]; simp)]
  rfl
theorem trim_not {c x : UInt8} (h : c ≠ x) (t : List UInt8) : Lib.trimPrefix (x :: t) [c] = x :: t := by
  unfold Lib.trimPrefix
  rw [if_neg (by rw [pre_cons]; simpa using h)]
theorem skip_nil (c : UInt8) (b : Bool) : skipC ([], b) [c] = (false, ([], b)) := rfl
theorem skip_yes (c : UInt8) (t : List UInt8) (b : Bool) : skipC (c :: t, b) [c] = (true, (t, b)) := by
  unfold skipC; show (Lib.hasPrefix (c :: t) [c], (Lib.trimPrefix (c :: t) [c], b)) = _; rw [trim_cons, pre_cons]; simp
theorem skip_no {c x : UInt8} (h : c ≠ x) (t : List UInt8) (b : Bool) : skipC (x :: t, b) [c] = (false, (x :: t, b)) := by
  unfold skipC; show (Lib.hasPrefix (x :: t) [c], (Lib.trimPrefix (x :: t) [c], b)) = _; rw [trim_not h, pre_cons]; simp [h]
theorem sign_nil (c : UInt8) (b : Bool) : signC ([], b) [c] = ([], true) := rfl
theorem sign_yes (c : UInt8) (t : List UInt8) (b : Bool) : signC (c :: t, b) [c] = (t, b) := by
  unfold signC; show (Lib.trimPrefix (c :: t) [c], (if Lib.hasPrefix (c :: t) [c] = true then b else true)) = _; rw [trim_cons, pre_cons]; simp
theorem sign_no {c x : UInt8} (h : c ≠ x) (t : List UInt8) (b : Bool) : signC (x :: t, b) [c] = (x :: t, true) := by
  unfold signC; show (Lib.trimPrefix (x :: t) [c], (if Lib.hasPrefix (x :: t) [c] = true then b else true)) = _; rw [trim_not h, pre_cons]; simp [h]
theorem bt_cons (x : UInt8) (t : List UInt8) : bt (x :: t) 0 = (x.toNat : Int) := by unfold bt; rfl
theorem bt_is {x c : UInt8} {t : List UInt8} : (bt (x :: t) 0 = (c.toNat : Int)) ↔ c = x := by
  rw [bt_cons]
  constructor
  · intro h; exact (UInt8.toNat_inj.1 (by omega)).symm
  · rintro rfl; rfl

theorem three_is {n : List UInt8} (h : n.length = 3) : ∃ x y z, n = [x, y, z] := by
  match n, h with
  | [x, y, z], _ => exact ⟨x, y, z, rfl⟩
theorem pre_three {n : List UInt8} (h : n.length = 3) (a b c : UInt8) (r : List UInt8) : Lib.hasPrefix (a :: b :: c :: r) n = (n == [a, b, c]) := by
  obtain ⟨x, y, z, rfl⟩ := three_is h
  unfold Lib.hasPrefix
  simp [List.isPrefixOf]
theorem pre_five {n : List UInt8} (h : n.length = 3) (a b c d e : UInt8) (r : List UInt8) : Lib.hasPrefix (a :: b :: c :: d :: e :: r) (n ++ [44, 32]) = (n == [a, b, c] && ([d, e] == [44, 32])) := by
  obtain ⟨x, y, z, rfl⟩ := three_is h
  unfold Lib.hasPrefix
  have e1 : ((44 : UInt8) == d) = (d == 44) := by rw [Bool.eq_iff_iff, beq_iff_eq, beq_iff_eq]; exact eq_comm
  have e2 : ((32 : UInt8) == e) = (e == 32) := by rw [Bool.eq_iff_iff, beq_iff_eq, beq_iff_eq]; exact eq_comm
  simp [List.isPrefixOf, e1, e2, Bool.and_assoc]
theorem months_three : ∀ n ∈ monthsL, n.length = 3 := by decide
theorem week_three : ∀ n ∈ weekL, n.length = 3 := by decide
end Go.Proofs.YtahohmdbiiknoaaDoor
