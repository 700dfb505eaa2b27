/- Layer 17, plain: printed attributes, fields and entries are read as tokens. -/
import Derived.Test.YtahohmdbiiknoaaGreatDoorBR06
import Derived.Test.YtahohmdbiiknoaaGreatDoorBR01
import Derived.Deep.MidRow
import Derived.Deep.DeepMust
import Derived.Laws.OwnMore
import Derived.Maps.AppendAt
import Derived.Test.YtahohmdbiiknoaaGreatDoorBR02
import Derived.Test.YtahohmdbiiknoaaGreatDoorBR04
namespace Go.Proofs.YtahohmdbiiknoaaGreatDoor

theorem ix_sign2 {c : UInt8} (h1 : c ≠ 60) (h2 : c ≠ 34) : Lib.indexByte [60, 34] c = -1 := by
  have e1 : ((60 : UInt8) == c) = false := by rw [beq_eq_false_iff_ne]; exact fun e => h1 e.symm
  have e2 : ((34 : UInt8) == c) = false := by rw [beq_eq_false_iff_ne]; exact fun e => h2 e.symm
  simp [Lib.indexByte, e1, e2]
theorem runK_esc (t : List UInt8) : ∀ (x acc : List UInt8) (k : Nat), loopK (runF [60, 34]) acc (escB x ++ 34 :: t) k = (none, acc ++ x, k + (escB x).length)
  | [], acc, k => by
    have e : runF [60, 34] acc (34 :: t) = .stop := by rw [runF, if_pos (by decide)]
    show loopK (runF [60, 34]) acc (34 :: t) k = _
    rw [loopK_stop k e]
    simp [escB]
  | c :: x, acc, k => by
    have e : escB (c :: x) ++ 34 :: t = esc1 c ++ (escB x ++ 34 :: t) := by unfold escB; simp
    have el : (escB (c :: x)).length = (esc1 c).length + (escB x).length := by unfold escB; simp
    rw [e, el]
    rcases esc1_ways c with ⟨h1, h2, h3, _, h5⟩ | ⟨r, h1, h2⟩
    · rw [h1]
      have h : runF [60, 34] acc ([c] ++ (escB x ++ 34 :: t)) = .go (acc ++ [c]) 1 := by
        rw [List.singleton_append, runF, if_neg (by rw [ix_sign2 h3 h5]; decide), if_pos h2]
      rw [loopK_go (runF_steps _) k h]
      show loopK (runF [60, 34]) (acc ++ [c]) (escB x ++ 34 :: t) (k + 1) = _
      rw [runK_esc t x (acc ++ [c]) (k + 1)]
      simp
      omega
    · have h3 := h2 (escB x ++ 34 :: t)
      have h : runF [60, 34] acc (esc1 c ++ (escB x ++ 34 :: t)) = .go (acc ++ [c]) (esc1 c).length := by
        rw [h1] at h3 ⊢
        rw [List.cons_append, runF, if_neg (by decide), if_neg (by decide)]
        rw [List.cons_append] at h3
        rw [h3]
      rw [loopK_go (runF_steps _) k h, List.drop_left, runK_esc t x (acc ++ [c])]
      simp
      omega
theorem valueP_esc (x t : List UInt8) : valueP (34 :: (escB x ++ 34 :: t)) = some (x, 1 + (escB x).length + 1) := by
  have h39 : Lib.hasPrefix (34 :: (escB x ++ 34 :: t)) [39] = false := pre_ne (by decide) _ _
  have hr : runP [60, 34] (escB x ++ 34 :: t) = some (x, (escB x).length) := by unfold runP; rw [runK_esc]; simp
  unfold valueP
  rw [h39]
  simp only [Bool.false_eq_true, if_false]
  rw [if_neg (by rw [pre_own1]; decide), show (34 :: (escB x ++ 34 :: t)).drop 1 = escB x ++ 34 :: t from rfl, hr]
  simp only
  rw [show (34 :: (escB x ++ 34 :: t)).drop (1 + (escB x).length) = 34 :: t by rw [Nat.add_comm, List.drop_succ_cons, List.drop_left], if_pos (pre_own1 _ _)]
theorem attrP_esc {nm : List UInt8} (hn : nameB nm = true) (x t : List UInt8) : attrP (nm ++ 61 :: 34 :: (escB x ++ 34 :: t)) = some ((nm, x), nm.length + 1 + (1 + (escB x).length + 1)) := by
  have h0 : spanN blI (61 :: 34 :: (escB x ++ 34 :: t)) = 0 := rfl
  have h1 : spanN blI (34 :: (escB x ++ 34 :: t)) = 0 := rfl
  have hd : (nm ++ 61 :: 34 :: (escB x ++ 34 :: t)).drop (nm.length + 1) = 34 :: (escB x ++ 34 :: t) := by rw [← List.drop_drop, List.drop_left]; rfl
  unfold attrP
  rw [nameP_app hn (by decide)]
  simp only
  rw [List.drop_left, h0, Nat.add_zero, List.drop_left, if_neg (by rw [pre_own1]; decide), hd, h1, Nat.add_zero, hd, valueP_esc]
/-- One attribute, up to the element's end. -/
theorem attrsR_one {nm : List UInt8} (hn : nameB nm = true) (x t : List UInt8) :
    attrsR (32 :: (nm ++ 61 :: 34 :: (escB x ++ 34 :: 62 :: t))) = some (([(nm, x)], false), nm.length + 1 + (1 + (escB x).length + 1) + 2) ∧
    attrsR (32 :: (nm ++ 61 :: 34 :: (escB x ++ 34 :: 47 :: 62 :: t))) = some (([(nm, x)], true), nm.length + 1 + (1 + (escB x).length + 1) + 3) := by
  have key : ∀ (c : UInt8) (r : List UInt8), attrsRF [(nm, x)] (c :: r) = .stop → spanN blI (c :: r) = 0 → attrsR (32 :: (nm ++ 61 :: 34 :: (escB x ++ 34 :: c :: r))) =
      if Lib.hasPrefix (c :: r) [62] then some (([(nm, x)], false), nm.length + 1 + (1 + (escB x).length + 1) + 1 + 1)
      else if Lib.hasPrefix (c :: r) [47, 62] then some (([(nm, x)], true), nm.length + 1 + (1 + (escB x).length + 1) + 1 + 2) else none := by
    intro c r hst hsp
    obtain ⟨a, b, rfl, ha⟩ := name_head hn
    obtain ⟨_, h47, _, _, hbl⟩ := lead_ne ha
    have h62 : a ≠ 62 := by rintro rfl; revert ha; decide
    have hs1 : spanN blI (32 :: ((a :: b) ++ 61 :: 34 :: (escB x ++ 34 :: c :: r))) = 1 := by
      rw [spanN, if_pos (by decide), List.cons_append, spanN, if_neg (by rw [hbl]; decide)]
    have h : attrsRF [] (32 :: ((a :: b) ++ 61 :: 34 :: (escB x ++ 34 :: c :: r))) = .go [(a :: b, x)] (1 + ((a :: b).length + 1 + (1 + (escB x).length + 1))) := by
      unfold attrsRF
      rw [hs1, show (32 :: ((a :: b) ++ 61 :: 34 :: (escB x ++ 34 :: c :: r))).drop 1 = (a :: b) ++ 61 :: 34 :: (escB x ++ 34 :: c :: r) from rfl, attrP_esc hn,
        if_neg (by rw [List.cons_append, pre_ne h62]; decide), if_neg (by rw [List.cons_append, pre_ne h47]; decide), if_neg (by simp)]
      rfl
    have hdrop : (32 :: ((a :: b) ++ 61 :: 34 :: (escB x ++ 34 :: c :: r))).drop (1 + ((a :: b).length + 1 + (1 + (escB x).length + 1))) = c :: r := by
      rw [Nat.add_comm 1, List.drop_succ_cons, show (a :: b).length + 1 + (1 + (escB x).length + 1) = (a :: b).length + (1 + (1 + ((escB x).length + 1))) by omega, ← List.drop_drop, List.drop_left]
      rw [Nat.add_comm 1, List.drop_succ_cons, Nat.add_comm 1, List.drop_succ_cons, ← List.drop_drop, List.drop_left]
      rfl
    unfold attrsR
    rw [loopK_go attrsRF_steps 0 h, hdrop, loopK_stop _ hst]
    simp only [Nat.zero_add]
    rw [hdrop, hsp, Nat.add_zero, hdrop]
    rw [show 1 + ((a :: b).length + 1 + (1 + (escB x).length + 1)) + 1 = (a :: b).length + 1 + (1 + (escB x).length + 1) + 1 + 1 by omega, show 1 + ((a :: b).length + 1 + (1 + (escB x).length + 1)) + 2 = (a :: b).length + 1 + (1 + (escB x).length + 1) + 1 + 2 by omega]
  constructor
  · rw [key 62 t (by unfold attrsRF; rw [show spanN blI (62 :: t) = 0 from rfl, List.drop_zero, if_pos (pre_own1 _ _)]) rfl, if_pos (pre_own1 _ _)]
  · rw [key 47 (62 :: t) (by unfold attrsRF; rw [show spanN blI (47 :: 62 :: t) = 0 from rfl, List.drop_zero, if_neg (by rw [pre_ne (by decide)]; decide), if_pos (by unfold Lib.hasPrefix; simp)]) rfl,
      if_neg (by rw [pre_ne (by decide)]; decide), if_pos (by unfold Lib.hasPrefix; simp)]
section
variable {dep : Int} {s : Sc}
theorem finR_begin1 {nm an : List UInt8} (hn : nameB nm = true) (ha : nameB an = true) (ho : s.opn ≠ [] ∨ s.rooted = false) (hd : (s.opn.length : Int) < dep) (x d : List UInt8) :
    finR dep s (60 :: (nm ++ 32 :: (an ++ 61 :: 34 :: (escB x ++ 34 :: 62 :: d)))) = finR dep ⟨true, s.opn ++ [nm], [], addT s.text s.toks ⟨1, nm, [(an, x)], []⟩⟩ d ∧
    finR dep s (60 :: (nm ++ 32 :: (an ++ 61 :: 34 :: (escB x ++ 34 :: 47 :: 62 :: d)))) = finR dep ⟨true, s.opn, [], addT s.text s.toks ⟨3, nm, [(an, x)], []⟩⟩ d := by
  obtain ⟨c, r, rfl, hc⟩ := name_head hn
  obtain ⟨h1, h2⟩ := attrsR_one ha x d
  have hcut : ∀ (y : List UInt8) (m : Nat), (60 :: ((c :: r) ++ y)).drop (1 + (c :: r).length + m) = y.drop m := fun y m => by
    rw [show 1 + (c :: r).length + m = ((c :: r).length + m) + 1 by omega, List.drop_succ_cons, ← List.drop_drop, List.drop_left]
  have hdr : ∀ y : List UInt8, (60 :: ((c :: r) ++ y)).drop (1 + (c :: r).length) = y := fun y => by have := hcut y 0; simpa using this
  constructor
  · have h : beginR dep s (60 :: ((c :: r) ++ 32 :: (an ++ 61 :: 34 :: (escB x ++ 34 :: 62 :: d)))) = .go ⟨true, s.opn ++ [c :: r], [], addT s.text s.toks ⟨1, c :: r, [(an, x)], []⟩⟩ (1 + (c :: r).length + (an.length + 1 + (1 + (escB x).length + 1) + 2)) := by
      unfold beginR
      rw [if_neg (by omega), show (60 :: ((c :: r) ++ 32 :: (an ++ 61 :: 34 :: (escB x ++ 34 :: 62 :: d)))).drop 1 = (c :: r) ++ 32 :: (an ++ 61 :: 34 :: (escB x ++ 34 :: 62 :: d)) from rfl, nameP_app hn (by decide)]
      simp only
      rw [hdr, h1]
    refine (finR_beginR hc ho (r := r ++ 32 :: (an ++ 61 :: 34 :: (escB x ++ 34 :: 62 :: d))) h).trans ?_
    congr 1
    refine (hcut _ _).trans ?_
    rw [show an.length + 1 + (1 + (escB x).length + 1) + 2 = (an.length + (1 + (1 + ((escB x).length + (1 + 1))))) + 1 by omega, List.drop_succ_cons, ← List.drop_drop, List.drop_left, Nat.add_comm 1, List.drop_succ_cons, Nat.add_comm 1, List.drop_succ_cons, ← List.drop_drop, List.drop_left]
    rfl
  · have h : beginR dep s (60 :: ((c :: r) ++ 32 :: (an ++ 61 :: 34 :: (escB x ++ 34 :: 47 :: 62 :: d)))) = .go ⟨true, s.opn, [], addT s.text s.toks ⟨3, c :: r, [(an, x)], []⟩⟩ (1 + (c :: r).length + (an.length + 1 + (1 + (escB x).length + 1) + 3)) := by
      unfold beginR
      rw [if_neg (by omega), show (60 :: ((c :: r) ++ 32 :: (an ++ 61 :: 34 :: (escB x ++ 34 :: 47 :: 62 :: d)))).drop 1 = (c :: r) ++ 32 :: (an ++ 61 :: 34 :: (escB x ++ 34 :: 47 :: 62 :: d)) from rfl, nameP_app hn (by decide)]
      simp only
      rw [hdr, h2]
    refine (finR_beginR hc ho (r := r ++ 32 :: (an ++ 61 :: 34 :: (escB x ++ 34 :: 47 :: 62 :: d))) h).trans ?_
    congr 1
    refine (hcut _ _).trans ?_
    rw [show an.length + 1 + (1 + (escB x).length + 1) + 3 = (an.length + (1 + (1 + ((escB x).length + (1 + 1 + 1))))) + 1 by omega, List.drop_succ_cons, ← List.drop_drop, List.drop_left, Nat.add_comm 1, List.drop_succ_cons, Nat.add_comm 1, List.drop_succ_cons, ← List.drop_drop, List.drop_left]
    rfl
end
/-- A field as it is printed: an element with a text, an empty one with an attribute. -/
inductive Pf where
  | el (nm x : List UInt8)
  | lk (nm an x : List UInt8)
def Pf.bytes : Pf → List UInt8
  | .el nm x => 60 :: (nm ++ 62 :: (escB x ++ 60 :: 47 :: (nm ++ [62])))
  | .lk nm an x => 60 :: (nm ++ 32 :: (an ++ 61 :: 34 :: (escB x ++ [34, 47, 62])))
def tx (x : List UInt8) : Tk := ⟨4, [], [], x⟩
def Pf.toks : Pf → List Tk
  | .el nm x => ⟨1, nm, [], []⟩ :: ((if x = [] then [] else [tx x]) ++ [⟨2, nm, [], []⟩])
  | .lk nm an x => [⟨3, nm, [(an, x)], []⟩]
def Pf.fd : Pf → Fd
  | .el nm x => ⟨nm, [], x⟩
  | .lk nm an x => ⟨nm, [(an, x)], []⟩
def Pf.ok : Pf → Bool
  | .el nm _ => nameB nm
  | .lk nm an _ => nameB nm && nameB an
theorem addT_tx (x : List UInt8) (T : List Tk) (y : Tk) : addT x T y = T ++ ((if x = [] then [] else [tx x]) ++ [y]) := by
  unfold addT tx
  cases x <;> simp
theorem finR_field {dep : Int} {o : List (List UInt8)} (ho : o ≠ []) (hd : (o.length : Int) < dep) (f : Pf) (hf : f.ok = true) (T : List Tk) (d : List UInt8) :
    finR dep ⟨true, o, [], T⟩ (f.bytes ++ d) = finR dep ⟨true, o, [], T ++ f.toks⟩ d := by
  cases f with
  | el nm x =>
    have hn : nameB nm = true := hf
    have e : (Pf.el nm x).bytes ++ d = 60 :: (nm ++ 62 :: (escB x ++ 60 :: 47 :: (nm ++ 62 :: d))) := by unfold Pf.bytes; simp
    rw [e, finR_begin hn (Or.inl ho) hd, finR_esc x _ _ (by simp), finR_end (o := o) hn rfl]
    unfold moreT
    simp only [List.nil_append]
    rw [addT_tx]
    unfold addT Pf.toks
    simp
  | lk nm an x =>
    have hn : nameB nm = true ∧ nameB an = true := by have : (nameB nm && nameB an) = true := hf; simpa using this
    have e : (Pf.lk nm an x).bytes ++ d = 60 :: (nm ++ 32 :: (an ++ 61 :: 34 :: (escB x ++ 34 :: 47 :: 62 :: d))) := by unfold Pf.bytes; simp
    rw [e, (finR_begin1 hn.1 hn.2 (Or.inl ho) hd x d).2]
    unfold addT Pf.toks
    simp
theorem finR_fields {dep : Int} {o : List (List UInt8)} (ho : o ≠ []) (hd : (o.length : Int) < dep) : ∀ (F : List Pf) (T : List Tk) (d : List UInt8), (∀ f ∈ F, f.ok = true) →
    finR dep ⟨true, o, [], T⟩ (F.flatMap Pf.bytes ++ d) = finR dep ⟨true, o, [], T ++ F.flatMap Pf.toks⟩ d
  | [], T, d, _ => by simp
  | f :: r, T, d, h => by
    rw [List.flatMap_cons, List.append_assoc, finR_field ho hd f (h f (by simp)), finR_fields ho hd r _ d (fun g hg => h g (by simp [hg])), List.flatMap_cons, List.append_assoc]
/-- An entry, and the line's end behind it. -/
def itemP (nme : List UInt8) (F : List Pf) : List UInt8 := 60 :: (nme ++ 62 :: (F.flatMap Pf.bytes ++ 60 :: 47 :: (nme ++ [62, 10])))
def itemT (nme : List UInt8) (F : List Pf) : List Tk := tx [10] :: ⟨1, nme, [], []⟩ :: (F.flatMap Pf.toks ++ [⟨2, nme, [], []⟩])
theorem finR_item {dep : Int} {o : List (List UInt8)} (ho : o ≠ []) (hd : (o.length : Int) + 1 < dep) {nme : List UInt8} (hn : nameB nme = true) (F : List Pf) (T : List Tk) (d : List UInt8) (h : ∀ f ∈ F, f.ok = true) :
    finR dep ⟨true, o, [10], T⟩ (itemP nme F ++ d) = finR dep ⟨true, o, [10], T ++ itemT nme F⟩ d := by
  have e : itemP nme F ++ d = 60 :: (nme ++ 62 :: (F.flatMap Pf.bytes ++ 60 :: 47 :: (nme ++ 62 :: (10 :: d)))) := by unfold itemP; simp
  rw [e, finR_begin hn (Or.inl ho) (by show (o.length : Int) < dep; omega)]
  show finR dep ⟨true, o ++ [nme], [], _⟩ _ = _
  rw [finR_fields (by simp) (by simp; omega) F _ _ h, finR_end (o := o) hn rfl, finR_byte (by exact ho) (by decide) (by decide)]
  unfold moreT itemT addT tx
  simp
theorem finR_items {dep : Int} {o : List (List UInt8)} (ho : o ≠ []) (hd : (o.length : Int) + 1 < dep) {nme : List UInt8} (hn : nameB nme = true) : ∀ (Fs : List (List Pf)) (T : List Tk) (d : List UInt8), (∀ F ∈ Fs, ∀ f ∈ F, f.ok = true) →
    finR dep ⟨true, o, [10], T⟩ (Fs.flatMap (itemP nme) ++ d) = finR dep ⟨true, o, [10], T ++ Fs.flatMap (itemT nme)⟩ d
  | [], T, d, _ => by simp
  | F :: r, T, d, h => by
    rw [List.flatMap_cons, List.append_assoc, finR_item ho hd hn F T _ (h F (by simp)), finR_items ho hd hn r _ d (fun G hG => h G (by simp [hG])), List.flatMap_cons, List.append_assoc]
end Go.Proofs.YtahohmdbiiknoaaGreatDoor

/- An array that the call itself made, as a row of its own: read, written, cell by cell and whole. -/
namespace Go.Proofs.YtahohmdbiiknoaaGreatDoor
open Go.RowKit

/-- Block g is a row of the cells c, and may be written. -/
def ArrAt (w : World) (g : Nat) (t : TypeId) (c : List Value) : Prop := w.heap[g]? = some (.cells c.toArray t (0, 0))
theorem arrAt_new (w : World) (t : TypeId) (c : List Value) : ArrAt (w.alloc (.cells c.toArray t)) w.heap.size t c := heap_alloc_new w _
theorem ArrAt.cell {w : World} {g : Nat} {t : TypeId} {c : List Value} (h : ArrAt w g t c) (k : Nat) : w.cell? ⟨g, k, none⟩ = c[k]? := by
  rw [cell_of_row w g k _ t _ h]; simp
theorem ArrAt.soft {w : World} {g : Nat} {t : TypeId} {c : List Value} (h : ArrAt w g t c) (k : Nat) : w.frozen? ⟨g, k, none⟩ = false := frozen_of_row w g k _ t h
theorem ArrAt.lt {w : World} {g : Nat} {t : TypeId} {c : List Value} (h : ArrAt w g t c) : g < w.heap.size := (Array.getElem?_eq_some_iff.1 h).1
theorem ArrAt.set {w : World} {g : Nat} {t : TypeId} {c : List Value} (h : ArrAt w g t c) (k : Nat) (v : Value) : ArrAt (w.setCell ⟨g, k, none⟩ v) g t (c.set k v) := by
  unfold ArrAt
  rw [heap_setCell_same w g k _ t v h]
  simp
theorem ArrAt.far {w : World} {g g' : Nat} {t : TypeId} {c : List Value} (h : ArrAt w g t c) (k : Nat) (v : Value) (hg : g ≠ g') : ArrAt (w.setCell ⟨g', k, none⟩ v) g t c := by
  unfold ArrAt
  rw [heap_setCell_other w _ _ v hg]; exact h
theorem ArrAt.below {w w' : World} {g B : Nat} {t : TypeId} {c : List Value} (h : ArrAt w g t c) (hb : Below B w w') (hg : g < B) : ArrAt w' g t c := (hb.block g hg).trans h
theorem ArrAt.next {w w' : World} {g : Nat} {t : TypeId} {c : List Value} (h : ArrAt w g t c) (hb : Below w.heap.size w w') : ArrAt w' g t c := h.below hb h.lt
theorem ArrAt.drawn {w w' : World} {g : Nat} {t : TypeId} {c : List Value} (h : ArrAt w g t c) (hd : Drawn w w') : ArrAt w' g t c := h.next (hd.below _)
theorem ArrAt.range {w : World} {g : Nat} {t : TypeId} {c : List Value} (h : ArrAt w g t c) : w.rangeAt g 0 c := fun j v hv => by rw [Nat.zero_add, h.cell j]; exact hv
theorem ArrAt.there {w : World} {g : Nat} {t : TypeId} {c : List Value} (h : ArrAt w g t c) : w.there g 0 c.length := fun j hj => by
  rw [Nat.zero_add]; exact ⟨by rw [h.cell j]; simp [hj], h.soft j⟩
theorem setCells_row (t : TypeId) (g : Nat) : ∀ (vs pre post : List Value) (w : World), ArrAt w g t (pre ++ post) → vs.length = post.length → ArrAt (w.setCells g pre.length vs) g t (pre ++ vs)
  | [], pre, post, w, h, hl => by
    obtain rfl : post = [] := List.length_eq_zero_iff.1 hl.symm
    exact h
  | v :: vs, pre, post, w, h, hl => by
    cases post with
    | nil => simp at hl
    | cons p post =>
      have h2 := setCells_row t g vs (pre ++ [v]) post (w.setCell ⟨g, pre.length, none⟩ v) (by
        have := h.set pre.length v
        simpa [List.set_append_right] using this) (by simpa using hl)
      simp only [List.length_append, List.length_cons, List.length_nil, List.append_assoc, List.singleton_append] at h2
      exact h2
/-- A whole array, stored over one of as many cells. -/
theorem ArrAt.whole {w : World} {g : Nat} {t : TypeId} {c c' : List Value} (h : ArrAt w g t c) (hl : c'.length = c.length) : ArrAt (w.setCells g 0 c') g t c' := setCells_row t g c' [] c w h hl
theorem below_setCells {B : Nat} {a : World} (g : Nat) (hg : B ≤ g) : ∀ (vs : List Value) (o : Nat) (w : World), Below B a w → Below B a (w.setCells g o vs)
  | [], _, _, h => h
  | v :: vs, o, _, h => below_setCells g hg vs (o + 1) _ (h.setCell (p := ⟨g, o, none⟩) hg v)
/-- A result that lies in a row of its own. -/
theorem results_row {P : Program} {fn : Func} {p : Tmp} {ty : TypeId} (h : fn.results = #[.cell p ty]) (tmps : Array Value) (w : World) (g : Nat) (c : List Value) (n : Nat) (e t : TypeId) (hp : tmps.getD p undef = .pointer (some ⟨g, 0, none⟩)) (hr : ArrAt w g t c)
    (hu : P.underlying ty = some (.array n e)) (hi : (P.info? ty).map (·.size) = some c.length) : (results fn tmps).run P w = .ok (.agg c.toArray) w := by
  have hl := run_loadVar_mid (P := P) w g 0 ty c (.array n e) hr.range hu rfl hi
  have hp' : tmps[p]?.getD undef = .pointer (some ⟨g, 0, none⟩) := by simpa using hp
  simp only [results, h]
  simp [hp', asAddr, hl]
/-- A whole array, stored over one of as many cells: of the world behind it what matters. -/
theorem wpList_store_arr {P : Program} {ops : Array Oper} {rest : List Oper} {op : Oper} {a : Act} {w : World} {Q : Exit → Act → World → Prop} (hgd : op.guard = none) (ty : TypeId) (x y : Operand) (ho : op.op = .store ty x y)
    (g : Nat) (t : TypeId) (c c' : List Value) (hx : a.eval x = .pointer (some ⟨g, 0, none⟩)) (hy : a.eval y = .agg c'.toArray) (hr : ArrAt w g t c) (hl : c'.length = c.length) (hi : (P.info? ty).map (·.size) = some c'.length) (h1 : ∀ v ∈ c', v.oneCell' = true)
    (h : ∀ w', Hid (ArrAt w' g t c') → Hid (∀ B a0, B ≤ g → Below B a0 w → Below B a0 w') → wpList P ops Q rest (a.put op.dst undef) w') : wpList P ops Q (op :: rest) a w :=
  wpList_store_mid hgd ty x y ho g 0 c'.toArray hx hy (by have := hr.there; rw [← hl] at this; simpa using this) (by simpa using hi) (all_oneCell_toArray h1) (h _ (hr.whole hl) (fun _ _ hB hb => below_setCells g hB _ _ _ hb))
end Go.Proofs.YtahohmdbiiknoaaGreatDoor

/- A world in which certain blocks alone have turned, and new ones have come. -/
namespace Go.RowKit
/-- w' is w, but for the blocks of S and new ones. -/
structure Turned (S : Nat → Prop) (w w' : World) : Prop where
  os : w'.os = w.os
  tape : w'.tape = w.tape
  output : w'.output = w.output
  size : w.heap.size ≤ w'.heap.size
  block : ∀ k, k < w.heap.size → ¬ S k → w'.heap[k]? = w.heap[k]?
theorem Turned.refl (S : Nat → Prop) (w : World) : Turned S w w := ⟨rfl, rfl, rfl, Nat.le_refl _, fun _ _ _ => rfl⟩
theorem Turned.of_below {S : Nat → Prop} {w w' : World} (h : Below w.heap.size w w') : Turned S w w' := ⟨h.os, h.tape, h.output, h.size, fun k hk _ => h.block k hk⟩
theorem Turned.of_grown {S : Nat → Prop} {w w' : World} {row : Option Nat} (h : w.grownBy w' row) (hr : ∀ k, row = some k → S k) : Turned S w w' :=
  ⟨h.os, h.tape, h.output, h.size, fun k hk hS => h.block k hk (fun e => hS (hr k e.symm))⟩
theorem Turned.trans {S S' : Nat → Prop} {a b c : World} (h : Turned S a b) (k : Turned S' b c) (hS : ∀ i, i < a.heap.size → S' i → S i) : Turned S a c :=
  ⟨k.os.trans h.os, k.tape.trans h.tape, k.output.trans h.output, Nat.le_trans h.size k.size, fun i hi hn => (k.block i (Nat.lt_of_lt_of_le hi h.size) (fun hs => hn (hS i hi hs))).trans (h.block i hi hn)⟩
theorem Turned.mono {S S' : Nat → Prop} {w w' : World} (h : Turned S w w') (hS : ∀ i, i < w.heap.size → S i → S' i) : Turned S' w w' :=
  ⟨h.os, h.tape, h.output, h.size, fun i hi hn => h.block i hi (fun hs => hn (hS i hi hs))⟩
theorem Turned.below {S : Nat → Prop} {w w' : World} {B : Nat} (h : Turned S w w') (hS : ∀ i, i < w.heap.size → S i → B ≤ i) (hB : B ≤ w.heap.size) : Below B w w' :=
  ⟨h.os, h.tape, h.output, h.size, fun i hi => h.block i (Nat.lt_of_lt_of_le hi hB) (fun hs => by have := hS i (Nat.lt_of_lt_of_le hi hB) hs; omega)⟩
end Go.RowKit
namespace Go.Proofs.YtahohmdbiiknoaaGreatDoor
open Go.RowKit

theorem ownsRow_turned {S : Nat → Prop} {w w' : World} {B : Nat} {E : TypeId} {z : Nat} {v : Value} {n : Nat} {xs : List Value} (h : w.ownsRow B E z v n xs) (ht : Turned S w w') (hS : ∀ k, v.ownBlock = some k → ¬ S k) : w'.ownsRow B E z v n xs := by
  have hl := h.lt
  rcases h with ⟨h1, h | ⟨g, cap, cur, rfl, hb, hg, h3⟩⟩
  · exact ⟨h1, Or.inl h⟩
  · exact ⟨h1, Or.inr ⟨g, cap, cur, rfl, hb, (ht.block g (hl g rfl).2 (hS g rfl)).trans hg, h3⟩⟩
theorem ArrAt.turned {S : Nat → Prop} {w w' : World} {g : Nat} {t : TypeId} {c : List Value} (h : ArrAt w g t c) (ht : Turned S w w') (hS : ¬ S g) : ArrAt w' g t c := (ht.block g h.lt hS).trans h
theorem ArrAt.grown {w w' : World} {row : Option Nat} {g : Nat} {t : TypeId} {c : List Value} (h : ArrAt w g t c) (hg : w.grownBy w' row) (hne : some g ≠ row) : ArrAt w' g t c := (hg.block g h.lt hne).trans h
theorem grown_setRow (w : World) (g : Nat) (cs : Array Value) : w.grownBy (w.setRow g cs) (some g) := ⟨rfl, rfl, rfl, by simp, fun k _ hk => setRow_other w g k cs (fun e => hk (by rw [e]))⟩
theorem grown_trans {w w1 w2 : World} {row : Option Nat} (h : w.grownBy w1 row) (k : w1.grownBy w2 row) : w.grownBy w2 row :=
  ⟨k.os.trans h.os, k.tape.trans h.tape, k.output.trans h.output, Nat.le_trans h.size k.size, fun i hi hn => (k.block i (Nat.lt_of_lt_of_le hi h.size) hn).trans (h.block i hi hn)⟩
/-- A row of which all is known, as a slice that is owned: its first n elements. -/
theorem ArrAt.owns {w : World} {g n cap z : Nat} {t : TypeId} {c xs : List Value} (h : ArrAt w g t c) (hx : c.take (n * z) = xs) (hl : c.length = cap * z) (hn : n ≤ cap) (hm : cap ≤ maxLen) :
    w.ownsRow 0 t z (.slice (some ⟨g, 0, none⟩) n cap) n xs := by
  have hle : n * z ≤ cap * z := Nat.mul_le_mul_right _ hn
  exact ⟨by rw [← hx, List.length_take]; omega, Or.inr ⟨g, cap, c.toArray, rfl, Nat.zero_le _, h, hn, hm, by simpa using hl, by simpa using hx⟩⟩
/-- A slice that is owned and has something, as a row of which all is known. -/
theorem owns_arr {w : World} {B n z : Nat} {t : TypeId} {v : Value} {xs : List Value} (h : w.ownsRow B t z v n xs) (hn : v ≠ .slice none 0 0) :
    ∃ g cap c, v = .slice (some ⟨g, 0, none⟩) n cap ∧ ArrAt w g t c ∧ c.take (n * z) = xs ∧ c.length = cap * z ∧ n ≤ cap ∧ cap ≤ maxLen := by
  rcases h with ⟨h1, ⟨hv, _⟩ | ⟨g, cap, cur, hv, hb, hg, hnc, hcm, hcs, htk⟩⟩
  · exact absurd hv hn
  · exact ⟨g, cap, cur.toList, hv, by unfold ArrAt; simpa using hg, htk, by simpa using hcs, hnc, hcm⟩
theorem own_heap {w : World} {B n z : Nat} {E : TypeId} {v : Value} {xs : List Value} {g : Nat} (h : w.ownsRow B E z v n xs) (hv : v.ownBlock = some g) : ∃ cur, w.heap[g]? = some (.cells cur E (0, 0)) := by
  rcases h.2 with ⟨rfl, _⟩ | ⟨g', cap, cur, rfl, _, hg, _⟩
  · cases hv
  · injection hv with hv
    have : g' = g := hv
    subst this
    exact ⟨cur, hg⟩
theorem own_apart {w : World} {B B' n m z z' : Nat} {E E' : TypeId} {v u : Value} {xs ys : List Value} {g : Nat} (h1 : w.ownsRow B E z v n xs) (h2 : w.ownsRow B' E' z' u m ys) (hE : E ≠ E') (hv : v.ownBlock = some g) (hu : u.ownBlock = some g) : False := by
  obtain ⟨c1, e1⟩ := own_heap h1 hv
  obtain ⟨c2, e2⟩ := own_heap h2 hu
  rw [e1] at e2
  injection e2 with e2
  injection e2 with _ e2
  exact hE e2
theorem turned_setCell (w : World) (a : Addr) (u : Value) : Turned (fun b => b = a.block) w (w.setCell a u) :=
  ⟨rfl, rfl, rfl, by simp [World.setCell], fun k _ hk => Below.heap_setCell w a u k hk⟩
theorem own_ne_arr {w : World} {B n z g : Nat} {E t : TypeId} {v : Value} {xs c : List Value} (h : w.ownsRow B E z v n xs) (ha : ArrAt w g t c) (hE : E ≠ t) : v.ownBlock ≠ some g := fun e => by
  obtain ⟨cur, e1⟩ := own_heap h e
  unfold ArrAt at ha
  rw [ha] at e1
  injection e1 with e1
  injection e1 with _ e1
  exact hE e1.symm
theorem arr_apart {w : World} {g g' : Nat} {t t' : TypeId} {c c' : List Value} (h : ArrAt w g t c) (h' : ArrAt w g' t' c') (ht : t ≠ t') : g ≠ g' := fun e => by
  subst e
  unfold ArrAt at h h'
  rw [h] at h'
  injection h' with h'
  injection h' with _ h'
  exact ht h'
end Go.Proofs.YtahohmdbiiknoaaGreatDoor

/- Attributes in memory: a slice of them that the call itself made, and one that can be read, wherever it lies. -/
namespace Go.Proofs.YtahohmdbiiknoaaGreatDoor
open Go.RowKit

def atV (x : At) : List Value := [strV x.1, strV x.2]
def cellsA (l : List At) : List Value := l.flatMap atV
theorem cellsA_len (l : List At) : (cellsA l).length = l.length * 2 := by
  induction l with
  | nil => rfl
  | cons x t ih => simp [cellsA, atV] at ih ⊢; omega
theorem cellsA_app (l m : List At) : cellsA (l ++ m) = cellsA l ++ cellsA m := by simp [cellsA]
theorem cellsA_one (x : At) : cellsA [x] = [strV x.1, strV x.2] := rfl
theorem cellsA_at : ∀ (l : List At) (j : Nat), j < l.length → (cellsA l)[j * 2]? = some (strV (l.getD j ([], [])).1) ∧ (cellsA l)[j * 2 + 1]? = some (strV (l.getD j ([], [])).2)
  | [], j, h => by simp at h
  | x :: t, 0, _ => ⟨rfl, rfl⟩
  | x :: t, j + 1, h => by
    have := cellsA_at t j (by simpa using h)
    have e : cellsA (x :: t) = strV x.1 :: strV x.2 :: cellsA t := rfl
    rw [e, show (j + 1) * 2 = j * 2 + 1 + 1 by omega, show j * 2 + 1 + 1 + 1 = (j * 2 + 1) + 1 + 1 by omega]
    simpa using this
theorem cellsA_one' (l : List At) : ∀ u ∈ cellsA l, u.oneCell' = true := by
  intro u hu
  simp only [cellsA, List.mem_flatMap, atV] at hu
  obtain ⟨x, _, hu⟩ := hu
  simp at hu
  rcases hu with rfl | rfl <;> rfl
/-- A slice of attributes that the call itself made. -/
def Ats (w : World) (B : Nat) (v : Value) (l : List At) : Prop := w.ownsRow B 112 2 v l.length (cellsA l)
theorem Ats.cells {w : World} {B : Nat} {v : Value} {l : List At} (h : Ats w B v l) (h0 : l ≠ []) : ∃ g cap, v = .slice (some ⟨g, 0, none⟩) l.length cap ∧ g < w.heap.size ∧ B ≤ g ∧
    ∀ j, j < l.length → w.cell? ⟨g, j * 2, none⟩ = some (strV (l.getD j ([], [])).1) ∧ w.cell? ⟨g, j * 2 + 1, none⟩ = some (strV (l.getD j ([], [])).2) := by
  have hlt := World.ownsRow.lt h
  rcases h.2 with ⟨_, hn⟩ | ⟨g, cap, cur, hv, _⟩
  · exact absurd (List.length_eq_zero_iff.1 hn) h0
  · refine ⟨g, cap, hv, (hlt g (by rw [hv]; rfl)).2, (hlt g (by rw [hv]; rfl)).1, fun j hj => ?_⟩
    have hcg := World.ownsRow.cells h (g := g) (by rw [hv]; rfl)
    obtain ⟨e1, e2⟩ := cellsA_at l j hj
    have hadd : ∀ i, (⟨g, 0, none⟩ : Addr).add i = ⟨g, i, none⟩ := fun i => by unfold Addr.add; split <;> simp_all
    have h1 := hcg _ _ e1
    have h2 := hcg _ _ e2
    rw [hadd] at h1 h2
    exact ⟨h1, h2⟩
theorem ats_nil (w : World) (B : Nat) : Ats w B (.slice none 0 0) [] := World.ownsRow_nil _ _ _ _

/-- A slice of attributes that can be read. -/
def AtSl (w : World) (v : Value) (l : List At) : Prop :=
  (l = [] ∧ ∃ a c, v = .slice a 0 c) ∨ ∃ b off c, l.length ≤ c ∧ v = .slice (some ⟨b, off, none⟩) l.length c ∧
    ∀ j, j < l.length → w.cell? ⟨b, off + j * 2, none⟩ = some (strV (l.getD j ([], [])).1) ∧ w.cell? ⟨b, off + j * 2 + 1, none⟩ = some (strV (l.getD j ([], [])).2)
theorem AtSl.form {w : World} {v : Value} {l : List At} (h : AtSl w v l) : ∃ a c, v = .slice a l.length c := by
  rcases h with ⟨rfl, a, c, rfl⟩ | ⟨b, off, c, _, rfl, _⟩
  · exact ⟨a, c, rfl⟩
  · exact ⟨_, c, rfl⟩
theorem AtSl.next {w w' : World} {v : Value} {l : List At} (h : AtSl w v l) (hb : Below w.heap.size w w') : AtSl w' v l := by
  rcases h with h | ⟨b, off, c, hc, rfl, h⟩
  · exact Or.inl h
  · refine Or.inr ⟨b, off, c, hc, rfl, fun j hj => ?_⟩
    have h0 := h j hj
    have hlt := World.block_lt_of_cell? w ⟨b, off + j * 2, none⟩ h0.1
    exact ⟨(hb.cell (p := ⟨b, off + j * 2, none⟩) hlt).trans h0.1, (hb.cell (p := ⟨b, off + j * 2 + 1, none⟩) hlt).trans h0.2⟩
theorem AtSl.some {w : World} {v : Value} {l : List At} (h : AtSl w v l) (h0 : l ≠ []) : ∃ b off c, l.length ≤ c ∧ b < w.heap.size ∧ v = .slice (some ⟨b, off, none⟩) l.length c ∧
    ∀ j, j < l.length → w.cell? ⟨b, off + j * 2, none⟩ = some (strV (l.getD j ([], [])).1) ∧ w.cell? ⟨b, off + j * 2 + 1, none⟩ = some (strV (l.getD j ([], [])).2) := by
  rcases h with ⟨h, _⟩ | ⟨b, off, c, hc, hv, h⟩
  · exact absurd h h0
  · have hl : 0 < l.length := List.length_pos_iff.2 h0
    exact ⟨b, off, c, hc, World.block_lt_of_cell? w ⟨b, off + 0 * 2, none⟩ (h 0 hl).1, hv, h⟩
theorem AtSl.nil {w : World} {v : Value} {l : List At} (h : AtSl w v l) (h0 : l = []) : ∃ a c, v = .slice a 0 c := by
  obtain ⟨a, c, e⟩ := h.form
  subst h0
  exact ⟨a, c, e⟩
theorem atSl_nil (w : World) (a : Option Addr) (c : Nat) : AtSl w (.slice a 0 c) [] := Or.inl ⟨rfl, a, c, rfl⟩
theorem Ats.sl {w : World} {B : Nat} {v : Value} {l : List At} (h : Ats w B v l) : AtSl w v l := by
  by_cases h0 : l = []
  · obtain ⟨a, c, e⟩ := own_form h
    subst h0
    exact Or.inl ⟨rfl, a, c, e⟩
  · obtain ⟨a, c', e, hcap⟩ := own_cap h
    obtain ⟨g, cap, hv, _, _, hc⟩ := h.cells h0
    have : cap = c' := by rw [hv] at e; injection e
    exact Or.inr ⟨g, 0, cap, by omega, hv, fun j hj => by rw [Nat.zero_add]; exact hc j hj⟩
end Go.Proofs.YtahohmdbiiknoaaGreatDoor

/- Tokens and nodes in memory: slices of them that can be read, wherever they lie; a row of nodes that the call itself made. -/
namespace Go.Proofs.YtahohmdbiiknoaaGreatDoor
open Go.RowKit

/-- A token's four cells. -/
structure TokAt (w : World) (b o : Nat) (t : Tk) (v : Value) : Prop where
  c0 : w.cell? ⟨b, o, none⟩ = some (.int .i64 t.kind)
  c1 : w.cell? ⟨b, o + 1, none⟩ = some (strV t.name)
  c2 : w.cell? ⟨b, o + 2, none⟩ = some v
  c3 : w.cell? ⟨b, o + 3, none⟩ = some (strV t.text)
/-- A node's. -/
structure NdAt (w : World) (b o : Nat) (x : Nd) (v : Value) : Prop where
  c0 : w.cell? ⟨b, o, none⟩ = some (strV x.name)
  c1 : w.cell? ⟨b, o + 1, none⟩ = some v
  c2 : w.cell? ⟨b, o + 2, none⟩ = some (strV x.text)
  c3 : w.cell? ⟨b, o + 3, none⟩ = some (.int .i64 x.up)
theorem TokAt.next {w w' : World} {b o : Nat} {t : Tk} {v : Value} (h : TokAt w b o t v) (hb : Below w.heap.size w w') : TokAt w' b o t v := by
  have hlt := World.block_lt_of_cell? w ⟨b, o, none⟩ h.c0
  have hc : ∀ k, w'.cell? ⟨b, k, none⟩ = w.cell? ⟨b, k, none⟩ := fun k => hb.cell (p := ⟨b, k, none⟩) hlt
  exact ⟨(hc _).trans h.c0, (hc _).trans h.c1, (hc _).trans h.c2, (hc _).trans h.c3⟩
theorem NdAt.next {w w' : World} {b o : Nat} {x : Nd} {v : Value} (h : NdAt w b o x v) (hb : Below w.heap.size w w') : NdAt w' b o x v := by
  have hlt := World.block_lt_of_cell? w ⟨b, o, none⟩ h.c0
  have hc : ∀ k, w'.cell? ⟨b, k, none⟩ = w.cell? ⟨b, k, none⟩ := fun k => hb.cell (p := ⟨b, k, none⟩) hlt
  exact ⟨(hc _).trans h.c0, (hc _).trans h.c1, (hc _).trans h.c2, (hc _).trans h.c3⟩
/-- A slice of tokens that can be read: P tells each one, with its attributes' slice. -/
def TkSl (w : World) (v : Value) (P : List (Tk × Value)) : Prop :=
  ((P = [] ∧ ∃ a c, v = .slice a 0 c) ∨ ∃ b off c, P.length ≤ c ∧ v = .slice (some ⟨b, off, none⟩) P.length c ∧ ∀ j (hj : j < P.length), TokAt w b (off + j * 4) (P[j]'hj).1 (P[j]'hj).2) ∧ ∀ p ∈ P, AtSl w p.2 p.1.attrs
/-- A slice of nodes that can be read. -/
def NdSl (w : World) (v : Value) (P : List (Nd × Value)) : Prop :=
  ((P = [] ∧ ∃ a c, v = .slice a 0 c) ∨ ∃ b off c, P.length ≤ c ∧ v = .slice (some ⟨b, off, none⟩) P.length c ∧ ∀ j (hj : j < P.length), NdAt w b (off + j * 4) (P[j]'hj).1 (P[j]'hj).2) ∧ ∀ p ∈ P, AtSl w p.2 p.1.attrs
section
variable {w w' : World} {v : Value}
theorem TkSl.form {P : List (Tk × Value)} (h : TkSl w v P) : ∃ a c, v = .slice a P.length c := by
  rcases h.1 with ⟨rfl, a, c, rfl⟩ | ⟨b, off, c, _, rfl, _⟩
  · exact ⟨a, c, rfl⟩
  · exact ⟨_, c, rfl⟩
theorem NdSl.form {P : List (Nd × Value)} (h : NdSl w v P) : ∃ a c, v = .slice a P.length c := by
  rcases h.1 with ⟨rfl, a, c, rfl⟩ | ⟨b, off, c, _, rfl, _⟩
  · exact ⟨a, c, rfl⟩
  · exact ⟨_, c, rfl⟩
theorem TkSl.next {P : List (Tk × Value)} (h : TkSl w v P) (hb : Below w.heap.size w w') : TkSl w' v P := by
  refine ⟨?_, fun p hp => (h.2 p hp).next hb⟩
  rcases h.1 with k | ⟨b, off, c, hc, hv, k⟩
  · exact Or.inl k
  · exact Or.inr ⟨b, off, c, hc, hv, fun j hj => (k j hj).next hb⟩
theorem NdSl.next {P : List (Nd × Value)} (h : NdSl w v P) (hb : Below w.heap.size w w') : NdSl w' v P := by
  refine ⟨?_, fun p hp => (h.2 p hp).next hb⟩
  rcases h.1 with k | ⟨b, off, c, hc, hv, k⟩
  · exact Or.inl k
  · exact Or.inr ⟨b, off, c, hc, hv, fun j hj => (k j hj).next hb⟩
/-- The place of its cells, and each node there, in any world that left alone what was there. -/
theorem NdSl.some {P : List (Nd × Value)} (h : NdSl w v P) (h0 : 0 < P.length) : ∃ b off c, P.length ≤ c ∧ b < w.heap.size ∧ v = .slice (some ⟨b, off, none⟩) P.length c ∧ ∀ j (hj : j < P.length), NdAt w b (off + j * 4) (P[j]'hj).1 (P[j]'hj).2 := by
  rcases h.1 with ⟨rfl, _⟩ | ⟨b, off, c, hc, hv, h⟩
  · simp at h0
  · exact ⟨b, off, c, hc, World.block_lt_of_cell? w ⟨b, off + 0 * 4, none⟩ (h 0 h0).c0, hv, h⟩
theorem TkSl.some {P : List (Tk × Value)} (h : TkSl w v P) (h0 : 0 < P.length) : ∃ b off c, P.length ≤ c ∧ b < w.heap.size ∧ v = .slice (some ⟨b, off, none⟩) P.length c ∧ ∀ j (hj : j < P.length), TokAt w b (off + j * 4) (P[j]'hj).1 (P[j]'hj).2 := by
  rcases h.1 with ⟨rfl, _⟩ | ⟨b, off, c, hc, hv, h⟩
  · simp at h0
  · exact ⟨b, off, c, hc, World.block_lt_of_cell? w ⟨b, off + 0 * 4, none⟩ (h 0 h0).c0, hv, h⟩
theorem NdSl.atsAt {P : List (Nd × Value)} (h : NdSl w v P) (j : Nat) (hj : j < P.length) : AtSl w (P[j]'hj).2 (P[j]'hj).1.attrs := h.2 _ (List.getElem_mem hj)
theorem TkSl.atsAt {P : List (Tk × Value)} (h : TkSl w v P) (j : Nat) (hj : j < P.length) : AtSl w (P[j]'hj).2 (P[j]'hj).1.attrs := h.2 _ (List.getElem_mem hj)
end
/-- The nodes alone. -/
abbrev nodes (P : List (Nd × Value)) : List Nd := P.map Prod.fst
theorem nodes_len (P : List (Nd × Value)) : (nodes P).length = P.length := by unfold nodes; simp
theorem nodes_at {P : List (Nd × Value)} {j : Nat} (h : j < P.length) : (P[j]'h).1 = atN (nodes P) (j : Int) := by
  unfold atN nodes
  simp [List.getD, h]
def ndV (p : Nd × Value) : List Value := [strV p.1.name, p.2, strV p.1.text, .int .i64 p.1.up]
def cellsN (P : List (Nd × Value)) : List Value := P.flatMap ndV
theorem cellsN_app (l m : List (Nd × Value)) : cellsN (l ++ m) = cellsN l ++ cellsN m := by simp [cellsN]
theorem cellsN_at : ∀ (P : List (Nd × Value)) (j : Nat) (h : j < P.length), (cellsN P)[j * 4]? = some (strV (P[j]'h).1.name) ∧ (cellsN P)[j * 4 + 1]? = some (P[j]'h).2 ∧ (cellsN P)[j * 4 + 2]? = some (strV (P[j]'h).1.text) ∧ (cellsN P)[j * 4 + 3]? = some (.int .i64 (P[j]'h).1.up)
  | [], j, h => by simp at h
  | x :: t, 0, _ => ⟨rfl, rfl, rfl, rfl⟩
  | x :: t, j + 1, h => by
    have h' : j < t.length := by simpa using h
    have := cellsN_at t j h'
    have e : cellsN (x :: t) = strV x.1.name :: x.2 :: strV x.1.text :: .int .i64 x.1.up :: cellsN t := rfl
    have e1 : ∀ i, (cellsN (x :: t))[(j + 1) * 4 + i]? = (cellsN t)[j * 4 + i]? := fun i => by
      rw [e, show (j + 1) * 4 + i = (j * 4 + i) + 1 + 1 + 1 + 1 by omega]; simp only [List.getElem?_cons_succ]
    have e0 := e1 0
    rw [Nat.add_zero, Nat.add_zero] at e0
    rw [e0, e1, e1, e1]
    simpa using this
/-- A row of nodes that the call itself made. -/
def OwnN (w : World) (B : Nat) (v : Value) (P : List (Nd × Value)) : Prop := w.ownsRow B 49 4 v P.length (cellsN P)
theorem ownN_nil (w : World) (B : Nat) : OwnN w B (.slice none 0 0) [] := World.ownsRow_nil _ _ _ _
theorem info_node : (Tryz.prog.info? 49).map (fun i => (i.zero, i.size, i.bytes)) = some (some (.agg #[.string ⟨#[]⟩, .slice none 0 0, .string ⟨#[]⟩, .int .i64 0]), 4, 64) := by kernel_rfl
/-- The cells of a node in such a row. -/
theorem OwnN.at {w : World} {B : Nat} {v : Value} {P : List (Nd × Value)} (h : OwnN w B v P) {j : Nat} (hj : j < P.length) : ∃ g cap, v = .slice (some ⟨g, 0, none⟩) P.length cap ∧ B ≤ g ∧ g < w.heap.size ∧ P.length ≤ cap ∧ v.ownBlock = some g ∧ NdAt w g (j * 4) (P[j]'hj).1 (P[j]'hj).2 := by
  have hlt := World.ownsRow.lt h
  have hcg := fun g hv => World.ownsRow.cells h (g := g) hv
  rcases h.2 with ⟨_, hn⟩ | ⟨g, cap, cur, hv, _, _, hcap, _⟩
  · omega
  · have hob : v.ownBlock = some g := by rw [hv]; rfl
    obtain ⟨e0, e1, e2, e3⟩ := cellsN_at P j hj
    have hadd : ∀ i, (⟨g, 0, none⟩ : Addr).add i = ⟨g, i, none⟩ := fun i => by unfold Addr.add; split <;> simp_all
    have h0 := hcg g hob _ _ e0
    have h1 := hcg g hob _ _ e1
    have h2 := hcg g hob _ _ e2
    have h3 := hcg g hob _ _ e3
    rw [hadd] at h0 h1 h2 h3
    exact ⟨g, cap, hv, (hlt g hob).1, (hlt g hob).2, hcap, hob, h0, h1, h2, h3⟩
theorem OwnN.sl {w : World} {B : Nat} {v : Value} {P : List (Nd × Value)} (h : OwnN w B v P) (ha : ∀ p ∈ P, AtSl w p.2 p.1.attrs) : NdSl w v P := by
  refine ⟨?_, ha⟩
  by_cases h0 : P = []
  · obtain ⟨a, c, e⟩ := own_form h
    subst h0
    exact Or.inl ⟨rfl, a, c, e⟩
  · have hp : 0 < P.length := List.length_pos_iff.2 h0
    obtain ⟨g, cap, hv, _, _, hcap, _⟩ := h.at hp
    refine Or.inr ⟨g, 0, cap, hcap, hv, fun j hj => ?_⟩
    obtain ⟨g', cap', hv', _, _, _, _, hat⟩ := h.at hj
    rw [hv] at hv'
    injection hv' with e _ _
    injection e with e
    injection e with e
    subst e
    rw [Nat.zero_add]
    exact hat
end Go.Proofs.YtahohmdbiiknoaaGreatDoor
