/- Layer 20, plain: disks that may be, crashes: what they leave may be, and is as it was where nothing loose touched it; how far a burst goes. -/
import Derived.Test.YtahndjgamoojkaaBR08
import Derived.Test.YtahndjgamoojkaaBR02
namespace Go.Proofs.Ytahndjgamoojkaa

/-- Each name below the next one's. -/
def adj20 : List Fl20 → Bool
  | [] => true
  | [_] => true
  | f :: g :: r => decide (f.1 < g.1) && adj20 (g :: r)
theorem adj_rise : ∀ l : List Fl20, adj20 l = true ↔ Rise20 l
  | [] => by simp [adj20, Rise20]
  | [f] => by simp [adj20, Rise20]
  | f :: g :: r => by
    have ih := adj_rise (g :: r)
    rw [adj20, Bool.and_eq_true, decide_eq_true_eq, ih]
    constructor
    · rintro ⟨h1, h2⟩
      refine List.pairwise_cons.2 ⟨fun x hx => ?_, h2⟩
      rcases List.mem_cons.1 hx with rfl | hx
      · exact h1
      · exact List.lt_trans h1 ((List.pairwise_cons.1 h2).1 x hx)
    · intro h
      obtain ⟨h1, h2⟩ := List.pairwise_cons.1 h
      exact ⟨h1 g List.mem_cons_self, h2⟩
/-- May files be? -/
def vals20 (l : List Fl20) : Bool := decide (l.length ≤ 8) && l.all (fun f => name20 f.1 && decide (f.2.length ≤ 1048576)) && adj20 l
theorem vals_iff (l : List Fl20) : vals20 l = true ↔ Val20 l := by
  unfold vals20
  simp only [Bool.and_eq_true, decide_eq_true_eq, List.all_eq_true, adj_rise]
  constructor
  · rintro ⟨⟨h1, h2⟩, h3⟩
    exact ⟨h1, fun f hf => (h2 f hf).1, fun f hf => (h2 f hf).2, h3⟩
  · rintro ⟨h1, h2, h3, h4⟩
    exact ⟨⟨h1, fun f hf => ⟨h2 f hf, h3 f hf⟩⟩, h4⟩
/-- May it be a disk? -/
def right20 (l : List Fl20) (os : List Op20) : Bool := decide (os.length ≤ 4096) && vals20 l && mays20 l os
theorem right_val {l : List Fl20} {os : List Op20} (h : right20 l os = true) : Val20 l ∧ mays20 l os = true ∧ os.length ≤ 4096 := by
  unfold right20 at h
  simp only [Bool.and_eq_true, decide_eq_true_eq, vals_iff] at h
  exact ⟨h.1.2, h.2, h.1.1⟩
theorem right_of {l : List Fl20} {os : List Op20} (h1 : Val20 l) (h2 : mays20 l os = true) (h3 : os.length ≤ 4096) : right20 l os = true := by
  unfold right20
  simp only [Bool.and_eq_true, decide_eq_true_eq, vals_iff]
  exact ⟨⟨h3, h1⟩, h2⟩
/-- Behind making all safe it may be, too. -/
theorem right_sync {l : List Fl20} {os : List Op20} (h : right20 l os = true) : right20 (all20 l os) [] = true := by
  obtain ⟨h1, h2, _⟩ := right_val h
  exact right_of (h1.all h2) rfl (by simp)
/-- Behind one more that may be, it may be. -/
theorem right_more {l : List Fl20} {os : List Op20} {o : Op20} (h : right20 l os = true) (hm : may20 (all20 l os) o = 0) (hn : os.length ≠ 4096) : right20 l (os ++ [o]) = true := by
  obtain ⟨h1, h2, h3⟩ := right_val h
  refine right_of h1 ?_ (by rw [List.length_append, List.length_singleton]; omega)
  rw [mays_app, h2, Bool.true_and, mays20, decide_eq_true hm]
  rfl
theorem get_rise : ∀ {l : List Fl20} {f : Fl20}, Rise20 l → f ∈ l → get20 l f.1 = some f.2
  | g :: r, f, h, hf => by
    obtain ⟨h1, h2⟩ := List.pairwise_cons.1 h
    rw [get20]
    rcases List.mem_cons.1 hf with rfl | hf
    · rw [if_pos rfl]
    · rw [if_neg (fun e => by have := h1 f hf; rw [e] at this; exact List.lt_irrefl _ this), get_rise h2 hf]

/-- The operations that a crash leaves, the last one torn. -/
def torn20 (o : Op20) (bytes : Int) : List Op20 := if o.kind = 1 ∧ 0 < bytes then [{ o with data := o.data.take bytes.toNat }] else []
def kept20 (os : List Op20) (keep bytes : Int) : List Op20 := os.take keep.toNat ++ match os[keep.toNat]? with | none => [] | some o => torn20 o bytes
/-- What is appended, one behind the other. -/
def apps20 (os : List Op20) : List UInt8 := os.flatMap fun o => if o.kind = 1 then o.data else []
/-- Operations with these bytes in what they append. -/
def lay20 : List Op20 → List UInt8 → List Op20
  | [], _ => []
  | o :: r, b => if o.kind = 1 then { o with data := b.take o.data.length } :: lay20 r (b.drop o.data.length) else o :: lay20 r b
def hurt20 (os : List Op20) (burst : Bool) (at_ : Int) (bits : Nat) : List Op20 := if burst = false ∨ apps20 os = [] then os else lay20 os (burst18 (apps20 os) ((at_ % 18446744073709551616) % (8 * ((apps20 os).length : Int))) bits)
/-- Files behind a crash. -/
def fall20 (l : List Fl20) (os : List Op20) (keep bytes : Int) (burst : Bool) (at_ : Int) (bits : Nat) : List Fl20 := all20 l (hurt20 (kept20 os keep bytes) burst at_ bits)
theorem kept_mays {l : List Fl20} {os : List Op20} (keep bytes : Int) (h : mays20 l os = true) : mays20 l (kept20 os keep bytes) = true := by
  have e : os = os.take keep.toNat ++ os.drop keep.toNat := (List.take_append_drop _ _).symm
  rw [e, mays_app, Bool.and_eq_true] at h
  unfold kept20
  rw [mays_app, h.1, Bool.true_and]
  cases hg : os[keep.toNat]? with
  | none => rfl
  | some o =>
    obtain ⟨hk, hko⟩ := List.getElem?_eq_some_iff.1 hg
    rw [List.drop_eq_getElem_cons hk, hko, mays20, Bool.and_eq_true, decide_eq_true_eq] at h
    simp only
    unfold torn20
    split
    · rename_i hc
      rw [mays20, decide_eq_true (may_torn h.2.1 hc.1 bytes.toNat)]
      rfl
    · rfl
theorem lay_form : ∀ (os : List Op20) (b : List UInt8), b.length = (apps20 os).length → (lay20 os b).map form20 = os.map form20
  | [], _, _ => rfl
  | o :: r, b, h => by
    unfold apps20 at h
    rw [List.flatMap_cons, List.length_append] at h
    rw [lay20]
    by_cases c : o.kind = 1
    · rw [if_pos c] at h ⊢
      rw [List.map_cons, List.map_cons, lay_form r _ (by unfold apps20; rw [List.length_drop]; omega)]
      congr 1
      unfold form20
      simp only [List.length_take]
      rw [Nat.min_eq_left (by omega)]
    · rw [if_neg c] at h ⊢
      rw [List.map_cons, List.map_cons, lay_form r b (by unfold apps20; simpa using h)]
theorem hurt_form (os : List Op20) (burst : Bool) (at_ : Int) (bits : Nat) : (hurt20 os burst at_ bits).map form20 = os.map form20 := by
  unfold hurt20
  split
  · rfl
  · exact lay_form os _ (burst18_len _ _ _)
theorem hurt_nil (burst : Bool) (at_ : Int) (bits : Nat) : hurt20 [] burst at_ bits = [] := by
  unfold hurt20
  rw [if_pos (Or.inr (show apps20 [] = [] from rfl))]
/-- What a crash leaves of a disk that may be, may be. -/
theorem fall_right {l : List Fl20} {os : List Op20} (h : right20 l os = true) (keep bytes : Int) (burst : Bool) (at_ : Int) (bits : Nat) : right20 (fall20 l os keep bytes burst at_ bits) [] = true := by
  obtain ⟨h1, h2, _⟩ := right_val h
  refine right_of ?_ rfl (by simp)
  unfold fall20
  refine h1.all ?_
  rw [mays_form rfl (hurt_form _ _ _ _)]
  exact kept_mays keep bytes h2
theorem kept_from {os : List Op20} {keep bytes : Int} {o : Op20} (h : o ∈ kept20 os keep bytes) : ∃ o' ∈ os, o.name = o'.name ∧ o.to = o'.to := by
  unfold kept20 at h
  rcases List.mem_append.1 h with h | h
  · exact ⟨o, List.mem_of_mem_take h, rfl, rfl⟩
  · cases hg : os[keep.toNat]? with
    | none => rw [hg] at h; cases h
    | some o' =>
      rw [hg] at h
      simp only at h
      unfold torn20 at h
      split at h
      · rw [List.mem_singleton] at h
        subst h
        exact ⟨o', List.mem_of_getElem? hg, rfl, rfl⟩
      · cases h
/-- A file that nothing loose names outlives every crash. -/
theorem fall_get {l : List Fl20} {os : List Op20} {n : List UInt8} (h : ∀ o ∈ os, n ≠ o.name ∧ n ≠ o.to) (keep bytes : Int) (burst : Bool) (at_ : Int) (bits : Nat) : get20 (fall20 l os keep bytes burst at_ bits) n = get20 l n := by
  unfold fall20
  refine all_get _ _ _ fun o ho => ?_
  have hm : form20 o ∈ (kept20 os keep bytes).map form20 := by rw [← hurt_form _ burst at_ bits]; exact List.mem_map.2 ⟨o, ho, rfl⟩
  obtain ⟨o', ho', e⟩ := List.mem_map.1 hm
  unfold form20 at e
  simp only [Prod.mk.injEq] at e
  obtain ⟨o2, ho2, e1, e2⟩ := kept_from ho'
  rw [← e.2.1, ← e.2.2.1, e1, e2]
  exact h o2 ho2
/-- Where nothing is loose, a crash leaves all. -/
theorem fall_none (l : List Fl20) (keep bytes : Int) (burst : Bool) (at_ : Int) (bits : Nat) : fall20 l [] keep bytes burst at_ bits = l := by
  unfold fall20
  have : kept20 [] keep bytes = [] := by unfold kept20; simp
  rw [this, hurt_nil]
  rfl

/-- Bytes that a burst turns lie within five. -/
theorem burst_window (l : List UInt8) (p y i : Nat) (h : (burstTo l p y 32)[i]? ≠ l[i]?) : p / 8 ≤ i ∧ i ≤ (p + 31) / 8 := by
  have hl := burstTo_len l p y 32
  have hi : i < l.length := by
    rcases Nat.lt_or_ge i l.length with h1 | h1
    · exact h1
    · exfalso
      exact h (by rw [List.getElem?_eq_none (by omega), List.getElem?_eq_none (by omega)])
  by_cases hc : p / 8 ≤ i ∧ i ≤ (p + 31) / 8
  · exact hc
  · exfalso
    apply h
    have key : (burstTo l p y 32).getD i 0 = l.getD i 0 := by
      apply UInt8.toNat_inj.1
      apply Nat.eq_of_testBit_eq
      intro k
      by_cases hk : k < 8
      · have := burst_get l p y 32 (8 * i + k) (by omega)
        rw [show (8 * i + k) / 8 = i by omega, show (8 * i + k) % 8 = k by omega, decide_eq_false (by omega), Bool.false_and, Bool.xor_false] at this
        exact this
      · have e : ∀ c : UInt8, c.toNat.testBit k = false := fun c => Nat.testBit_lt_two_pow (Nat.lt_of_lt_of_le c.toNat_lt (show 2 ^ 8 ≤ 2 ^ k from Nat.pow_le_pow_right (by decide) (by omega)))
        rw [e, e]
    have h1 : i < (burstTo l p y 32).length := by omega
    rw [List.getElem?_eq_getElem h1, List.getElem?_eq_getElem hi]
    simpa [List.getD, h1, hi] using key
/-- What a crash leaves of bytes that were appended behind safe ones: the safe ones, a beginning, of which at most five in a row are others. -/
theorem fall_torn (a was more : List UInt8) (keep bytes : Int) (burst : Bool) (at_ : Int) (bits : Nat) :
    ∃ x, get20 (fall20 [(a, was)] [⟨1, a, [], more, 0⟩] keep bytes burst at_ bits) a = some (was ++ x) ∧ x.length ≤ more.length ∧
      ((∀ i, i < x.length → x[i]? = more[i]?) ∨ burst = true ∧ ∃ p : Nat, ∀ i, i < x.length → x[i]? ≠ more[i]? → p / 8 ≤ i ∧ i ≤ (p + 31) / 8) := by
  have hone : ∀ d : List UInt8, get20 (all20 [(a, was)] [⟨1, a, [], d, 0⟩]) a = some (was ++ d) := by
    intro d
    show get20 (done20 [(a, was)] ⟨1, a, [], d, 0⟩) a = _
    unfold done20
    rw [if_pos rfl, put_here]
    unfold data20
    rw [get20, if_pos rfl]
    rfl
  have hk : kept20 [⟨1, a, [], more, 0⟩] keep bytes = [] ∨ ∃ k, kept20 [⟨1, a, [], more, 0⟩] keep bytes = [⟨1, a, [], more.take k, 0⟩] := by
    unfold kept20
    by_cases c : keep.toNat = 0
    · rw [c]
      simp only [List.take_zero, List.nil_append, List.getElem?_cons_zero]
      unfold torn20
      by_cases c2 : 0 < bytes
      · rw [if_pos ⟨rfl, c2⟩]; exact Or.inr ⟨_, rfl⟩
      · rw [if_neg (fun h => c2 h.2)]; exact Or.inl rfl
    · refine Or.inr ⟨more.length, ?_⟩
      rw [List.take_of_length_le (by simp; omega), List.getElem?_eq_none (by simp; omega), List.take_of_length_le (Nat.le_refl _)]
      rfl
  unfold fall20
  rcases hk with hk | ⟨k, hk⟩
  · rw [hk, hurt_nil]
    refine ⟨[], ?_, by simp, Or.inl fun i hi => by simp at hi⟩
    show get20 [(a, was)] a = _
    rw [get20, if_pos rfl, List.append_nil]
  · rw [hk]
    have hap : apps20 [⟨1, a, [], more.take k, 0⟩] = more.take k := by unfold apps20; simp
    have hsame : ∀ i, i < (more.take k).length → (more.take k)[i]? = more[i]? := fun i hi => by
      rw [List.length_take] at hi
      rw [List.getElem?_take, if_pos (by omega)]
    unfold hurt20
    rw [hap]
    by_cases c : burst = false ∨ more.take k = []
    · rw [if_pos c]
      exact ⟨_, hone _, by rw [List.length_take]; omega, Or.inl hsame⟩
    · rw [if_neg c]
      have hb : burst = true := by
        cases burst with
        | true => rfl
        | false => exact absurd (Or.inl rfl) c
      have hne : more.take k ≠ [] := fun e => c (Or.inr e)
      have hpos : 0 < ((more.take k).length : Int) := by
        have := List.length_pos_iff.2 hne
        omega
      have hp0 : ¬ (at_ % 18446744073709551616) % (8 * ((more.take k).length : Int)) < 0 := by
        have := Int.emod_nonneg (at_ % 18446744073709551616) (show (8 * ((more.take k).length : Int)) ≠ 0 by omega)
        omega
      generalize (at_ % 18446744073709551616) % (8 * ((more.take k).length : Int)) = p at hp0
      have hbl := burst18_len (more.take k) p bits
      refine ⟨burst18 (more.take k) p bits, ?_, by rw [hbl, List.length_take]; omega, Or.inr ⟨hb, p.toNat, fun i hi hd => ?_⟩⟩
      · have : lay20 [⟨1, a, [], more.take k, 0⟩] (burst18 (more.take k) p bits) = [⟨1, a, [], burst18 (more.take k) p bits, 0⟩] := by
          rw [lay20, if_pos rfl]
          simp only [lay20]
          rw [← hbl, List.take_of_length_le (Nat.le_refl _)]
        rw [this]
        exact hone _
      · rw [hbl] at hi
        rw [← hsame i hi] at hd
        unfold burst18 at hd
        rw [if_neg hp0] at hd
        exact burst_window _ _ _ _ hd
end Go.Proofs.Ytahndjgamoojkaa

/- Attributes, tokens and nodes: plain. -/
namespace Go.Proofs.Ytahndjgamoojkaa

/-- An attribute: its name, its value. -/
abbrev At := List UInt8 × List UInt8
/-- A token. -/
structure Tk where
  kind : Int
  name : List UInt8
  attrs : List At
  text : List UInt8
/-- A node: up is its parent's place. -/
structure Nd where
  name : List UInt8
  attrs : List At
  text : List UInt8
  up : Int
end Go.Proofs.Ytahndjgamoojkaa

/- Attributes in memory: a slice of them that the call itself made, and one that can be read, wherever it lies. -/
namespace Go.Proofs.Ytahndjgamoojkaa
open Go.RowKit

def atV (x : At) : List Value := [strV x.1, strV x.2]
def cellsA (l : List At) : List Value := l.flatMap atV
theorem cellsA_len (l : List At) : (cellsA l).length = l.length * 2 := by
  induction l with
  | nil => rfl
  | cons x t ih => simp [cellsA, atV] at ih ⊢; omega
theorem cellsA_app (l m : List At) : cellsA (l ++ m) = cellsA l ++ cellsA m := by simp [cellsA]
theorem cellsA_one (x : At) : cellsA [x] = [strV x.1, strV x.2] := rfl
theorem cellsA_at : ∀ (l : List At) (j : Nat), j < l.length → (cellsA l)[j * 2]? = some (strV (l.getD j ([], [])).1) ∧ (cellsA l)[j * 2 + 1]? = some (strV (l.getD j ([], [])).2)
  | [], j, h => by simp at h
  | x :: t, 0, _ => ⟨rfl, rfl⟩
  | x :: t, j + 1, h => by
    have := cellsA_at t j (by simpa using h)
    have e : cellsA (x :: t) = strV x.1 :: strV x.2 :: cellsA t := rfl
    rw [e, show (j + 1) * 2 = j * 2 + 1 + 1 by omega, show j * 2 + 1 + 1 + 1 = (j * 2 + 1) + 1 + 1 by omega]
    simpa using this
theorem cellsA_one' (l : List At) : ∀ u ∈ cellsA l, u.oneCell' = true := by
  intro u hu
  simp only [cellsA, List.mem_flatMap, atV] at hu
  obtain ⟨x, _, hu⟩ := hu
  simp at hu
  rcases hu with rfl | rfl <;> rfl
/-- A slice of attributes that can be read. -/
def AtSl (w : World) (v : Value) (l : List At) : Prop :=
  (l = [] ∧ ∃ a c, v = .slice a 0 c) ∨ ∃ b off c, l.length ≤ c ∧ v = .slice (some ⟨b, off, none⟩) l.length c ∧
    ∀ j, j < l.length → w.cell? ⟨b, off + j * 2, none⟩ = some (strV (l.getD j ([], [])).1) ∧ w.cell? ⟨b, off + j * 2 + 1, none⟩ = some (strV (l.getD j ([], [])).2)
theorem AtSl.form {w : World} {v : Value} {l : List At} (h : AtSl w v l) : ∃ a c, v = .slice a l.length c := by
  rcases h with ⟨rfl, a, c, rfl⟩ | ⟨b, off, c, _, rfl, _⟩
  · exact ⟨a, c, rfl⟩
  · exact ⟨_, c, rfl⟩
theorem AtSl.next {w w' : World} {v : Value} {l : List At} (h : AtSl w v l) (hb : Below w.heap.size w w') : AtSl w' v l := by
  rcases h with h | ⟨b, off, c, hc, rfl, h⟩
  · exact Or.inl h
  · refine Or.inr ⟨b, off, c, hc, rfl, fun j hj => ?_⟩
    have h0 := h j hj
    have hlt := World.block_lt_of_cell? w ⟨b, off + j * 2, none⟩ h0.1
    exact ⟨(hb.cell (p := ⟨b, off + j * 2, none⟩) hlt).trans h0.1, (hb.cell (p := ⟨b, off + j * 2 + 1, none⟩) hlt).trans h0.2⟩
theorem AtSl.some {w : World} {v : Value} {l : List At} (h : AtSl w v l) (h0 : l ≠ []) : ∃ b off c, l.length ≤ c ∧ b < w.heap.size ∧ v = .slice (some ⟨b, off, none⟩) l.length c ∧
    ∀ j, j < l.length → w.cell? ⟨b, off + j * 2, none⟩ = some (strV (l.getD j ([], [])).1) ∧ w.cell? ⟨b, off + j * 2 + 1, none⟩ = some (strV (l.getD j ([], [])).2) := by
  rcases h with ⟨h, _⟩ | ⟨b, off, c, hc, hv, h⟩
  · exact absurd h h0
  · have hl : 0 < l.length := List.length_pos_iff.2 h0
    exact ⟨b, off, c, hc, World.block_lt_of_cell? w ⟨b, off + 0 * 2, none⟩ (h 0 hl).1, hv, h⟩
theorem AtSl.nil {w : World} {v : Value} {l : List At} (h : AtSl w v l) (h0 : l = []) : ∃ a c, v = .slice a 0 c := by
  obtain ⟨a, c, e⟩ := h.form
  subst h0
  exact ⟨a, c, e⟩
theorem atSl_nil (w : World) (a : Option Addr) (c : Nat) : AtSl w (.slice a 0 c) [] := Or.inl ⟨rfl, a, c, rfl⟩
end Go.Proofs.Ytahndjgamoojkaa

/- Layer 20, plain: the place of a file; what put, drop, may come to by places. -/
namespace Go.Proofs.Ytahndjgamoojkaa

/-- Is a byte a letter a to z? -/
def azB (c : UInt8) : Bool := decide (97 ≤ c.toNat) && decide (c.toNat ≤ 122)
theorem name_eq (s : List UInt8) : name20 s = (s.all azB && decide (1 ≤ s.length) && decide (s.length ≤ 16)) := rfl
section
variable {α : Type}
/-- The place of a name; as many as there are, if it isn't there. -/
def pos20 : List (List UInt8 × α) → List UInt8 → Nat
  | [], _ => 0
  | f :: r, n => if f.1 = n then 0 else pos20 r n + 1
theorem pos_le : ∀ (l : List (List UInt8 × α)) (n : List UInt8), pos20 l n ≤ l.length
  | [], _ => Nat.le_refl _
  | f :: r, n => by
    rw [pos20]
    split
    · exact Nat.zero_le _
    · have := pos_le r n
      rw [List.length_cons]
      omega
theorem pos_get : ∀ (l : List (List UInt8 × α)) (n : List UInt8), get20 l n = (l[pos20 l n]?).map Prod.snd
  | [], _ => rfl
  | f :: r, n => by
    rw [get20, pos20]
    by_cases h : f.1 = n
    · rw [if_pos h, if_pos h]; rfl
    · rw [if_neg h, if_neg h, List.getElem?_cons_succ]
      exact pos_get r n
theorem pos_some (l : List (List UInt8 × α)) (n : List UInt8) : (get20 l n).isSome = decide (pos20 l n < l.length) := by
  have hle := pos_le l n
  rw [pos_get, Option.isSome_map]
  by_cases h : pos20 l n < l.length
  · rw [List.getElem?_eq_getElem h, decide_eq_true h]; rfl
  · rw [List.getElem?_eq_none (by omega), decide_eq_false h]; rfl
theorem pos_name : ∀ (l : List (List UInt8 × α)) (n : List UInt8) (h : pos20 l n < l.length), (l[pos20 l n]'h).1 = n
  | [], _, h => by simp [pos20] at h
  | f :: r, n, h => by
    by_cases e : f.1 = n
    · have e0 : pos20 (f :: r) n = 0 := by rw [pos20, if_pos e]
      simp only [e0, List.getElem_cons_zero]
      exact e
    · have e0 : pos20 (f :: r) n = pos20 r n + 1 := by rw [pos20, if_neg e]
      simp only [e0, List.getElem_cons_succ]
      exact pos_name r n (by rw [e0, List.length_cons] at h; omega)
theorem pos_rep : ∀ (l : List (List UInt8 × α)) (n : List UInt8) (d : α), pos20 l n < l.length → rep20 l n d = l.set (pos20 l n) (n, d)
  | [], _, _, h => by simp [pos20] at h
  | f :: r, n, d, h => by
    rw [rep20, pos20]
    by_cases e : f.1 = n
    · rw [if_pos e, if_pos e]; rfl
    · rw [if_neg e, if_neg e, List.set_cons_succ, pos_rep r n d]
      rw [pos20, if_neg e, List.length_cons] at h
      omega
/-- Where a name that isn't there is put. -/
def at20 : List (List UInt8 × α) → List UInt8 → Nat
  | [], _ => 0
  | f :: r, n => if f.1 < n then at20 r n + 1 else 0
theorem at_le : ∀ (l : List (List UInt8 × α)) (n : List UInt8), at20 l n ≤ l.length
  | [], _ => Nat.le_refl _
  | f :: r, n => by
    rw [at20]
    split
    · have := at_le r n
      rw [List.length_cons]
      omega
    · exact Nat.zero_le _
theorem at_ins : ∀ (l : List (List UInt8 × α)) (n : List UInt8) (d : α), ins20 l n d = l.take (at20 l n) ++ (n, d) :: l.drop (at20 l n)
  | [], _, _ => rfl
  | f :: r, n, d => by
    rw [ins20, at20]
    by_cases e : f.1 < n
    · rw [if_pos e, if_pos e, List.take_succ_cons, List.drop_succ_cons, List.cons_append, at_ins r n d]
    · rw [if_neg e, if_neg e]; rfl
/-- The search, from a place on. -/
theorem pos_next (l : List (List UInt8 × α)) (n : List UInt8) {k : Nat} (h : k < l.length) : pos20 (l.drop k) n = if (l[k]'h).1 = n then 0 else pos20 (l.drop (k + 1)) n + 1 := by rw [List.drop_eq_getElem_cons h, pos20]
theorem at_next (l : List (List UInt8 × α)) (n : List UInt8) {k : Nat} (h : k < l.length) : at20 (l.drop k) n = if (l[k]'h).1 < n then at20 (l.drop (k + 1)) n + 1 else 0 := by rw [List.drop_eq_getElem_cons h, at20]
theorem drop_next (l : List (List UInt8 × α)) (n : List UInt8) {k : Nat} (h : k < l.length) : drop20 (l.take (k + 1)) n = drop20 (l.take k) n ++ if (l[k]'h).1 = n then [] else [l[k]'h] := by
  unfold drop20
  rw [List.take_succ_eq_append_getElem h, List.filter_append]
  congr 1
  by_cases e : (l[k]'h).1 = n
  · rw [if_pos e, List.filter_cons_of_neg (by simp [e])]; rfl
  · rw [if_neg e, List.filter_cons_of_pos (by simp [e])]; rfl
end
/-- The place as the program tells it: -1 where it isn't there. -/
def find20 (l : List Fl20) (n : List UInt8) : Int := if pos20 l n < l.length then pos20 l n else -1
theorem data_pos (l : List Fl20) (n : List UInt8) (h : pos20 l n < l.length) : data20 l n = (l[pos20 l n]'h).2 := by
  unfold data20
  rw [pos_get, List.getElem?_eq_getElem h]
  rfl
theorem data_no {l : List Fl20} {n : List UInt8} (h : ¬ pos20 l n < l.length) : data20 l n = [] := by
  unfold data20
  rw [pos_get, List.getElem?_eq_none (by omega)]
  rfl
theorem put_pos (l : List Fl20) (n d : List UInt8) : put20 l n d = if pos20 l n < l.length then l.set (pos20 l n) (n, d) else l.take (at20 l n) ++ (n, d) :: l.drop (at20 l n) := by
  unfold put20
  rw [pos_some]
  by_cases h : pos20 l n < l.length
  · rw [if_pos h, if_pos (by simp [h]), pos_rep l n d h]
  · rw [if_neg h, if_neg (by simp [h]), at_ins]
end Go.Proofs.Ytahndjgamoojkaa
