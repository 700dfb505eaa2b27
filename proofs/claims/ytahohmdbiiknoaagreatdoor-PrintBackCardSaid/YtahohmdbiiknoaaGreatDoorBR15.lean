/- Layer 17, plain: a list of nodes with entries, each behind a line's end; what is read of it. -/
import Derived.Test.YtahohmdbiiknoaaGreatDoorBR06
import Derived.Test.YtahohmdbiiknoaaGreatDoorBR14
import Derived.Test.YtahohmdbiiknoaaGreatDoorBR07
import Derived.KernelRfl
namespace Go.Proofs.YtahohmdbiiknoaaGreatDoor

/-- An entry's nodes, from place b on, as u's kids: a line's end, an element of fields. -/
def blkN (u : Int) (nme : List UInt8) (b : Nat) (F : List Fd) : List Nd := ⟨[], [], [10], u⟩ :: ⟨nme, [], [], u⟩ :: fldN ((b + 1 : Nat) : Int) (b + 2) F
def blksN (u : Int) (nme : List UInt8) : Nat → List (List Fd) → List Nd
  | _, [] => []
  | b, F :: r => blkN u nme b F ++ blksN u nme (b + 2 + fldL F) r
def blksL : List (List Fd) → Nat
  | [] => 0
  | F :: r => 2 + fldL F + blksL r
def blkAt : Nat → List (List Fd) → List (Nat × List Fd)
  | _, [] => []
  | b, F :: r => (b + 1, F) :: blkAt (b + 2 + fldL F) r
theorem blkN_len (u : Int) (nme : List UInt8) (b : Nat) (F : List Fd) : (blkN u nme b F).length = 2 + fldL F := by unfold blkN; simp only [List.length_cons, fldN_len]; omega
theorem blksN_len (u : Int) (nme : List UInt8) : ∀ (Fs : List (List Fd)) (b : Nat), (blksN u nme b Fs).length = blksL Fs
  | [], _ => rfl
  | F :: r, b => by rw [blksN, List.length_append, blkN_len, blksN_len u nme r, blksL]
theorem blkAt_snd : ∀ (Fs : List (List Fd)) (b : Nat), (blkAt b Fs).map Prod.snd = Fs
  | [], _ => rfl
  | F :: r, b => by rw [blkAt, List.map_cons, blkAt_snd r]
theorem blksN_up (u : Int) (nme : List UInt8) : ∀ (Fs : List (List Fd)) (b : Nat), ∀ x ∈ blksN u nme b Fs, x.up = u ∨ ((b : Int) < x.up ∧ x.up < b + blksL Fs)
  | [], _, x, h => by cases h
  | F :: r, b, x, h => by
    rw [blksN] at h
    rw [blksL]
    rcases List.mem_append.1 h with h | h
    · unfold blkN at h
      rcases List.mem_cons.1 h with h | h
      · subst h; exact Or.inl rfl
      rcases List.mem_cons.1 h with h | h
      · subst h; exact Or.inl rfl
      · rcases fldN_up _ F _ x h with e | ⟨e1, e2⟩ <;> right <;> omega
    · rcases blksN_up u nme r _ x h with e | ⟨e1, e2⟩
      · exact Or.inl e
      · right; omega
/-- What one says of i: it has the fields F. -/
def SaysF (L : List Nd) (i : Int) (F : List Fd) : Prop := (∀ nm, nm ≠ [] → fieldB L i nm = (F.find? fun f => f.nm == nm).map fun f => cleanB f.txt) ∧ linksB L i = (F.filter fun f => f.nm == linkL).map Fd.ats
theorem blks_says {L : List Nd} {u : Int} {nme : List UInt8} (hT : TreeAt L) (hu0 : 0 ≤ u) : ∀ (Fs : List (List Fd)) (A C : List Nd), L = A ++ blksN u nme A.length Fs ++ C → u < A.length → (∀ F ∈ Fs, ∀ f ∈ F, f.nm ≠ []) → (∀ x ∈ A, x.up < A.length) →
    (∀ x ∈ C, x.up < A.length ∨ ((A.length + blksL Fs : Nat) : Int) ≤ x.up) → ∀ z ∈ blkAt A.length Fs, SaysF L (z.1 : Int) z.2 ∧ (atN L (z.1 : Int)).name = nme ∧ (atN L ((z.1 : Int) - 1)).name = []
  | [], _, _, _, _, _, _, _, z, hz => by cases hz
  | F :: r, A, C, hL, hu, hF, hA, hC, z, hz => by
    rw [blksN, blkN] at hL
    rw [blksL] at hC
    rcases List.mem_cons.1 hz with hz | hz
    · subst hz
      have hle : (A ++ [⟨[], [], [10], u⟩, ⟨nme, [], [], u⟩] : List Nd).length = A.length + 2 := by simp
      have hL2 : L = (A ++ [⟨[], [], [10], u⟩, ⟨nme, [], [], u⟩]) ++ fldN ((A.length + 1 : Nat) : Int) (A ++ [⟨[], [], [10], u⟩, ⟨nme, [], [], u⟩] : List Nd).length F ++ (blksN u nme (A.length + 2 + fldL F) r ++ C) := by rw [hle, hL]; simp
      refine ⟨?_, ?_, ?_⟩
      · refine fld_field (C := blksN u nme (A.length + 2 + fldL F) r ++ C) hL2 hT (by omega) (by rw [hle]; omega) (hF F (by simp)) (fun x hx => ?_) (fun x hx => ?_)
        · rw [hle]
          rcases List.mem_append.1 hx with hx | hx
          · have := hA x hx; omega
          · have : x.up = u := by
              rcases List.mem_cons.1 hx with hx | hx
              · subst hx; rfl
              · rw [List.mem_singleton] at hx; subst hx; rfl
            omega
        · dsimp only
          rw [hle]
          rcases List.mem_append.1 hx with hx | hx
          · rcases blksN_up u nme r _ x hx with e | ⟨e1, e2⟩ <;> omega
          · rcases hC x hx with e | e <;> omega
      · have e : L = (A ++ [⟨[], [], [10], u⟩]) ++ ⟨nme, [], [], u⟩ :: (fldN ((A.length + 1 : Nat) : Int) (A.length + 2) F ++ (blksN u nme (A.length + 2 + fldL F) r ++ C)) := by rw [hL]; simp
        have := atN_mid (A ++ [⟨[], [], [10], u⟩]) (fldN ((A.length + 1 : Nat) : Int) (A.length + 2) F ++ (blksN u nme (A.length + 2 + fldL F) r ++ C)) ⟨nme, [], [], u⟩
        rw [← e] at this
        rw [show ((A.length + 1 : Nat) : Int) = ((A ++ [⟨[], [], [10], u⟩] : List Nd).length : Int) by simp, this]
      · have e : L = A ++ ⟨[], [], [10], u⟩ :: (⟨nme, [], [], u⟩ :: (fldN ((A.length + 1 : Nat) : Int) (A.length + 2) F ++ (blksN u nme (A.length + 2 + fldL F) r ++ C))) := by rw [hL]; simp
        have := atN_mid A (⟨nme, [], [], u⟩ :: (fldN ((A.length + 1 : Nat) : Int) (A.length + 2) F ++ (blksN u nme (A.length + 2 + fldL F) r ++ C))) ⟨[], [], [10], u⟩
        rw [← e] at this
        show (atN L (((A.length + 1 : Nat) : Int) - 1)).name = []
        rw [show ((A.length + 1 : Nat) : Int) - 1 = (A.length : Int) by omega, this]
    · have hle : (A ++ blkN u nme A.length F).length = A.length + 2 + fldL F := by rw [List.length_append, blkN_len]; omega
      refine blks_says hT hu0 r (A ++ blkN u nme A.length F) C (by rw [hle, hL]; unfold blkN; simp) (by rw [hle]; omega) (fun G hG => hF G (by simp [hG])) (fun x hx => ?_) (fun x hx => ?_) z (by rw [hle]; exact hz)
      · rw [hle]
        rcases List.mem_append.1 hx with hx | hx
        · have := hA x hx; omega
        · have h2 := blksN_up u nme [F] A.length x (by rw [blksN, blksN, List.append_nil]; exact hx)
          rw [blksL, blksL] at h2
          omega
      · rw [hle]
        rcases hC x hx with e | e
        · left; omega
        · right; omega
theorem blks_kids (u : Int) (nme : List UInt8) : ∀ (Fs : List (List Fd)) (b : Nat), u < b → kidsF u b (blksN u nme b Fs) = (blkAt b Fs).flatMap fun z => [(z.1 : Int) - 1, (z.1 : Int)]
  | [], _, _ => rfl
  | F :: r, b, h => by
    rw [blksN, kidsF_app, blkN_len, show b + (2 + fldL F) = b + 2 + fldL F by omega, blks_kids u nme r _ (by omega), blkAt, List.flatMap_cons]
    congr 1
    unfold blkN
    rw [kidsF, if_pos ⟨rfl, by omega⟩, kidsF, if_pos ⟨rfl, by omega⟩, kidsF_none u _ _ (fun x hx => by rcases fldN_up _ F _ x hx with e | ⟨e1, e2⟩ <;> omega)]
    simp
/-- The places of the entries. -/
theorem blks_named {L H E : List Nd} {u : Int} {nme : List UInt8} {Fs : List (List Fd)} (hL : L = H ++ blksN u nme H.length Fs ++ E) (hT : TreeAt L) (hu0 : 0 ≤ u) (hu : u < H.length) (hn : nme ≠ []) (hF : ∀ F ∈ Fs, ∀ f ∈ F, f.nm ≠ []) (hH : ∀ x ∈ H, x.up < H.length)
    (hE : E = [⟨[], [], [10], u⟩]) (hno : (kidsF u 0 H).filter (fun j => (atN L j).name == nme) = []) :
    namedB L u nme = (blkAt H.length Fs).map (fun z => (z.1 : Int)) ∧ ∀ z ∈ blkAt H.length Fs, SaysF L (z.1 : Int) z.2 := by
  have hs := blks_says hT hu0 Fs H E hL hu hF hH (fun x hx => by subst hE; rw [List.mem_singleton] at hx; subst hx; left; exact hu)
  refine ⟨?_, fun z hz => (hs z hz).1⟩
  have hpl : placeB L u = true := by rw [place_iff, hL]; simp only [List.length_append]; omega
  unfold namedB
  rw [if_neg hn, kidsB_F hpl]
  have hlast : (atN L ((H.length + blksL Fs : Nat) : Int)).name = [] := by
    have := atN_mid (H ++ blksN u nme H.length Fs) [] ⟨[], [], [10], u⟩
    rw [← hE, ← hL, List.length_append, blksN_len] at this
    rw [this]
  have hkl : kidsF u 0 L = kidsF u 0 H ++ ((blkAt H.length Fs).flatMap (fun z => [(z.1 : Int) - 1, (z.1 : Int)]) ++ [((H.length + blksL Fs : Nat) : Int)]) := by
    conv => lhs; rw [hL]
    rw [kidsF_app, kidsF_app, Nat.zero_add, Nat.zero_add, blks_kids u nme Fs _ (by omega), List.append_assoc, List.length_append, blksN_len, hE, kidsF, if_pos ⟨rfl, by omega⟩, kidsF, List.append_nil]
  rw [hkl, List.filter_append, hno, List.nil_append, List.filter_append]
  have h1 : [((H.length + blksL Fs : Nat) : Int)].filter (fun j => (atN L j).name == nme) = [] := by
    rw [List.filter_cons, hlast, if_neg (by simpa using hn)]; rfl
  rw [h1, List.append_nil]
  generalize blkAt H.length Fs = zs at hs
  clear hkl hL hno hE hF
  induction zs with
  | nil => rfl
  | cons z r ih =>
    have hz := hs z (by simp)
    rw [List.flatMap_cons, List.filter_append, ih fun y hy => hs y (by simp [hy]), List.map_cons, List.filter_cons, hz.2.2, if_neg (by simpa using hn), List.filter_cons, hz.2.1, if_pos (by simp)]
    rfl
/-- The entries are read, each by its fields. -/
theorem read_blks {L H E : List Nd} {u : Int} {nme : List UInt8} {Fs : List (List Fd)} (hL : L = H ++ blksN u nme H.length Fs ++ E) (hT : TreeAt L) (hu0 : 0 ≤ u) (hu : u < H.length) (hn : nme ≠ []) (hF : ∀ F ∈ Fs, ∀ f ∈ F, f.nm ≠ []) (hH : ∀ x ∈ H, x.up < H.length)
    (hE : E = [⟨[], [], [10], u⟩]) (hno : (kidsF u 0 H).filter (fun j => (atN L j).name == nme) = []) (G : Int → ItO) (g : List Fd → ItO) (hG : ∀ i F, F ∈ Fs → SaysF L i F → G i = g F) (many : Int) (hm : (Fs.length : Int) ≤ many) :
    readB L u nme G many = gatherB (Fs.map g) [] false := by
  obtain ⟨h1, h2⟩ := blks_named hL hT hu0 hu hn hF hH hE hno
  have hs := blkAt_snd Fs H.length
  unfold readB
  rw [h1, if_neg (by have := congrArg List.length hs; simp only [List.length_map] at this ⊢; omega)]
  congr 1
  have hmem : ∀ z ∈ blkAt H.length Fs, z.2 ∈ Fs := fun z hz => by rw [← hs]; exact List.mem_map.2 ⟨z, hz, rfl⟩
  rw [List.map_map]
  conv => rhs; rw [← hs, List.map_map]
  exact List.map_congr_left fun z hz => hG _ _ (hmem z hz) (h2 z hz)
end Go.Proofs.YtahohmdbiiknoaaGreatDoor

/- Layer 15, plain: links; an entry of its fields and its link; the entries of a feed. -/
namespace Go.Proofs.YtahohmdbiiknoaaGreatDoor
open Go.RowKit

def hrefL : List UInt8 := [104, 114, 101, 102]
def relL : List UInt8 := [114, 101, 108]
def altL : List UInt8 := [97, 108, 116, 101, 114, 110, 97, 116, 101]
def idL : List UInt8 := [105, 100]
def sumL : List UInt8 := [115, 117, 109, 109, 97, 114, 121]
def contL : List UInt8 := [99, 111, 110, 116, 101, 110, 116]
def updL : List UInt8 := [117, 112, 100, 97, 116, 101, 100]
def pubdL : List UInt8 := [112, 117, 98, 108, 105, 115, 104, 101, 100]
def feedL : List UInt8 := [102, 101, 101, 100]
def entryL : List UInt8 := [101, 110, 116, 114, 121]
/-- Are these the attributes of a link that leads somewhere? -/
def goodA (a : List At) : Bool := (attrB a hrefL).2 && (!(attrB a relL).2 || (attrB a relL).1 == altL)
/-- Where the first of links leads. -/
def leadB (L : List (List At)) : Option (List UInt8) := (L.find? goodA).map fun a => cleanB (attrB a hrefL).1
/-- A node's link. -/
def linkB (l : List Nd) (i : Int) : Option (List UInt8) := leadB (linksB l i)
/-- The first of two that is there. -/
def orB (a b : Option (List UInt8)) : Option (List UInt8) := match a with | some s => some s | none => b
/-- The entry of the fields F and the link L, where dates are read by R. -/
def oneA (F : List UInt8 → Option (List UInt8)) (L : Option (List UInt8)) (R : List UInt8 → Int × Bool) : It where
  guid := (F idL).getD []
  title := (F titleL).getD []
  link := L.getD []
  body := (orB (F sumL) (F contL)).getD []
  date := (R ((orB (F updL) (F pubdL)).getD [])).1
  dated := (R ((orB (F updL) (F pubdL)).getD [])).2
def itA (F : List UInt8 → Option (List UInt8)) (L : Option (List UInt8)) (R : List UInt8 → Int × Bool) (most : Int) : ItO :=
  if shortB (oneA F L R) most = false then .bad 6 else if (oneA F L R).guid = [] ∨ (oneA F L R).dated = false then .bad 7 else .it (oneA F L R)
/-- What Items says of a list of nodes. -/
def itsA (l : List Nd) (R : List UInt8 → Int × Bool) (many most : Int) : ItsO :=
  if l = [] ∨ (atN l 0).name ≠ feedL then .bad 5 else readB l 0 entryL (fun i => itA (fieldB l i) (linkB l i) R most) many
theorem itA_cases (F : List UInt8 → Option (List UInt8)) (L : Option (List UInt8)) (R : List UInt8 → Int × Bool) (most : Int) : itA F L R most = .bad 6 ∨ itA F L R most = .bad 7 ∨ ∃ x, itA F L R most = .it x := by
  unfold itA
  by_cases h1 : shortB (oneA F L R) most = false
  · rw [if_pos h1]; exact Or.inl rfl
  · rw [if_neg h1]
    by_cases h2 : (oneA F L R).guid = [] ∨ (oneA F L R).dated = false
    · rw [if_pos h2]; exact Or.inr (Or.inl rfl)
    · rw [if_neg h2]; exact Or.inr (Or.inr ⟨_, rfl⟩)
theorem itA_told {q l : List Nd} {j i : Int} (h : Told q j l i) (R : List UInt8 → Int × Bool) (most : Int) : itA (fieldB q j) (linkB q j) R most = itA (fieldB l i) (linkB l i) R most := by
  unfold linkB
  rw [h.links, show fieldB q j = fieldB l i from funext h.field]
theorem datedA (F : List UInt8 → Option (List UInt8)) (L : Option (List UInt8)) (R : List UInt8 → Int × Bool) : (oneA F L R).dated = (R ((orB (F updL) (F pubdL)).getD [])).2 := rfl
theorem r3339f_range {y m d c : Nat} {s : RSt} (h : (r3339f y m d c s).2 = true) : 0 ≤ (r3339f y m d c s).1 ∧ (r3339f y m d c s).1 ≤ 253402300799 := by
  unfold r3339f r3339g at h ⊢
  by_cases e1 : (skipC s [90]).1 = true
  · rw [if_pos e1] at h ⊢; exact dateC_range h
  · rw [if_neg e1] at h ⊢
    by_cases e2 : (skipC (skipC s [90]).2 [122]).1 = true
    · rw [if_pos e2] at h ⊢; exact dateC_range h
    · rw [if_neg e2] at h ⊢; exact dateC_range h
theorem r3339e_range {y m d c : Nat} {k : Bool × RSt} (h : (r3339e y m d c k).2 = true) : 0 ≤ (r3339e y m d c k).1 ∧ (r3339e y m d c k).1 ≤ 253402300799 := by
  unfold r3339e at h ⊢
  by_cases e1 : k.1 = true
  · rw [if_pos e1] at h ⊢; exact r3339f_range h
  · rw [if_neg e1] at h ⊢; exact r3339f_range h
theorem r3339C_range {l : List UInt8} (h : (r3339C l).2 = true) : 0 ≤ (r3339C l).1 ∧ (r3339C l).1 ≤ 253402300799 := by
  unfold r3339C r3339y r3339a r3339b r3339c r3339d at h ⊢
  exact r3339e_range h
/-- An entry of a feed as it should be. -/
theorem itA_it {F : List UInt8 → Option (List UInt8)} {L : Option (List UInt8)} {R : List UInt8 → Int × Bool} (hR : ∀ l, (R l).2 = true → 0 ≤ (R l).1 ∧ (R l).1 ≤ 253402300799) {most : Int} {x : It} (h : itA F L R most = .it x) : ItGood most x ∧ x.dated = true := by
  unfold itA at h
  by_cases h1 : shortB (oneA F L R) most = false
  · rw [if_pos h1] at h; cases h
  · rw [if_neg h1] at h
    have h1' : shortB (oneA F L R) most = true := by simpa using h1
    by_cases h2 : (oneA F L R).guid = [] ∨ (oneA F L R).dated = false
    · rw [if_pos h2] at h; cases h
    · rw [if_neg h2] at h
      injection h with h
      subst h
      clear h1
      have hd : (oneA F L R).dated = true := by
        cases hc : (oneA F L R).dated with
        | true => rfl
        | false => exact absurd (Or.inr hc) h2
      exact ⟨⟨fun e => h2 (Or.inl e), h1', fun hd => by rw [datedA] at hd; exact hR _ hd⟩, hd⟩
theorem readB_its {l : List Nd} {c : Int} {nm : List UInt8} {G : Int → ItO} {many : Int} {xs : List It} (h : readB l c nm G many = .its xs) : (xs.length : Int) ≤ many ∧ xs.length ≤ l.length ∧ ∀ x ∈ xs, ∃ i, G i = .it x := by
  unfold readB at h
  by_cases hm : many < ((namedB l c nm).length : Int)
  · rw [if_pos hm] at h; cases h
  · rw [if_neg hm] at h
    obtain ⟨_, ys, h2, h3⟩ := gatherB_all _ _ _ _ h
    rw [List.nil_append] at h3
    subst h3
    have hlen : (namedB l c nm).length = xs.length := by
      have := congrArg List.length h2
      simpa using this
    have := namedB_len l c nm
    refine ⟨by omega, by omega, fun x hx => ?_⟩
    have hmem : ItO.it x ∈ (namedB l c nm).map G := by rw [h2]; exact List.mem_map.2 ⟨x, hx, rfl⟩
    obtain ⟨i, _, e⟩ := List.mem_map.1 hmem
    exact ⟨i, e⟩
theorem itsA_its {l : List Nd} {many most : Int} {xs : List It} (h : itsA l r3339C many most = .its xs) : (xs.length : Int) ≤ many ∧ xs.length ≤ l.length ∧ ∀ x ∈ xs, ItGood most x ∧ x.dated = true := by
  unfold itsA at h
  split at h
  · cases h
  · obtain ⟨h1, h2, h3⟩ := readB_its h
    refine ⟨h1, h2, fun x hx => ?_⟩
    obtain ⟨i, e⟩ := h3 x hx
    exact itA_it (fun _ => r3339C_range) e
end Go.Proofs.YtahohmdbiiknoaaGreatDoor

/- Layer 17, plain: the tokens of printed documents, and their nodes. -/
namespace Go.Proofs.YtahohmdbiiknoaaGreatDoor

theorem foldB_cat : ∀ (a b : List Tk) (s : Bs), foldB s (a ++ b) = match foldB s a with | none => none | some s' => foldB s' b
  | [], b, s => rfl
  | x :: a, b, s => by
    rw [List.cons_append, foldB, foldB]
    cases takeB s x with
    | none => rfl
    | some s' => exact foldB_cat a b s'
theorem name_ne {nm : List UInt8} (h : nameB nm = true) : nm ≠ [] := by
  obtain ⟨c, r, rfl, _⟩ := name_head h
  simp
theorem take_begin {N : List Nd} {u : Int} {nm : List UInt8} (a : List At) (hu : u ≠ -1) (hn : nm ≠ []) : takeB ⟨N, u⟩ ⟨1, nm, a, []⟩ = some ⟨N ++ [⟨nm, a, [], u⟩], N.length⟩ := by
  unfold takeB
  rw [if_neg (fun e => hu e.1), if_pos ⟨rfl, hn⟩]; rfl
theorem take_empty {N : List Nd} {u : Int} {nm : List UInt8} (a : List At) (hu : u ≠ -1) (hn : nm ≠ []) : takeB ⟨N, u⟩ ⟨3, nm, a, []⟩ = some ⟨N ++ [⟨nm, a, [], u⟩], u⟩ := by
  unfold takeB
  rw [if_neg (fun e => hu e.1), if_neg (fun e => by simp at e), if_pos ⟨rfl, hn⟩]; rfl
theorem take_text {N : List Nd} {u : Int} (x : List UInt8) (hu : u ≠ -1) : takeB ⟨N, u⟩ (tx x) = some ⟨N ++ [⟨[], [], x, u⟩], u⟩ := by
  unfold takeB tx
  rw [if_neg (fun e => hu e.1), if_neg (fun e => by simp at e), if_neg (fun e => by simp at e), if_pos ⟨rfl, hu⟩]; rfl
theorem take_end {N : List Nd} {u : Int} {nm : List UInt8} (hu : u ≠ -1) (hn : (atN N u).name = nm) : takeB ⟨N, u⟩ ⟨2, nm, [], []⟩ = some ⟨N, upN N u⟩ := by
  unfold takeB
  rw [if_neg (fun e => hu e.1), if_neg (fun e => by simp at e), if_neg (fun e => by simp at e), if_neg (fun e => by simp at e), if_pos ⟨rfl, hu, hn.symm⟩]
theorem fold_field {N : List Nd} {u : Int} (hu : u ≠ -1) (f : Pf) (hf : f.ok = true) : foldB ⟨N, u⟩ f.toks = some ⟨N ++ elN f.fd u N.length, u⟩ := by
  cases f with
  | el nm x =>
    have hn := name_ne (show nameB nm = true from hf)
    unfold Pf.toks Pf.fd elN
    rw [foldB, take_begin [] hu hn]
    simp only
    by_cases hx : x = []
    · have hat := atN_mid N [] ⟨nm, [], [], u⟩
      rw [if_pos hx, if_pos hx, List.nil_append, foldB, take_end (by omega) (by rw [hat])]
      simp only [foldB]
      unfold upN
      rw [hat]
    · have hat := atN_mid N [⟨[], [], x, N.length⟩] ⟨nm, [], [], u⟩
      rw [if_neg hx, if_neg hx, List.singleton_append, foldB, take_text x (by omega)]
      simp only
      rw [List.append_assoc, List.singleton_append, foldB, take_end (by omega) (by rw [hat])]
      simp only [foldB]
      unfold upN
      rw [hat]
  | lk nm an x =>
    have hn : nameB nm = true ∧ nameB an = true := by have : (nameB nm && nameB an) = true := hf; simpa using this
    unfold Pf.toks Pf.fd elN
    rw [foldB, take_empty _ hu (name_ne hn.1)]
    rfl
theorem fold_fields {u : Int} (hu : u ≠ -1) : ∀ (F : List Pf) (N : List Nd), (∀ f ∈ F, f.ok = true) → foldB ⟨N, u⟩ (F.flatMap Pf.toks) = some ⟨N ++ fldN u N.length (F.map Pf.fd), u⟩
  | [], N, _ => by simp [foldB, fldN]
  | f :: r, N, h => by
    rw [List.flatMap_cons, foldB_cat, fold_field hu f (h f (by simp))]
    simp only
    rw [fold_fields hu r _ (fun g hg => h g (by simp [hg])), List.map_cons, fldN, List.length_append, elN_len, List.append_assoc]
theorem fold_item {N : List Nd} {u : Int} {nme : List UInt8} (hu : u ≠ -1) (hn : nme ≠ []) (F : List Pf) (h : ∀ f ∈ F, f.ok = true) : foldB ⟨N, u⟩ (itemT nme F) = some ⟨N ++ blkN u nme N.length (F.map Pf.fd), u⟩ := by
  unfold itemT blkN
  rw [foldB, take_text [10] hu]
  simp only
  rw [foldB, take_begin [] hu hn]
  simp only
  rw [foldB_cat, fold_fields (by omega) F _ h]
  simp only
  have hl : (N ++ [⟨[], [], [10], u⟩] : List Nd).length = N.length + 1 := by simp
  have hl2 : (N ++ [⟨[], [], [10], u⟩] ++ [⟨nme, [], [], u⟩] : List Nd).length = N.length + 2 := by simp
  rw [hl2, hl]
  have hat : atN (N ++ [⟨[], [], [10], u⟩] ++ [⟨nme, [], [], u⟩] ++ fldN ((N.length + 1 : Nat) : Int) (N.length + 2) (F.map Pf.fd)) ((N.length + 1 : Nat) : Int) = ⟨nme, [], [], u⟩ := by
    have := atN_mid (N ++ [⟨[], [], [10], u⟩]) (fldN ((N.length + 1 : Nat) : Int) (N.length + 2) (F.map Pf.fd)) ⟨nme, [], [], u⟩
    rw [hl] at this
    rw [List.append_assoc (N ++ _), List.singleton_append]
    exact this
  rw [foldB, take_end (by omega) (by rw [hat])]
  simp only [foldB]
  unfold upN
  rw [hat]
  simp
theorem fold_items {u : Int} {nme : List UInt8} (hu : u ≠ -1) (hn : nme ≠ []) : ∀ (Fs : List (List Pf)) (N : List Nd), (∀ F ∈ Fs, ∀ f ∈ F, f.ok = true) → foldB ⟨N, u⟩ (Fs.flatMap (itemT nme)) = some ⟨N ++ blksN u nme N.length (Fs.map fun F => F.map Pf.fd), u⟩
  | [], N, _ => by simp [foldB, blksN]
  | F :: r, N, h => by
    rw [List.flatMap_cons, foldB_cat, fold_item hu hn F (h F (by simp))]
    simp only
    rw [fold_items hu hn r _ (fun G hG => h G (by simp [hG])), List.map_cons, blksN, List.length_append, blkN_len, List.append_assoc]
    rw [show N.length + (2 + fldL (F.map Pf.fd)) = N.length + 2 + fldL (F.map Pf.fd) by omega]
/-- A document whose reader comes to its end. -/
theorem tokR_of {dep : Int} {l : List UInt8} {m : Nat} {s : Sc} (hg : goodN l = l.length) (hp : preR l = some m) (hf : finR dep sc0 (l.drop m) = (none, s)) (hr : s.rooted = true) (ho : s.opn = []) : tokR dep l = .toks s.toks := by
  have h := loopK_off (stepR_steps dep) sc0 (l.drop m) 0 m
  rw [Nat.add_zero] at h
  unfold finR at hf
  injection hf with h1 h2
  unfold tokR
  rw [hg, List.take_length, hp]
  simp only
  rw [h, h1, h2]
  simp only
  rw [if_neg (by rw [hr, ho]; simp)]
theorem finR_blank {dep : Int} {s : Sc} (ho : s.opn = []) (d : List UInt8) (hd : spanN blI (10 :: d) = 1) : finR dep s (10 :: d) = finR dep s d := by
  refine finR_step (n := 1) ?_
  unfold stepR outerR
  rw [if_neg (by simp), if_pos ho, hd, if_pos (by omega)]

def headL : List UInt8 := [60, 63, 120, 109, 108, 32, 118, 101, 114, 115, 105, 111, 110, 61, 34, 49, 46, 48, 34, 63, 62]
def verL : List UInt8 := [118, 101, 114, 115, 105, 111, 110]
def twoL : List UInt8 := [50, 46, 48]
def newsL : List UInt8 := [110, 101, 119, 115, 114, 101, 101, 108]
def nsL : List UInt8 := [120, 109, 108, 110, 115]
def w3L : List UInt8 := [104, 116, 116, 112, 58, 47, 47, 119, 119, 119, 46, 119, 51, 46, 111, 114, 103, 47, 50, 48, 48, 53, 47, 65, 116, 111, 109]
/-- A document of RSS, with these fields of each entry. -/
def rssD (Fs : List (List Pf)) : List UInt8 :=
  headL ++ 10 :: 60 :: (rssL ++ 32 :: (verL ++ 61 :: 34 :: (escB twoL ++ 34 :: 62 :: 60 :: (chanL ++ 62 :: ((Pf.el titleL newsL).bytes ++ 10 :: (Fs.flatMap (itemP itemL) ++ 60 :: 47 :: (chanL ++ 62 :: 60 :: 47 :: (rssL ++ [62, 10]))))))))
def rssT (Fs : List (List Pf)) : List Tk := [⟨1, rssL, [(verL, twoL)], []⟩, ⟨1, chanL, [], []⟩] ++ (Pf.el titleL newsL).toks ++ Fs.flatMap (itemT itemL) ++ [tx [10], ⟨2, chanL, [], []⟩, ⟨2, rssL, [], []⟩]
def rssH : List Nd := [⟨rssL, [(verL, twoL)], [], -1⟩, ⟨chanL, [], [], 0⟩, ⟨titleL, [], [], 1⟩, ⟨[], [], newsL, 2⟩]
def rssN (Fs : List (List Pf)) : List Nd := rssH ++ blksN 1 itemL 4 (Fs.map fun F => F.map Pf.fd) ++ [⟨[], [], [10], 1⟩]
theorem rss_toks {Fs : List (List Pf)} (h : ∀ F ∈ Fs, ∀ f ∈ F, f.ok = true) : finR 8 sc0 (10 :: 60 :: (rssL ++ 32 :: (verL ++ 61 :: 34 :: (escB twoL ++ 34 :: 62 :: 60 :: (chanL ++ 62 :: ((Pf.el titleL newsL).bytes ++ 10 :: (Fs.flatMap (itemP itemL) ++ 60 :: 47 :: (chanL ++ 62 :: 60 :: 47 :: (rssL ++ [62, 10]))))))))) = (none, ⟨true, [], [], rssT Fs⟩) := by
  rw [finR_blank rfl _ rfl, (finR_begin1 (nm := rssL) (an := verL) (by decide) (by decide) (Or.inr rfl) (by decide) twoL _).1, finR_begin (nm := chanL) (by decide) (Or.inl (by simp)) (by decide)]
  show finR 8 ⟨true, [rssL, chanL], [], [⟨1, rssL, [(verL, twoL)], []⟩, ⟨1, chanL, [], []⟩]⟩ _ = _
  rw [finR_field (by simp) (by decide) _ (by decide), finR_byte (by simp) (by decide) (by decide)]
  show finR 8 ⟨true, [rssL, chanL], [10], _⟩ _ = _
  rw [finR_items (by simp) (by decide) (by decide) Fs _ _ h, finR_end (nm := chanL) (o := [rssL]) (by decide) rfl, finR_end (nm := rssL) (o := []) (by decide) rfl, finR_blank rfl _ rfl, finR_nil]
  unfold rssT addT tx
  simp
theorem rss_nodes {Fs : List (List Pf)} (h : ∀ F ∈ Fs, ∀ f ∈ F, f.ok = true) : buildB (rssT Fs) = some (rssN Fs) := by
  have e1 : foldB bs0 ([⟨1, rssL, [(verL, twoL)], []⟩, ⟨1, chanL, [], []⟩] ++ (Pf.el titleL newsL).toks) = some ⟨rssH, 1⟩ := by kernel_rfl
  have e2 : foldB bs0 (rssT Fs) = some ⟨rssN Fs, -1⟩ := by
    unfold rssT
    rw [List.append_assoc, foldB_cat, e1]
    simp only
    rw [foldB_cat, fold_items (by decide) (by decide) Fs rssH h]
    simp only
    rw [foldB, take_text [10] (by decide)]
    simp only
    rw [foldB, take_end (by decide) (show (atN _ 1).name = chanL from rfl)]
    simp only
    rw [show upN (rssH ++ blksN 1 itemL rssH.length (Fs.map fun F => F.map Pf.fd) ++ [⟨[], [], [10], 1⟩]) 1 = 0 from rfl, foldB, take_end (by decide) (show (atN _ 0).name = rssL from rfl)]
    rfl
  unfold buildB
  rw [e2]
  simp only
  rw [if_pos ⟨trivial, by unfold rssN rssH; simp⟩]
theorem rss_docN {Fs : List (List Pf)} (h : ∀ F ∈ Fs, ∀ f ∈ F, f.ok = true) (hg : goodN (rssD Fs) = (rssD Fs).length) : tokR 8 (rssD Fs) = .toks (rssT Fs) := by
  exact tokR_of (m := 21) (s := ⟨true, [], [], rssT Fs⟩) hg (by unfold rssD headL; rfl) (rss_toks h) rfl rfl

/-- A document of Atom, with these fields of each entry. -/
def atomD (Fs : List (List Pf)) : List UInt8 :=
  headL ++ 10 :: 60 :: (feedL ++ 32 :: (nsL ++ 61 :: 34 :: (escB w3L ++ 34 :: 62 :: ((Pf.el titleL newsL).bytes ++ 10 :: (Fs.flatMap (itemP entryL) ++ 60 :: 47 :: (feedL ++ [62, 10]))))))
def atomT (Fs : List (List Pf)) : List Tk := [⟨1, feedL, [(nsL, w3L)], []⟩] ++ (Pf.el titleL newsL).toks ++ Fs.flatMap (itemT entryL) ++ [tx [10], ⟨2, feedL, [], []⟩]
def atomH : List Nd := [⟨feedL, [(nsL, w3L)], [], -1⟩, ⟨titleL, [], [], 0⟩, ⟨[], [], newsL, 1⟩]
def atomN (Fs : List (List Pf)) : List Nd := atomH ++ blksN 0 entryL 3 (Fs.map fun F => F.map Pf.fd) ++ [⟨[], [], [10], 0⟩]
theorem atom_toks {Fs : List (List Pf)} (h : ∀ F ∈ Fs, ∀ f ∈ F, f.ok = true) : finR 8 sc0 (10 :: 60 :: (feedL ++ 32 :: (nsL ++ 61 :: 34 :: (escB w3L ++ 34 :: 62 :: ((Pf.el titleL newsL).bytes ++ 10 :: (Fs.flatMap (itemP entryL) ++ 60 :: 47 :: (feedL ++ [62, 10]))))))) = (none, ⟨true, [], [], atomT Fs⟩) := by
  rw [finR_blank rfl _ rfl, (finR_begin1 (nm := feedL) (an := nsL) (by decide) (by decide) (Or.inr rfl) (by decide) w3L _).1]
  show finR 8 ⟨true, [feedL], [], [⟨1, feedL, [(nsL, w3L)], []⟩]⟩ _ = _
  rw [finR_field (by simp) (by decide) _ (by decide), finR_byte (by simp) (by decide) (by decide)]
  show finR 8 ⟨true, [feedL], [10], _⟩ _ = _
  rw [finR_items (by simp) (by decide) (by decide) Fs _ _ h, finR_end (nm := feedL) (o := []) (by decide) rfl, finR_blank rfl _ rfl, finR_nil]
  unfold atomT addT tx
  simp
theorem atom_nodes {Fs : List (List Pf)} (h : ∀ F ∈ Fs, ∀ f ∈ F, f.ok = true) : buildB (atomT Fs) = some (atomN Fs) := by
  have e1 : foldB bs0 ([⟨1, feedL, [(nsL, w3L)], []⟩] ++ (Pf.el titleL newsL).toks) = some ⟨atomH, 0⟩ := by kernel_rfl
  have e2 : foldB bs0 (atomT Fs) = some ⟨atomN Fs, -1⟩ := by
    unfold atomT
    rw [List.append_assoc, foldB_cat, e1]
    simp only
    rw [foldB_cat, fold_items (by decide) (by decide) Fs atomH h]
    simp only
    rw [foldB, take_text [10] (by decide)]
    simp only
    rw [foldB, take_end (by decide) (show (atN _ 0).name = feedL from rfl)]
    rfl
  unfold buildB
  rw [e2]
  simp only
  rw [if_pos ⟨trivial, by unfold atomN atomH; simp⟩]
theorem atom_docN {Fs : List (List Pf)} (h : ∀ F ∈ Fs, ∀ f ∈ F, f.ok = true) (hg : goodN (atomD Fs) = (atomD Fs).length) : tokR 8 (atomD Fs) = .toks (atomT Fs) := by
  exact tokR_of (m := 21) (s := ⟨true, [], [], atomT Fs⟩) hg (by unfold atomD headL; rfl) (atom_toks h) rfl rfl
end Go.Proofs.YtahohmdbiiknoaaGreatDoor

/- Layer 13, plain: dates as texts; single bytes ahead of a text. -/
namespace Go.Proofs.YtahohmdbiiknoaaGreatDoor

/-- A digit. -/
def dig (k : Nat) : UInt8 := UInt8.ofNat (48 + k)
def two13 (n : Nat) : List UInt8 := [dig (n / 10), dig (n % 10)]
def four13 (n : Nat) : List UInt8 := [dig (n / 1000), dig (n / 100 % 10), dig (n / 10 % 10), dig (n % 10)]
/-- Hours, minutes, seconds. -/
def clock13 (n : Nat) : List UInt8 := two13 (n / 3600) ++ [58] ++ two13 (n / 60 % 60) ++ [58] ++ two13 (n % 60)
/-- A date of RFC 3339, of one that is a date. -/
def p39 (y m d c : Nat) : List UInt8 := four13 y ++ [45] ++ two13 m ++ [45] ++ two13 d ++ [84] ++ clock13 c ++ [90]
def p82 (k y m d c : Nat) : List UInt8 := weekL.getD k [] ++ [44, 32] ++ two13 d ++ [32] ++ monthsL.getD (m - 1) [] ++ [32] ++ four13 y ++ [32] ++ clock13 c ++ [32, 71, 77, 84]
def print39 (n : Int) : List UInt8 := if n < 0 ∨ 253402300799 < n then [] else p39 (civN (n.toNat / 86400)).1 (civN (n.toNat / 86400)).2.1 (civN (n.toNat / 86400)).2.2 (n.toNat % 86400)
def print82 (n : Int) : List UInt8 := if n < 0 ∨ 253402300799 < n then [] else p82 ((n.toNat / 86400 + 3) % 7) (civN (n.toNat / 86400)).1 (civN (n.toNat / 86400)).2.1 (civN (n.toNat / 86400)).2.2 (n.toNat % 86400)
theorem pre_nil (c : UInt8) : Lib.hasPrefix [] [c] = false := rfl
theorem pre_cons (c x : UInt8) (t : List UInt8) : Lib.hasPrefix (x :: t) [c] = (c == x) := by
  show (c == x && List.isPrefixOf [] t) = (c == x)
  simp
theorem trim_cons (c : UInt8) (t : List UInt8) : Lib.trimPrefix (c :: t) [c] = t := by
  unfold Lib.trimPrefix
  rw [if_pos (by rw [pre_cons]; simp)]
  rfl
theorem trim_not {c x : UInt8} (h : c ≠ x) (t : List UInt8) : Lib.trimPrefix (x :: t) [c] = x :: t := by
  unfold Lib.trimPrefix
  rw [if_neg (by rw [pre_cons]; simpa using h)]
theorem skip_nil (c : UInt8) (b : Bool) : skipC ([], b) [c] = (false, ([], b)) := rfl
theorem skip_yes (c : UInt8) (t : List UInt8) (b : Bool) : skipC (c :: t, b) [c] = (true, (t, b)) := by
  unfold skipC; show (Lib.hasPrefix (c :: t) [c], (Lib.trimPrefix (c :: t) [c], b)) = _; rw [trim_cons, pre_cons]; simp
theorem skip_no {c x : UInt8} (h : c ≠ x) (t : List UInt8) (b : Bool) : skipC (x :: t, b) [c] = (false, (x :: t, b)) := by
  unfold skipC; show (Lib.hasPrefix (x :: t) [c], (Lib.trimPrefix (x :: t) [c], b)) = _; rw [trim_not h, pre_cons]; simp [h]
theorem sign_nil (c : UInt8) (b : Bool) : signC ([], b) [c] = ([], true) := rfl
theorem sign_yes (c : UInt8) (t : List UInt8) (b : Bool) : signC (c :: t, b) [c] = (t, b) := by
  unfold signC; show (Lib.trimPrefix (c :: t) [c], (if Lib.hasPrefix (c :: t) [c] = true then b else true)) = _; rw [trim_cons, pre_cons]; simp
theorem sign_no {c x : UInt8} (h : c ≠ x) (t : List UInt8) (b : Bool) : signC (x :: t, b) [c] = (x :: t, true) := by
  unfold signC; show (Lib.trimPrefix (x :: t) [c], (if Lib.hasPrefix (x :: t) [c] = true then b else true)) = _; rw [trim_not h, pre_cons]; simp [h]
theorem bt_cons (x : UInt8) (t : List UInt8) : bt (x :: t) 0 = (x.toNat : Int) := by unfold bt; rfl
theorem bt_is {x c : UInt8} {t : List UInt8} : (bt (x :: t) 0 = (c.toNat : Int)) ↔ c = x := by
  rw [bt_cons]
  constructor
  · intro h; exact (UInt8.toNat_inj.1 (by omega)).symm
  · rintro rfl; rfl

theorem three_is {n : List UInt8} (h : n.length = 3) : ∃ x y z, n = [x, y, z] := by
  match n, h with
  | [x, y, z], _ => exact ⟨x, y, z, rfl⟩
theorem pre_three {n : List UInt8} (h : n.length = 3) (a b c : UInt8) (r : List UInt8) : Lib.hasPrefix (a :: b :: c :: r) n = (n == [a, b, c]) := by
  obtain ⟨x, y, z, rfl⟩ := three_is h
  unfold Lib.hasPrefix
  simp [List.isPrefixOf]
theorem pre_five {n : List UInt8} (h : n.length = 3) (a b c d e : UInt8) (r : List UInt8) : Lib.hasPrefix (a :: b :: c :: d :: e :: r) (n ++ [44, 32]) = (n == [a, b, c] && ([d, e] == [44, 32])) := by
  obtain ⟨x, y, z, rfl⟩ := three_is h
  unfold Lib.hasPrefix
  have e1 : ((44 : UInt8) == d) = (d == 44) := by rw [Bool.eq_iff_iff, beq_iff_eq, beq_iff_eq]; exact eq_comm
  have e2 : ((32 : UInt8) == e) = (e == 32) := by rw [Bool.eq_iff_iff, beq_iff_eq, beq_iff_eq]; exact eq_comm
  simp [List.isPrefixOf, e1, e2, Bool.and_assoc]
theorem months_three : ∀ n ∈ monthsL, n.length = 3 := by decide
theorem week_three : ∀ n ∈ weekL, n.length = 3 := by decide
end Go.Proofs.YtahohmdbiiknoaaGreatDoor

/- Layer 13, plain: what was written is read. -/
namespace Go.Proofs.YtahohmdbiiknoaaGreatDoor

theorem dig_nat {k : Nat} (h : k < 10) : (dig k).toNat = 48 + k := by
  unfold dig
  rw [UInt8.toNat_ofNat']
  omega
theorem dgB_dig {k : Nat} (h : k < 10) : dgB (dig k) = true := by
  unfold dgB
  rw [dig_nat h, decide_eq_true (by omega), decide_eq_true (by omega)]; rfl
theorem ahead_dig {k : Nat} (h : k < 10) (t : List UInt8) : aheadL (dig k :: t) = aheadL t + 1 := by
  rw [aheadL, dgB_dig h, if_pos rfl]
theorem ahead_two {n : Nat} (h : n < 100) (t : List UInt8) : aheadL (two13 n ++ t) = aheadL t + 2 := by
  show aheadL (dig (n / 10) :: dig (n % 10) :: t) = _
  rw [ahead_dig (by omega), ahead_dig (by omega)]
theorem ahead_four {n : Nat} (h : n ≤ 9999) (t : List UInt8) : aheadL (four13 n ++ t) = aheadL t + 4 := by
  show aheadL (dig (n / 1000) :: dig (n / 100 % 10) :: dig (n / 10 % 10) :: dig (n % 10) :: t) = _
  rw [ahead_dig (by omega), ahead_dig (by omega), ahead_dig (by omega), ahead_dig (by omega)]
theorem num_two {n : Nat} (h : n < 100) (t : List UInt8) (f : Bool) : numD 2 (two13 n ++ t, f) = (n, (t, f)) := by
  unfold numD
  rw [if_neg (by show ¬ aheadL (two13 n ++ t) < 2; rw [ahead_two h]; omega)]
  have e : valN 0 ((two13 n ++ t).take 2) = n := by
    show (0 * 10 + ((dig (n / 10)).toNat - 48)) * 10 + ((dig (n % 10)).toNat - 48) = n
    rw [dig_nat (by omega), dig_nat (by omega)]; omega
  show (valN 0 ((two13 n ++ t).take 2), _) = _
  rw [e]; rfl
theorem num_four {n : Nat} (h : n ≤ 9999) (t : List UInt8) (f : Bool) : numD 4 (four13 n ++ t, f) = (n, (t, f)) := by
  unfold numD
  rw [if_neg (by show ¬ aheadL (four13 n ++ t) < 4; rw [ahead_four h]; omega)]
  have e : valN 0 ((four13 n ++ t).take 4) = n := by
    show (((0 * 10 + ((dig (n / 1000)).toNat - 48)) * 10 + ((dig (n / 100 % 10)).toNat - 48)) * 10 + ((dig (n / 10 % 10)).toNat - 48)) * 10 + ((dig (n % 10)).toNat - 48) = n
    rw [dig_nat (by omega), dig_nat (by omega), dig_nat (by omega), dig_nat (by omega)]; omega
  show (valN 0 ((four13 n ++ t).take 4), _) = _
  rw [e]; rfl
theorem part_two {n k : Nat} (hk : n ≤ k) (h : n < 100) (t : List UInt8) (f : Bool) : partC k (two13 n ++ t, f) = (n, (t, f)) := by
  unfold partC
  rw [num_two h]
  exact if_neg (by show ¬ k < n; omega)
theorem sign_own (p t : List UInt8) (f : Bool) : signC (p ++ t, f) p = (t, f) := by
  have h : Lib.hasPrefix (p ++ t) p = true := by unfold Lib.hasPrefix; rw [List.isPrefixOf_iff_prefix]; exact List.prefix_append p t
  unfold signC Lib.trimPrefix
  show ((if Lib.hasPrefix (p ++ t) p = true then (p ++ t).drop p.length else p ++ t), (if Lib.hasPrefix (p ++ t) p = true then f else true)) = _
  rw [h, if_pos rfl, if_pos rfl, List.drop_left]
theorem hours_two {a b : Nat} (ha : a ≤ 23) (hb : b ≤ 59) (p t : List UInt8) (f : Bool) : hoursC p (two13 a ++ (p ++ (two13 b ++ t)), f) = (a * 3600 + b * 60, (t, f)) := by
  unfold hoursC
  rw [part_two ha (by omega)]
  show (a * 3600 + (partC 59 (signC (p ++ (two13 b ++ t), f) p)).1 * 60, (partC 59 (signC (p ++ (two13 b ++ t), f) p)).2) = _
  rw [sign_own, part_two hb (by omega)]
theorem secs_two {b : Nat} (hb : b ≤ 59) (t : List UInt8) (f : Bool) : secondsC (58 :: (two13 b ++ t), f) = (b, (t, f)) := by
  unfold secondsC
  rw [sign_yes, part_two hb (by omega)]
/-- Hours, minutes and seconds are read. -/
theorem clock_read {c : Nat} (h : c < 86400) (t : List UInt8) (f : Bool) :
    ∃ s, hoursC [58] (clock13 c ++ t, f) = (c / 3600 * 3600 + c / 60 % 60 * 60, (58 :: s, f)) ∧ secondsC (58 :: s, f) = (c % 60, (t, f)) := by
  refine ⟨two13 (c % 60) ++ t, ?_, secs_two (by omega) t f⟩
  have e : clock13 c ++ t = two13 (c / 3600) ++ ([58] ++ (two13 (c / 60 % 60) ++ (58 :: (two13 (c % 60) ++ t)))) := by
    unfold clock13
    simp only [List.append_assoc, List.cons_append, List.nil_append]
  rw [e]
  exact hours_two (by omega) (by omega) _ _ _
/-- A date as RFC 3339 has it, ahead of its zone. -/
def d39 (y m d c : Nat) : List UInt8 := four13 y ++ (45 :: (two13 m ++ (45 :: (two13 d ++ (84 :: clock13 c)))))
theorem d39_len (y m d c : Nat) : (d39 y m d c).length = 19 := rfl
theorem p39_eq (y m d c : Nat) : p39 y m d c = d39 y m d c ++ [90] := by
  unfold p39 d39
  simp only [List.append_assoc, List.cons_append, List.nil_append]
theorem read39 {y m d c : Nat} (hy : y ≤ 9999) (hm : m < 100) (hd : d < 100) (hc : c < 86400) (z : List UInt8) (hz : Lib.hasPrefix z [46] = false) : r3339C (d39 y m d c ++ z) = r3339f y m d c (z, false) := by
  obtain ⟨s, h1, h2⟩ := clock_read hc z false
  have e : d39 y m d c ++ z = four13 y ++ (45 :: (two13 m ++ (45 :: (two13 d ++ (84 :: (clock13 c ++ z)))))) := by
    unfold d39
    simp only [List.append_assoc, List.cons_append]
  unfold r3339C
  rw [e, num_four hy]
  unfold r3339y
  rw [sign_yes, num_two hm]
  unfold r3339a
  rw [sign_yes, num_two hd]
  unfold r3339b
  have et : teeC (84 :: (clock13 c ++ z), false) = (clock13 c ++ z, false) := by unfold teeC; rw [skip_yes]; rfl
  rw [et, h1]
  unfold r3339c
  rw [h2]
  unfold r3339d
  have ek : skipC (z, false) [46] = (false, (z, false)) := by
    unfold skipC
    show (Lib.hasPrefix z [46], (Lib.trimPrefix z [46], false)) = _
    unfold Lib.trimPrefix
    rw [hz]; rfl
  rw [ek]
  unfold r3339e
  rw [if_neg (fun h => Bool.noConfusion h), show c / 3600 * 3600 + c / 60 % 60 * 60 + c % 60 = c by omega]
theorem r3339f_z (y m d c : Nat) : r3339f y m d c ([90], false) = dateC ([], false) y m d c := by
  unfold r3339f
  rw [skip_yes, if_pos rfl]
  simp only [r3339g]
theorem off_yes {a b : Nat} (ha : a ≤ 23) (hb : b ≤ 59) (p : List UInt8) : offsetC p (43 :: (two13 a ++ (p ++ two13 b)), false) = (((a * 3600 + b * 60 : Nat) : Int), ([], false)) := by
  unfold offsetC
  rw [skip_no (by decide)]
  have := hours_two ha hb p [] false
  rw [List.append_nil] at this
  rw [if_neg (fun h => Bool.noConfusion h), sign_yes, this]
theorem off_no {a b : Nat} (ha : a ≤ 23) (hb : b ≤ 59) (p : List UInt8) : offsetC p (45 :: (two13 a ++ (p ++ two13 b)), false) = (-((a * 3600 + b * 60 : Nat) : Int), ([], false)) := by
  unfold offsetC
  rw [skip_yes]
  have := hours_two ha hb p [] false
  rw [List.append_nil] at this
  rw [if_pos rfl, this]
theorem r3339f_off {y m d c a b : Nat} (ha : a ≤ 23) (hb : b ≤ 59) : r3339f y m d c (43 :: (two13 a ++ ([58] ++ two13 b)), false) = dateC ([], false) y m d ((c : Int) - ((a * 3600 + b * 60 : Nat) : Int)) := by
  have e : r3339f y m d c (43 :: (two13 a ++ ([58] ++ two13 b)), false) = r3339g y m d ((c : Int) - (offsetC [58] (43 :: (two13 a ++ ([58] ++ two13 b)), false)).1, (offsetC [58] (43 :: (two13 a ++ ([58] ++ two13 b)), false)).2) := by
    unfold r3339f; rw [skip_no (by decide)]
    rw [if_neg (fun h => Bool.noConfusion h), skip_no (by decide), if_neg (fun h => Bool.noConfusion h)]
  rw [e, off_yes ha hb]
  rfl
/-- A date as RFC 822 has it, ahead of its zone. -/
def d82 (k y m d c : Nat) : List UInt8 := weekL.getD k [] ++ (44 :: 32 :: (two13 d ++ (32 :: (monthsL.getD (m - 1) [] ++ (32 :: (four13 y ++ (32 :: (clock13 c ++ [32]))))))))
theorem d82_len {k m : Nat} (hk : k < 7) (h1 : 1 ≤ m) (h2 : m ≤ 12) (y d c : Nat) : (d82 k y m d c).length = 26 := by
  have e1 : (weekL.getD k []).length = 3 := by
    have : ∀ i < 7, (weekL.getD i []).length = 3 := by decide
    exact this k hk
  have e2 : (monthsL.getD (m - 1) []).length = 3 := by
    have : ∀ i < 12, (monthsL.getD i []).length = 3 := by decide
    exact this _ (by omega)
  have e3 : (two13 d).length = 2 := rfl
  have e4 : (four13 y).length = 4 := rfl
  have e5 : (clock13 c).length = 8 := rfl
  unfold d82
  simp only [List.length_append, List.length_cons, List.length_nil, e1, e2, e3, e4, e5]
theorem p82_eq (k y m d c : Nat) : p82 k y m d c = d82 k y m d c ++ [71, 77, 84] := by
  unfold p82 d82
  simp only [List.append_assoc, List.cons_append, List.nil_append]
theorem week_read {k : Nat} (hk : k < 7) (t : List UInt8) : wkF weekL (weekL.getD k [] ++ (44 :: 32 :: t)) = t := by
  match k, hk with
  | 0, _ => rfl
  | 1, _ => rfl
  | 2, _ => rfl
  | 3, _ => rfl
  | 4, _ => rfl
  | 5, _ => rfl
  | 6, _ => rfl
theorem month_read {m : Nat} (h1 : 1 ≤ m) (h2 : m ≤ 12) (t : List UInt8) (f : Bool) : monthC (monthsL.getD (m - 1) [] ++ t, f) = (m, (t, f)) := by
  match m, h1, h2 with
  | 1, _, _ => rfl
  | 2, _, _ => rfl
  | 3, _, _ => rfl
  | 4, _, _ => rfl
  | 5, _, _ => rfl
  | 6, _, _ => rfl
  | 7, _, _ => rfl
  | 8, _, _ => rfl
  | 9, _, _ => rfl
  | 10, _, _ => rfl
  | 11, _, _ => rfl
  | 12, _, _ => rfl
theorem read82 {k y m d c : Nat} (hk : k < 7) (hy : y ≤ 9999) (h1 : 1 ≤ m) (h2 : m ≤ 12) (hd : d < 100) (hc : c < 86400) (z : List UInt8) : r822C (d82 k y m d c ++ z) = r822g d m y ((c : Int), (z, false)) := by
  obtain ⟨s, k1, k2⟩ := clock_read hc (32 :: z) false
  have e : d82 k y m d c ++ z = weekL.getD k [] ++ (44 :: 32 :: (two13 d ++ (32 :: (monthsL.getD (m - 1) [] ++ (32 :: (four13 y ++ (32 :: (clock13 c ++ (32 :: z))))))))) := by
    unfold d82
    simp only [List.append_assoc, List.cons_append, List.nil_append]
  unfold r822C weekdayC
  rw [e, week_read hk]
  have e1 : ∀ t, dayC (two13 d ++ (32 :: t), false) = (d, (32 :: t, false)) := by
    intro t
    unfold dayC
    rw [if_neg (by show ¬ aheadL (two13 d ++ (32 :: t)) = 1; rw [ahead_two hd]; omega), num_two hd]
  rw [e1]
  unfold r822a
  rw [sign_yes, month_read h1 h2]
  unfold r822b
  rw [sign_yes]
  have e2 : ∀ t, yearC (four13 y ++ (32 :: t), false) = (y, (32 :: t, false)) := by
    intro t
    have ea : aheadL (32 :: t) = 0 := by rw [aheadL]; exact if_neg (by decide)
    unfold yearC
    rw [if_neg (by show ¬ aheadL (four13 y ++ (32 :: t)) = 2; rw [ahead_four hy, ea]; omega), num_four hy]
  rw [e2]
  unfold r822d
  rw [sign_yes, k1]
  unfold r822e
  rw [skip_no (by decide)]
  unfold r822f
  rw [if_neg (fun h => Bool.noConfusion h), k2]
  show r822g d m y (_, signC (32 :: z, false) [32]) = _
  rw [sign_yes, show c / 3600 * 3600 + c / 60 % 60 * 60 + c % 60 = c by omega]
theorem r822g_gmt (d m y : Nat) (c : Int) : r822g d m y (c, ([71, 77, 84], false)) = dateC ([], false) y m d c := by
  have e : zoneC ([71, 77, 84], false) = (0, ([], false)) := by decide
  unfold r822g
  rw [e]
  show dateC ([], false) y m d (c - 0) = _
  rw [Int.sub_zero]
theorem zoneNm_sign (t : List UInt8) : zoneNm (45 :: t) = none := by
  unfold zoneNm
  simp
theorem r822g_off {a b : Nat} (ha : a ≤ 23) (hb : b ≤ 59) (d m y : Nat) (c : Int) : r822g d m y (c, (45 :: (two13 a ++ two13 b), false)) = dateC ([], false) y m d (c + ((a * 3600 + b * 60 : Nat) : Int)) := by
  have e : zoneC (45 :: (two13 a ++ two13 b), false) = (-((a * 3600 + b * 60 : Nat) : Int), ([], false)) := by
    unfold zoneC
    show (match zoneNm (45 :: (two13 a ++ two13 b)) with | some z => (z * 3600, ([], false)) | none => offsetC [] (45 :: (two13 a ++ two13 b), false)) = _
    rw [zoneNm_sign]
    exact off_no ha hb []
  unfold r822g
  rw [e]
  show dateC ([], false) y m d (c - -((a * 3600 + b * 60 : Nat) : Int)) = _
  rw [Int.sub_neg]
theorem civN_in {N : Nat} (h : N ≤ 2932896) : (civN N).1 ≤ 9999 ∧ 1 ≤ (civN N).2.1 ∧ (civN N).2.1 ≤ 12 ∧ (civN N).2.2 < 100 := by
  have hc := civN_is h
  have h3 := (lenN_low (y := (civN N).1) hc.m1 hc.m2).2
  have h4 := hc.d2
  exact ⟨hc.y2, hc.m1, hc.m2, by omega⟩
theorem date_read {N : Nat} (h : N ≤ 2932896) {c : Int} (h0 : 0 ≤ (N : Int) * 86400 + c) (h9 : (N : Int) * 86400 + c ≤ 253402300799) : dateC ([], false) (civN N).1 (civN N).2.1 (civN N).2.2 c = ((N : Int) * 86400 + c, true) := by
  unfold dateC
  rw [(civN_is h).days]
  rw [if_neg]
  rintro (h | h | h | h | h)
  · cases h
  · exact h rfl
  · cases h
  · exact absurd h (by show ¬ (N : Int) * 86400 + c < 0; omega)
  · exact absurd h (by show ¬ 253402300799 < (N : Int) * 86400 + c; omega)
end Go.Proofs.YtahohmdbiiknoaaGreatDoor
