/- Layer 17, plain: kids, names and texts in a list of nodes that is put together of elements with a text each. -/
import Derived.Test.YtahohmdbiiknoaaDoorBR03
import Derived.Test.YtahohmdbiiknoaaDoorBR04
import Derived.Test.YtahohmdbiiknoaaDoorBR01
import Derived.Deep.MidRow
import Derived.Deep.DeepMust
import Derived.Laws.OwnMore
import Derived.Maps.AppendAt
namespace Go.Proofs.YtahohmdbiiknoaaDoor

/-- The places of i's kids among nodes that stand from place b on. -/
def kidsF (i : Int) : Nat → List Nd → List Int
  | _, [] => []
  | b, x :: r => (if x.up = i ∧ (b : Int) ≠ i then [(b : Int)] else []) ++ kidsF i (b + 1) r
theorem kidsF_app (i : Int) : ∀ (A : List Nd) (b : Nat) (C : List Nd), kidsF i b (A ++ C) = kidsF i b A ++ kidsF i (b + A.length) C
  | [], b, C => by simp [kidsF]
  | x :: r, b, C => by
    rw [List.cons_append, kidsF, kidsF, kidsF_app i r (b + 1) C, List.append_assoc, List.length_cons, show b + 1 + r.length = b + (r.length + 1) by omega]
theorem kidsF_none (i : Int) : ∀ (C : List Nd) (b : Nat), (∀ x ∈ C, x.up ≠ i) → kidsF i b C = []
  | [], _, _ => rfl
  | x :: r, b, h => by
    rw [kidsF, if_neg (fun e => h x (by simp) e.1), kidsF_none i r (b + 1) (fun y hy => h y (by simp [hy]))]; rfl
theorem kidsTo_F (l : List Nd) (i : Int) : ∀ k : Nat, k ≤ l.length → kidsTo l i k = kidsF i 0 (l.take k)
  | 0, _ => by simp [kidsTo, kidsF]
  | k + 1, h => by
    rw [kidsTo_next, kidsTo_F l i k (by omega), List.take_succ_eq_append_getElem (by omega), kidsF_app, List.length_take, Nat.min_eq_left (by omega), Nat.zero_add]
    have : upN l (k : Int) = (l[k]'(by omega)).up := by unfold upN atN; simp [List.getD, show k < l.length by omega]
    rw [this]
    simp [kidsF]
theorem kidsB_F {l : List Nd} {i : Int} (h : placeB l i = true) : kidsB l i = kidsF i 0 l := by
  unfold kidsB; rw [if_pos h, kidsTo_F l i l.length (Nat.le_refl _), List.take_length]
theorem atN_mid (A C : List Nd) (x : Nd) : atN (A ++ x :: C) (A.length : Int) = x := by unfold atN; simp [List.getD]

/-- An element that has a text. -/
structure Fd where
  nm : List UInt8
  ats : List At
  txt : List UInt8
/-- Its nodes, at place q, as a kid of p. -/
def elN (f : Fd) (p : Int) (q : Nat) : List Nd := ⟨f.nm, f.ats, [], p⟩ :: (if f.txt = [] then [] else [⟨[], [], f.txt, q⟩])
def elL (f : Fd) : Nat := if f.txt = [] then 1 else 2
theorem elN_len (f : Fd) (p : Int) (q : Nat) : (elN f p q).length = elL f := by unfold elN elL; split <;> rfl
def fldN (p : Int) : Nat → List Fd → List Nd
  | _, [] => []
  | q, f :: r => elN f p q ++ fldN p (q + elL f) r
def fldL : List Fd → Nat
  | [] => 0
  | f :: r => elL f + fldL r
theorem fldN_len (p : Int) : ∀ (F : List Fd) (q : Nat), (fldN p q F).length = fldL F
  | [], _ => rfl
  | f :: r, q => by rw [fldN, List.length_append, elN_len, fldN_len p r, fldL]
def fldAt : Nat → List Fd → List (Nat × Fd)
  | _, [] => []
  | q, f :: r => (q, f) :: fldAt (q + elL f) r
theorem fldAt_snd : ∀ (F : List Fd) (q : Nat), (fldAt q F).map Prod.snd = F
  | [], _ => rfl
  | f :: r, q => by rw [fldAt, List.map_cons, fldAt_snd r]
theorem elL_pos (f : Fd) : 1 ≤ elL f := by unfold elL; split <;> omega
theorem fldN_up (p : Int) : ∀ (F : List Fd) (q : Nat), ∀ x ∈ fldN p q F, x.up = p ∨ ((q : Int) ≤ x.up ∧ x.up < q + fldL F)
  | [], _, x, h => by cases h
  | f :: r, q, x, h => by
    have hl := elL_pos f
    rw [fldN] at h
    rw [fldL]
    rcases List.mem_append.1 h with h | h
    · unfold elN at h
      rcases List.mem_cons.1 h with h | h
      · subst h; exact Or.inl rfl
      · split at h
        · cases h
        · rw [List.mem_singleton] at h
          subst h
          right
          simp only
          omega
    · rcases fldN_up p r (q + elL f) x h with e | ⟨e1, e2⟩
      · exact Or.inl e
      · right; omega
theorem fld_kids (p : Int) : ∀ (F : List Fd) (q : Nat), p < q → kidsF p q (fldN p q F) = (fldAt q F).map fun z => (z.1 : Int)
  | [], _, _ => rfl
  | f :: r, q, h => by
    rw [fldN, kidsF_app, elN_len, fld_kids p r (q + elL f) (by omega), fldAt, List.map_cons]
    have : kidsF p q (elN f p q) = [(q : Int)] := by
      unfold elN
      rw [kidsF, if_pos ⟨rfl, by omega⟩]
      split
      · rfl
      · rw [kidsF_none p _ _ (by intro x hx; rw [List.mem_singleton] at hx; subst hx; simp only; omega)]; rfl
    rw [this]; rfl
theorem el_text {L A C : List Nd} {f : Fd} {p : Int} (hL : L = A ++ elN f p A.length ++ C) (hT : TreeAt L) (hn : f.nm ≠ []) (hp : p < A.length) (hA : ∀ x ∈ A, x.up < A.length) (hC : ∀ x ∈ C, x.up ≠ (A.length : Int)) :
    A.length < L.length ∧ atN L (A.length : Int) = ⟨f.nm, f.ats, [], p⟩ ∧ textB L (A.length : Int) = f.txt := by
  have hlt : A.length < L.length := by rw [hL]; simp only [List.length_append, elN_len]; have := elL_pos f; omega
  have hat : atN L (A.length : Int) = ⟨f.nm, f.ats, [], p⟩ := by
    rw [hL, List.append_assoc]; unfold elN; rw [List.cons_append]; exact atN_mid _ _ _
  refine ⟨hlt, hat, ?_⟩
  rw [hT.kids hlt (by rw [hat]; exact hn), kidsB_F (place_nat hlt)]
  have hk : kidsF (A.length : Int) 0 L = if f.txt = [] then [] else [((A.length + 1 : Nat) : Int)] := by
    rw [hL, kidsF_app, kidsF_app, kidsF_none _ A 0 (fun x hx => by have := hA x hx; omega), kidsF_none _ C _ hC, List.nil_append, List.append_nil, Nat.zero_add]
    unfold elN
    rw [kidsF, if_neg (fun e => by have e1 : p = A.length := e.1; omega), List.nil_append]
    split
    · rfl
    · rw [kidsF, if_pos ⟨rfl, by omega⟩]; rfl
  rw [hk]
  by_cases ht : f.txt = []
  · rw [if_pos ht, ht]; rfl
  · rw [if_neg ht]
    have hlt2 : A.length + 1 < L.length := by rw [hL]; simp only [List.length_append, elN_len]; unfold elL; rw [if_neg ht]; omega
    have hat2 : atN L ((A.length + 1 : Nat) : Int) = ⟨[], [], f.txt, A.length⟩ := by
      have e : L = (A ++ [⟨f.nm, f.ats, [], p⟩]) ++ ⟨[], [], f.txt, A.length⟩ :: C := by rw [hL]; unfold elN; rw [if_neg ht]; simp
      have := atN_mid (A ++ [⟨f.nm, f.ats, [], p⟩]) C ⟨[], [], f.txt, A.length⟩
      rw [← e] at this
      simpa using this
    have h2 := (hT.text hlt2 (by rw [hat2])).2
    rw [hat2] at h2
    simp only [List.flatMap_cons, List.flatMap_nil, List.append_nil]
    exact h2
theorem fld_at {L : List Nd} {p : Int} (hT : TreeAt L) : ∀ (F : List Fd) (A C : List Nd), L = A ++ fldN p A.length F ++ C → p < A.length → (∀ f ∈ F, f.nm ≠ []) → (∀ x ∈ A, x.up < A.length) → (∀ x ∈ C, x.up < A.length ∨ ((A.length + fldL F : Nat) : Int) ≤ x.up) →
    ∀ z ∈ fldAt A.length F, z.1 < L.length ∧ atN L (z.1 : Int) = ⟨z.2.nm, z.2.ats, [], p⟩ ∧ textB L (z.1 : Int) = z.2.txt
  | [], _, _, _, _, _, _, _, z, hz => by cases hz
  | f :: r, A, C, hL, hp, hF, hA, hC, z, hz => by
    have hl := elL_pos f
    rw [fldN, List.append_assoc, List.append_assoc] at hL
    rw [fldL] at hC
    rcases List.mem_cons.1 hz with hz | hz
    · subst hz
      refine el_text (C := fldN p (A.length + elL f) r ++ C) (by rw [hL, List.append_assoc]) hT (hF f (by simp)) hp hA (fun x hx => ?_)
      rcases List.mem_append.1 hx with hx | hx
      · rcases fldN_up p r _ x hx with e | ⟨e1, _⟩ <;> omega
      · rcases hC x hx with e | e <;> omega
    · have hle : (A ++ elN f p A.length).length = A.length + elL f := by rw [List.length_append, elN_len]
      refine fld_at hT r (A ++ elN f p A.length) C (by rw [hle, hL]; simp) (by rw [hle]; omega) (fun g hg => hF g (by simp [hg])) (fun x hx => ?_) (fun x hx => ?_) z (by rw [hle]; exact hz)
      · rw [hle]
        rcases List.mem_append.1 hx with hx | hx
        · have := hA x hx; omega
        · unfold elN at hx
          rcases List.mem_cons.1 hx with hx | hx
          · subst hx; simp only; omega
          · split at hx
            · cases hx
            · rw [List.mem_singleton] at hx; subst hx; simp only; omega
      · rw [hle]
        rcases hC x hx with e | e
        · left; omega
        · right; omega
/-- What one says of an entry whose kids are so. -/
theorem fld_field {L A C : List Nd} {F : List Fd} {p : Int} (hL : L = A ++ fldN p A.length F ++ C) (hT : TreeAt L) (hp0 : 0 ≤ p) (hp : p < A.length) (hF : ∀ f ∈ F, f.nm ≠ []) (hA : ∀ x ∈ A, x.up < A.length ∧ x.up ≠ p)
    (hC : ∀ x ∈ C, (x.up < A.length ∨ ((A.length + fldL F : Nat) : Int) ≤ x.up) ∧ x.up ≠ p) :
    (∀ nm, nm ≠ [] → fieldB L p nm = (F.find? fun f => f.nm == nm).map fun f => cleanB f.txt) ∧ linksB L p = (F.filter fun f => f.nm == linkL).map Fd.ats := by
  have hat := fld_at hT F A C hL hp hF (fun x hx => (hA x hx).1) (fun x hx => (hC x hx).1)
  have hpl : placeB L p = true := by rw [place_iff, hL]; simp only [List.length_append]; omega
  have hk : kidsB L p = (fldAt A.length F).map fun z => (z.1 : Int) := by
    rw [kidsB_F hpl]
    conv => lhs; rw [hL]
    rw [kidsF_app, kidsF_app, kidsF_none _ A 0 (fun x hx => (hA x hx).2), kidsF_none _ C _ (fun x hx => (hC x hx).2), List.nil_append, List.append_nil, Nat.zero_add, fld_kids p F _ hp]
  have hnm : ∀ nm, nm ≠ [] → namedB L p nm = ((fldAt A.length F).filter fun z => z.2.nm == nm).map fun z => (z.1 : Int) := fun nm hn => by
    unfold namedB
    rw [if_neg hn, hk, List.filter_map]
    congr 1
    refine List.filter_congr fun z hz => ?_
    show ((atN L (z.1 : Int)).name == nm) = _
    rw [(hat z hz).2.1]
  have hsn := fldAt_snd F A.length
  refine ⟨fun nm hn => ?_, ?_⟩
  · unfold fieldB
    rw [hnm nm hn]
    conv => rhs; rw [← hsn, List.find?_map]
    generalize hE : fldAt A.length F = E at hat
    clear hk hnm hsn hE
    induction E with
    | nil => rfl
    | cons z r ih =>
      cases hz : z.2.nm == nm with
      | true =>
        rw [List.filter_cons, if_pos hz, List.map_cons, List.find?_cons, show ((fun f : Fd => f.nm == nm) ∘ Prod.snd) z = true from hz]
        simp only [Option.map_some]
        rw [(hat z (by simp)).2.2]
      | false =>
        rw [List.filter_cons, if_neg (by rw [hz]; decide), List.find?_cons, show ((fun f : Fd => f.nm == nm) ∘ Prod.snd) z = false from hz]
        exact ih fun y hy => hat y (by simp [hy])
  · unfold linksB
    rw [hnm linkL (by decide), List.map_map]
    conv => rhs; rw [← hsn, List.filter_map, List.map_map]
    refine List.map_congr_left fun z hz => ?_
    have := (List.mem_filter.1 hz).1
    simp only [Function.comp]
    rw [(hat z this).2.1]
end Go.Proofs.YtahohmdbiiknoaaDoor

/- Layer 17, plain: what is printed is read, piece by piece: texts whose signs are hidden, elements. -/
namespace Go.Proofs.YtahohmdbiiknoaaDoor

/-- A sign by its name. -/
def esc1 (c : UInt8) : List UInt8 := if c = 38 then [38, 97, 109, 112, 59] else if c = 60 then [38, 108, 116, 59] else if c = 62 then [38, 103, 116, 59] else if c = 34 then [38, 113, 117, 111, 116, 59] else [c]
/-- A text whose signs are hidden. -/
def escB (l : List UInt8) : List UInt8 := l.flatMap esc1
theorem refP_amp (t : List UInt8) : refP (38 :: 97 :: 109 :: 112 :: 59 :: t) = some ([38], 5) := by rfl
theorem refP_lt (t : List UInt8) : refP (38 :: 108 :: 116 :: 59 :: t) = some ([60], 4) := by rfl
theorem refP_gt (t : List UInt8) : refP (38 :: 103 :: 116 :: 59 :: t) = some ([62], 4) := by rfl
theorem refP_quot (t : List UInt8) : refP (38 :: 113 :: 117 :: 111 :: 116 :: 59 :: t) = some ([34], 6) := by rfl
/-- A hidden sign is a byte that isn't one, or a ref to it. -/
theorem esc1_ways (c : UInt8) : (esc1 c = [c] ∧ c ≠ 38 ∧ c ≠ 60 ∧ c ≠ 62 ∧ c ≠ 34) ∨ ∃ r, esc1 c = 38 :: r ∧ ∀ t, refP (esc1 c ++ t) = some ([c], (esc1 c).length) := by
  unfold esc1
  by_cases h1 : c = 38
  · subst h1; right; exact ⟨_, rfl, fun t => refP_amp t⟩
  by_cases h2 : c = 60
  · subst h2; right; exact ⟨_, rfl, fun t => refP_lt t⟩
  by_cases h3 : c = 62
  · subst h3; right; exact ⟨_, rfl, fun t => refP_gt t⟩
  by_cases h4 : c = 34
  · subst h4; right; exact ⟨_, rfl, fun t => refP_quot t⟩
  · left; rw [if_neg h1, if_neg h2, if_neg h3, if_neg h4]; exact ⟨rfl, h1, h2, h3, h4⟩
theorem pre_ne {c x : UInt8} (h : c ≠ x) (d r : List UInt8) : Lib.hasPrefix (c :: d) (x :: r) = false := by
  unfold Lib.hasPrefix
  rw [List.isPrefixOf]
  simp
  intro e
  exact absurd e.symm h
theorem pre_own1 (c : UInt8) (d : List UInt8) : Lib.hasPrefix (c :: d) [c] = true := by unfold Lib.hasPrefix; simp
/-- What a document's reader comes to. -/
def finR (dep : Int) (s : Sc) (d : List UInt8) : Option Int × Sc := ((loopK (stepR dep) s d 0).1, (loopK (stepR dep) s d 0).2.1)
theorem finR_step {dep : Int} {s s' : Sc} {d : List UInt8} {n : Nat} (e : stepR dep s d = .go s' n) : finR dep s d = finR dep s' (d.drop n) := by
  unfold finR
  have := loopK_off (stepR_steps dep) s' (d.drop n) 0 n
  rw [Nat.add_zero] at this
  rw [loopK_go (stepR_steps dep) 0 e, Nat.zero_add, this]
theorem finR_nil (dep : Int) (s : Sc) : finR dep s [] = (none, s) := by
  unfold finR
  rw [loopK_stop 0 (show stepR dep s [] = .stop by unfold stepR; rw [if_pos rfl])]
section
variable {dep : Int} {s : Sc}
theorem moreT_more (s : Sc) (x y : List UInt8) : moreT (moreT s x) y = moreT s (x ++ y) := by unfold moreT; simp
theorem finR_byte {c : UInt8} (ho : s.opn ≠ []) (h60 : c ≠ 60) (h38 : c ≠ 38) (d : List UInt8) : finR dep s (c :: d) = finR dep (moreT s [c]) d := by
  refine finR_step (n := 1) (d := c :: d) ?_
  unfold stepR innerR
  rw [if_neg (by simp), if_neg ho, if_neg (by rw [pre_ne h60]; decide), if_neg (by rw [pre_ne h60]; decide), if_neg (by rw [pre_ne h60]; decide), if_neg (by rw [pre_ne h60]; decide), if_neg (by rw [pre_ne h38]; decide)]
  rfl
theorem finR_ref {x r : List UInt8} {n : Nat} (ho : s.opn ≠ []) (h : refP (38 :: r) = some (x, n)) : finR dep s (38 :: r) = finR dep (moreT s x) ((38 :: r).drop n) := by
  refine finR_step ?_
  unfold stepR innerR
  rw [if_neg (by simp), if_neg ho, if_neg (by rw [pre_ne (by decide)]; decide), if_neg (by rw [pre_ne (by decide)]; decide), if_neg (by rw [pre_ne (by decide)]; decide), if_neg (by rw [pre_ne (by decide)]; decide), if_pos (pre_own1 _ _), h]
theorem finR_esc : ∀ (x : List UInt8) (s : Sc) (d : List UInt8), s.opn ≠ [] → finR dep s (escB x ++ d) = finR dep (moreT s x) d
  | [], s, d, _ => by unfold moreT escB; simp
  | c :: x, s, d, ho => by
    have ih := finR_esc x (moreT s [c]) d ho
    rw [moreT_more] at ih
    show finR dep s (escB ([c] ++ x) ++ d) = _
    have e : escB ([c] ++ x) ++ d = esc1 c ++ (escB x ++ d) := by unfold escB; simp
    rw [e]
    rcases esc1_ways c with ⟨h1, h2, h3, _, _⟩ | ⟨r, h1, h2⟩
    · rw [h1]
      exact (finR_byte ho h3 h2 _).trans ih
    · have h3 := h2 (escB x ++ d)
      rw [h1] at h3 ⊢
      refine (finR_ref ho h3).trans ?_
      show finR dep (moreT s [c]) (List.drop (38 :: r).length ((38 :: r) ++ (escB x ++ d))) = _
      rw [List.drop_left]
      exact ih

theorem span_app {p : Int → Bool} : ∀ {nm : List UInt8} {c : UInt8} {t : List UInt8}, (nm.all fun x => p x.toNat) = true → p c.toNat = false → spanN p (nm ++ c :: t) = nm.length
  | [], c, t, _, hc => by rw [List.nil_append, spanN, if_neg (by rw [hc]; decide)]; rfl
  | x :: nm, c, t, h, hc => by
    rw [List.all_cons, Bool.and_eq_true] at h
    rw [List.cons_append, spanN, if_pos h.1, span_app h.2 hc]; rfl
theorem nameP_app {nm : List UInt8} {c : UInt8} {t : List UInt8} (h : nameB nm = true) (hc : follI c.toNat = false) : nameP (nm ++ c :: t) = some (nm, nm.length) := by
  have hall : (nm.all fun x => follI x.toNat) = true := by unfold nameB at h; simp only [Bool.and_eq_true] at h; exact h.2
  unfold nameP
  rw [span_app hall hc, List.take_left, if_pos h]
theorem name_head {nm : List UInt8} (h : nameB nm = true) : ∃ c r, nm = c :: r ∧ leadI c.toNat = true := by
  unfold nameB at h
  simp only [Bool.and_eq_true, decide_eq_true_eq] at h
  cases nm with
  | nil => simp at h
  | cons c r => exact ⟨c, r, rfl, h.1.2⟩
theorem lead_ne {c : UInt8} (h : leadI c.toNat = true) : c ≠ 33 ∧ c ≠ 47 ∧ c ≠ 63 ∧ c ≠ 32 ∧ blI c.toNat = false := by
  unfold leadI at h
  simp only [decide_eq_true_eq] at h
  refine ⟨?_, ?_, ?_, ?_, ?_⟩
  · rintro rfl; revert h; decide
  · rintro rfl; revert h; decide
  · rintro rfl; revert h; decide
  · rintro rfl; revert h; decide
  · unfold blI; rw [decide_eq_false_iff_not]; omega
theorem attrsR_none (d : List UInt8) : attrsR (62 :: d) = some (([], false), 1) := by
  have h0 : spanN blI (62 :: d) = 0 := rfl
  have e : attrsRF [] (62 :: d) = .stop := by unfold attrsRF; rw [h0, List.drop_zero, if_pos (pre_own1 _ _)]
  unfold attrsR
  rw [loopK_stop 0 e]
  simp only [h0, List.drop_zero, Nat.zero_add]
  rw [if_pos (pre_own1 _ _)]
/-- A begin, wherever one may stand. -/
theorem finR_beginR {n : Nat} {s' : Sc} {c : UInt8} {r : List UInt8} (hc : leadI c.toNat = true) (ho : s.opn ≠ [] ∨ s.rooted = false) (h : beginR dep s (60 :: c :: r) = .go s' n) : finR dep s (60 :: c :: r) = finR dep s' ((60 :: c :: r).drop n) := by
  obtain ⟨h33, h47, _, _, _⟩ := lead_ne hc
  have hl : leadsB ((60 :: c :: r).drop 1) = true := by
    show leadsB (c :: r) = true
    unfold leadsB
    rw [Bool.and_eq_true]
    exact ⟨by simp, hc⟩
  have p1 : Lib.hasPrefix (60 :: c :: r) [60, 47] = false := by unfold Lib.hasPrefix; simp [List.isPrefixOf, Ne.symm h47]
  have p2 : Lib.hasPrefix (60 :: c :: r) [60, 33, 45, 45] = false := by unfold Lib.hasPrefix; simp [List.isPrefixOf]; intro e; exact absurd e.symm h33
  have p3 : Lib.hasPrefix (60 :: c :: r) [60, 33, 91, 67, 68, 65, 84, 65, 91] = false := by unfold Lib.hasPrefix; simp [List.isPrefixOf]; intro e; exact absurd e.symm h33
  refine finR_step ?_
  unfold stepR
  rw [if_neg (by simp)]
  by_cases h0 : s.opn = []
  · have hr : s.rooted = false := ho.resolve_left (fun e => e h0)
    rw [if_pos h0]
    unfold outerR
    rw [if_neg (show ¬ 0 < spanN blI (60 :: c :: r) from Nat.lt_irrefl 0), if_neg (by rw [p2]; decide), if_pos ⟨hr, by unfold elemB; rw [Bool.and_eq_true]; exact ⟨pre_own1 _ _, hl⟩⟩]
    exact h
  · rw [if_neg h0]
    unfold innerR
    rw [if_neg (by rw [p1]; decide), if_neg (by rw [p2]; decide), if_neg (by rw [p3]; decide), if_pos (pre_own1 _ _), if_pos hl]
    exact h
theorem finR_begin {nm : List UInt8} (hn : nameB nm = true) (ho : s.opn ≠ [] ∨ s.rooted = false) (hd : (s.opn.length : Int) < dep) (d : List UInt8) :
    finR dep s (60 :: (nm ++ 62 :: d)) = finR dep ⟨true, s.opn ++ [nm], [], addT s.text s.toks ⟨1, nm, [], []⟩⟩ d := by
  obtain ⟨c, r, rfl, hc⟩ := name_head hn
  have hnp := nameP_app (t := d) hn (show follI (62 : UInt8).toNat = false by decide)
  have h : beginR dep s (60 :: ((c :: r) ++ 62 :: d)) = .go ⟨true, s.opn ++ [c :: r], [], addT s.text s.toks ⟨1, c :: r, [], []⟩⟩ (1 + (c :: r).length + 1) := by
    unfold beginR
    rw [if_neg (by omega), show (60 :: ((c :: r) ++ 62 :: d)).drop 1 = (c :: r) ++ 62 :: d from rfl, hnp]
    simp only
    rw [show (60 :: ((c :: r) ++ 62 :: d)).drop (1 + (c :: r).length) = 62 :: d by rw [Nat.add_comm, List.drop_succ_cons, List.drop_left], attrsR_none]
  have := finR_beginR hc ho (r := r ++ 62 :: d) h
  refine this.trans ?_
  congr 1
  show List.drop (1 + (c :: r).length + 1) (60 :: ((c :: r) ++ 62 :: d)) = d
  rw [show 1 + (c :: r).length + 1 = (c :: r).length + 1 + 1 by omega, List.drop_succ_cons, ← List.drop_drop, List.drop_left]
  rfl
theorem finR_end {nm : List UInt8} {o : List (List UInt8)} (hn : nameB nm = true) (ho : s.opn = o ++ [nm]) (d : List UInt8) :
    finR dep s (60 :: 47 :: (nm ++ 62 :: d)) = finR dep ⟨s.rooted, o, [], addT s.text s.toks ⟨2, nm, [], []⟩⟩ d := by
  have hnp := nameP_app (t := d) hn (show follI (62 : UInt8).toNat = false by decide)
  have hne : s.opn ≠ [] := by rw [ho]; simp
  have h : stepR dep s (60 :: 47 :: (nm ++ 62 :: d)) = .go ⟨s.rooted, o, [], addT s.text s.toks ⟨2, nm, [], []⟩⟩ (2 + nm.length + 1) := by
    unfold stepR innerR
    rw [if_neg (by simp), if_neg hne, if_pos (by unfold Lib.hasPrefix; simp)]
    unfold endR
    rw [show (60 :: 47 :: (nm ++ 62 :: d)).drop 2 = nm ++ 62 :: d from rfl, hnp]
    simp only
    have hdr : (60 :: 47 :: (nm ++ 62 :: d)).drop (2 + nm.length) = 62 :: d := by rw [Nat.add_comm, List.drop_succ_cons, List.drop_succ_cons, List.drop_left]
    have h0 : spanN blI (62 :: d) = 0 := rfl
    rw [if_neg hne, if_neg (by rw [ho]; simp), hdr, h0, Nat.add_zero, hdr, if_pos (pre_own1 _ _), ho, List.dropLast_concat]
  refine (finR_step h).trans ?_
  congr 1
  rw [show 2 + nm.length + 1 = nm.length + 1 + 1 + 1 by omega, List.drop_succ_cons, List.drop_succ_cons, ← List.drop_drop, List.drop_left]
  rfl
end
end Go.Proofs.YtahohmdbiiknoaaDoor

/- Layer 17, plain: printed attributes, fields and entries are read as tokens. -/
namespace Go.Proofs.YtahohmdbiiknoaaDoor

theorem ix_sign2 {c : UInt8} (h1 : c ≠ 60) (h2 : c ≠ 34) : Lib.indexByte [60, 34] c = -1 := by
  have e1 : ((60 : UInt8) == c) = false := by rw [beq_eq_false_iff_ne]; exact fun e => h1 e.symm
  have e2 : ((34 : UInt8) == c) = false := by rw [beq_eq_false_iff_ne]; exact fun e => h2 e.symm
  simp [Lib.indexByte, e1, e2]
theorem runK_esc (t : List UInt8) : ∀ (x acc : List UInt8) (k : Nat), loopK (runF [60, 34]) acc (escB x ++ 34 :: t) k = (none, acc ++ x, k + (escB x).length)
  | [], acc, k => by
    have e : runF [60, 34] acc (34 :: t) = .stop := by rw [runF, if_pos (by decide)]
    show loopK (runF [60, 34]) acc (34 :: t) k = _
    rw [loopK_stop k e]
    simp [escB]
  | c :: x, acc, k => by
    have e : escB (c :: x) ++ 34 :: t = esc1 c ++ (escB x ++ 34 :: t) := by unfold escB; simp
    have el : (escB (c :: x)).length = (esc1 c).length + (escB x).length := by unfold escB; simp
    rw [e, el]
    rcases esc1_ways c with ⟨h1, h2, h3, _, h5⟩ | ⟨r, h1, h2⟩
    · rw [h1]
      have h : runF [60, 34] acc ([c] ++ (escB x ++ 34 :: t)) = .go (acc ++ [c]) 1 := by
        rw [List.singleton_append, runF, if_neg (by rw [ix_sign2 h3 h5]; decide), if_pos h2]
      rw [loopK_go (runF_steps _) k h]
      show loopK (runF [60, 34]) (acc ++ [c]) (escB x ++ 34 :: t) (k + 1) = _
      rw [runK_esc t x (acc ++ [c]) (k + 1)]
      simp
      omega
    · have h3 := h2 (escB x ++ 34 :: t)
      have h : runF [60, 34] acc (esc1 c ++ (escB x ++ 34 :: t)) = .go (acc ++ [c]) (esc1 c).length := by
        rw [h1] at h3 ⊢
        rw [List.cons_append, runF, if_neg (by decide), if_neg (by decide)]
        rw [List.cons_append] at h3
        rw [h3]
      rw [loopK_go (runF_steps _) k h, List.drop_left, runK_esc t x (acc ++ [c])]
      simp
      omega
theorem valueP_esc (x t : List UInt8) : valueP (34 :: (escB x ++ 34 :: t)) = some (x, 1 + (escB x).length + 1) := by
  have h39 : Lib.hasPrefix (34 :: (escB x ++ 34 :: t)) [39] = false := pre_ne (by decide) _ _
  have hr : runP [60, 34] (escB x ++ 34 :: t) = some (x, (escB x).length) := by unfold runP; rw [runK_esc]; simp
  unfold valueP
  rw [h39]
  simp only [Bool.false_eq_true, if_false]
  rw [if_neg (by rw [pre_own1]; decide), show (34 :: (escB x ++ 34 :: t)).drop 1 = escB x ++ 34 :: t from rfl, hr]
  simp only
  rw [show (34 :: (escB x ++ 34 :: t)).drop (1 + (escB x).length) = 34 :: t by rw [Nat.add_comm, List.drop_succ_cons, List.drop_left], if_pos (pre_own1 _ _)]
theorem attrP_esc {nm : List UInt8} (hn : nameB nm = true) (x t : List UInt8) : attrP (nm ++ 61 :: 34 :: (escB x ++ 34 :: t)) = some ((nm, x), nm.length + 1 + (1 + (escB x).length + 1)) := by
  have h0 : spanN blI (61 :: 34 :: (escB x ++ 34 :: t)) = 0 := rfl
  have h1 : spanN blI (34 :: (escB x ++ 34 :: t)) = 0 := rfl
  have hd : (nm ++ 61 :: 34 :: (escB x ++ 34 :: t)).drop (nm.length + 1) = 34 :: (escB x ++ 34 :: t) := by rw [← List.drop_drop, List.drop_left]; rfl
  unfold attrP
  rw [nameP_app hn (by decide)]
  simp only
  rw [List.drop_left, h0, Nat.add_zero, List.drop_left, if_neg (by rw [pre_own1]; decide), hd, h1, Nat.add_zero, hd, valueP_esc]
/-- One attribute, up to the element's end. -/
theorem attrsR_one {nm : List UInt8} (hn : nameB nm = true) (x t : List UInt8) :
    attrsR (32 :: (nm ++ 61 :: 34 :: (escB x ++ 34 :: 62 :: t))) = some (([(nm, x)], false), nm.length + 1 + (1 + (escB x).length + 1) + 2) ∧
    attrsR (32 :: (nm ++ 61 :: 34 :: (escB x ++ 34 :: 47 :: 62 :: t))) = some (([(nm, x)], true), nm.length + 1 + (1 + (escB x).length + 1) + 3) := by
  have key : ∀ (c : UInt8) (r : List UInt8), attrsRF [(nm, x)] (c :: r) = .stop → spanN blI (c :: r) = 0 → attrsR (32 :: (nm ++ 61 :: 34 :: (escB x ++ 34 :: c :: r))) =
      if Lib.hasPrefix (c :: r) [62] then some (([(nm, x)], false), nm.length + 1 + (1 + (escB x).length + 1) + 1 + 1)
      else if Lib.hasPrefix (c :: r) [47, 62] then some (([(nm, x)], true), nm.length + 1 + (1 + (escB x).length + 1) + 1 + 2) else none := by
    intro c r hst hsp
    obtain ⟨a, b, rfl, ha⟩ := name_head hn
    obtain ⟨_, h47, _, _, hbl⟩ := lead_ne ha
    have h62 : a ≠ 62 := by rintro rfl; revert ha; decide
    have hs1 : spanN blI (32 :: ((a :: b) ++ 61 :: 34 :: (escB x ++ 34 :: c :: r))) = 1 := by
      rw [spanN, if_pos (by decide), List.cons_append, spanN, if_neg (by rw [hbl]; decide)]
    have h : attrsRF [] (32 :: ((a :: b) ++ 61 :: 34 :: (escB x ++ 34 :: c :: r))) = .go [(a :: b, x)] (1 + ((a :: b).length + 1 + (1 + (escB x).length + 1))) := by
      unfold attrsRF
      rw [hs1, show (32 :: ((a :: b) ++ 61 :: 34 :: (escB x ++ 34 :: c :: r))).drop 1 = (a :: b) ++ 61 :: 34 :: (escB x ++ 34 :: c :: r) from rfl, attrP_esc hn,
        if_neg (by rw [List.cons_append, pre_ne h62]; decide), if_neg (by rw [List.cons_append, pre_ne h47]; decide), if_neg (by simp)]
      rfl
    have hdrop : (32 :: ((a :: b) ++ 61 :: 34 :: (escB x ++ 34 :: c :: r))).drop (1 + ((a :: b).length + 1 + (1 + (escB x).length + 1))) = c :: r := by
      rw [Nat.add_comm 1, List.drop_succ_cons, show (a :: b).length + 1 + (1 + (escB x).length + 1) = (a :: b).length + (1 + (1 + ((escB x).length + 1))) by omega, ← List.drop_drop, List.drop_left]
      rw [Nat.add_comm 1, List.drop_succ_cons, Nat.add_comm 1, List.drop_succ_cons, ← List.drop_drop, List.drop_left]
      rfl
    unfold attrsR
    rw [loopK_go attrsRF_steps 0 h, hdrop, loopK_stop _ hst]
    simp only [Nat.zero_add]
    rw [hdrop, hsp, Nat.add_zero, hdrop]
    rw [show 1 + ((a :: b).length + 1 + (1 + (escB x).length + 1)) + 1 = (a :: b).length + 1 + (1 + (escB x).length + 1) + 1 + 1 by omega, show 1 + ((a :: b).length + 1 + (1 + (escB x).length + 1)) + 2 = (a :: b).length + 1 + (1 + (escB x).length + 1) + 1 + 2 by omega]
  constructor
  · rw [key 62 t (by unfold attrsRF; rw [show spanN blI (62 :: t) = 0 from rfl, List.drop_zero, if_pos (pre_own1 _ _)]) rfl, if_pos (pre_own1 _ _)]
  · rw [key 47 (62 :: t) (by unfold attrsRF; rw [show spanN blI (47 :: 62 :: t) = 0 from rfl, List.drop_zero, if_neg (by rw [pre_ne (by decide)]; decide), if_pos (by unfold Lib.hasPrefix; simp)]) rfl,
      if_neg (by rw [pre_ne (by decide)]; decide), if_pos (by unfold Lib.hasPrefix; simp)]
section
variable {dep : Int} {s : Sc}
theorem finR_begin1 {nm an : List UInt8} (hn : nameB nm = true) (ha : nameB an = true) (ho : s.opn ≠ [] ∨ s.rooted = false) (hd : (s.opn.length : Int) < dep) (x d : List UInt8) :
    finR dep s (60 :: (nm ++ 32 :: (an ++ 61 :: 34 :: (escB x ++ 34 :: 62 :: d)))) = finR dep ⟨true, s.opn ++ [nm], [], addT s.text s.toks ⟨1, nm, [(an, x)], []⟩⟩ d ∧
    finR dep s (60 :: (nm ++ 32 :: (an ++ 61 :: 34 :: (escB x ++ 34 :: 47 :: 62 :: d)))) = finR dep ⟨true, s.opn, [], addT s.text s.toks ⟨3, nm, [(an, x)], []⟩⟩ d := by
  obtain ⟨c, r, rfl, hc⟩ := name_head hn
  obtain ⟨h1, h2⟩ := attrsR_one ha x d
  have hcut : ∀ (y : List UInt8) (m : Nat), (60 :: ((c :: r) ++ y)).drop (1 + (c :: r).length + m) = y.drop m := fun y m => by
    rw [show 1 + (c :: r).length + m = ((c :: r).length + m) + 1 by omega, List.drop_succ_cons, ← List.drop_drop, List.drop_left]
  have hdr : ∀ y : List UInt8, (60 :: ((c :: r) ++ y)).drop (1 + (c :: r).length) = y := fun y => by have := hcut y 0; simpa using this
  constructor
  · have h : beginR dep s (60 :: ((c :: r) ++ 32 :: (an ++ 61 :: 34 :: (escB x ++ 34 :: 62 :: d)))) = .go ⟨true, s.opn ++ [c :: r], [], addT s.text s.toks ⟨1, c :: r, [(an, x)], []⟩⟩ (1 + (c :: r).length + (an.length + 1 + (1 + (escB x).length + 1) + 2)) := by
      unfold beginR
      rw [if_neg (by omega), show (60 :: ((c :: r) ++ 32 :: (an ++ 61 :: 34 :: (escB x ++ 34 :: 62 :: d)))).drop 1 = (c :: r) ++ 32 :: (an ++ 61 :: 34 :: (escB x ++ 34 :: 62 :: d)) from rfl, nameP_app hn (by decide)]
      simp only
      rw [hdr, h1]
    refine (finR_beginR hc ho (r := r ++ 32 :: (an ++ 61 :: 34 :: (escB x ++ 34 :: 62 :: d))) h).trans ?_
    congr 1
    refine (hcut _ _).trans ?_
    rw [show an.length + 1 + (1 + (escB x).length + 1) + 2 = (an.length + (1 + (1 + ((escB x).length + (1 + 1))))) + 1 by omega, List.drop_succ_cons, ← List.drop_drop, List.drop_left, Nat.add_comm 1, List.drop_succ_cons, Nat.add_comm 1, List.drop_succ_cons, ← List.drop_drop, List.drop_left]
    rfl
  · have h : beginR dep s (60 :: ((c :: r) ++ 32 :: (an ++ 61 :: 34 :: (escB x ++ 34 :: 47 :: 62 :: d)))) = .go ⟨true, s.opn, [], addT s.text s.toks ⟨3, c :: r, [(an, x)], []⟩⟩ (1 + (c :: r).length + (an.length + 1 + (1 + (escB x).length + 1) + 3)) := by
      unfold beginR
      rw [if_neg (by omega), show (60 :: ((c :: r) ++ 32 :: (an ++ 61 :: 34 :: (escB x ++ 34 :: 47 :: 62 :: d)))).drop 1 = (c :: r) ++ 32 :: (an ++ 61 :: 34 :: (escB x ++ 34 :: 47 :: 62 :: d)) from rfl, nameP_app hn (by decide)]
      simp only
      rw [hdr, h2]
    refine (finR_beginR hc ho (r := r ++ 32 :: (an ++ 61 :: 34 :: (escB x ++ 34 :: 47 :: 62 :: d))) h).trans ?_
    congr 1
    refine (hcut _ _).trans ?_
    rw [show an.length + 1 + (1 + (escB x).length + 1) + 3 = (an.length + (1 + (1 + ((escB x).length + (1 + 1 + 1))))) + 1 by omega, List.drop_succ_cons, ← List.drop_drop, List.drop_left, Nat.add_comm 1, List.drop_succ_cons, Nat.add_comm 1, List.drop_succ_cons, ← List.drop_drop, List.drop_left]
    rfl
end
/-- A field as it is printed: an element with a text, an empty one with an attribute. -/
inductive Pf where
  | el (nm x : List UInt8)
  | lk (nm an x : List UInt8)
def Pf.bytes : Pf → List UInt8
  | .el nm x => 60 :: (nm ++ 62 :: (escB x ++ 60 :: 47 :: (nm ++ [62])))
  | .lk nm an x => 60 :: (nm ++ 32 :: (an ++ 61 :: 34 :: (escB x ++ [34, 47, 62])))
def tx (x : List UInt8) : Tk := ⟨4, [], [], x⟩
def Pf.toks : Pf → List Tk
  | .el nm x => ⟨1, nm, [], []⟩ :: ((if x = [] then [] else [tx x]) ++ [⟨2, nm, [], []⟩])
  | .lk nm an x => [⟨3, nm, [(an, x)], []⟩]
def Pf.fd : Pf → Fd
  | .el nm x => ⟨nm, [], x⟩
  | .lk nm an x => ⟨nm, [(an, x)], []⟩
def Pf.ok : Pf → Bool
  | .el nm _ => nameB nm
  | .lk nm an _ => nameB nm && nameB an
theorem addT_tx (x : List UInt8) (T : List Tk) (y : Tk) : addT x T y = T ++ ((if x = [] then [] else [tx x]) ++ [y]) := by
  unfold addT tx
  cases x <;> simp
theorem finR_field {dep : Int} {o : List (List UInt8)} (ho : o ≠ []) (hd : (o.length : Int) < dep) (f : Pf) (hf : f.ok = true) (T : List Tk) (d : List UInt8) :
    finR dep ⟨true, o, [], T⟩ (f.bytes ++ d) = finR dep ⟨true, o, [], T ++ f.toks⟩ d := by
  cases f with
  | el nm x =>
    have hn : nameB nm = true := hf
    have e : (Pf.el nm x).bytes ++ d = 60 :: (nm ++ 62 :: (escB x ++ 60 :: 47 :: (nm ++ 62 :: d))) := by unfold Pf.bytes; simp
    rw [e, finR_begin hn (Or.inl ho) hd, finR_esc x _ _ (by simp), finR_end (o := o) hn rfl]
    unfold moreT
    simp only [List.nil_append]
    rw [addT_tx]
    unfold addT Pf.toks
    simp
  | lk nm an x =>
    have hn : nameB nm = true ∧ nameB an = true := by have : (nameB nm && nameB an) = true := hf; simpa using this
    have e : (Pf.lk nm an x).bytes ++ d = 60 :: (nm ++ 32 :: (an ++ 61 :: 34 :: (escB x ++ 34 :: 47 :: 62 :: d))) := by unfold Pf.bytes; simp
    rw [e, (finR_begin1 hn.1 hn.2 (Or.inl ho) hd x d).2]
    unfold addT Pf.toks
    simp
theorem finR_fields {dep : Int} {o : List (List UInt8)} (ho : o ≠ []) (hd : (o.length : Int) < dep) : ∀ (F : List Pf) (T : List Tk) (d : List UInt8), (∀ f ∈ F, f.ok = true) →
    finR dep ⟨true, o, [], T⟩ (F.flatMap Pf.bytes ++ d) = finR dep ⟨true, o, [], T ++ F.flatMap Pf.toks⟩ d
  | [], T, d, _ => by simp
  | f :: r, T, d, h => by
    rw [List.flatMap_cons, List.append_assoc, finR_field ho hd f (h f (by simp)), finR_fields ho hd r _ d (fun g hg => h g (by simp [hg])), List.flatMap_cons, List.append_assoc]
/-- An entry, and the line's end behind it. -/
def itemP (nme : List UInt8) (F : List Pf) : List UInt8 := 60 :: (nme ++ 62 :: (F.flatMap Pf.bytes ++ 60 :: 47 :: (nme ++ [62, 10])))
def itemT (nme : List UInt8) (F : List Pf) : List Tk := tx [10] :: ⟨1, nme, [], []⟩ :: (F.flatMap Pf.toks ++ [⟨2, nme, [], []⟩])
theorem finR_item {dep : Int} {o : List (List UInt8)} (ho : o ≠ []) (hd : (o.length : Int) + 1 < dep) {nme : List UInt8} (hn : nameB nme = true) (F : List Pf) (T : List Tk) (d : List UInt8) (h : ∀ f ∈ F, f.ok = true) :
    finR dep ⟨true, o, [10], T⟩ (itemP nme F ++ d) = finR dep ⟨true, o, [10], T ++ itemT nme F⟩ d := by
  have e : itemP nme F ++ d = 60 :: (nme ++ 62 :: (F.flatMap Pf.bytes ++ 60 :: 47 :: (nme ++ 62 :: (10 :: d)))) := by unfold itemP; simp
  rw [e, finR_begin hn (Or.inl ho) (by show (o.length : Int) < dep; omega)]
  show finR dep ⟨true, o ++ [nme], [], _⟩ _ = _
  rw [finR_fields (by simp) (by simp; omega) F _ _ h, finR_end (o := o) hn rfl, finR_byte (by exact ho) (by decide) (by decide)]
  unfold moreT itemT addT tx
  simp
theorem finR_items {dep : Int} {o : List (List UInt8)} (ho : o ≠ []) (hd : (o.length : Int) + 1 < dep) {nme : List UInt8} (hn : nameB nme = true) : ∀ (Fs : List (List Pf)) (T : List Tk) (d : List UInt8), (∀ F ∈ Fs, ∀ f ∈ F, f.ok = true) →
    finR dep ⟨true, o, [10], T⟩ (Fs.flatMap (itemP nme) ++ d) = finR dep ⟨true, o, [10], T ++ Fs.flatMap (itemT nme)⟩ d
  | [], T, d, _ => by simp
  | F :: r, T, d, h => by
    rw [List.flatMap_cons, List.append_assoc, finR_item ho hd hn F T _ (h F (by simp)), finR_items ho hd hn r _ d (fun G hG => h G (by simp [hG])), List.flatMap_cons, List.append_assoc]
end Go.Proofs.YtahohmdbiiknoaaDoor

/- An array that the call itself made, as a row of its own: read, written, cell by cell and whole. -/
namespace Go.Proofs.YtahohmdbiiknoaaDoor
open Go.RowKit

/-- Block g is a row of the cells c, and may be written. -/
def ArrAt (w : World) (g : Nat) (t : TypeId) (c : List Value) : Prop := w.heap[g]? = some (.cells c.toArray t (0, 0))
theorem arrAt_new (w : World) (t : TypeId) (c : List Value) : ArrAt (w.alloc (.cells c.toArray t)) w.heap.size t c := heap_alloc_new w _
theorem ArrAt.cell {w : World} {g : Nat} {t : TypeId} {c : List Value} (h : ArrAt w g t c) (k : Nat) : w.cell? ⟨g, k, none⟩ = c[k]? := by
  rw [cell_of_row w g k _ t _ h]; simp
theorem ArrAt.soft {w : World} {g : Nat} {t : TypeId} {c : List Value} (h : ArrAt w g t c) (k : Nat) : w.frozen? ⟨g, k, none⟩ = false := frozen_of_row w g k _ t h
theorem ArrAt.lt {w : World} {g : Nat} {t : TypeId} {c : List Value} (h : ArrAt w g t c) : g < w.heap.size := (Array.getElem?_eq_some_iff.1 h).1
theorem ArrAt.set {w : World} {g : Nat} {t : TypeId} {c : List Value} (h : ArrAt w g t c) (k : Nat) (v : Value) : ArrAt (w.setCell ⟨g, k, none⟩ v) g t (c.set k v) := by
  unfold ArrAt
  rw [heap_setCell_same w g k _ t v h]
  simp
theorem ArrAt.far {w : World} {g g' : Nat} {t : TypeId} {c : List Value} (h : ArrAt w g t c) (k : Nat) (v : Value) (hg : g ≠ g') : ArrAt (w.setCell ⟨g', k, none⟩ v) g t c := by
  unfold ArrAt
  rw [heap_setCell_other w _ _ v hg]; exact h
theorem ArrAt.below {w w' : World} {g B : Nat} {t : TypeId} {c : List Value} (h : ArrAt w g t c) (hb : Below B w w') (hg : g < B) : ArrAt w' g t c := (hb.block g hg).trans h
theorem ArrAt.next {w w' : World} {g : Nat} {t : TypeId} {c : List Value} (h : ArrAt w g t c) (hb : Below w.heap.size w w') : ArrAt w' g t c := h.below hb h.lt
theorem ArrAt.drawn {w w' : World} {g : Nat} {t : TypeId} {c : List Value} (h : ArrAt w g t c) (hd : Drawn w w') : ArrAt w' g t c := h.next (hd.below _)
theorem ArrAt.range {w : World} {g : Nat} {t : TypeId} {c : List Value} (h : ArrAt w g t c) : w.rangeAt g 0 c := fun j v hv => by rw [Nat.zero_add, h.cell j]; exact hv
theorem ArrAt.there {w : World} {g : Nat} {t : TypeId} {c : List Value} (h : ArrAt w g t c) : w.there g 0 c.length := fun j hj => by
  rw [Nat.zero_add]; exact ⟨by rw [h.cell j]; simp [hj], h.soft j⟩
theorem setCells_row (t : TypeId) (g : Nat) : ∀ (vs pre post : List Value) (w : World), ArrAt w g t (pre ++ post) → vs.length = post.length → ArrAt (w.setCells g pre.length vs) g t (pre ++ vs)
  | [], pre, post, w, h, hl => by
    obtain rfl : post = [] := List.length_eq_zero_iff.1 hl.symm
    exact h
  | v :: vs, pre, post, w, h, hl => by
    cases post with
    | nil => simp at hl
    | cons p post =>
      have h2 := setCells_row t g vs (pre ++ [v]) post (w.setCell ⟨g, pre.length, none⟩ v) (by
        have := h.set pre.length v
        simpa [List.set_append_right] using this) (by simpa using hl)
      simp only [List.length_append, List.length_cons, List.length_nil, List.append_assoc, List.singleton_append] at h2
      exact h2
/-- A whole array, stored over one of as many cells. -/
theorem ArrAt.whole {w : World} {g : Nat} {t : TypeId} {c c' : List Value} (h : ArrAt w g t c) (hl : c'.length = c.length) : ArrAt (w.setCells g 0 c') g t c' := setCells_row t g c' [] c w h hl
theorem below_setCells {B : Nat} {a : World} (g : Nat) (hg : B ≤ g) : ∀ (vs : List Value) (o : Nat) (w : World), Below B a w → Below B a (w.setCells g o vs)
  | [], _, _, h => h
  | v :: vs, o, _, h => below_setCells g hg vs (o + 1) _ (h.setCell (p := ⟨g, o, none⟩) hg v)
/-- A result that lies in a row of its own. -/
theorem results_row {P : Program} {fn : Func} {p : Tmp} {ty : TypeId} (h : fn.results = #[.cell p ty]) (tmps : Array Value) (w : World) (g : Nat) (c : List Value) (n : Nat) (e t : TypeId) (hp : tmps.getD p undef = .pointer (some ⟨g, 0, none⟩)) (hr : ArrAt w g t c)
    (hu : P.underlying ty = some (.array n e)) (hi : (P.info? ty).map (·.size) = some c.length) : (results fn tmps).run P w = .ok (.agg c.toArray) w := by
  have hl := run_loadVar_mid (P := P) w g 0 ty c (.array n e) hr.range hu rfl hi
  have hp' : tmps[p]?.getD undef = .pointer (some ⟨g, 0, none⟩) := by simpa using hp
  simp only [results, h]
  simp [hp', asAddr, hl]
/-- A whole array, stored over one of as many cells: of the world behind it what matters. -/
theorem wpList_store_arr {P : Program} {ops : Array Oper} {rest : List Oper} {op : Oper} {a : Act} {w : World} {Q : Exit → Act → World → Prop} (hgd : op.guard = none) (ty : TypeId) (x y : Operand) (ho : op.op = .store ty x y)
    (g : Nat) (t : TypeId) (c c' : List Value) (hx : a.eval x = .pointer (some ⟨g, 0, none⟩)) (hy : a.eval y = .agg c'.toArray) (hr : ArrAt w g t c) (hl : c'.length = c.length) (hi : (P.info? ty).map (·.size) = some c'.length) (h1 : ∀ v ∈ c', v.oneCell' = true)
    (h : ∀ w', Hid (ArrAt w' g t c') → Hid (∀ B a0, B ≤ g → Below B a0 w → Below B a0 w') → wpList P ops Q rest (a.put op.dst undef) w') : wpList P ops Q (op :: rest) a w :=
  wpList_store_mid hgd ty x y ho g 0 c'.toArray hx hy (by have := hr.there; rw [← hl] at this; simpa using this) (by simpa using hi) (all_oneCell_toArray h1) (h _ (hr.whole hl) (fun _ _ hB hb => below_setCells g hB _ _ _ hb))
end Go.Proofs.YtahohmdbiiknoaaDoor

/- A world in which certain blocks alone have turned, and new ones have come. -/
namespace Go.RowKit
/-- w' is w, but for the blocks of S and new ones. -/
structure Turned (S : Nat → Prop) (w w' : World) : Prop where
  os : w'.os = w.os
  tape : w'.tape = w.tape
  output : w'.output = w.output
  size : w.heap.size ≤ w'.heap.size
  block : ∀ k, k < w.heap.size → ¬ S k → w'.heap[k]? = w.heap[k]?
theorem Turned.refl (S : Nat → Prop) (w : World) : Turned S w w := ⟨rfl, rfl, rfl, Nat.le_refl _, fun _ _ _ => rfl⟩
theorem Turned.of_below {S : Nat → Prop} {w w' : World} (h : Below w.heap.size w w') : Turned S w w' := ⟨h.os, h.tape, h.output, h.size, fun k hk _ => h.block k hk⟩
theorem Turned.of_grown {S : Nat → Prop} {w w' : World} {row : Option Nat} (h : w.grownBy w' row) (hr : ∀ k, row = some k → S k) : Turned S w w' :=
  ⟨h.os, h.tape, h.output, h.size, fun k hk hS => h.block k hk (fun e => hS (hr k e.symm))⟩
theorem Turned.trans {S S' : Nat → Prop} {a b c : World} (h : Turned S a b) (k : Turned S' b c) (hS : ∀ i, i < a.heap.size → S' i → S i) : Turned S a c :=
  ⟨k.os.trans h.os, k.tape.trans h.tape, k.output.trans h.output, Nat.le_trans h.size k.size, fun i hi hn => (k.block i (Nat.lt_of_lt_of_le hi h.size) (fun hs => hn (hS i hi hs))).trans (h.block i hi hn)⟩
theorem Turned.mono {S S' : Nat → Prop} {w w' : World} (h : Turned S w w') (hS : ∀ i, i < w.heap.size → S i → S' i) : Turned S' w w' :=
  ⟨h.os, h.tape, h.output, h.size, fun i hi hn => h.block i hi (fun hs => hn (hS i hi hs))⟩
theorem Turned.below {S : Nat → Prop} {w w' : World} {B : Nat} (h : Turned S w w') (hS : ∀ i, i < w.heap.size → S i → B ≤ i) (hB : B ≤ w.heap.size) : Below B w w' :=
  ⟨h.os, h.tape, h.output, h.size, fun i hi => h.block i (Nat.lt_of_lt_of_le hi hB) (fun hs => by have := hS i (Nat.lt_of_lt_of_le hi hB) hs; omega)⟩
end Go.RowKit
namespace Go.Proofs.YtahohmdbiiknoaaDoor
open Go.RowKit

theorem ownsRow_turned {S : Nat → Prop} {w w' : World} {B : Nat} {E : TypeId} {z : Nat} {v : Value} {n : Nat} {xs : List Value} (h : w.ownsRow B E z v n xs) (ht : Turned S w w') (hS : ∀ k, v.ownBlock = some k → ¬ S k) : w'.ownsRow B E z v n xs := by
  have hl := h.lt
  rcases h with ⟨h1, h | ⟨g, cap, cur, rfl, hb, hg, h3⟩⟩
  · exact ⟨h1, Or.inl h⟩
  · exact ⟨h1, Or.inr ⟨g, cap, cur, rfl, hb, (ht.block g (hl g rfl).2 (hS g rfl)).trans hg, h3⟩⟩
theorem ArrAt.turned {S : Nat → Prop} {w w' : World} {g : Nat} {t : TypeId} {c : List Value} (h : ArrAt w g t c) (ht : Turned S w w') (hS : ¬ S g) : ArrAt w' g t c := (ht.block g h.lt hS).trans h
theorem ArrAt.grown {w w' : World} {row : Option Nat} {g : Nat} {t : TypeId} {c : List Value} (h : ArrAt w g t c) (hg : w.grownBy w' row) (hne : some g ≠ row) : ArrAt w' g t c := (hg.block g h.lt hne).trans h
theorem grown_setRow (w : World) (g : Nat) (cs : Array Value) : w.grownBy (w.setRow g cs) (some g) := ⟨rfl, rfl, rfl, by simp, fun k _ hk => setRow_other w g k cs (fun e => hk (by rw [e]))⟩
theorem grown_trans {w w1 w2 : World} {row : Option Nat} (h : w.grownBy w1 row) (k : w1.grownBy w2 row) : w.grownBy w2 row :=
  ⟨k.os.trans h.os, k.tape.trans h.tape, k.output.trans h.output, Nat.le_trans h.size k.size, fun i hi hn => (k.block i (Nat.lt_of_lt_of_le hi h.size) hn).trans (h.block i hi hn)⟩
/-- A row of which all is known, as a slice that is owned: its first n elements. -/
theorem ArrAt.owns {w : World} {g n cap z : Nat} {t : TypeId} {c xs : List Value} (h : ArrAt w g t c) (hx : c.take (n * z) = xs) (hl : c.length = cap * z) (hn : n ≤ cap) (hm : cap ≤ maxLen) :
    w.ownsRow 0 t z (.slice (some ⟨g, 0, none⟩) n cap) n xs := by
  have hle : n * z ≤ cap * z := Nat.mul_le_mul_right _ hn
  exact ⟨by rw [← hx, List.length_take]; omega, Or.inr ⟨g, cap, c.toArray, rfl, Nat.zero_le _, h, hn, hm, by simpa using hl, by simpa using hx⟩⟩
/-- A slice that is owned and has something, as a row of which all is known. -/
theorem owns_arr {w : World} {B n z : Nat} {t : TypeId} {v : Value} {xs : List Value} (h : w.ownsRow B t z v n xs) (hn : v ≠ .slice none 0 0) :
    ∃ g cap c, v = .slice (some ⟨g, 0, none⟩) n cap ∧ ArrAt w g t c ∧ c.take (n * z) = xs ∧ c.length = cap * z ∧ n ≤ cap ∧ cap ≤ maxLen := by
  rcases h with ⟨h1, ⟨hv, _⟩ | ⟨g, cap, cur, hv, hb, hg, hnc, hcm, hcs, htk⟩⟩
  · exact absurd hv hn
  · exact ⟨g, cap, cur.toList, hv, by unfold ArrAt; simpa using hg, htk, by simpa using hcs, hnc, hcm⟩
theorem own_heap {w : World} {B n z : Nat} {E : TypeId} {v : Value} {xs : List Value} {g : Nat} (h : w.ownsRow B E z v n xs) (hv : v.ownBlock = some g) : ∃ cur, w.heap[g]? = some (.cells cur E (0, 0)) := by
  rcases h.2 with ⟨rfl, _⟩ | ⟨g', cap, cur, rfl, _, hg, _⟩
  · cases hv
  · injection hv with hv
    have : g' = g := hv
    subst this
    exact ⟨cur, hg⟩
theorem own_apart {w : World} {B B' n m z z' : Nat} {E E' : TypeId} {v u : Value} {xs ys : List Value} {g : Nat} (h1 : w.ownsRow B E z v n xs) (h2 : w.ownsRow B' E' z' u m ys) (hE : E ≠ E') (hv : v.ownBlock = some g) (hu : u.ownBlock = some g) : False := by
  obtain ⟨c1, e1⟩ := own_heap h1 hv
  obtain ⟨c2, e2⟩ := own_heap h2 hu
  rw [e1] at e2
  injection e2 with e2
  injection e2 with _ e2
  exact hE e2
theorem turned_setCell (w : World) (a : Addr) (u : Value) : Turned (fun b => b = a.block) w (w.setCell a u) :=
  ⟨rfl, rfl, rfl, by simp [World.setCell], fun k _ hk => Below.heap_setCell w a u k hk⟩
theorem own_ne_arr {w : World} {B n z g : Nat} {E t : TypeId} {v : Value} {xs c : List Value} (h : w.ownsRow B E z v n xs) (ha : ArrAt w g t c) (hE : E ≠ t) : v.ownBlock ≠ some g := fun e => by
  obtain ⟨cur, e1⟩ := own_heap h e
  unfold ArrAt at ha
  rw [ha] at e1
  injection e1 with e1
  injection e1 with _ e1
  exact hE e1.symm
theorem arr_apart {w : World} {g g' : Nat} {t t' : TypeId} {c c' : List Value} (h : ArrAt w g t c) (h' : ArrAt w g' t' c') (ht : t ≠ t') : g ≠ g' := fun e => by
  subst e
  unfold ArrAt at h h'
  rw [h] at h'
  injection h' with h'
  injection h' with _ h'
  exact ht h'
end Go.Proofs.YtahohmdbiiknoaaDoor
