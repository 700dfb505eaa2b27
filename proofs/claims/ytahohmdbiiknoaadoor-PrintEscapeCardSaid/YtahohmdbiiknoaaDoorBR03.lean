/- Layer 11, plain: a document's tokens, read from the left. Each reader answers what it read, and how many bytes that took. -/
import Derived.Test.YtahohmdbiiknoaaDoorBR02
import Derived.Lib.IndexMore
namespace Go.Proofs.YtahohmdbiiknoaaDoor

/-- What a step of a loop comes to. -/
inductive Rs (σ ε : Type) where
  | bad (e : ε)
  | stop
  | go (s : σ) (n : Nat)
section
variable {σ ε : Type}
/-- A loop over a text: what it ends with: a fault or none, its state, how many bytes it took. -/
def loopF (f : σ → List UInt8 → Rs σ ε) : Nat → σ → List UInt8 → Nat → Option ε × σ × Nat
  | 0, s, _, k => (none, s, k)
  | F + 1, s, d, k => match f s d with
    | .bad e => (some e, s, k)
    | .stop => (none, s, k)
    | .go s' n => loopF f F s' (d.drop n) (k + n)
/-- Each step takes something, and no more than there is. -/
def Steps (f : σ → List UInt8 → Rs σ ε) : Prop := ∀ s d s' n, f s d = .go s' n → 1 ≤ n ∧ n ≤ d.length
theorem loopF_fuel {f : σ → List UInt8 → Rs σ ε} (h : Steps f) : ∀ (F F' : Nat) (s : σ) (d : List UInt8) (k : Nat), d.length < F → d.length < F' → loopF f F s d k = loopF f F' s d k
  | 0, _, _, _, _, h1, _ => by omega
  | _ + 1, 0, _, _, _, _, h2 => by omega
  | F + 1, F' + 1, s, d, k, h1, h2 => by
    unfold loopF
    cases e : f s d with
    | bad x => rfl
    | stop => rfl
    | go s' n =>
      have := h s d s' n e
      exact loopF_fuel h F F' s' (d.drop n) (k + n) (by rw [List.length_drop]; omega) (by rw [List.length_drop]; omega)
def loopK (f : σ → List UInt8 → Rs σ ε) (s : σ) (d : List UInt8) (k : Nat) : Option ε × σ × Nat := loopF f (d.length + 1) s d k
theorem loopK_go {f : σ → List UInt8 → Rs σ ε} (h : Steps f) {s s' : σ} {d : List UInt8} {n : Nat} (k : Nat) (e : f s d = .go s' n) : loopK f s d k = loopK f s' (d.drop n) (k + n) := by
  have := h s d s' n e
  unfold loopK
  rw [loopF, e]
  exact loopF_fuel h _ _ _ _ _ (by rw [List.length_drop]; omega) (by omega)
theorem loopK_bad {f : σ → List UInt8 → Rs σ ε} {s : σ} {d : List UInt8} {x : ε} (k : Nat) (e : f s d = .bad x) : loopK f s d k = (some x, s, k) := by unfold loopK; rw [loopF, e]
theorem loopK_stop {f : σ → List UInt8 → Rs σ ε} {s : σ} {d : List UInt8} (k : Nat) (e : f s d = .stop) : loopK f s d k = (none, s, k) := by unfold loopK; rw [loopF, e]
/-- Induction along a loop's steps. -/
theorem loopK_ind {f : σ → List UInt8 → Rs σ ε} (h : Steps f) {P : σ → List UInt8 → Prop} (hb : ∀ s d x, f s d = .bad x → P s d) (hs : ∀ s d, f s d = .stop → P s d)
    (hg : ∀ s d s' n, f s d = .go s' n → P s' (d.drop n) → P s d) : ∀ s d, P s d := by
  have key : ∀ (N : Nat) (d : List UInt8) (s : σ), d.length ≤ N → P s d := by
    intro N
    induction N with
    | zero =>
      intro d s hd
      cases e : f s d with
      | bad x => exact hb s d x e
      | stop => exact hs s d e
      | go s' n => have := h s d s' n e; omega
    | succ N ih =>
      intro d s hd
      cases e : f s d with
      | bad x => exact hb s d x e
      | stop => exact hs s d e
      | go s' n => have := h s d s' n e; exact hg s d s' n e (ih _ _ (by rw [List.length_drop]; omega))
  exact fun s d => key d.length d s (Nat.le_refl _)
theorem loopK_le {f : σ → List UInt8 → Rs σ ε} (h : Steps f) : ∀ s d k, k ≤ (loopK f s d k).2.2 ∧ (loopK f s d k).2.2 ≤ k + d.length := by
  refine loopK_ind h (P := fun s d => ∀ k, k ≤ (loopK f s d k).2.2 ∧ (loopK f s d k).2.2 ≤ k + d.length) ?_ ?_ ?_
  · intro s d x e k; rw [loopK_bad k e]; exact ⟨Nat.le_refl _, Nat.le_add_right _ _⟩
  · intro s d e k; rw [loopK_stop k e]; exact ⟨Nat.le_refl _, Nat.le_add_right _ _⟩
  · intro s d s' n e ih k
    have := h s d s' n e
    rw [loopK_go h k e]
    have := ih (k + n)
    rw [List.length_drop] at this
    omega
/-- A loop that begins further on. -/
theorem loopK_off {f : σ → List UInt8 → Rs σ ε} (h : Steps f) : ∀ s d k j, loopK f s d (j + k) = ((loopK f s d k).1, (loopK f s d k).2.1, j + (loopK f s d k).2.2) := by
  refine loopK_ind h (P := fun s d => ∀ k j, loopK f s d (j + k) = ((loopK f s d k).1, (loopK f s d k).2.1, j + (loopK f s d k).2.2)) ?_ ?_ ?_
  · intro s d x e k j; rw [loopK_bad _ e, loopK_bad _ e]
  · intro s d e k j; rw [loopK_stop _ e, loopK_stop _ e]
  · intro s d s' n e ih k j
    rw [loopK_go h _ e, loopK_go h _ e, Nat.add_assoc, ih]
end

/-- A blank; a name's first byte; a name's byte. -/
def blI (c : Int) : Bool := decide (c = 32 ∨ c = 9 ∨ c = 10 ∨ c = 13)
def leadI (c : Int) : Bool := decide (97 ≤ c ∧ c ≤ 122 ∨ 65 ≤ c ∧ c ≤ 90 ∨ c = 95 ∨ c = 58)
def follI (c : Int) : Bool := leadI c || decide (48 ≤ c ∧ c ≤ 57 ∨ c = 45 ∨ c = 46)
/-- How many bytes of a kind stand first. -/
def spanN (p : Int → Bool) : List UInt8 → Nat
  | [] => 0
  | c :: t => if p c.toNat then spanN p t + 1 else 0
theorem spanN_le (p : Int → Bool) : ∀ l, spanN p l ≤ l.length
  | [] => Nat.le_refl _
  | c :: t => by have := spanN_le p t; unfold spanN; split <;> simp <;> omega
/-- What a loop over bytes of a kind keeps: j of them stand first. -/
def SpAtN (p : Int → Bool) (d : List UInt8) (j : Nat) : Prop := j ≤ d.length ∧ spanN p d = j + spanN p (d.drop j)
theorem SpAtN.zero (p : Int → Bool) (d : List UInt8) : SpAtN p d 0 := ⟨Nat.zero_le _, by simp⟩
theorem SpAtN.step {p : Int → Bool} {d : List UInt8} {j : Nat} (h : SpAtN p d j) (hj : j < d.length) (hp : p (bt d j) = true) : SpAtN p d (j + 1) := by
  refine ⟨hj, ?_⟩
  rw [h.2, List.drop_eq_getElem_cons hj, spanN, if_pos (by simpa [bt, List.getD, hj] using hp)]
  omega
theorem SpAtN.done {p : Int → Bool} {d : List UInt8} {j : Nat} (h : SpAtN p d j) (hj : ¬ j < d.length) : spanN p d = j := by
  rw [h.2, List.drop_eq_nil_of_le (by omega)]; rfl
theorem SpAtN.stop {p : Int → Bool} {d : List UInt8} {j : Nat} (h : SpAtN p d j) (hj : j < d.length) (hp : p (bt d j) = false) : spanN p d = j := by
  rw [h.2, List.drop_eq_getElem_cons hj, spanN, if_neg (by simpa [bt, List.getD, hj] using hp)]
  rfl
theorem bt_get0' (l : List UInt8) (k : Nat) : bt l k = ((l.getD k 0).toNat : Int) := rfl
/-- May it be a name? -/
def nameB (s : List UInt8) : Bool := decide (1 ≤ s.length ∧ s.length ≤ 64) && leadI (bt s 0) && s.all fun c => follI c.toNat
/-- A name that stands first. -/
def nameP (d : List UInt8) : Option (List UInt8 × Nat) := if nameB (d.take (spanN follI d)) then some (d.take (spanN follI d), spanN follI d) else none
/-- A ref. -/
def refP (d : List UInt8) : Option (List UInt8 × Nat) :=
  if Lib.indexByte (d.take 13) 59 < 0 then none else
  match namedS ((d.take (Lib.indexByte (d.take 13) 59).toNat).drop 1) with
  | none => none
  | some t => some (t, (Lib.indexByte (d.take 13) 59).toNat + 1)
/-- A step of bytes and refs, up to one of certain bytes. -/
def runF (ends : List UInt8) (acc : List UInt8) : List UInt8 → Rs (List UInt8) Unit
  | [] => .stop
  | c :: t => if 0 ≤ Lib.indexByte ends c then .stop else if c ≠ 38 then .go (acc ++ [c]) 1 else
    match refP (c :: t) with
    | none => .bad ()
    | some (x, n) => .go (acc ++ x) n
def runP (ends d : List UInt8) : Option (List UInt8 × Nat) :=
  match loopK (runF ends) [] d 0 with
  | (none, x, n) => some (x, n)
  | (some _, _, _) => none
/-- A quoted value. -/
def valueP (d : List UInt8) : Option (List UInt8 × Nat) :=
  if Lib.hasPrefix d [if Lib.hasPrefix d [39] then 39 else 34] = false then none else
  match runP [60, if Lib.hasPrefix d [39] then 39 else 34] (d.drop 1) with
  | none => none
  | some (x, n) => if Lib.hasPrefix (d.drop (1 + n)) [if Lib.hasPrefix d [39] then 39 else 34] then some (x, 1 + n + 1) else none
/-- An attribute. -/
def attrP (d : List UInt8) : Option (At × Nat) :=
  match nameP d with
  | none => none
  | some (nm, n) =>
    if Lib.hasPrefix (d.drop (n + spanN blI (d.drop n))) [61] = false then none else
    match valueP (d.drop (n + spanN blI (d.drop n) + 1 + spanN blI (d.drop (n + spanN blI (d.drop n) + 1)))) with
    | none => none
    | some (v, m) => some ((nm, v), n + spanN blI (d.drop n) + 1 + spanN blI (d.drop (n + spanN blI (d.drop n) + 1)) + m)
def leadsB (d : List UInt8) : Bool := decide (0 < d.length) && leadI (bt d 0)
/-- A step of attributes, each with blanks ahead. -/
def attrsF (l : List At) (d : List UInt8) : Rs (List At) Unit :=
  if 0 < spanN blI d ∧ leadsB (d.drop (spanN blI d)) = true then
    match attrP (d.drop (spanN blI d)) with
    | none => .bad ()
    | some (x, n) => if l.length = 16 ∨ (l.any fun y => y.1 == x.1) = true then .bad () else .go (l ++ [x]) (spanN blI d + n)
  else .stop
def attrsP (d : List UInt8) : Option (List At × Nat) :=
  match loopK attrsF [] d 0 with
  | (none, l, k) => some (l, k + spanN blI (d.drop k))
  | (some _, _, _) => none
/-- What stands behind an element's <; whether it ends at once. -/
def beginP (d : List UInt8) : Option ((List UInt8 × List At × Bool) × Nat) :=
  match nameP d with
  | none => none
  | some (nm, n) =>
    match attrsP (d.drop n) with
    | none => none
    | some (l, m) =>
      if Lib.hasPrefix (d.drop (n + m)) [47, 62] then some ((nm, l, true), n + m + 2)
      else if Lib.hasPrefix (d.drop (n + m)) [62] then some ((nm, l, false), n + m + 1) else none
/-- What stands behind an end's </. -/
def endP (nm d : List UInt8) : Option Nat :=
  if Lib.hasPrefix d nm = false then none
  else if Lib.hasPrefix (d.drop (nm.length + spanN blI (d.drop nm.length))) [62] then some (nm.length + spanN blI (d.drop nm.length) + 1) else none
/-- A text and an end behind it. -/
def untilP (e bar d : List UInt8) : Option (List UInt8 × Nat) :=
  if Lib.index d e < 0 then none else if Lib.contains (d.take (Lib.index d e).toNat) bar then none else some (d.take (Lib.index d e).toNat, (Lib.index d e).toNat + e.length)
/-- A reader's state. -/
structure Sc where
  rooted : Bool
  opn : List (List UInt8)
  text : List UInt8
  toks : List Tk
inductive Flt where
  | fin
  | syn
  | deep
deriving DecidableEq
def addT (text : List UInt8) (toks : List Tk) (x : Tk) : List Tk := (if 0 < text.length then toks ++ [⟨4, [], [], text⟩] else toks) ++ [x]
/-- Does an element begin here? -/
def elemB (d : List UInt8) : Bool := Lib.hasPrefix d [60] && leadsB (d.drop 1)
/-- A step of a document. -/
def docF (dep : Int) (s : Sc) (d : List UInt8) : Rs Sc Flt :=
  if d = [] then .bad .fin
  else if Lib.hasPrefix d [60, 33, 45, 45] then
    match untilP [45, 45, 62] [45, 45] (d.drop 4) with
    | none => .bad .syn
    | some (_, n) => .go s (4 + n)
  else if elemB d then
    if s.rooted = true ∧ s.opn = [] then .bad .syn
    else if dep ≤ s.opn.length then .bad .deep
    else match beginP (d.drop 1) with
      | none => .bad .syn
      | some ((nm, l, true), n) => .go ⟨true, s.opn, [], addT s.text s.toks ⟨3, nm, l, []⟩⟩ (1 + n)
      | some ((nm, l, false), n) => .go ⟨true, s.opn ++ [nm], [], addT s.text s.toks ⟨1, nm, l, []⟩⟩ (1 + n)
  else if s.opn = [] then
    if spanN blI d = 0 then .bad .syn else .go s (spanN blI d)
  else if Lib.hasPrefix d [60, 47] then
    match endP (s.opn.getLastD []) (d.drop 2) with
    | none => .bad .syn
    | some n => .go ⟨s.rooted, s.opn.dropLast, [], addT s.text s.toks ⟨2, s.opn.getLastD [], [], []⟩⟩ (2 + n)
  else if Lib.hasPrefix d [60, 33, 91, 67, 68, 65, 84, 65, 91] then
    match untilP [93, 93, 62] [93, 93, 62] (d.drop 9) with
    | none => .bad .syn
    | some (x, n) => .go ⟨s.rooted, s.opn, s.text ++ x, s.toks⟩ (9 + n)
  else if Lib.hasPrefix d [60] then .bad .syn
  else match runP [60] d with
    | none => .bad .syn
    | some (x, n) => .go ⟨s.rooted, s.opn, s.text ++ x, s.toks⟩ n
/-- What stands once, ahead of all else. -/
def headP (d : List UInt8) : Option Nat :=
  let m := if Lib.hasPrefix d [239, 187, 191] then 3 else 0
  if Lib.hasPrefix (d.drop m) [60, 63, 120, 109, 108] then
    if spanN blI (d.drop (m + 5)) = 0 then none else
    match untilP [63, 62] [63, 62] (d.drop (m + 5 + spanN blI (d.drop (m + 5)))) with
    | none => none
    | some (_, n) => some (m + 5 + spanN blI (d.drop (m + 5)) + n)
  else some m
/-- A document: its tokens, or its first fault; of one that is too deep where that is. -/
inductive Ans where
  | toks (l : List Tk)
  | syn
  | deep (k : Nat)
def sc0 : Sc := ⟨false, [], [], []⟩
def docB (dep : Int) (l : List UInt8) : Ans :=
  match headP l with
  | none => .syn
  | some m =>
    match loopK (docF dep) sc0 (l.drop m) m with
    | (some .deep, _, k) => .deep k
    | (some .fin, s, _) => if s.rooted && s.opn.isEmpty then .toks s.toks else .syn
    | _ => .syn
/-- A step of runes that may stand in a document. -/
def runeF (_ : Unit) (d : List UInt8) : Rs Unit Unit := if d = [] then .stop else if charB (cutS d).1 && (cutS d).2.2 then .go () (cutN d) else .bad ()
/-- Where the first bytes stand that are no such rune's. -/
def runesB (l : List UInt8) : Option Nat :=
  match loopK runeF () l 0 with
  | (some _, _, k) => some k
  | (none, _, _) => none
/-- What Tokens answers. -/
inductive Out where
  | toks (l : List Tk)
  | syn
  | deep
def tokB (dep : Int) (l : List UInt8) : Out :=
  match docB dep l, runesB l with
  | .toks t, none => .toks t
  | .toks _, some _ => .syn
  | .syn, _ => .syn
  | .deep _, none => .deep
  | .deep k, some q => if q < k then .syn else .deep
end Go.Proofs.YtahohmdbiiknoaaDoor

/- Readers, plain: bounds of names, refs, runs, values, attributes. -/
namespace Go.Proofs.YtahohmdbiiknoaaDoor

theorem all_bt (p : Int → Bool) (s : List UInt8) : (s.all fun c => p c.toNat) = true ↔ ∀ j, j < s.length → p (bt s j) = true := by
  rw [List.all_eq_true]
  constructor
  · intro h j hj
    have := h _ (List.getElem_mem hj)
    simpa [bt, List.getD, hj] using this
  · intro h x hx
    obtain ⟨j, hj, rfl⟩ := List.mem_iff_getElem.1 hx
    have := h j hj
    simpa [bt, List.getD, hj] using this
theorem bt_take0 (l : List UInt8) (n : Nat) (hn : 0 < n) : bt (l.take n) 0 = bt l 0 := by
  unfold bt; rw [List.getD, List.getD, List.getElem?_take, if_pos hn]
theorem ref_ix {d : List UInt8} (h0 : 0 < d.length) (h38 : bt d 0 = 38) : Lib.indexByte (d.take 13) 59 ≠ 0 := by
  intro e
  have hmem := (indexByte_mem (d.take 13) 59).1 (by omega)
  have : bt (d.take 13) 0 = 38 := by rw [bt_take0 _ _ (by decide)]; exact h38
  cases d with
  | nil => simp at h0
  | cons c t =>
    rw [show (c :: t).take 13 = c :: t.take 12 from rfl] at e this hmem
    unfold Lib.indexByte at e
    have hc : c = 38 := (bt_u8 c 38 _).1 this
    subst hc
    simp at e
    split at e <;> (try omega) <;> simp_all <;> (have := Lib.indexByte_ge (t.take 12) 59; omega)
/-- The ways of ref. -/
theorem ref_ways (d : List UInt8) (h0 : 0 < d.length) (h38 : bt d 0 = 38) : (Lib.indexByte (d.take 13) 59 < 0 ∧ refP d = none) ∨
    ∃ n : Nat, Lib.indexByte (d.take 13) 59 = ((n + 1 : Nat) : Int) ∧ n + 1 < (d.take 13).length ∧ refP d = match namedS (((d.take 13).take (n + 1)).drop 1) with | none => none | some t => some (t, n + 1 + 1) := by
  have hne := ref_ix h0 h38
  have hg := Lib.indexByte_ge (d.take 13) 59
  have hlt := indexByte_lt (d.take 13) 59
  by_cases h : Lib.indexByte (d.take 13) 59 < 0
  · exact Or.inl ⟨h, by unfold refP; rw [if_pos h]⟩
  · refine Or.inr ⟨(Lib.indexByte (d.take 13) 59).toNat - 1, by omega, by omega, ?_⟩
    unfold refP
    rw [if_neg h]
    have hl : (d.take 13).length ≤ 13 := by rw [List.length_take]; omega
    rw [show (Lib.indexByte (d.take 13) 59).toNat - 1 + 1 = (Lib.indexByte (d.take 13) 59).toNat by omega, List.take_take, Nat.min_eq_left (by omega)]
    all_goals (cases namedS ((d.take (Lib.indexByte (d.take 13) 59).toNat).drop 1) <;> rfl)
theorem named_len {l x : List UInt8} (h : namedS l = some x) : x.length ≤ 4 := by
  unfold namedS at h
  repeat' split at h
  all_goals first | (injection h with h; subst h; first | exact encR_len _ | decide) | cases h
theorem refP_bd {d x : List UInt8} {n : Nat} (h : refP d = some (x, n)) : 1 ≤ n ∧ n ≤ d.length ∧ x.length ≤ 4 := by
  unfold refP at h
  split at h
  · cases h
  · rename_i hi
    have hlt := indexByte_lt (d.take 13) 59
    rw [List.length_take] at hlt
    revert h
    cases e : namedS ((d.take (Lib.indexByte (d.take 13) 59).toNat).drop 1) with
    | none => intro h; cases h
    | some t =>
      intro h
      injection h with h
      injection h with h1 h2
      subst h1 h2
      exact ⟨by omega, by omega, named_len e⟩
theorem runF_steps (ends : List UInt8) : Steps (runF ends) := by
  intro s d s' n h
  cases d with
  | nil => cases h
  | cons c t =>
    rw [runF] at h
    split at h
    · cases h
    · split at h
      · injection h with _ h; subst h; simp
      · revert h
        cases e : refP (c :: t) with
        | none => intro h; cases h
        | some y =>
          obtain ⟨x, m⟩ := y
          intro h
          injection h with _ h
          subst h
          have := refP_bd e
          omega
/-- What the loop of run keeps. -/
structure RunAt (ends d : List UInt8) (j : Nat) (acc : List UInt8) : Prop where
  le : j ≤ d.length
  eq : loopK (runF ends) [] d 0 = loopK (runF ends) acc (d.drop j) j
  len : acc.length ≤ 4 * j
theorem RunAt.zero (ends d : List UInt8) : RunAt ends d 0 [] := ⟨Nat.zero_le _, by simp, by simp⟩
theorem RunAt.step {ends d acc acc' : List UInt8} {j n : Nat} (h : RunAt ends d j acc) (e : runF ends acc (d.drop j) = .go acc' n) (hl : acc'.length ≤ acc.length + 4 * n) : RunAt ends d (j + n) acc' := by
  have := runF_steps ends _ _ _ _ e
  rw [List.length_drop] at this
  refine ⟨by omega, ?_, by have := h.len; omega⟩
  rw [h.eq, loopK_go (runF_steps ends) _ e, List.drop_drop]
theorem RunAt.stop {ends d acc : List UInt8} {j : Nat} (h : RunAt ends d j acc) (e : runF ends acc (d.drop j) = .stop) : runP ends d = some (acc, j) := by
  unfold runP; rw [h.eq, loopK_stop _ e]
theorem RunAt.bad {ends d acc : List UInt8} {j : Nat} (h : RunAt ends d j acc) (e : runF ends acc (d.drop j) = .bad ()) : runP ends d = none := by
  unfold runP; rw [h.eq, loopK_bad _ e]
theorem drop_cons {d : List UInt8} {j : Nat} (hj : j < d.length) : d.drop j = d.getD j 0 :: d.drop (j + 1) := by
  rw [List.drop_eq_getElem_cons hj]; simp [List.getD, hj]
theorem runF_end (ends acc d : List UInt8) (j : Nat) (hj : ¬ j < d.length) : runF ends acc (d.drop j) = .stop := by
  rw [List.drop_eq_nil_of_le (by omega)]; rfl
theorem runF_at {ends acc d : List UInt8} {j : Nat} (hj : j < d.length) :
    (0 ≤ Lib.indexByte ends (d.getD j 0) → runF ends acc (d.drop j) = .stop) ∧
    (Lib.indexByte ends (d.getD j 0) < 0 → bt d j ≠ 38 → runF ends acc (d.drop j) = .go (acc ++ [d.getD j 0]) 1) ∧
    (Lib.indexByte ends (d.getD j 0) < 0 → bt d j = 38 → runF ends acc (d.drop j) = match refP (d.drop j) with | none => .bad () | some (x, n) => .go (acc ++ x) n) := by
  have h38 : bt d j = 38 ↔ d.getD j 0 = 38 := by
    rw [bt_get0']
    constructor
    · intro h; exact UInt8.toNat_inj.1 (by rw [show (38 : UInt8).toNat = 38 from rfl]; omega)
    · intro h; rw [h]; rfl
  rw [drop_cons hj, runF]
  refine ⟨fun h => by rw [if_pos h], fun h h1 => ?_, fun h h1 => ?_⟩
  · rw [if_neg (by omega), if_pos (by rw [ne_eq, ← h38]; exact h1)]
  · rw [if_neg (by omega), if_neg (by rw [ne_eq, ← h38]; exact fun h => h h1)]
    all_goals (cases refP (d.getD j 0 :: d.drop (j + 1)) <;> rfl)
theorem prefix_len {d p : List UInt8} (h : Lib.hasPrefix d p = true) : p.length ≤ d.length := (List.isPrefixOf_iff_prefix.1 h).length_le
theorem runP_le {ends d x : List UInt8} {n : Nat} (h : runP ends d = some (x, n)) : n ≤ d.length := by
  unfold runP at h
  have := loopK_le (runF_steps ends) [] d 0
  cases e : loopK (runF ends) [] d 0 with
  | mk o y =>
    rw [e] at h this
    cases o with
    | some _ => cases h
    | none =>
      injection h with h
      obtain ⟨y1, y2⟩ := y
      injection h with _ h
      subst h
      simp at this; omega
theorem valueP_le {d x : List UInt8} {n : Nat} (h : valueP d = some (x, n)) : 1 ≤ n ∧ n ≤ d.length := by
  unfold valueP at h
  generalize (if Lib.hasPrefix d [39] = true then (39 : UInt8) else 34) = q at h
  by_cases h1 : Lib.hasPrefix d [q] = false
  · rw [if_pos h1] at h; cases h
  rw [if_neg h1] at h
  cases e : runP [60, q] (d.drop 1) with
  | none => rw [e] at h; cases h
  | some y =>
    obtain ⟨x', n'⟩ := y
    rw [e] at h
    have h2 := runP_le e
    rw [List.length_drop] at h2
    simp only at h
    by_cases hp : Lib.hasPrefix (d.drop (1 + n')) [q] = true
    · rw [if_pos hp] at h
      injection h with h
      injection h with _ h
      have := prefix_len hp
      rw [List.length_drop] at this
      simp at this
      omega
    · rw [if_neg hp] at h; cases h
theorem nameP_le {d x : List UInt8} {n : Nat} (h : nameP d = some (x, n)) : 1 ≤ n ∧ n ≤ d.length ∧ x = d.take n ∧ nameB x = true := by
  unfold nameP at h
  split at h
  · rename_i hb
    injection h with h
    injection h with h1 h2
    subst h1 h2
    have hle := spanN_le follI d
    have := hb
    unfold nameB at this
    simp only [Bool.and_eq_true, decide_eq_true_eq, List.length_take] at this
    exact ⟨by omega, hle, rfl, hb⟩
  · cases h
theorem attrP_le {d : List UInt8} {x : At} {n : Nat} (h : attrP d = some (x, n)) : 1 ≤ n ∧ n ≤ d.length := by
  unfold attrP at h
  cases e : nameP d with
  | none => rw [e] at h; cases h
  | some y =>
    obtain ⟨nm, m⟩ := y
    rw [e] at h
    have h1 := nameP_le e
    simp only at h
    split at h
    · cases h
    · rename_i hp
      rw [Bool.not_eq_false] at hp
      have h2 := prefix_len hp
      rw [List.length_drop] at h2
      have h3 := spanN_le blI (d.drop m)
      rw [List.length_drop] at h3
      revert h
      generalize spanN blI (d.drop m) = b1 at h2 h3
      cases e2 : valueP (d.drop (m + b1 + 1 + spanN blI (d.drop (m + b1 + 1)))) with
      | none => intro h; cases h
      | some z =>
        obtain ⟨v, q⟩ := z
        intro h
        injection h with h
        injection h with _ h
        have h4 := valueP_le e2
        rw [List.length_drop] at h4
        simp at h2
        omega
theorem elemB_ne {d : List UInt8} (h : elemB d = true) : 0 < d.length := by
  cases d with
  | nil => cases h
  | cons c t => simp
theorem snoc_of {α : Type} {l : List α} (x : α) (h : l ≠ []) : ∃ op nm, l = op ++ [nm] ∧ l.getLastD x = nm ∧ l.dropLast = op := by
  refine ⟨l.dropLast, l.getLast h, (List.dropLast_concat_getLast h).symm, ?_, rfl⟩
  rw [List.getLastD_eq_getLast?, List.getLast?_eq_some_getLast h]; rfl
end Go.Proofs.YtahohmdbiiknoaaDoor

/- Layer 12, plain: nodes of tokens; what stands within a node. -/
namespace Go.Proofs.YtahohmdbiiknoaaDoor

def nd0 : Nd := ⟨[], [], [], -1⟩
/-- Whether k is a place of l. -/
def placeB (l : List Nd) (k : Int) : Bool := decide (0 ≤ k) && decide (k < l.length)
def atN (l : List Nd) (k : Int) : Nd := l.getD k.toNat nd0
def upN (l : List Nd) (k : Int) : Int := (atN l k).up
theorem place_iff {l : List Nd} {k : Int} : placeB l k = true ↔ 0 ≤ k ∧ k < l.length := by unfold placeB; simp
theorem place_nat {l : List Nd} {k : Nat} (h : k < l.length) : placeB l k = true := by rw [place_iff]; omega
/-- What a builder has come to: its nodes, the place of the innermost open element. -/
structure Bs where
  nds : List Nd
  up : Int
def elemN (x : Tk) (up : Int) : Nd := ⟨x.name, x.attrs, [], up⟩
def textN (x : Tk) (up : Int) : Nd := ⟨[], [], x.text, up⟩
/-- One token more. -/
def takeB (s : Bs) (x : Tk) : Option Bs :=
  if s.up = -1 ∧ s.nds ≠ [] then none
  else if x.kind = 1 ∧ x.name ≠ [] then some ⟨s.nds ++ [elemN x s.up], s.nds.length⟩
  else if x.kind = 3 ∧ x.name ≠ [] then some ⟨s.nds ++ [elemN x s.up], s.up⟩
  else if x.kind = 4 ∧ s.up ≠ -1 then some ⟨s.nds ++ [textN x s.up], s.up⟩
  else if x.kind = 2 ∧ s.up ≠ -1 ∧ x.name = (atN s.nds s.up).name then some ⟨s.nds, upN s.nds s.up⟩
  else none
def foldB : Bs → List Tk → Option Bs
  | s, [] => some s
  | s, x :: t => match takeB s x with
    | none => none
    | some s' => foldB s' t
def bs0 : Bs := ⟨[], -1⟩
/-- The nodes of tokens that make a tree. -/
def buildB (l : List Tk) : Option (List Nd) :=
  match foldB bs0 l with
  | none => none
  | some s => if s.up = -1 ∧ s.nds ≠ [] then some s.nds else none
/-- The places of a builder are such, and stand ahead. -/
structure BsOk (s : Bs) : Prop where
  up : s.up = -1 ∨ 0 ≤ s.up ∧ s.up < s.nds.length
  ups : ∀ j, j < s.nds.length → (s.nds.getD j nd0).up = -1 ∨ 0 ≤ (s.nds.getD j nd0).up ∧ (s.nds.getD j nd0).up < j
theorem bsOk_0 : BsOk bs0 := ⟨Or.inl rfl, fun j h => by simp [bs0] at h⟩
theorem getD_app {α : Type} (l : List α) (x d : α) (j : Nat) (h : j < l.length) : (l ++ [x]).getD j d = l.getD j d := by simp [List.getD, List.getElem?_append_left h]
theorem getD_last {α : Type} (l : List α) (x d : α) : (l ++ [x]).getD l.length d = x := by simp [List.getD]
theorem BsOk.app {s : Bs} (h : BsOk s) (y : Nd) (u : Int) (hy : y.up = s.up) (hu : u = s.up ∨ u = s.nds.length) : BsOk ⟨s.nds ++ [y], u⟩ := by
  refine ⟨?_, fun j hj => ?_⟩
  · rcases hu with rfl | rfl
    · rcases h.up with e | e
      · exact Or.inl e
      · right; simp only [List.length_append, List.length_cons, List.length_nil]; omega
    · right; simp only [List.length_append, List.length_cons, List.length_nil]; omega
  · simp only [List.length_append, List.length_cons, List.length_nil] at hj
    by_cases e : j < s.nds.length
    · simp only [getD_app _ _ _ _ e]; exact h.ups j e
    · obtain rfl : j = s.nds.length := by omega
      simp only [getD_last, hy]
      exact h.up
theorem upN_ok {s : Bs} (h : BsOk s) (hu : s.up ≠ -1) : upN s.nds s.up = -1 ∨ 0 ≤ upN s.nds s.up ∧ upN s.nds s.up < s.up := by
  rcases h.up with e | e
  · exact absurd e hu
  · have := h.ups s.up.toNat (by omega)
    unfold upN atN
    omega
theorem takeB_ok {s s' : Bs} {x : Tk} (h : BsOk s) (e : takeB s x = some s') : BsOk s' ∧ s'.nds ≠ [] ∧ s'.nds.length ≤ s.nds.length + 1 := by
  unfold takeB at e
  split at e
  · cases e
  split at e
  · injection e with e; subst e; exact ⟨h.app _ _ rfl (Or.inr rfl), by simp, by simp⟩
  split at e
  · injection e with e; subst e; exact ⟨h.app _ _ rfl (Or.inl rfl), by simp, by simp⟩
  split at e
  · injection e with e; subst e; exact ⟨h.app _ _ rfl (Or.inl rfl), by simp, by simp⟩
  split at e
  · rename_i hc
    injection e with e
    subst e
    have := upN_ok h hc.2.1
    rcases h.up with hu | hu
    · exact absurd hu hc.2.1
    · refine ⟨⟨?_, h.ups⟩, by intro e; rw [e] at hu; simp at hu; omega, by simp⟩
      show upN s.nds s.up = -1 ∨ 0 ≤ upN s.nds s.up ∧ upN s.nds s.up < s.nds.length
      omega
  · cases e

/-- A node stands within i. -/
inductive Within (l : List Nd) (i : Int) : Int → Prop where
  | here : placeB l i = true → Within l i i
  | up {k : Int} : placeB l k = true → Within l i (upN l k) → Within l i k
theorem Within.place {l : List Nd} {i k : Int} (h : Within l i k) : placeB l k = true := by cases h <;> assumption
theorem Within.top {l : List Nd} {i k : Int} (h : Within l i k) : placeB l i = true := by
  induction h with
  | here h => exact h
  | up _ _ ih => exact ih
/-- The same, told in so many steps. -/
def winF (l : List Nd) (i : Int) : Nat → Int → Bool
  | 0, _ => false
  | F + 1, k => placeB l k && (k == i || winF l i F (upN l k))
def winB (l : List Nd) (i k : Int) : Bool := winF l i (l.length + 1) k
theorem within_of_win {l : List Nd} {i : Int} : ∀ (F : Nat) (k : Int), winF l i F k = true → Within l i k
  | 0, _, h => by cases h
  | F + 1, k, h => by
    unfold winF at h
    rw [Bool.and_eq_true, Bool.or_eq_true, beq_iff_eq] at h
    rcases h.2 with rfl | e
    · exact .here h.1
    · exact .up h.1 (within_of_win F _ e)
theorem winF_up {l : List Nd} {i : Int} : ∀ (F : Nat) (k : Int), winF l i F k = true → winF l i (F + 1) k = true
  | 0, _, h => by cases h
  | F + 1, k, h => by
    rw [winF] at h
    rw [winF]
    rw [Bool.and_eq_true, Bool.or_eq_true] at h ⊢
    refine ⟨h.1, ?_⟩
    rcases h.2 with e | e
    · exact Or.inl e
    · exact Or.inr (winF_up F _ e)
theorem winF_le {l : List Nd} {i : Int} {k : Int} {F G : Nat} (hle : F ≤ G) (h : winF l i F k = true) : winF l i G k = true := by
  induction G with
  | zero => obtain rfl : F = 0 := by omega
            exact h
  | succ G ih =>
    by_cases e : F = G + 1
    · subst e; exact h
    · exact winF_up _ _ (ih (by omega))
theorem win_of_within {l : List Nd} {i k : Int} (h : Within l i k) : ∃ F, winF l i F k = true := by
  induction h with
  | here h => exact ⟨1, by unfold winF; simp [h]⟩
  | up hp _ ih =>
    obtain ⟨F, hF⟩ := ih
    exact ⟨F + 1, by rw [winF]; simp [hp, hF]⟩
theorem count_le {α : Type} (p q : α → Bool) : ∀ l : List α, (∀ x ∈ l, p x = true → q x = true) → l.countP p < l.countP q ∨ ∀ x ∈ l, p x = q x
  | [], _ => Or.inr (fun x h => by cases h)
  | a :: t, h => by
    have ih := count_le p q t (fun x hx => h x (List.mem_cons_of_mem _ hx))
    have hmono : t.countP p ≤ t.countP q := List.countP_mono_left (fun x hx => h x (List.mem_cons_of_mem _ hx))
    have ha := h a (List.mem_cons_self ..)
    rw [List.countP_cons, List.countP_cons]
    cases hp : p a
    · cases hq : q a
      · rcases ih with e | e
        · left; simpa using e
        · right; intro x hx; rcases List.mem_cons.1 hx with rfl | hx
          · rw [hp, hq]
          · exact e x hx
      · left; simp; omega
    · have hq := ha hp
      rcases ih with e | e
      · left; simp [hq]; omega
      · right; intro x hx; rcases List.mem_cons.1 hx with rfl | hx
        · rw [hp, hq]
        · exact e x hx
/-- Steps of no account: from some number of them on nothing more is told. -/
theorem win_still {l : List Nd} {i : Int} : ∀ F : Nat, F ≤ (List.range l.length).countP (fun j : Nat => winF l i F (j : Int)) ∨ ∃ G, G < F ∧ ∀ j, j < l.length → winF l i G (j : Int) = winF l i (G + 1) (j : Int)
  | 0 => Or.inl (Nat.zero_le _)
  | F + 1 => by
    rcases win_still (l := l) (i := i) F with h | ⟨G, hG, h⟩
    · rcases count_le (fun j : Nat => winF l i F (j : Int)) (fun j : Nat => winF l i (F + 1) (j : Int)) (List.range l.length) (fun x _ => winF_up F _) with e | e
      · left; omega
      · exact Or.inr ⟨F, by omega, fun j hj => e j (List.mem_range.2 hj)⟩
    · exact Or.inr ⟨G, by omega, h⟩
theorem win_no {l : List Nd} {i k : Int} (h : ¬ placeB l k = true) (F : Nat) : winF l i F k = false := by
  cases F with
  | zero => rfl
  | succ F => unfold winF; rw [Bool.eq_false_iff.2 h]; rfl
theorem win_same {l : List Nd} {i : Int} {G : Nat} (h : ∀ j, j < l.length → winF l i G (j : Int) = winF l i (G + 1) (j : Int)) : ∀ (F : Nat) (k : Int), G ≤ F → winF l i F k = winF l i G k := by
  have h' : ∀ k : Int, winF l i G k = winF l i (G + 1) k := fun k => by
    by_cases hp : placeB l k = true
    · rw [place_iff] at hp
      have := h k.toNat (by omega)
      rwa [Int.toNat_of_nonneg hp.1] at this
    · rw [win_no hp, win_no hp]
  intro F
  induction F with
  | zero => intro k hk; obtain rfl : G = 0 := by omega
            rfl
  | succ F ih =>
    intro k hk
    by_cases e : G = F + 1
    · rw [e]
    · rw [h' k, winF, winF, ih _ (by omega)]
theorem winB_iff {l : List Nd} {i k : Int} : winB l i k = true ↔ Within l i k := by
  refine ⟨within_of_win _ _, fun h => ?_⟩
  obtain ⟨F, hF⟩ := win_of_within h
  unfold winB
  rcases win_still (l := l) (i := i) (l.length + 1) with e | ⟨G, hG, e⟩
  · have := List.countP_le_length (p := fun j : Nat => winF l i (l.length + 1) (j : Int)) (l := List.range l.length)
    rw [List.length_range] at this
    omega
  · rcases Nat.le_total F (l.length + 1) with hle | hle
    · exact winF_le hle hF
    · rw [win_same e F k (by omega)] at hF
      exact winF_le (by omega) hF

/-- The places of a node's kids among the first k. -/
def kidsTo (l : List Nd) (i : Int) (k : Nat) : List Int := ((List.range k).filter fun j : Nat => decide (upN l (j : Int) = i) && decide ((j : Int) ≠ i)).map fun j : Nat => (j : Int)
def kidsB (l : List Nd) (i : Int) : List Int := if placeB l i = true then kidsTo l i l.length else []
def namedB (l : List Nd) (i : Int) (nm : List UInt8) : List Int := if nm = [] then [] else (kidsB l i).filter fun j => (atN l j).name == nm
/-- What the node at j adds to the text of the one at i. -/
def bitB (l : List Nd) (i : Int) (j : Nat) : List UInt8 := if (atN l (j : Int)).name = [] ∧ winB l i (j : Int) = true then (atN l (j : Int)).text else []
def textTo (l : List Nd) (i : Int) (k : Nat) : List UInt8 := (List.range k).flatMap (bitB l i)
def textB (l : List Nd) (i : Int) : List UInt8 := if placeB l i = true then textTo l i l.length else []
def attrB (l : List At) (nm : List UInt8) : List UInt8 × Bool :=
  match l.find? fun a => a.1 == nm with
  | some a => (a.2, true)
  | none => ([], false)
theorem kidsTo_next (l : List Nd) (i : Int) (k : Nat) : kidsTo l i (k + 1) = kidsTo l i k ++ if upN l (k : Int) = i ∧ (k : Int) ≠ i then [(k : Int)] else [] := by
  unfold kidsTo
  rw [List.range_succ, List.filter_append, List.map_append]
  congr 1
  by_cases h : upN l (k : Int) = i ∧ (k : Int) ≠ i
  · rw [if_pos h]; simp [h.1, h.2]
  · rw [if_neg h, List.filter_cons, if_neg (by simpa using h)]; rfl
theorem textTo_next (l : List Nd) (i : Int) (k : Nat) : textTo l i (k + 1) = textTo l i k ++ bitB l i k := by
  unfold textTo; rw [List.range_succ, List.flatMap_append]; simp
theorem kidsTo_bd {l : List Nd} {i : Int} {k : Nat} {j : Int} (h : j ∈ kidsTo l i k) : 0 ≤ j ∧ j < k ∧ upN l j = i ∧ j ≠ i := by
  unfold kidsTo at h
  simp only [List.mem_map, List.mem_filter, List.mem_range, Bool.and_eq_true, decide_eq_true_eq] at h
  obtain ⟨a, ⟨h1, h2, h3⟩, rfl⟩ := h
  exact ⟨by omega, by omega, h2, h3⟩
theorem kidsB_bd {l : List Nd} {i j : Int} (h : j ∈ kidsB l i) : placeB l j = true ∧ upN l j = i ∧ j ≠ i ∧ placeB l i = true := by
  unfold kidsB at h
  split at h
  · have := kidsTo_bd h
    exact ⟨by rw [place_iff]; omega, this.2.2.1, this.2.2.2, by assumption⟩
  · cases h
theorem kidsTo_len (l : List Nd) (i : Int) (k : Nat) : (kidsTo l i k).length ≤ k := by
  unfold kidsTo
  rw [List.length_map]
  exact Nat.le_trans (List.length_filter_le _ _) (by simp)
theorem kidsB_len (l : List Nd) (i : Int) : (kidsB l i).length ≤ l.length := by
  unfold kidsB
  split
  · exact kidsTo_len _ _ _
  · simp
def sumT (l : List Nd) : Nat := (l.map fun x => x.text.length).sum
theorem sum_getD (l : List Nd) : ∀ k, k ≤ l.length → ((List.range k).map fun j => (l.getD j nd0).text.length).sum = ((l.take k).map fun x => x.text.length).sum
  | 0, _ => by simp
  | k + 1, h => by
    rw [List.range_succ, List.map_append, List.sum_append, sum_getD l k (by omega), List.take_add_one, List.map_append, List.sum_append]
    simp [List.getD, List.getElem?_eq_getElem (show k < l.length by omega)]
theorem textTo_len (l : List Nd) (i : Int) (k : Nat) (h : k ≤ l.length) : (textTo l i k).length ≤ sumT l := by
  have h1 : (textTo l i k).length ≤ ((List.range k).map fun j => (l.getD j nd0).text.length).sum := by
    clear h
    induction k with
    | zero => simp [textTo]
    | succ k ih =>
      rw [textTo_next, List.length_append, List.range_succ, List.map_append, List.sum_append]
      have : (bitB l i k).length ≤ (l.getD k nd0).text.length := by
        unfold bitB atN
        split
        · simp
        · simp
      simp only [List.map_cons, List.map_nil, List.sum_cons, List.sum_nil]
      omega
  have h2 : ((l.take k).map fun x => x.text.length).sum ≤ sumT l := by
    have : sumT l = ((l.take k).map fun x => x.text.length).sum + ((l.drop k).map fun x => x.text.length).sum := by
      unfold sumT
      rw [← List.sum_append, ← List.map_append, List.take_append_drop]
    omega
  rw [sum_getD l k h] at h1
  omega
theorem textB_len (l : List Nd) (i : Int) : (textB l i).length ≤ sumT l := by
  unfold textB
  split
  · exact textTo_len l i _ (Nat.le_refl _)
  · simp
end Go.Proofs.YtahohmdbiiknoaaDoor

/- Layer 12, plain: what holds of the nodes of tokens that make a tree. -/
namespace Go.Proofs.YtahohmdbiiknoaaDoor

theorem take_fold_app : ∀ (l m : List Tk) (s : Bs), foldB s (l ++ m) = match foldB s l with | none => none | some s' => foldB s' m
  | [], m, s => rfl
  | x :: t, m, s => by
    rw [List.cons_append, foldB, foldB]
    cases takeB s x with
    | none => rfl
    | some s' => exact take_fold_app t m s'
/-- Any property that each token keeps. -/
theorem foldB_keeps (J : Bs → List Tk → Prop) (hJ : ∀ s l x s', J s l → takeB s x = some s' → J s' (l ++ [x])) : ∀ (m : List Tk) (s s' : Bs) (l : List Tk), J s l → foldB s m = some s' → J s' (l ++ m)
  | [], s, s', l, h, e => by
    injection e with e
    subst e
    rw [List.append_nil]; exact h
  | x :: t, s, s', l, h, e => by
    rw [foldB] at e
    cases ht : takeB s x with
    | none => rw [ht] at e; cases e
    | some s1 =>
      rw [ht] at e
      have := foldB_keeps J hJ t s1 s' (l ++ [x]) (hJ s l x s1 h ht) e
      rwa [List.append_assoc] at this
/-- What a token that is taken does. -/
theorem takeB_cases {s s' : Bs} {x : Tk} (e : takeB s x = some s') :
    (∃ y, s' = ⟨s.nds ++ [y], s.nds.length⟩ ∧ y.up = s.up ∧ y.name ≠ [] ∧ (y.attrs = x.attrs) ∧ y.text = [] ∧ ¬ (s.up = -1 ∧ s.nds ≠ []) ∧ x.kind = 1) ∨
    (∃ y, s' = ⟨s.nds ++ [y], s.up⟩ ∧ y.up = s.up ∧ (y.attrs = x.attrs ∧ y.text = [] ∨ y.attrs = [] ∧ y.text = x.text) ∧ ¬ (s.up = -1 ∧ s.nds ≠ []) ∧ x.kind ≠ 2) ∨
    (s' = ⟨s.nds, upN s.nds s.up⟩ ∧ s.up ≠ -1 ∧ x.kind = 2) := by
  unfold takeB at e
  split at e
  · cases e
  rename_i h0
  split at e
  · rename_i hc; injection e with e; exact Or.inl ⟨elemN x s.up, e.symm, rfl, hc.2, rfl, rfl, h0, hc.1⟩
  split at e
  · rename_i hc; injection e with e; exact Or.inr (Or.inl ⟨elemN x s.up, e.symm, rfl, Or.inl ⟨rfl, rfl⟩, h0, by omega⟩)
  split at e
  · rename_i hc; injection e with e; exact Or.inr (Or.inl ⟨textN x s.up, e.symm, rfl, Or.inr ⟨rfl, rfl⟩, h0, by omega⟩)
  split at e
  · rename_i hc; injection e with e; exact Or.inr (Or.inr ⟨e.symm, hc.2.1, hc.1⟩)
  · cases e
/-- How many tokens begin something, or are texts. -/
def cntB (l : List Tk) : Nat := l.countP fun x => x.kind != 2
theorem foldB_count {l : List Tk} {s : Bs} (e : foldB bs0 l = some s) : s.nds.length = cntB l := by
  have := foldB_keeps (fun s l => s.nds.length = cntB l) (fun s l x s' h e => by
    unfold cntB at h ⊢
    rw [List.countP_append, ← h]
    rcases takeB_cases e with ⟨y, rfl, _, _, _, _, _, hk⟩ | ⟨y, rfl, _, _, _, hk⟩ | ⟨rfl, _, hk⟩
    · simp [hk]
    · simp [hk]
    · simp [hk]) l bs0 s [] rfl e
  simpa using this
/-- Attributes are a token's, or none; texts are no more than the tokens'. -/
theorem foldB_attrs {l : List Tk} {s : Bs} (e : foldB bs0 l = some s) : ∀ x ∈ s.nds, x.attrs = [] ∨ ∃ t ∈ l, x.attrs = t.attrs := by
  have := foldB_keeps (fun s l => ∀ x ∈ s.nds, x.attrs = [] ∨ ∃ t ∈ l, x.attrs = t.attrs) (fun s l x s' h e => by
    have hold : ∀ z ∈ s.nds, z.attrs = [] ∨ ∃ t ∈ l ++ [x], z.attrs = t.attrs := fun z hz => by
      rcases h z hz with h | ⟨t, ht, h⟩
      · exact Or.inl h
      · exact Or.inr ⟨t, List.mem_append_left _ ht, h⟩
    rcases takeB_cases e with ⟨y, rfl, _, _, ha, _⟩ | ⟨y, rfl, _, ha, _⟩ | ⟨rfl, _⟩
    · intro z hz
      rcases List.mem_append.1 hz with hz | hz
      · exact hold z hz
      · rw [List.mem_singleton] at hz; subst hz; exact Or.inr ⟨x, by simp, ha⟩
    · intro z hz
      rcases List.mem_append.1 hz with hz | hz
      · exact hold z hz
      · rw [List.mem_singleton] at hz; subst hz
        rcases ha with ha | ha
        · exact Or.inr ⟨x, by simp, ha.1⟩
        · exact Or.inl ha.1
    · exact hold) l bs0 s [] (fun x h => by simp [bs0] at h) e
  simpa using this
def sumK (l : List Tk) : Nat := (l.map fun x => x.text.length).sum
theorem foldB_sum {l : List Tk} {s : Bs} (e : foldB bs0 l = some s) : sumT s.nds ≤ sumK l := by
  have := foldB_keeps (fun s l => sumT s.nds ≤ sumK l) (fun s l x s' h e => by
    have e2 : sumK (l ++ [x]) = sumK l + x.text.length := by unfold sumK; simp
    rw [e2]
    have e3 : ∀ y, sumT (s.nds ++ [y]) = sumT s.nds + y.text.length := fun y => by unfold sumT; simp
    rcases takeB_cases e with ⟨y, rfl, _, _, _, ht, _⟩ | ⟨y, rfl, _, ht, _⟩ | ⟨rfl, _⟩
    · show sumT (s.nds ++ [y]) ≤ _
      rw [e3, ht]; simp; omega
    · show sumT (s.nds ++ [y]) ≤ _
      rw [e3]
      rcases ht with ht | ht
      · rw [ht.2]; simp; omega
      · rw [ht.2]; omega
    · show sumT s.nds ≤ _
      omega) l bs0 s [] (Nat.le_refl _) e
  simpa using this
section
variable {l : List Nd} {y : Nd}
theorem atN_app {k : Int} (h : placeB l k = true) : atN (l ++ [y]) k = atN l k := by
  have := place_iff.1 h
  unfold atN
  rw [getD_app _ _ _ _ (by omega)]
theorem atN_last : atN (l ++ [y]) (l.length : Int) = y := by unfold atN; rw [Int.toNat_natCast, getD_last]
theorem place_app {k : Int} (h : placeB l k = true) : placeB (l ++ [y]) k = true := by
  rw [place_iff] at h ⊢
  simp only [List.length_append, List.length_cons, List.length_nil]; omega
theorem within_app {i k : Int} (h : Within l i k) : Within (l ++ [y]) i k := by
  induction h with
  | here h => exact .here (place_app h)
  | up hp _ ih =>
    refine .up (place_app hp) ?_
    unfold upN
    rw [atN_app hp]
    exact ih
theorem within_trans {i j k : Int} (h : Within l i k) (h2 : Within l j i) : Within l j k := by
  induction h with
  | here _ => exact h2
  | up hp _ ih => exact .up hp ih
end
/-- Nodes that stand as those of a tree do; up: where the next one would stand. -/
structure TreeAt (l : List Nd) : Prop where
  ups : ∀ j : Nat, j < l.length → (j = 0 ∧ upN l (j : Int) = -1) ∨ (0 < j ∧ 0 ≤ upN l (j : Int) ∧ upN l (j : Int) < j)
  elem : ∀ j : Nat, 0 < j → j < l.length → (atN l (upN l (j : Int))).name ≠ []
  anc : ∀ j : Nat, 0 < j → j < l.length → Within l (upN l (j : Int)) ((j : Int) - 1)
structure BsT (s : Bs) : Prop where
  ok : BsOk s
  tree : TreeAt s.nds
  here : s.up ≠ -1 → (atN s.nds s.up).name ≠ []
  last : s.up ≠ -1 → Within s.nds s.up ((s.nds.length : Int) - 1)
theorem bsT_0 : BsT bs0 := ⟨bsOk_0, ⟨fun j h => by simp [bs0] at h, fun j _ h => by simp [bs0] at h, fun j _ h => by simp [bs0] at h⟩, fun e => absurd rfl e, fun e => absurd rfl e⟩
theorem BsT.place {s : Bs} (h : BsT s) (hu : s.up ≠ -1) : placeB s.nds s.up = true := by
  rcases h.ok.up with e | e
  · exact absurd e hu
  · exact place_iff.2 e
theorem BsT.push {s : Bs} (h : BsT s) {y : Nd} (hy : y.up = s.up) (hn : ¬ (s.up = -1 ∧ s.nds ≠ [])) : TreeAt (s.nds ++ [y]) := by
  have hlen : (s.nds ++ [y]).length = s.nds.length + 1 := by simp
  have hup : ∀ j : Nat, j < s.nds.length → upN (s.nds ++ [y]) (j : Int) = upN s.nds (j : Int) := fun j hj => by unfold upN; rw [atN_app (place_nat hj)]
  have hlast : upN (s.nds ++ [y]) (s.nds.length : Int) = s.up := by unfold upN; rw [atN_last, hy]
  have hne : 0 < s.nds.length → s.up ≠ -1 := fun h0 e => hn ⟨e, List.length_pos_iff.1 h0⟩
  have hz : s.nds.length = 0 → s.up = -1 := fun h0 => by
    rcases h.ok.up with e | e
    · exact e
    · omega
  refine ⟨fun j hj => ?_, fun j h0 hj => ?_, fun j h0 hj => ?_⟩
  · rw [hlen] at hj
    by_cases e : j < s.nds.length
    · rw [hup j e]; exact h.tree.ups j e
    · obtain rfl : j = s.nds.length := by omega
      rw [hlast]
      rcases Nat.eq_zero_or_pos s.nds.length with h0 | h0
      · exact Or.inl ⟨h0, hz h0⟩
      · rcases h.ok.up with e | e
        · exact absurd e (hne h0)
        · exact Or.inr ⟨h0, e⟩
  · rw [hlen] at hj
    by_cases e : j < s.nds.length
    · rw [hup j e]
      have hu := h.tree.ups j e
      rw [atN_app (place_iff.2 (by omega))]
      exact h.tree.elem j h0 e
    · obtain rfl : j = s.nds.length := by omega
      rw [hlast, atN_app (h.place (hne h0))]
      exact h.here (hne h0)
  · rw [hlen] at hj
    by_cases e : j < s.nds.length
    · rw [hup j e]; exact within_app (h.tree.anc j h0 e)
    · obtain rfl : j = s.nds.length := by omega
      rw [hlast]
      exact within_app (h.last (hne h0))
theorem BsT.take {s s' : Bs} {x : Tk} (h : BsT s) (e : takeB s x = some s') : BsT s' := by
  have hok := (takeB_ok h.ok e).1
  rcases takeB_cases e with ⟨y, rfl, hy, hnm, _, _, hn, _⟩ | ⟨y, rfl, hy, _, hn, _⟩ | ⟨rfl, hu, _⟩
  · refine ⟨hok, h.push hy hn, fun _ => ?_, fun _ => ?_⟩
    · show (atN (s.nds ++ [y]) (s.nds.length : Int)).name ≠ []
      rw [atN_last]; exact hnm
    · show Within (s.nds ++ [y]) (s.nds.length : Int) (((s.nds ++ [y]).length : Int) - 1)
      rw [show (((s.nds ++ [y]).length : Int) - 1) = (s.nds.length : Int) by simp]
      exact .here (place_iff.2 (by simp; omega))
  · refine ⟨hok, h.push hy hn, fun hu => ?_, fun hu => ?_⟩
    · show (atN (s.nds ++ [y]) s.up).name ≠ []
      rw [atN_app (h.place hu)]; exact h.here hu
    · show Within (s.nds ++ [y]) s.up (((s.nds ++ [y]).length : Int) - 1)
      rw [show (((s.nds ++ [y]).length : Int) - 1) = (s.nds.length : Int) by simp]
      refine .up (place_iff.2 (by simp; omega)) ?_
      rw [show upN (s.nds ++ [y]) (s.nds.length : Int) = s.up by unfold upN; rw [atN_last, hy]]
      exact .here (place_app (h.place hu))
  · have hp := h.place hu
    have hp' := place_iff.1 hp
    have hc : ((s.up.toNat : Nat) : Int) = s.up := Int.toNat_of_nonneg hp'.1
    have hups := h.tree.ups s.up.toNat (by omega)
    rw [hc] at hups
    refine ⟨hok, h.tree, fun hu2 => ?_, fun hu2 => ?_⟩
    · have := h.tree.elem s.up.toNat (by have : upN s.nds s.up ≠ -1 := hu2; omega) (by omega)
      rw [hc] at this
      exact this
    · have hu3 : upN s.nds s.up ≠ -1 := hu2
      exact within_trans (h.last hu) (show Within s.nds (upN s.nds s.up) s.up from .up hp (.here (place_iff.2 (by omega))))
theorem buildB_tree {l : List Tk} {nds : List Nd} (e : buildB l = some nds) : TreeAt nds ∧ nds ≠ [] ∧ nds.length = cntB l ∧ sumT nds ≤ sumK l ∧ ∀ x ∈ nds, x.attrs = [] ∨ ∃ t ∈ l, x.attrs = t.attrs := by
  unfold buildB at e
  cases hf : foldB bs0 l with
  | none => rw [hf] at e; cases e
  | some s =>
    rw [hf] at e
    simp only at e
    split at e
    · rename_i hc
      injection e with e
      subst e
      have := foldB_keeps (fun s _ => BsT s) (fun s _ x s' h e => h.take e) l bs0 s [] bsT_0 hf
      exact ⟨this.tree, hc.2, foldB_count hf, foldB_sum hf, foldB_attrs hf⟩
    · cases e
section
variable {l : List Nd}
theorem TreeAt.up_lt {k : Int} (h : TreeAt l) (hp : placeB l k = true) : upN l k < k := by
  have hp' := place_iff.1 hp
  have := h.ups k.toNat (by omega)
  rw [Int.toNat_of_nonneg hp'.1] at this
  omega
theorem TreeAt.le {i k : Int} (h : TreeAt l) (hw : Within l i k) : i ≤ k := by
  induction hw with
  | here _ => exact Int.le_refl _
  | up hp _ ih => have := h.up_lt hp; omega
/-- What stands within a node stands together. -/
theorem TreeAt.between {c : Int} (h : TreeAt l) : ∀ (d : Nat) (k j : Int), k = j + d → c ≤ j → Within l c k → Within l c j
  | 0, k, j, e, _, hw => by
    obtain rfl : k = j := by omega
    exact hw
  | d + 1, k, j, e, hc, hw => by
    refine TreeAt.between h d (k - 1) j (by omega) hc ?_
    have hp' := place_iff.1 hw.place
    have ht' := place_iff.1 hw.top
    cases hw with
    | here _ => omega
    | up hp hw =>
      have hk : ((k.toNat : Nat) : Int) = k := Int.toNat_of_nonneg hp'.1
      have := h.anc k.toNat (by omega) (by omega)
      rw [hk] at this
      exact within_trans this hw
/-- A kid of i doesn't stand within another one. -/
theorem TreeAt.apart {i c k : Int} (h : TreeAt l) (hc : upN l c = i) (hcp : placeB l c = true) (hk : upN l k = i) (hne : k ≠ c) : ¬ Within l c k := by
  intro hw
  cases hw with
  | here _ => exact hne rfl
  | up hp hw =>
    rw [hk] at hw
    have h1 := h.le hw
    have h2 := h.up_lt hcp
    omega
theorem TreeAt.text {i : Nat} (h : TreeAt l) (hi : i < l.length) (hn : (atN l (i : Int)).name = []) : kidsB l (i : Int) = [] ∧ textB l (i : Int) = (atN l (i : Int)).text := by
  have hno : ∀ k : Int, placeB l k = true → upN l k ≠ (i : Int) := fun k hp e => by
    have hp' := place_iff.1 hp
    have hk : ((k.toNat : Nat) : Int) = k := Int.toNat_of_nonneg hp'.1
    have hu := h.ups k.toNat (by omega)
    rw [hk] at hu
    have := h.elem k.toNat (by omega) (by omega)
    rw [hk, e] at this
    exact this hn
  refine ⟨?_, ?_⟩
  · rw [List.eq_nil_iff_forall_not_mem]
    intro j hj
    have := kidsB_bd hj
    exact hno j this.1 this.2.1
  · have honly : ∀ k : Int, Within l (i : Int) k → k = (i : Int) := fun k hw => by
      induction hw with
      | here _ => rfl
      | up hp _ ih => exact absurd ih (hno _ hp)
    have key : ∀ m : Nat, textTo l (i : Int) m = if i < m then (atN l (i : Int)).text else [] := fun m => by
      induction m with
      | zero => rfl
      | succ m ih =>
        rw [textTo_next, ih]
        by_cases e : m = i
        · subst e
          rw [if_neg (by omega), if_pos (by omega), List.nil_append]
          unfold bitB
          rw [if_pos ⟨hn, winB_iff.2 (.here (place_nat hi))⟩]
        · have hb : bitB l (i : Int) m = [] := by
            unfold bitB
            rw [if_neg]
            intro hc
            have := honly _ (winB_iff.1 hc.2)
            omega
          rw [hb, List.append_nil]
          by_cases e2 : i < m
          · rw [if_pos e2, if_pos (by omega)]
          · rw [if_neg e2, if_neg (by omega)]
    unfold textB
    rw [if_pos (place_nat hi), key, if_pos hi]
theorem kidsTo_still {i : Int} {a : Nat} : ∀ b : Nat, a ≤ b → (∀ j : Nat, a ≤ j → j < b → ¬ (upN l (j : Int) = i ∧ (j : Int) ≠ i)) → kidsTo l i b = kidsTo l i a
  | 0, hab, _ => by obtain rfl : a = 0 := by omega
                    rfl
  | b + 1, hab, hno => by
    by_cases e : a = b + 1
    · rw [e]
    · rw [kidsTo_next, if_neg (hno b (by omega) (by omega)), List.append_nil]
      exact kidsTo_still b (by omega) fun j h1 h2 => hno j h1 (by omega)
/-- What stands within i stands within one of its kids. -/
theorem kid_of {i k : Int} (hw : Within l i k) (hne : k ≠ i) : ∃ c, upN l c = i ∧ c ≠ i ∧ placeB l c = true ∧ Within l c k := by
  induction hw with
  | here _ => exact absurd rfl hne
  | @up k hp hw ih =>
    by_cases e : upN l k = i
    · exact ⟨k, e, hne, hp, .here hp⟩
    · obtain ⟨c, h1, h2, h3, h4⟩ := ih e
      exact ⟨c, h1, h2, h3, .up hp h4⟩
theorem flatMap_same {f g : Int → List UInt8} {xs : List Int} (hfg : ∀ c ∈ xs, f c = g c) : xs.flatMap f = xs.flatMap g := by
  rw [List.flatMap_def, List.flatMap_def, List.map_congr_left hfg]
theorem TreeAt.kids_text {i : Nat} (h : TreeAt l) (hi : i < l.length) (hn : (atN l (i : Int)).name ≠ []) : ∀ m : Nat, m ≤ l.length → textTo l (i : Int) m = (kidsTo l (i : Int) m).flatMap fun c => textTo l c m
  | 0, _ => rfl
  | m + 1, hm => by
    have ih := TreeAt.kids_text h hi hn m (by omega)
    have hpm : placeB l (m : Int) = true := place_nat (by omega)
    have hpi : placeB l (i : Int) = true := place_nat hi
    have hstep : ∀ xs : List Int, (∀ c ∈ xs, bitB l c m = []) → xs.flatMap (fun c => textTo l c (m + 1)) = xs.flatMap fun c => textTo l c m := fun xs hx =>
      flatMap_same fun c hc => by rw [textTo_next, hx c hc, List.append_nil]
    have hbit : ∀ c : Int, ¬ Within l c (m : Int) → bitB l c m = [] := fun c hc => by
      unfold bitB; rw [if_neg (fun e => hc (winB_iff.1 e.2))]
    rw [textTo_next]
    by_cases hkid : upN l (m : Int) = (i : Int) ∧ (m : Int) ≠ (i : Int)
    · -- a kid
      rw [kidsTo_next, if_pos hkid, List.flatMap_append, hstep _ (fun c hc => ?_), ← ih]
      · congr 1
        have hown : textTo l (m : Int) m = [] := by
          unfold textTo
          rw [List.flatMap_eq_nil_iff]
          intro j hj
          have hj := List.mem_range.1 hj
          unfold bitB
          rw [if_neg]
          intro e
          have := h.le (winB_iff.1 e.2)
          omega
        simp only [List.flatMap_cons, List.flatMap_nil, List.append_nil]
        rw [textTo_next, hown, List.nil_append]
        unfold bitB
        have w1 : winB l (i : Int) (m : Int) = true := winB_iff.2 (.up hpm (by rw [hkid.1]; exact .here hpi))
        have w2 : winB l (m : Int) (m : Int) = true := winB_iff.2 (.here hpm)
        rw [w1, w2]
      · have hb := kidsTo_bd hc
        exact hbit c (h.apart hb.2.2.1 (place_iff.2 (by omega)) hkid.1 (by omega))
    · rw [kidsTo_next, if_neg hkid, List.append_nil]
      by_cases hw : Within l (i : Int) (m : Int)
      · by_cases hmi : (m : Int) = (i : Int)
        · have hb : bitB l (i : Int) m = [] := by
            unfold bitB
            rw [if_neg (fun e => hn (by rw [← hmi]; exact e.1))]
          rw [hb, List.append_nil, ih]
          refine (hstep _ fun c hc => ?_).symm
          have hb2 := kidsTo_bd hc
          have := h.up_lt (k := c) (place_iff.2 (by omega))
          omega
        · obtain ⟨c, hc1, hc2, hc3, hc4⟩ := kid_of hw hmi
          have hcm := h.le hc4
          have hcp := place_iff.1 hc3
          have hne : c ≠ (m : Int) := fun e => hkid ⟨by rw [← e]; exact hc1, hmi⟩
          obtain ⟨q, rfl⟩ : ∃ q : Nat, c = q := ⟨c.toNat, by omega⟩
          have hq : q < m := by omega
          have hstill : kidsTo l (i : Int) m = kidsTo l (i : Int) q ++ [(q : Int)] := by
            rw [kidsTo_still (a := q + 1) m (by omega) (fun j h1 h2 e => ?_), kidsTo_next, if_pos ⟨hc1, hc2⟩]
            exact h.apart hc1 hc3 e.1 (by omega) (h.between (m - j) (m : Int) (j : Int) (by omega) (by omega) hc4)
          rw [ih, hstill, List.flatMap_append, List.flatMap_append, List.append_assoc, hstep (kidsTo l (i : Int) q) (fun c' hc' => ?_)]
          · congr 1
            simp only [List.flatMap_cons, List.flatMap_nil, List.append_nil]
            rw [textTo_next]
            congr 1
            unfold bitB
            have w1 : winB l (i : Int) (m : Int) = true := winB_iff.2 hw
            have w2 : winB l (q : Int) (m : Int) = true := winB_iff.2 hc4
            rw [w1, w2]
          · have hb := kidsTo_bd hc'
            refine hbit c' fun hw' => ?_
            exact h.apart hb.2.2.1 (place_iff.2 (by omega)) hc1 (by omega) (h.between (m - q) (m : Int) (q : Int) (by omega) (by omega) hw')
      · have hb := hbit (i : Int) hw
        rw [hb, List.append_nil, ih]
        refine (hstep _ fun c hc => hbit c fun hw' => hw ?_).symm
        have hb2 := kidsTo_bd hc
        exact within_trans hw' (.up (place_iff.2 (by omega)) (by rw [hb2.2.2.1]; exact .here hpi))
/-- The text of a node is that of its kids. -/
theorem TreeAt.kids {i : Nat} (h : TreeAt l) (hi : i < l.length) (hn : (atN l (i : Int)).name ≠ []) : textB l (i : Int) = (kidsB l (i : Int)).flatMap (textB l) := by
  have hk : kidsB l (i : Int) = kidsTo l (i : Int) l.length := by unfold kidsB; rw [if_pos (place_nat hi)]
  have ht : textB l (i : Int) = textTo l (i : Int) l.length := by unfold textB; rw [if_pos (place_nat hi)]
  rw [ht, hk, h.kids_text hi hn l.length (Nat.le_refl _)]
  refine flatMap_same fun c hc => ?_
  have hb := kidsTo_bd hc
  unfold textB
  rw [if_pos (place_iff.2 (by omega))]
end
end Go.Proofs.YtahohmdbiiknoaaDoor
