/- Layer 11, plain: a document's tokens, read from the left. Each reader answers what it read, and how many bytes that took. -/
import Derived.Test.YtkjjjbipmobdaaaGreatDoorBR07
import Derived.Test.YtkjjjbipmobdaaaGreatDoorBR02
import Derived.Test.YtkjjjbipmobdaaaGreatDoorBR06
import Derived.Lib.IndexMore
import Derived.Test.YtkjjjbipmobdaaaGreatDoorBR03
namespace Go.Proofs.YtkjjjbipmobdaaaGreatDoor

/-- What a step of a loop comes to. -/
inductive Rs (σ ε : Type) where
  | bad (e : ε)
  | stop
  | go (s : σ) (n : Nat)
section
variable {σ ε : Type}
/-- A loop over a text: what it ends with: a fault or none, its state, how many bytes it took. -/
def loopF (f : σ → List UInt8 → Rs σ ε) : Nat → σ → List UInt8 → Nat → Option ε × σ × Nat
  | 0, s, _, k => (none, s, k)
  | F + 1, s, d, k => match f s d with
    | .bad e => (some e, s, k)
    | .stop => (none, s, k)
    | .go s' n => loopF f F s' (d.drop n) (k + n)
/-- Each step takes something, and no more than there is. -/
def Steps (f : σ → List UInt8 → Rs σ ε) : Prop := ∀ s d s' n, f s d = .go s' n → 1 ≤ n ∧ n ≤ d.length
theorem loopF_fuel {f : σ → List UInt8 → Rs σ ε} (h : Steps f) : ∀ (F F' : Nat) (s : σ) (d : List UInt8) (k : Nat), d.length < F → d.length < F' → loopF f F s d k = loopF f F' s d k
  | 0, _, _, _, _, h1, _ => by omega
  | _ + 1, 0, _, _, _, _, h2 => by omega
  | F + 1, F' + 1, s, d, k, h1, h2 => by
    unfold loopF
    cases e : f s d with
    | bad x => rfl
    | stop => rfl
    | go s' n =>
      have := h s d s' n e
      exact loopF_fuel h F F' s' (d.drop n) (k + n) (by rw [List.length_drop]; omega) (by rw [List.length_drop]; omega)
def loopK (f : σ → List UInt8 → Rs σ ε) (s : σ) (d : List UInt8) (k : Nat) : Option ε × σ × Nat := loopF f (d.length + 1) s d k
theorem loopK_go {f : σ → List UInt8 → Rs σ ε} (h : Steps f) {s s' : σ} {d : List UInt8} {n : Nat} (k : Nat) (e : f s d = .go s' n) : loopK f s d k = loopK f s' (d.drop n) (k + n) := by
  have := h s d s' n e
  unfold loopK
  rw [loopF, e]
  exact loopF_fuel h _ _ _ _ _ (by rw [List.length_drop]; omega) (by omega)
theorem loopK_bad {f : σ → List UInt8 → Rs σ ε} {s : σ} {d : List UInt8} {x : ε} (k : Nat) (e : f s d = .bad x) : loopK f s d k = (some x, s, k) := by unfold loopK; rw [loopF, e]
theorem loopK_stop {f : σ → List UInt8 → Rs σ ε} {s : σ} {d : List UInt8} (k : Nat) (e : f s d = .stop) : loopK f s d k = (none, s, k) := by unfold loopK; rw [loopF, e]
/-- Induction along a loop's steps. -/
theorem loopK_ind {f : σ → List UInt8 → Rs σ ε} (h : Steps f) {P : σ → List UInt8 → Prop} (hb : ∀ s d x, f s d = .bad x → P s d) (hs : ∀ s d, f s d = .stop → P s d)
    (hg : ∀ s d s' n, f s d = .go s' n → P s' (d.drop n) → P s d) : ∀ s d, P s d := by
  have key : ∀ (N : Nat) (d : List UInt8) (s : σ), d.length ≤ N → P s d := by
    intro N
    induction N with
    | zero =>
      intro d s hd
      cases e : f s d with
      | bad x => exact hb s d x e
      | stop => exact hs s d e
      | go s' n => have := h s d s' n e; omega
    | succ N ih =>
      intro d s hd
      cases e : f s d with
      | bad x => exact hb s d x e
      | stop => exact hs s d e
      | go s' n => have := h s d s' n e; exact hg s d s' n e (ih _ _ (by rw [List.length_drop]; omega))
  exact fun s d => key d.length d s (Nat.le_refl _)
theorem loopK_le {f : σ → List UInt8 → Rs σ ε} (h : Steps f) : ∀ s d k, k ≤ (loopK f s d k).2.2 ∧ (loopK f s d k).2.2 ≤ k + d.length := by
  refine loopK_ind h (P := fun s d => ∀ k, k ≤ (loopK f s d k).2.2 ∧ (loopK f s d k).2.2 ≤ k + d.length) ?_ ?_ ?_
  · intro s d x e k; rw [loopK_bad k e]; exact ⟨Nat.le_refl _, Nat.le_add_right _ _⟩
  · intro s d e k; rw [loopK_stop k e]; exact ⟨Nat.le_refl _, Nat.le_add_right _ _⟩
  · intro s d s' n e ih k
    have := h s d s' n e
    rw [loopK_go h k e]
    have := ih (k + n)
    rw [List.length_drop] at this
    omega
/-- A loop that begins further on. -/
theorem loopK_off {f : σ → List UInt8 → Rs σ ε} (h : Steps f) : ∀ s d k j, loopK f s d (j + k) = ((loopK f s d k).1, (loopK f s d k).2.1, j + (loopK f s d k).2.2) := by
  refine loopK_ind h (P := fun s d => ∀ k j, loopK f s d (j + k) = ((loopK f s d k).1, (loopK f s d k).2.1, j + (loopK f s d k).2.2)) ?_ ?_ ?_
  · intro s d x e k j; rw [loopK_bad _ e, loopK_bad _ e]
  · intro s d e k j; rw [loopK_stop _ e, loopK_stop _ e]
  · intro s d s' n e ih k j
    rw [loopK_go h _ e, loopK_go h _ e, Nat.add_assoc, ih]
end

/-- A blank; a name's first byte; a name's byte. -/
def blI (c : Int) : Bool := decide (c = 32 ∨ c = 9 ∨ c = 10 ∨ c = 13)
def leadI (c : Int) : Bool := decide (97 ≤ c ∧ c ≤ 122 ∨ 65 ≤ c ∧ c ≤ 90 ∨ c = 95 ∨ c = 58)
def follI (c : Int) : Bool := leadI c || decide (48 ≤ c ∧ c ≤ 57 ∨ c = 45 ∨ c = 46)
/-- How many bytes of a kind stand first. -/
def spanN (p : Int → Bool) : List UInt8 → Nat
  | [] => 0
  | c :: t => if p c.toNat then spanN p t + 1 else 0
theorem spanN_le (p : Int → Bool) : ∀ l, spanN p l ≤ l.length
  | [] => Nat.le_refl _
  | c :: t => by have := spanN_le p t; unfold spanN; split <;> simp <;> omega
/-- What a loop over bytes of a kind keeps: j of them stand first. -/
def SpAtN (p : Int → Bool) (d : List UInt8) (j : Nat) : Prop := j ≤ d.length ∧ spanN p d = j + spanN p (d.drop j)
theorem SpAtN.zero (p : Int → Bool) (d : List UInt8) : SpAtN p d 0 := ⟨Nat.zero_le _, by simp⟩
theorem SpAtN.step {p : Int → Bool} {d : List UInt8} {j : Nat} (h : SpAtN p d j) (hj : j < d.length) (hp : p (bt d j) = true) : SpAtN p d (j + 1) := by
  refine ⟨hj, ?_⟩
  rw [h.2, List.drop_eq_getElem_cons hj, spanN, if_pos (by simpa [bt, List.getD, hj] using hp)]
  omega
theorem SpAtN.done {p : Int → Bool} {d : List UInt8} {j : Nat} (h : SpAtN p d j) (hj : ¬ j < d.length) : spanN p d = j := by
  rw [h.2, List.drop_eq_nil_of_le (by omega)]; rfl
theorem SpAtN.stop {p : Int → Bool} {d : List UInt8} {j : Nat} (h : SpAtN p d j) (hj : j < d.length) (hp : p (bt d j) = false) : spanN p d = j := by
  rw [h.2, List.drop_eq_getElem_cons hj, spanN, if_neg (by simpa [bt, List.getD, hj] using hp)]
  rfl
theorem bt_get0' (l : List UInt8) (k : Nat) : bt l k = ((l.getD k 0).toNat : Int) := rfl
/-- May it be a name? -/
def nameB (s : List UInt8) : Bool := decide (1 ≤ s.length ∧ s.length ≤ 64) && leadI (bt s 0) && s.all fun c => follI c.toNat
/-- A name that stands first. -/
def nameP (d : List UInt8) : Option (List UInt8 × Nat) := if nameB (d.take (spanN follI d)) then some (d.take (spanN follI d), spanN follI d) else none
/-- A ref. -/
def refP (d : List UInt8) : Option (List UInt8 × Nat) :=
  if Lib.indexByte (d.take 13) 59 < 0 then none else
  match namedS ((d.take (Lib.indexByte (d.take 13) 59).toNat).drop 1) with
  | none => none
  | some t => some (t, (Lib.indexByte (d.take 13) 59).toNat + 1)
/-- A step of bytes and refs, up to one of certain bytes. -/
def runF (ends : List UInt8) (acc : List UInt8) : List UInt8 → Rs (List UInt8) Unit
  | [] => .stop
  | c :: t => if 0 ≤ Lib.indexByte ends c then .stop else if c ≠ 38 then .go (acc ++ [c]) 1 else
    match refP (c :: t) with
    | none => .bad ()
    | some (x, n) => .go (acc ++ x) n
def runP (ends d : List UInt8) : Option (List UInt8 × Nat) :=
  match loopK (runF ends) [] d 0 with
  | (none, x, n) => some (x, n)
  | (some _, _, _) => none
/-- A quoted value. -/
def valueP (d : List UInt8) : Option (List UInt8 × Nat) :=
  if Lib.hasPrefix d [if Lib.hasPrefix d [39] then 39 else 34] = false then none else
  match runP [60, if Lib.hasPrefix d [39] then 39 else 34] (d.drop 1) with
  | none => none
  | some (x, n) => if Lib.hasPrefix (d.drop (1 + n)) [if Lib.hasPrefix d [39] then 39 else 34] then some (x, 1 + n + 1) else none
/-- An attribute. -/
def attrP (d : List UInt8) : Option (At × Nat) :=
  match nameP d with
  | none => none
  | some (nm, n) =>
    if Lib.hasPrefix (d.drop (n + spanN blI (d.drop n))) [61] = false then none else
    match valueP (d.drop (n + spanN blI (d.drop n) + 1 + spanN blI (d.drop (n + spanN blI (d.drop n) + 1)))) with
    | none => none
    | some (v, m) => some ((nm, v), n + spanN blI (d.drop n) + 1 + spanN blI (d.drop (n + spanN blI (d.drop n) + 1)) + m)
def leadsB (d : List UInt8) : Bool := decide (0 < d.length) && leadI (bt d 0)
/-- A step of attributes, each with blanks ahead. -/
def attrsF (l : List At) (d : List UInt8) : Rs (List At) Unit :=
  if 0 < spanN blI d ∧ leadsB (d.drop (spanN blI d)) = true then
    match attrP (d.drop (spanN blI d)) with
    | none => .bad ()
    | some (x, n) => if l.length = 16 ∨ (l.any fun y => y.1 == x.1) = true then .bad () else .go (l ++ [x]) (spanN blI d + n)
  else .stop
def attrsP (d : List UInt8) : Option (List At × Nat) :=
  match loopK attrsF [] d 0 with
  | (none, l, k) => some (l, k + spanN blI (d.drop k))
  | (some _, _, _) => none
/-- What stands behind an element's <; whether it ends at once. -/
def beginP (d : List UInt8) : Option ((List UInt8 × List At × Bool) × Nat) :=
  match nameP d with
  | none => none
  | some (nm, n) =>
    match attrsP (d.drop n) with
    | none => none
    | some (l, m) =>
      if Lib.hasPrefix (d.drop (n + m)) [47, 62] then some ((nm, l, true), n + m + 2)
      else if Lib.hasPrefix (d.drop (n + m)) [62] then some ((nm, l, false), n + m + 1) else none
/-- What stands behind an end's </. -/
def endP (nm d : List UInt8) : Option Nat :=
  if Lib.hasPrefix d nm = false then none
  else if Lib.hasPrefix (d.drop (nm.length + spanN blI (d.drop nm.length))) [62] then some (nm.length + spanN blI (d.drop nm.length) + 1) else none
/-- A text and an end behind it. -/
def untilP (e bar d : List UInt8) : Option (List UInt8 × Nat) :=
  if Lib.index d e < 0 then none else if Lib.contains (d.take (Lib.index d e).toNat) bar then none else some (d.take (Lib.index d e).toNat, (Lib.index d e).toNat + e.length)
/-- A reader's state. -/
structure Sc where
  rooted : Bool
  opn : List (List UInt8)
  text : List UInt8
  toks : List Tk
inductive Flt where
  | fin
  | syn
  | deep
deriving DecidableEq
def addT (text : List UInt8) (toks : List Tk) (x : Tk) : List Tk := (if 0 < text.length then toks ++ [⟨4, [], [], text⟩] else toks) ++ [x]
/-- Does an element begin here? -/
def elemB (d : List UInt8) : Bool := Lib.hasPrefix d [60] && leadsB (d.drop 1)
/-- A step of a document. -/
def docF (dep : Int) (s : Sc) (d : List UInt8) : Rs Sc Flt :=
  if d = [] then .bad .fin
  else if Lib.hasPrefix d [60, 33, 45, 45] then
    match untilP [45, 45, 62] [45, 45] (d.drop 4) with
    | none => .bad .syn
    | some (_, n) => .go s (4 + n)
  else if elemB d then
    if s.rooted = true ∧ s.opn = [] then .bad .syn
    else if dep ≤ s.opn.length then .bad .deep
    else match beginP (d.drop 1) with
      | none => .bad .syn
      | some ((nm, l, true), n) => .go ⟨true, s.opn, [], addT s.text s.toks ⟨3, nm, l, []⟩⟩ (1 + n)
      | some ((nm, l, false), n) => .go ⟨true, s.opn ++ [nm], [], addT s.text s.toks ⟨1, nm, l, []⟩⟩ (1 + n)
  else if s.opn = [] then
    if spanN blI d = 0 then .bad .syn else .go s (spanN blI d)
  else if Lib.hasPrefix d [60, 47] then
    match endP (s.opn.getLastD []) (d.drop 2) with
    | none => .bad .syn
    | some n => .go ⟨s.rooted, s.opn.dropLast, [], addT s.text s.toks ⟨2, s.opn.getLastD [], [], []⟩⟩ (2 + n)
  else if Lib.hasPrefix d [60, 33, 91, 67, 68, 65, 84, 65, 91] then
    match untilP [93, 93, 62] [93, 93, 62] (d.drop 9) with
    | none => .bad .syn
    | some (x, n) => .go ⟨s.rooted, s.opn, s.text ++ x, s.toks⟩ (9 + n)
  else if Lib.hasPrefix d [60] then .bad .syn
  else match runP [60] d with
    | none => .bad .syn
    | some (x, n) => .go ⟨s.rooted, s.opn, s.text ++ x, s.toks⟩ n
/-- What stands once, ahead of all else. -/
def headP (d : List UInt8) : Option Nat :=
  let m := if Lib.hasPrefix d [239, 187, 191] then 3 else 0
  if Lib.hasPrefix (d.drop m) [60, 63, 120, 109, 108] then
    if spanN blI (d.drop (m + 5)) = 0 then none else
    match untilP [63, 62] [63, 62] (d.drop (m + 5 + spanN blI (d.drop (m + 5)))) with
    | none => none
    | some (_, n) => some (m + 5 + spanN blI (d.drop (m + 5)) + n)
  else some m
/-- A document: its tokens, or its first fault; of one that is too deep where that is. -/
inductive Ans where
  | toks (l : List Tk)
  | syn
  | deep (k : Nat)
def sc0 : Sc := ⟨false, [], [], []⟩
def docB (dep : Int) (l : List UInt8) : Ans :=
  match headP l with
  | none => .syn
  | some m =>
    match loopK (docF dep) sc0 (l.drop m) m with
    | (some .deep, _, k) => .deep k
    | (some .fin, s, _) => if s.rooted && s.opn.isEmpty then .toks s.toks else .syn
    | _ => .syn
/-- A step of runes that may stand in a document. -/
def runeF (_ : Unit) (d : List UInt8) : Rs Unit Unit := if d = [] then .stop else if charB (cutS d).1 && (cutS d).2.2 then .go () (cutN d) else .bad ()
/-- Where the first bytes stand that are no such rune's. -/
def runesB (l : List UInt8) : Option Nat :=
  match loopK runeF () l 0 with
  | (some _, _, k) => some k
  | (none, _, _) => none
/-- What Tokens answers. -/
inductive Out where
  | toks (l : List Tk)
  | syn
  | deep
def tokB (dep : Int) (l : List UInt8) : Out :=
  match docB dep l, runesB l with
  | .toks t, none => .toks t
  | .toks _, some _ => .syn
  | .syn, _ => .syn
  | .deep _, none => .deep
  | .deep k, some q => if q < k then .syn else .deep
end Go.Proofs.YtkjjjbipmobdaaaGreatDoor

/- Readers, plain: bounds of names, refs, runs, values, attributes. -/
namespace Go.Proofs.YtkjjjbipmobdaaaGreatDoor

theorem all_bt (p : Int → Bool) (s : List UInt8) : (s.all fun c => p c.toNat) = true ↔ ∀ j, j < s.length → p (bt s j) = true := by
  rw [List.all_eq_true]
  constructor
  · intro h j hj
    have := h _ (List.getElem_mem hj)
    simpa [bt, List.getD, hj] using this
  · intro h x hx
    obtain ⟨j, hj, rfl⟩ := List.mem_iff_getElem.1 hx
    have := h j hj
    simpa [bt, List.getD, hj] using this
theorem bt_take0 (l : List UInt8) (n : Nat) (hn : 0 < n) : bt (l.take n) 0 = bt l 0 := by
  unfold bt; rw [List.getD, List.getD, List.getElem?_take, if_pos hn]
theorem ref_ix {d : List UInt8} (h0 : 0 < d.length) (h38 : bt d 0 = 38) : Lib.indexByte (d.take 13) 59 ≠ 0 := by
  intro e
  have hmem := (indexByte_mem (d.take 13) 59).1 (by omega)
  have : bt (d.take 13) 0 = 38 := by rw [bt_take0 _ _ (by decide)]; exact h38
  cases d with
  | nil => simp at h0
  | cons c t =>
    rw [show (c :: t).take 13 = c :: t.take 12 from rfl] at e this hmem
    unfold Lib.indexByte at e
    have hc : c = 38 := (bt_u8 c 38 _).1 this
    subst hc
    simp at e
    split at e <;> (try omega) <;> simp_all <;> (have := Lib.indexByte_ge (t.take 12) 59; omega)
/-- The ways of ref. -/
theorem ref_ways (d : List UInt8) (h0 : 0 < d.length) (h38 : bt d 0 = 38) : (Lib.indexByte (d.take 13) 59 < 0 ∧ refP d = none) ∨
    ∃ n : Nat, Lib.indexByte (d.take 13) 59 = ((n + 1 : Nat) : Int) ∧ n + 1 < (d.take 13).length ∧ refP d = match namedS (((d.take 13).take (n + 1)).drop 1) with | none => none | some t => some (t, n + 1 + 1) := by
  have hne := ref_ix h0 h38
  have hg := Lib.indexByte_ge (d.take 13) 59
  have hlt := indexByte_lt (d.take 13) 59
  by_cases h : Lib.indexByte (d.take 13) 59 < 0
  · exact Or.inl ⟨h, by unfold refP; rw [if_pos h]⟩
  · refine Or.inr ⟨(Lib.indexByte (d.take 13) 59).toNat - 1, by omega, by omega, ?_⟩
    unfold refP
    rw [if_neg h]
    have hl : (d.take 13).length ≤ 13 := by rw [List.length_take]; omega
    rw [show (Lib.indexByte (d.take 13) 59).toNat - 1 + 1 = (Lib.indexByte (d.take 13) 59).toNat by omega, List.take_take, Nat.min_eq_left (by omega)]
    all_goals (cases namedS ((d.take (Lib.indexByte (d.take 13) 59).toNat).drop 1) <;> rfl)
theorem named_len {l x : List UInt8} (h : namedS l = some x) : x.length ≤ 4 := by
  unfold namedS at h
  repeat' split at h
  all_goals first | (injection h with h; subst h; first | exact encR_len _ | decide) | cases h
theorem refP_bd {d x : List UInt8} {n : Nat} (h : refP d = some (x, n)) : 1 ≤ n ∧ n ≤ d.length ∧ x.length ≤ 4 := by
  unfold refP at h
  split at h
  · cases h
  · rename_i hi
    have hlt := indexByte_lt (d.take 13) 59
    rw [List.length_take] at hlt
    revert h
    cases e : namedS ((d.take (Lib.indexByte (d.take 13) 59).toNat).drop 1) with
    | none => intro h; cases h
    | some t =>
      intro h
      injection h with h
      injection h with h1 h2
      subst h1 h2
      exact ⟨by omega, by omega, named_len e⟩
theorem runF_steps (ends : List UInt8) : Steps (runF ends) := by
  intro s d s' n h
  cases d with
  | nil => cases h
  | cons c t =>
    rw [runF] at h
    split at h
    · cases h
    · split at h
      · injection h with _ h; subst h; simp
      · revert h
        cases e : refP (c :: t) with
        | none => intro h; cases h
        | some y =>
          obtain ⟨x, m⟩ := y
          intro h
          injection h with _ h
          subst h
          have := refP_bd e
          omega
/-- What the loop of run keeps. -/
structure RunAt (ends d : List UInt8) (j : Nat) (acc : List UInt8) : Prop where
  le : j ≤ d.length
  eq : loopK (runF ends) [] d 0 = loopK (runF ends) acc (d.drop j) j
  len : acc.length ≤ 4 * j
theorem RunAt.zero (ends d : List UInt8) : RunAt ends d 0 [] := ⟨Nat.zero_le _, by simp, by simp⟩
theorem RunAt.step {ends d acc acc' : List UInt8} {j n : Nat} (h : RunAt ends d j acc) (e : runF ends acc (d.drop j) = .go acc' n) (hl : acc'.length ≤ acc.length + 4 * n) : RunAt ends d (j + n) acc' := by
  have := runF_steps ends _ _ _ _ e
  rw [List.length_drop] at this
  refine ⟨by omega, ?_, by have := h.len; omega⟩
  rw [h.eq, loopK_go (runF_steps ends) _ e, List.drop_drop]
theorem RunAt.stop {ends d acc : List UInt8} {j : Nat} (h : RunAt ends d j acc) (e : runF ends acc (d.drop j) = .stop) : runP ends d = some (acc, j) := by
  unfold runP; rw [h.eq, loopK_stop _ e]
theorem RunAt.bad {ends d acc : List UInt8} {j : Nat} (h : RunAt ends d j acc) (e : runF ends acc (d.drop j) = .bad ()) : runP ends d = none := by
  unfold runP; rw [h.eq, loopK_bad _ e]
theorem drop_cons {d : List UInt8} {j : Nat} (hj : j < d.length) : d.drop j = d.getD j 0 :: d.drop (j + 1) := by
  rw [List.drop_eq_getElem_cons hj]; simp [List.getD, hj]
theorem runF_end (ends acc d : List UInt8) (j : Nat) (hj : ¬ j < d.length) : runF ends acc (d.drop j) = .stop := by
  rw [List.drop_eq_nil_of_le (by omega)]; rfl
theorem runF_at {ends acc d : List UInt8} {j : Nat} (hj : j < d.length) :
    (0 ≤ Lib.indexByte ends (d.getD j 0) → runF ends acc (d.drop j) = .stop) ∧
    (Lib.indexByte ends (d.getD j 0) < 0 → bt d j ≠ 38 → runF ends acc (d.drop j) = .go (acc ++ [d.getD j 0]) 1) ∧
    (Lib.indexByte ends (d.getD j 0) < 0 → bt d j = 38 → runF ends acc (d.drop j) = match refP (d.drop j) with | none => .bad () | some (x, n) => .go (acc ++ x) n) := by
  have h38 : bt d j = 38 ↔ d.getD j 0 = 38 := by
    rw [bt_get0']
    constructor
    · intro h; exact UInt8.toNat_inj.1 (by rw [show (38 : UInt8).toNat = 38 from rfl]; omega)
    · intro h; rw [h]; rfl
  rw [drop_cons hj, runF]
  refine ⟨fun h => by rw [if_pos h], fun h h1 => ?_, fun h h1 => ?_⟩
  · rw [if_neg (by omega), if_pos (by rw [ne_eq, ← h38]; exact h1)]
  · rw [if_neg (by omega), if_neg (by rw [ne_eq, ← h38]; exact fun h => h h1)]
    all_goals (cases refP (d.getD j 0 :: d.drop (j + 1)) <;> rfl)
theorem prefix_len {d p : List UInt8} (h : Lib.hasPrefix d p = true) : p.length ≤ d.length := (List.isPrefixOf_iff_prefix.1 h).length_le
theorem runP_le {ends d x : List UInt8} {n : Nat} (h : runP ends d = some (x, n)) : n ≤ d.length := by
  unfold runP at h
  have := loopK_le (runF_steps ends) [] d 0
  cases e : loopK (runF ends) [] d 0 with
  | mk o y =>
    rw [e] at h this
    cases o with
    | some _ => cases h
    | none =>
      injection h with h
      obtain ⟨y1, y2⟩ := y
      injection h with _ h
      subst h
      simp at this; omega
theorem valueP_le {d x : List UInt8} {n : Nat} (h : valueP d = some (x, n)) : 1 ≤ n ∧ n ≤ d.length := by
  unfold valueP at h
  generalize (if Lib.hasPrefix d [39] = true then (39 : UInt8) else 34) = q at h
  by_cases h1 : Lib.hasPrefix d [q] = false
  · rw [if_pos h1] at h; cases h
  rw [if_neg h1] at h
  cases e : runP [60, q] (d.drop 1) with
  | none => rw [e] at h; cases h
  | some y =>
    obtain ⟨x', n'⟩ := y
    rw [e] at h
    have h2 := runP_le e
    rw [List.length_drop] at h2
    simp only at h
    by_cases hp : Lib.hasPrefix (d.drop (1 + n')) [q] = true
    · rw [if_pos hp] at h
      injection h with h
      injection h with _ h
      have := prefix_len hp
      rw [List.length_drop] at this
      simp at this
      omega
    · rw [if_neg hp] at h; cases h
theorem nameP_le {d x : List UInt8} {n : Nat} (h : nameP d = some (x, n)) : 1 ≤ n ∧ n ≤ d.length ∧ x = d.take n ∧ nameB x = true := by
  unfold nameP at h
  split at h
  · rename_i hb
    injection h with h
    injection h with h1 h2
    subst h1 h2
    have hle := spanN_le follI d
    have := hb
    unfold nameB at this
    simp only [Bool.and_eq_true, decide_eq_true_eq, List.length_take] at this
    exact ⟨by omega, hle, rfl, hb⟩
  · cases h
theorem attrP_le {d : List UInt8} {x : At} {n : Nat} (h : attrP d = some (x, n)) : 1 ≤ n ∧ n ≤ d.length := by
  unfold attrP at h
  cases e : nameP d with
  | none => rw [e] at h; cases h
  | some y =>
    obtain ⟨nm, m⟩ := y
    rw [e] at h
    have h1 := nameP_le e
    simp only at h
    split at h
    · cases h
    · rename_i hp
      rw [Bool.not_eq_false] at hp
      have h2 := prefix_len hp
      rw [List.length_drop] at h2
      have h3 := spanN_le blI (d.drop m)
      rw [List.length_drop] at h3
      revert h
      generalize spanN blI (d.drop m) = b1 at h2 h3
      cases e2 : valueP (d.drop (m + b1 + 1 + spanN blI (d.drop (m + b1 + 1)))) with
      | none => intro h; cases h
      | some z =>
        obtain ⟨v, q⟩ := z
        intro h
        injection h with h
        injection h with _ h
        have h4 := valueP_le e2
        rw [List.length_drop] at h4
        simp at h2
        omega
theorem elemB_ne {d : List UInt8} (h : elemB d = true) : 0 < d.length := by
  cases d with
  | nil => cases h
  | cons c t => simp
theorem snoc_of {α : Type} {l : List α} (x : α) (h : l ≠ []) : ∃ op nm, l = op ++ [nm] ∧ l.getLastD x = nm ∧ l.dropLast = op := by
  refine ⟨l.dropLast, l.getLast h, (List.dropLast_concat_getLast h).symm, ?_, rfl⟩
  rw [List.getLastD_eq_getLast?, List.getLast?_eq_some_getLast h]; rfl
end Go.Proofs.YtkjjjbipmobdaaaGreatDoor

/- The reference of layer 11, plain: what its reader makes of a document. Its steps are layer 11's, but for comments, ends and texts. -/
namespace Go.Proofs.YtkjjjbipmobdaaaGreatDoor

/-- Where a text stands first. -/
def findE (t : List UInt8) : List UInt8 → Option Nat
  | [] => if t = [] then some 0 else none
  | c :: r => if Lib.hasPrefix (c :: r) t then some 0 else (findE t r).map (· + 1)
theorem findE_short {t : List UInt8} : ∀ {d : List UInt8}, d.length < t.length → findE t d = none
  | [], h => by unfold findE; rw [if_neg (by intro e; subst e; simp at h)]
  | c :: r, h => by
    unfold findE
    have h1 : ¬ Lib.hasPrefix (c :: r) t = true := fun e => by have := prefix_len e; omega
    rw [if_neg h1, findE_short (by simp at h; omega)]
    rfl
theorem findE_le {t : List UInt8} : ∀ {d : List UInt8} {i : Nat}, findE t d = some i → i + t.length ≤ d.length
  | [], i, h => by
    unfold findE at h
    split at h
    · rename_i e; injection h with h; subst h e; simp
    · cases h
  | c :: r, i, h => by
    unfold findE at h
    split at h
    · rename_i e; injection h with h; subst h; have := prefix_len e; omega
    · cases e : findE t r with
      | none => rw [e] at h; cases h
      | some j =>
        rw [e] at h
        have h : j + 1 = i := by injection h
        have := findE_le e
        simp only [List.length_cons]; omega
/-- What a loop that looks for it keeps. -/
structure FiAt (t d : List UInt8) (j : Nat) : Prop where
  le : j ≤ d.length
  eq : findE t d = (findE t (d.drop j)).map (· + j)
theorem FiAt.zero (t d : List UInt8) : FiAt t d 0 := ⟨Nat.zero_le _, by simp⟩
theorem FiAt.step {t d : List UInt8} {j : Nat} (h : FiAt t d j) (hj : j < d.length) (hp : Lib.hasPrefix (d.drop j) t = false) : FiAt t d (j + 1) := by
  refine ⟨hj, ?_⟩
  rw [h.eq]
  rw [List.drop_eq_getElem_cons hj] at hp ⊢
  rw [findE, if_neg (by rw [hp]; decide), Option.map_map]
  congr 1
  funext x
  simp; omega
theorem FiAt.hit {t d : List UInt8} {j : Nat} (h : FiAt t d j) (hp : Lib.hasPrefix (d.drop j) t = true) : findE t d = some j := by
  rw [h.eq]
  cases e : d.drop j with
  | nil =>
    rw [e] at hp
    have := prefix_len hp
    have h0 : t = [] := List.length_eq_zero_iff.1 (by simpa using this)
    unfold findE
    rw [if_pos h0]; simp
  | cons c r => rw [e] at hp; unfold findE; rw [if_pos hp]; simp
theorem FiAt.none {t d : List UInt8} {j : Nat} (h : FiAt t d j) (hl : d.length < j + t.length) : findE t d = none := by
  rw [h.eq, findE_short (by rw [List.length_drop]; have := h.le; omega)]; rfl
/-- A text and the end behind it. -/
def untilR (t d : List UInt8) : Option (List UInt8 × Nat) := (findE t d).map fun i => (d.take i, i + t.length)
theorem untilR_le {t d x : List UInt8} {n : Nat} (h : untilR t d = some (x, n)) : t.length ≤ n ∧ n ≤ d.length ∧ x.length ≤ n := by
  unfold untilR at h
  cases e : findE t d with
  | none => rw [e] at h; cases h
  | some i =>
    rw [e] at h
    injection h with h
    injection h with h1 h2
    have := findE_le e
    subst h1 h2
    rw [List.length_take]; omega
/-- How many bytes a comment takes. -/
def commR (d : List UInt8) : Option Nat :=
  match untilR [45, 45] (d.drop 4) with
  | none => none
  | some (_, n) => if Lib.hasPrefix (d.drop (4 + n)) [62] then some (4 + n + 1) else none
theorem commR_bd {d : List UInt8} {n : Nat} (h : commR d = some n) : 1 ≤ n ∧ n ≤ d.length := by
  unfold commR at h
  split at h
  · cases h
  · rename_i x m e
    split at h
    · rename_i hp
      injection h with h
      have := prefix_len hp
      rw [List.length_drop] at this
      simp at this
      omega
    · cases h
/-- A step of attributes, with the blanks ahead. -/
def attrsRF (l : List At) (d : List UInt8) : Rs (List At) Unit :=
  if Lib.hasPrefix (d.drop (spanN blI d)) [62] then .stop
  else if Lib.hasPrefix (d.drop (spanN blI d)) [47, 62] then .stop
  else if spanN blI d = 0 ∨ l.length = 16 then .bad ()
  else match attrP (d.drop (spanN blI d)) with
    | none => .bad ()
    | some (x, n) => if (l.any fun y => y.1 == x.1) = true then .bad () else .go (l ++ [x]) (spanN blI d + n)
/-- Attributes, up to an element's end; whether it ends at once. -/
def attrsR (d : List UInt8) : Option ((List At × Bool) × Nat) :=
  match loopK attrsRF [] d 0 with
  | (none, l, k) => if Lib.hasPrefix (d.drop (k + spanN blI (d.drop k))) [62] then some ((l, false), k + spanN blI (d.drop k) + 1)
    else if Lib.hasPrefix (d.drop (k + spanN blI (d.drop k))) [47, 62] then some ((l, true), k + spanN blI (d.drop k) + 2) else none
  | (some _, _, _) => none
theorem attrsRF_steps : Steps attrsRF := by
  intro s d s' n h
  unfold attrsRF at h
  split at h
  · cases h
  split at h
  · cases h
  split at h
  · cases h
  split at h
  · cases h
  · rename_i x m e
    split at h
    · cases h
    · injection h with _ h
      have := attrP_le e
      rw [List.length_drop] at this
      have := spanN_le blI d
      omega
theorem attrsR_le {d : List UInt8} {l : List At} {b : Bool} {n : Nat} (h : attrsR d = some ((l, b), n)) : 1 ≤ n ∧ n ≤ d.length := by
  unfold attrsR at h
  have hk := loopK_le attrsRF_steps [] d 0
  revert h
  cases e : loopK attrsRF [] d 0 with
  | mk o y =>
    rw [e] at hk
    obtain ⟨l', k⟩ := y
    cases o with
    | some _ => intro h; cases h
    | none =>
      intro h
      simp only at h
      split at h
      · rename_i hp
        injection h with h
        injection h with h1 h2
        have := prefix_len hp
        rw [List.length_drop] at this
        simp at this
        omega
      · split at h
        · rename_i hp
          injection h with h
          injection h with h1 h2
          have := prefix_len hp
          rw [List.length_drop] at this
          simp at this
          omega
        · cases h
/-- What the loop of attributes keeps. -/
structure ArAt (d : List UInt8) (j : Nat) (l : List At) : Prop where
  le : j ≤ d.length
  eq : loopK attrsRF [] d 0 = loopK attrsRF l (d.drop j) j
  len : l.length ≤ 16
theorem ArAt.zero (d : List UInt8) : ArAt d 0 [] := ⟨Nat.zero_le _, by simp, by simp⟩
theorem ArAt.step {d : List UInt8} {l l' : List At} {j n : Nat} (h : ArAt d j l) (e : attrsRF l (d.drop j) = .go l' n) (hl : l'.length ≤ 16) : ArAt d (j + n) l' := by
  have := attrsRF_steps _ _ _ _ e
  rw [List.length_drop] at this
  exact ⟨by omega, by rw [h.eq, loopK_go attrsRF_steps _ e, List.drop_drop], hl⟩
theorem ArAt.stop {d : List UInt8} {l : List At} {j : Nat} (h : ArAt d j l) (e : attrsRF l (d.drop j) = .stop) : attrsR d = if Lib.hasPrefix (d.drop (j + spanN blI (d.drop j))) [62] then some ((l, false), j + spanN blI (d.drop j) + 1)
    else if Lib.hasPrefix (d.drop (j + spanN blI (d.drop j))) [47, 62] then some ((l, true), j + spanN blI (d.drop j) + 2) else none := by
  unfold attrsR; rw [h.eq, loopK_stop _ e]
theorem ArAt.bad {d : List UInt8} {l : List At} {j : Nat} (h : ArAt d j l) (e : attrsRF l (d.drop j) = .bad ()) : attrsR d = none := by
  unfold attrsR; rw [h.eq, loopK_bad _ e]
/-- An element's begin. -/
def beginR (dep : Int) (s : Sc) (d : List UInt8) : Rs Sc Int :=
  if (s.opn.length : Int) = dep ∨ dep < 1 then .bad 4
  else match nameP (d.drop 1) with
    | none => .bad 3
    | some (nm, n) =>
      match attrsR (d.drop (1 + n)) with
      | none => .bad 3
      | some ((l, true), m) => .go ⟨true, s.opn, [], addT s.text s.toks ⟨3, nm, l, []⟩⟩ (1 + n + m)
      | some ((l, false), m) => .go ⟨true, s.opn ++ [nm], [], addT s.text s.toks ⟨1, nm, l, []⟩⟩ (1 + n + m)
/-- An element's end. -/
def endR (s : Sc) (d : List UInt8) : Rs Sc Int :=
  match nameP (d.drop 2) with
  | none => .bad 3
  | some (nm, n) =>
    if s.opn = [] then .bad 3
    else if s.opn.getLastD [] ≠ nm then .bad 3
    else if Lib.hasPrefix (d.drop (2 + n + spanN blI (d.drop (2 + n)))) [62] then
      .go ⟨s.rooted, s.opn.dropLast, [], addT s.text s.toks ⟨2, nm, [], []⟩⟩ (2 + n + spanN blI (d.drop (2 + n)) + 1)
    else .bad 3
/-- A text more. -/
def moreT (s : Sc) (x : List UInt8) : Sc := ⟨s.rooted, s.opn, s.text ++ x, s.toks⟩
def innerR (dep : Int) (s : Sc) (d : List UInt8) : Rs Sc Int :=
  if Lib.hasPrefix d [60, 47] then endR s d
  else if Lib.hasPrefix d [60, 33, 45, 45] then
    match commR d with
    | none => .bad 3
    | some n => .go s n
  else if Lib.hasPrefix d [60, 33, 91, 67, 68, 65, 84, 65, 91] then
    match untilR [93, 93, 62] (d.drop 9) with
    | none => .bad 3
    | some (x, n) => .go (moreT s x) (9 + n)
  else if Lib.hasPrefix d [60] then if leadsB (d.drop 1) then beginR dep s d else .bad 3
  else if Lib.hasPrefix d [38] then
    match refP d with
    | none => .bad 3
    | some (x, n) => .go (moreT s x) n
  else .go (moreT s (d.take 1)) 1
def outerR (dep : Int) (s : Sc) (d : List UInt8) : Rs Sc Int :=
  if 0 < spanN blI d then .go s (spanN blI d)
  else if Lib.hasPrefix d [60, 33, 45, 45] then
    match commR d with
    | none => .bad 3
    | some n => .go s n
  else if s.rooted = false ∧ elemB d = true then beginR dep s d else .bad 3
def stepR (dep : Int) (s : Sc) (d : List UInt8) : Rs Sc Int :=
  if d = [] then .stop else if s.opn = [] then outerR dep s d else innerR dep s d
/-- What stands once, ahead of all else. -/
def preR (d : List UInt8) : Option Nat :=
  if Lib.hasPrefix (d.drop (if Lib.hasPrefix d [239, 187, 191] then 3 else 0)) [60, 63, 120, 109, 108] = true ∧ 0 < spanN blI (d.drop ((if Lib.hasPrefix d [239, 187, 191] then 3 else 0) + 5)) then
    match untilR [63, 62] (d.drop (if Lib.hasPrefix d [239, 187, 191] then 3 else 0)) with
    | none => none
    | some (_, n) => some ((if Lib.hasPrefix d [239, 187, 191] then 3 else 0) + n)
  else some (if Lib.hasPrefix d [239, 187, 191] then 3 else 0)
/-- A step of runes that may stand in a document. -/
def goodF (_ : Unit) (d : List UInt8) : Rs Unit Unit :=
  if d = [] then .stop else if charB (cutS d).1 = false then .bad () else if (cutS d).1 = 65533 ∧ d.take (cutN d) ≠ [239, 191, 189] then .bad () else .go () (cutN d)
def goodN (l : List UInt8) : Nat := (loopK goodF () l 0).2.2
/-- What the reference answers: tokens, or a fault's number. -/
inductive OutR where
  | toks (l : List Tk)
  | bad (q : Int)
def tokR (dep : Int) (l : List UInt8) : OutR :=
  match preR (l.take (goodN l)) with
  | none => .bad 3
  | some m =>
    match loopK (stepR dep) sc0 ((l.take (goodN l)).drop m) m with
    | (some q, _, _) => .bad q
    | (none, s, _) => if goodN l < l.length ∨ s.rooted = false ∨ s.opn ≠ [] then .bad 3 else .toks s.toks
def OutR.ts : OutR → List Tk
  | .toks t => t
  | .bad _ => []
def OutR.code : OutR → Int
  | .toks _ => 0
  | .bad q => q

theorem beginR_bd {dep : Int} {s s' : Sc} {d : List UInt8} {n : Nat} (h : beginR dep s d = .go s' n) : 1 ≤ n ∧ n ≤ max d.length 1 ∧ ∃ x : Tk, x.text = [] ∧ s'.toks = addT s.text s.toks x ∧ s'.text = [] ∧ s'.opn.length ≤ s.opn.length + 1 := by
  unfold beginR at h
  split at h
  · cases h
  split at h
  · cases h
  · rename_i nm n1 e1
    have h1 := nameP_le e1
    rw [List.length_drop] at h1
    split at h
    · cases h
    · rename_i l m e2
      have h2 := attrsR_le e2
      rw [List.length_drop] at h2
      injection h with ha hb
      subst ha hb
      exact ⟨by omega, by omega, ⟨3, nm, l, []⟩, rfl, rfl, rfl, by simp⟩
    · rename_i l m e2
      have h2 := attrsR_le e2
      rw [List.length_drop] at h2
      injection h with ha hb
      subst ha hb
      exact ⟨by omega, by omega, ⟨1, nm, l, []⟩, rfl, rfl, rfl, by simp⟩
theorem endR_bd {s s' : Sc} {d : List UInt8} {n : Nat} (h : endR s d = .go s' n) : 1 ≤ n ∧ n ≤ d.length ∧ ∃ x : Tk, x.text = [] ∧ s'.toks = addT s.text s.toks x ∧ s'.text = [] ∧ s'.opn.length ≤ s.opn.length + 1 := by
  unfold endR at h
  split at h
  · cases h
  · rename_i nm n1 e1
    split at h
    · cases h
    split at h
    · cases h
    split at h
    · rename_i hp
      have := prefix_len hp
      rw [List.length_drop] at this
      simp at this
      injection h with ha hb
      subst ha hb
      exact ⟨by omega, by omega, ⟨2, nm, [], []⟩, rfl, rfl, rfl, by simp; omega⟩
    · cases h
/-- Bounds of what a step leaves. -/
structure ScOk (s : Sc) (k : Nat) : Prop where
  txt : s.text.length + sumK s.toks ≤ 4 * k
  tok : s.toks.length ≤ 2 * k
  opn : s.opn.length ≤ k
theorem sumK_app (a b : List Tk) : sumK (a ++ b) = sumK a + sumK b := by unfold sumK; simp
theorem addT_sum {text : List UInt8} {toks : List Tk} {x : Tk} (hx : x.text = []) : sumK (addT text toks x) ≤ text.length + sumK toks ∧ (addT text toks x).length ≤ toks.length + 2 := by
  unfold addT
  split
  · refine ⟨?_, by simp⟩
    rw [sumK_app, sumK_app]
    simp [sumK, hx]; omega
  · refine ⟨?_, by simp⟩
    rw [sumK_app]
    simp [sumK, hx]
theorem ScOk.tag {s s' : Sc} {k n : Nat} {x : Tk} (h : ScOk s k) (hn : 1 ≤ n) (hx : x.text = []) (h1 : s'.toks = addT s.text s.toks x) (h2 : s'.text = []) (h3 : s'.opn.length ≤ s.opn.length + 1) : ScOk s' (k + n) := by
  have := addT_sum (text := s.text) (toks := s.toks) hx
  have a := h.txt
  have b := h.tok
  have c := h.opn
  exact ⟨by rw [h1, h2]; simp only [List.length_nil]; omega, by rw [h1]; omega, by omega⟩
theorem ScOk.more {s : Sc} {k n : Nat} {x : List UInt8} (h : ScOk s k) (hx : x.length ≤ 4 * n) : ScOk (moreT s x) (k + n) := by
  have a := h.txt
  have b := h.tok
  have c := h.opn
  exact ⟨by unfold moreT; simp only [List.length_append]; omega, by unfold moreT; simp only; omega, by unfold moreT; simp only; omega⟩
theorem ScOk.on {s : Sc} {k : Nat} (h : ScOk s k) (n : Nat) : ScOk s (k + n) := ⟨by have := h.txt; omega, by have := h.tok; omega, by have := h.opn; omega⟩
theorem stepR_bd {dep : Int} {s s' : Sc} {d : List UInt8} {n : Nat} (h : stepR dep s d = .go s' n) : (1 ≤ n ∧ n ≤ d.length) ∧ ∀ k, ScOk s k → ScOk s' (k + n) := by
  unfold stepR at h
  split at h
  · cases h
  rename_i h0
  have hl : 0 < d.length := List.length_pos_iff.2 h0
  have hB : beginR dep s d = .go s' n → (1 ≤ n ∧ n ≤ d.length) ∧ ∀ k, ScOk s k → ScOk s' (k + n) := fun e => by
    obtain ⟨a, b, x, e1, e2, e3, e4⟩ := beginR_bd e
    exact ⟨⟨a, by omega⟩, fun k hk => hk.tag a e1 e2 e3 e4⟩
  have hC : (match commR d with | none => Rs.bad (3 : Int) | some n => .go s n) = .go s' n → (1 ≤ n ∧ n ≤ d.length) ∧ ∀ k, ScOk s k → ScOk s' (k + n) := fun e => by
    revert e
    cases e2 : commR d with
    | none => intro e; cases e
    | some m =>
      intro e
      injection e with ha hb
      subst ha hb
      exact ⟨commR_bd e2, fun k hk => hk.on _⟩
  split at h
  · unfold outerR at h
    split at h
    · injection h with ha hb
      subst ha hb
      exact ⟨⟨by omega, spanN_le _ _⟩, fun k hk => hk.on _⟩
    split at h
    · exact hC h
    split at h
    · exact hB h
    · cases h
  · unfold innerR at h
    split at h
    · obtain ⟨a, b, x, e1, e2, e3, e4⟩ := endR_bd h
      exact ⟨⟨a, b⟩, fun k hk => hk.tag a e1 e2 e3 e4⟩
    split at h
    · exact hC h
    split at h
    · rename_i hp
      have hpl := prefix_len hp
      simp at hpl
      split at h
      · cases h
      · rename_i x m e
        have := untilR_le e
        rw [List.length_drop] at this
        injection h with ha hb
        subst ha hb
        exact ⟨⟨by omega, by omega⟩, fun k hk => hk.more (by omega)⟩
    split at h
    · split at h
      · exact hB h
      · cases h
    split at h
    · split at h
      · cases h
      · rename_i x m e
        have := refP_bd e
        injection h with ha hb
        subst ha hb
        exact ⟨⟨by omega, by omega⟩, fun k hk => hk.more (by omega)⟩
    · injection h with ha hb
      subst ha hb
      exact ⟨⟨by omega, by omega⟩, fun k hk => hk.more (by rw [List.length_take]; omega)⟩
theorem stepR_steps (dep : Int) : Steps (stepR dep) := fun _ _ _ _ h => (stepR_bd h).1
/-- What the loop over a document keeps. -/
structure DrAt (dep : Int) (l : List UInt8) (m k : Nat) (s : Sc) : Prop where
  le : k ≤ l.length
  eq : loopK (stepR dep) sc0 (l.drop m) m = loopK (stepR dep) s (l.drop k) k
  ok : ScOk s k
theorem DrAt.zero {dep : Int} {l : List UInt8} {m : Nat} (h : m ≤ l.length) : DrAt dep l m m sc0 := ⟨h, rfl, ⟨by simp [sc0, sumK], by simp [sc0], by simp [sc0]⟩⟩
theorem DrAt.step {dep : Int} {l : List UInt8} {m k n : Nat} {s s' : Sc} (h : DrAt dep l m k s) (e : stepR dep s (l.drop k) = .go s' n) : DrAt dep l m (k + n) s' ∧ 1 ≤ n := by
  have hb := stepR_bd e
  rw [List.length_drop] at hb
  exact ⟨⟨by have := h.le; omega, by rw [h.eq, loopK_go (stepR_steps dep) _ e, List.drop_drop], hb.2 _ h.ok⟩, hb.1.1⟩
theorem DrAt.bad {dep : Int} {l : List UInt8} {m k : Nat} {s : Sc} {q : Int} (h : DrAt dep l m k s) (e : stepR dep s (l.drop k) = .bad q) : loopK (stepR dep) sc0 (l.drop m) m = (some q, s, k) := by rw [h.eq, loopK_bad _ e]
theorem DrAt.stop {dep : Int} {l : List UInt8} {m k : Nat} {s : Sc} (h : DrAt dep l m k s) (e : k = l.length) : loopK (stepR dep) sc0 (l.drop m) m = (none, s, k) := by
  rw [h.eq, loopK_stop]
  unfold stepR; rw [if_pos (by rw [List.drop_eq_nil_iff]; omega)]
theorem preR_le {l : List UInt8} {m : Nat} (h : preR l = some m) : m ≤ l.length := by
  unfold preR at h
  have hm : (if Lib.hasPrefix l [239, 187, 191] = true then 3 else 0) ≤ l.length := by
    split
    · rename_i hp
      have := prefix_len hp
      simpa using this
    · omega
  generalize (if Lib.hasPrefix l [239, 187, 191] = true then 3 else 0) = q at h hm
  split at h
  · split at h
    · cases h
    · rename_i x n e
      have := untilR_le e
      rw [List.length_drop] at this
      injection h with h
      omega
  · injection h with h
    omega
/-- Its tokens' number, and the bytes of their texts. -/
theorem tokR_len (dep : Int) (l : List UInt8) : (tokR dep l).ts.length ≤ 2 * l.length ∧ sumK (tokR dep l).ts ≤ 4 * l.length := by
  unfold tokR
  generalize hg : goodN l = g
  have hlg : (l.take g).length ≤ l.length := by rw [List.length_take]; omega
  cases hh : preR (l.take g) with
  | none => simp [OutR.ts, sumK]
  | some m =>
    have hm := preR_le hh
    have key : ∀ s d, ∀ k, ScOk s k → k + d.length ≤ l.length → (loopK (stepR dep) s d k).1 = none → ScOk (loopK (stepR dep) s d k).2.1 l.length := by
      refine loopK_ind (stepR_steps dep) (P := fun s d => ∀ k, ScOk s k → k + d.length ≤ l.length → (loopK (stepR dep) s d k).1 = none → ScOk (loopK (stepR dep) s d k).2.1 l.length) ?_ ?_ ?_
      · intro s d x e k _ _ h; rw [loopK_bad _ e] at h; cases h
      · intro s d e k hk hl _
        rw [loopK_stop _ e]
        have := hk.on (l.length - k)
        rw [show k + (l.length - k) = l.length by omega] at this
        exact this
      · intro s d s' n e ih k hk hl h
        have hb := stepR_bd e
        rw [loopK_go (stepR_steps dep) _ e] at h ⊢
        exact ih (k + n) (hb.2 k hk) (by rw [List.length_drop]; omega) h
    have hk := key sc0 ((l.take g).drop m) m ⟨by simp [sc0, sumK], by simp [sc0], by simp [sc0]⟩ (by rw [List.length_drop]; omega)
    revert hk
    simp only
    cases e : loopK (stepR dep) sc0 ((l.take g).drop m) m with
    | mk o y =>
      obtain ⟨s, k⟩ := y
      intro hk
      cases o with
      | some q => simp [OutR.ts, sumK]
      | none =>
        have := hk rfl
        simp only at this ⊢
        split
        · simp [OutR.ts, sumK]
        · exact ⟨this.tok, by have := this.txt; simp only [OutR.ts]; omega⟩
theorem goodF_steps : Steps goodF := by
  intro s d s' n h
  unfold goodF at h
  split at h
  · cases h
  split at h
  · cases h
  split at h
  · cases h
  · rename_i h0 _ _
    injection h with _ h
    subst h
    exact ⟨(cutN_bd d h0).1, (cutN_bd d h0).2.1⟩
structure GoAt (l : List UInt8) (k : Nat) : Prop where
  le : k ≤ l.length
  eq : loopK goodF () l 0 = loopK goodF () (l.drop k) k
theorem GoAt.zero (l : List UInt8) : GoAt l 0 := ⟨Nat.zero_le _, by simp⟩
theorem GoAt.step {l : List UInt8} {k n : Nat} (h : GoAt l k) (e : goodF () (l.drop k) = .go () n) : GoAt l (k + n) := by
  have := goodF_steps _ _ _ _ e
  rw [List.length_drop] at this
  exact ⟨by omega, by rw [h.eq, loopK_go goodF_steps _ e, List.drop_drop]⟩
theorem GoAt.bad {l : List UInt8} {k : Nat} (h : GoAt l k) (e : goodF () (l.drop k) = .bad ()) : goodN l = k := by unfold goodN; rw [h.eq, loopK_bad _ e]
theorem GoAt.stop {l : List UInt8} {k : Nat} (h : GoAt l k) (e : k = l.length) : goodN l = k := by
  unfold goodN
  rw [h.eq, loopK_stop]
  unfold goodF; rw [if_pos (by rw [List.drop_eq_nil_iff]; omega)]
end Go.Proofs.YtkjjjbipmobdaaaGreatDoor
