/- Tokens whose attributes are few and short; the bytes of their texts. -/
import Derived.Test.YtahohmdbiiknoaaDoorBR03
import Derived.Test.YtahohmdbiiknoaaDoorBR02
namespace Go.Proofs.YtahohmdbiiknoaaDoor

theorem sumK_app (a b : List Tk) : sumK (a ++ b) = sumK a + sumK b := by unfold sumK; simp
theorem addT_sum {text : List UInt8} {toks : List Tk} {x : Tk} (hx : x.text = []) : sumK (addT text toks x) ≤ text.length + sumK toks ∧ (addT text toks x).length ≤ toks.length + 2 := by
  unfold addT
  split
  · refine ⟨?_, by simp⟩
    rw [sumK_app, sumK_app]
    simp [sumK, hx]; omega
  · refine ⟨?_, by simp⟩
    rw [sumK_app]
    simp [sumK, hx]
theorem runF_more {ends acc x d : List UInt8} {n : Nat} (h : runF ends acc d = .go x n) : 1 ≤ n ∧ n ≤ d.length ∧ x.length ≤ acc.length + 4 * n := by
  cases d with
  | nil => rw [runF] at h; cases h
  | cons c t =>
    rw [runF] at h
    split at h
    · cases h
    split at h
    · injection h with ha hb
      subst ha hb
      simp
    · split at h
      · cases h
      · rename_i y m e
        have := refP_bd e
        injection h with ha hb
        subst ha hb
        refine ⟨by omega, by omega, ?_⟩
        rw [List.length_append]
        omega
theorem run_long (ends : List UInt8) : ∀ s d, ∀ k, (loopK (runF ends) s d k).2.1.length ≤ s.length + 4 * d.length := by
  have hs : Steps (runF ends) := fun _ _ _ _ h => ⟨(runF_more h).1, (runF_more h).2.1⟩
  refine loopK_ind hs (P := fun s d => ∀ k, (loopK (runF ends) s d k).2.1.length ≤ s.length + 4 * d.length) ?_ ?_ ?_
  · intro s d x e k; rw [loopK_bad _ e]; show s.length ≤ _; omega
  · intro s d e k; rw [loopK_stop _ e]; show s.length ≤ _; omega
  · intro s d s' n e ih k
    have hm := runF_more e
    have := ih (k + n)
    rw [loopK_go hs _ e]
    rw [List.length_drop] at this
    omega
theorem runP_long {ends d x : List UInt8} {n : Nat} (h : runP ends d = some (x, n)) : x.length ≤ 4 * d.length := by
  have := run_long ends [] d 0
  unfold runP at h
  cases e : loopK (runF ends) [] d 0 with
  | mk o y =>
    obtain ⟨z, m⟩ := y
    rw [e] at h this
    cases o with
    | some _ => cases h
    | none =>
      injection h with h
      injection h with h1 h2
      subst h1
      simpa using this
theorem valueP_long {d x : List UInt8} {n : Nat} (h : valueP d = some (x, n)) : x.length ≤ 4 * d.length := by
  unfold valueP at h
  generalize (if Lib.hasPrefix d [39] = true then (39 : UInt8) else 34) = q at h
  split at h
  · cases h
  split at h
  · cases h
  · rename_i y m e
    have := runP_long e
    rw [List.length_drop] at this
    split at h
    · injection h with h
      injection h with h1 h2
      subst h1
      omega
    · cases h
theorem attrP_long {d : List UInt8} {x : At} {n : Nat} (h : attrP d = some (x, n)) : x.2.length ≤ 4 * d.length := by
  unfold attrP at h
  split at h
  · cases h
  · split at h
    · cases h
    split at h
    · cases h
    · rename_i v m e
      have := valueP_long e
      rw [List.length_drop] at this
      injection h with h
      injection h with h1 h2
      subst h1
      show v.length ≤ _
      omega
/-- Few attributes, and short ones. -/
def AtFew (N : Nat) (l : List At) : Prop := l.length ≤ 16 ∧ ∀ a ∈ l, a.2.length ≤ 4 * N
theorem AtFew.nil (N : Nat) : AtFew N [] := ⟨by simp, by simp⟩
def TkFew (N : Nat) (l : List Tk) : Prop := ∀ t ∈ l, AtFew N t.attrs
theorem addT_few {N : Nat} {text : List UInt8} {toks : List Tk} {x : Tk} (h : TkFew N toks) (hx : AtFew N x.attrs) : TkFew N (addT text toks x) := by
  intro t ht
  unfold addT at ht
  rcases List.mem_append.1 ht with ht | ht
  · split at ht
    · rcases List.mem_append.1 ht with ht | ht
      · exact h t ht
      · rw [List.mem_singleton] at ht
        subst ht
        exact AtFew.nil N
    · exact h t ht
  · rw [List.mem_singleton] at ht
    subst ht
    exact hx
end Go.Proofs.YtahohmdbiiknoaaDoor

/- The reference of layer 11, plain: what its reader makes of a document. Its steps are layer 11's, but for comments, ends and texts. -/
namespace Go.Proofs.YtahohmdbiiknoaaDoor

/-- Where a text stands first. -/
def findE (t : List UInt8) : List UInt8 → Option Nat
  | [] => if t = [] then some 0 else none
  | c :: r => if Lib.hasPrefix (c :: r) t then some 0 else (findE t r).map (· + 1)
theorem findE_short {t : List UInt8} : ∀ {d : List UInt8}, d.length < t.length → findE t d = none
  | [], h => by unfold findE; rw [if_neg (by intro e; subst e; simp at h)]
  | c :: r, h => by
    unfold findE
    have h1 : ¬ Lib.hasPrefix (c :: r) t = true := fun e => by have := prefix_len e; omega
    rw [if_neg h1, findE_short (by simp at h; omega)]
    rfl
theorem findE_le {t : List UInt8} : ∀ {d : List UInt8} {i : Nat}, findE t d = some i → i + t.length ≤ d.length
  | [], i, h => by
    unfold findE at h
    split at h
    · rename_i e; injection h with h; subst h e; simp
    · cases h
  | c :: r, i, h => by
    unfold findE at h
    split at h
    · rename_i e; injection h with h; subst h; have := prefix_len e; omega
    · cases e : findE t r with
      | none => rw [e] at h; cases h
      | some j =>
        rw [e] at h
        have h : j + 1 = i := by injection h
        have := findE_le e
        simp only [List.length_cons]; omega
/-- What a loop that looks for it keeps. -/
structure FiAt (t d : List UInt8) (j : Nat) : Prop where
  le : j ≤ d.length
  eq : findE t d = (findE t (d.drop j)).map (· + j)
theorem FiAt.zero (t d : List UInt8) : FiAt t d 0 := ⟨Nat.zero_le _, by simp⟩
theorem FiAt.step {t d : List UInt8} {j : Nat} (h : FiAt t d j) (hj : j < d.length) (hp : Lib.hasPrefix (d.drop j) t = false) : FiAt t d (j + 1) := by
  refine ⟨hj, ?_⟩
  rw [h.eq]
  rw [List.drop_eq_getElem_cons hj] at hp ⊢
  rw [findE, if_neg (by rw [hp]; decide), Option.map_map]
  congr 1
  funext x
  simp; omega
theorem FiAt.hit {t d : List UInt8} {j : Nat} (h : FiAt t d j) (hp : Lib.hasPrefix (d.drop j) t = true) : findE t d = some j := by
  rw [h.eq]
  cases e : d.drop j with
  | nil =>
    rw [e] at hp
    have := prefix_len hp
    have h0 : t = [] := List.length_eq_zero_iff.1 (by simpa using this)
    unfold findE
    rw [if_pos h0]; simp
  | cons c r => rw [e] at hp; unfold findE; rw [if_pos hp]; simp
theorem FiAt.none {t d : List UInt8} {j : Nat} (h : FiAt t d j) (hl : d.length < j + t.length) : findE t d = none := by
  rw [h.eq, findE_short (by rw [List.length_drop]; have := h.le; omega)]; rfl
/-- A text and the end behind it. -/
def untilR (t d : List UInt8) : Option (List UInt8 × Nat) := (findE t d).map fun i => (d.take i, i + t.length)
theorem untilR_le {t d x : List UInt8} {n : Nat} (h : untilR t d = some (x, n)) : t.length ≤ n ∧ n ≤ d.length ∧ x.length ≤ n := by
  unfold untilR at h
  cases e : findE t d with
  | none => rw [e] at h; cases h
  | some i =>
    rw [e] at h
    injection h with h
    injection h with h1 h2
    have := findE_le e
    subst h1 h2
    rw [List.length_take]; omega
/-- How many bytes a comment takes. -/
def commR (d : List UInt8) : Option Nat :=
  match untilR [45, 45] (d.drop 4) with
  | none => none
  | some (_, n) => if Lib.hasPrefix (d.drop (4 + n)) [62] then some (4 + n + 1) else none
theorem commR_bd {d : List UInt8} {n : Nat} (h : commR d = some n) : 1 ≤ n ∧ n ≤ d.length := by
  unfold commR at h
  split at h
  · cases h
  · rename_i x m e
    split at h
    · rename_i hp
      injection h with h
      have := prefix_len hp
      rw [List.length_drop] at this
      simp at this
      omega
    · cases h
/-- A step of attributes, with the blanks ahead. -/
def attrsRF (l : List At) (d : List UInt8) : Rs (List At) Unit :=
  if Lib.hasPrefix (d.drop (spanN blI d)) [62] then .stop
  else if Lib.hasPrefix (d.drop (spanN blI d)) [47, 62] then .stop
  else if spanN blI d = 0 ∨ l.length = 16 then .bad ()
  else match attrP (d.drop (spanN blI d)) with
    | none => .bad ()
    | some (x, n) => if (l.any fun y => y.1 == x.1) = true then .bad () else .go (l ++ [x]) (spanN blI d + n)
/-- Attributes, up to an element's end; whether it ends at once. -/
def attrsR (d : List UInt8) : Option ((List At × Bool) × Nat) :=
  match loopK attrsRF [] d 0 with
  | (none, l, k) => if Lib.hasPrefix (d.drop (k + spanN blI (d.drop k))) [62] then some ((l, false), k + spanN blI (d.drop k) + 1)
    else if Lib.hasPrefix (d.drop (k + spanN blI (d.drop k))) [47, 62] then some ((l, true), k + spanN blI (d.drop k) + 2) else none
  | (some _, _, _) => none
theorem attrsRF_steps : Steps attrsRF := by
  intro s d s' n h
  unfold attrsRF at h
  split at h
  · cases h
  split at h
  · cases h
  split at h
  · cases h
  split at h
  · cases h
  · rename_i x m e
    split at h
    · cases h
    · injection h with _ h
      have := attrP_le e
      rw [List.length_drop] at this
      have := spanN_le blI d
      omega
theorem attrsR_le {d : List UInt8} {l : List At} {b : Bool} {n : Nat} (h : attrsR d = some ((l, b), n)) : 1 ≤ n ∧ n ≤ d.length := by
  unfold attrsR at h
  have hk := loopK_le attrsRF_steps [] d 0
  revert h
  cases e : loopK attrsRF [] d 0 with
  | mk o y =>
    rw [e] at hk
    obtain ⟨l', k⟩ := y
    cases o with
    | some _ => intro h; cases h
    | none =>
      intro h
      simp only at h
      split at h
      · rename_i hp
        injection h with h
        injection h with h1 h2
        have := prefix_len hp
        rw [List.length_drop] at this
        simp at this
        omega
      · split at h
        · rename_i hp
          injection h with h
          injection h with h1 h2
          have := prefix_len hp
          rw [List.length_drop] at this
          simp at this
          omega
        · cases h
/-- What the loop of attributes keeps. -/
structure ArAt (d : List UInt8) (j : Nat) (l : List At) : Prop where
  le : j ≤ d.length
  eq : loopK attrsRF [] d 0 = loopK attrsRF l (d.drop j) j
  len : l.length ≤ 16
theorem ArAt.zero (d : List UInt8) : ArAt d 0 [] := ⟨Nat.zero_le _, by simp, by simp⟩
theorem ArAt.step {d : List UInt8} {l l' : List At} {j n : Nat} (h : ArAt d j l) (e : attrsRF l (d.drop j) = .go l' n) (hl : l'.length ≤ 16) : ArAt d (j + n) l' := by
  have := attrsRF_steps _ _ _ _ e
  rw [List.length_drop] at this
  exact ⟨by omega, by rw [h.eq, loopK_go attrsRF_steps _ e, List.drop_drop], hl⟩
theorem ArAt.stop {d : List UInt8} {l : List At} {j : Nat} (h : ArAt d j l) (e : attrsRF l (d.drop j) = .stop) : attrsR d = if Lib.hasPrefix (d.drop (j + spanN blI (d.drop j))) [62] then some ((l, false), j + spanN blI (d.drop j) + 1)
    else if Lib.hasPrefix (d.drop (j + spanN blI (d.drop j))) [47, 62] then some ((l, true), j + spanN blI (d.drop j) + 2) else none := by
  unfold attrsR; rw [h.eq, loopK_stop _ e]
theorem ArAt.bad {d : List UInt8} {l : List At} {j : Nat} (h : ArAt d j l) (e : attrsRF l (d.drop j) = .bad ()) : attrsR d = none := by
  unfold attrsR; rw [h.eq, loopK_bad _ e]
/-- An element's begin. -/
def beginR (dep : Int) (s : Sc) (d : List UInt8) : Rs Sc Int :=
  if (s.opn.length : Int) = dep ∨ dep < 1 then .bad 4
  else match nameP (d.drop 1) with
    | none => .bad 3
    | some (nm, n) =>
      match attrsR (d.drop (1 + n)) with
      | none => .bad 3
      | some ((l, true), m) => .go ⟨true, s.opn, [], addT s.text s.toks ⟨3, nm, l, []⟩⟩ (1 + n + m)
      | some ((l, false), m) => .go ⟨true, s.opn ++ [nm], [], addT s.text s.toks ⟨1, nm, l, []⟩⟩ (1 + n + m)
/-- An element's end. -/
def endR (s : Sc) (d : List UInt8) : Rs Sc Int :=
  match nameP (d.drop 2) with
  | none => .bad 3
  | some (nm, n) =>
    if s.opn = [] then .bad 3
    else if s.opn.getLastD [] ≠ nm then .bad 3
    else if Lib.hasPrefix (d.drop (2 + n + spanN blI (d.drop (2 + n)))) [62] then
      .go ⟨s.rooted, s.opn.dropLast, [], addT s.text s.toks ⟨2, nm, [], []⟩⟩ (2 + n + spanN blI (d.drop (2 + n)) + 1)
    else .bad 3
/-- A text more. -/
def moreT (s : Sc) (x : List UInt8) : Sc := ⟨s.rooted, s.opn, s.text ++ x, s.toks⟩
def innerR (dep : Int) (s : Sc) (d : List UInt8) : Rs Sc Int :=
  if Lib.hasPrefix d [60, 47] then endR s d
  else if Lib.hasPrefix d [60, 33, 45, 45] then
    match commR d with
    | none => .bad 3
    | some n => .go s n
  else if Lib.hasPrefix d [60, 33, 91, 67, 68, 65, 84, 65, 91] then
    match untilR [93, 93, 62] (d.drop 9) with
    | none => .bad 3
    | some (x, n) => .go (moreT s x) (9 + n)
  else if Lib.hasPrefix d [60] then if leadsB (d.drop 1) then beginR dep s d else .bad 3
  else if Lib.hasPrefix d [38] then
    match refP d with
    | none => .bad 3
    | some (x, n) => .go (moreT s x) n
  else .go (moreT s (d.take 1)) 1
def outerR (dep : Int) (s : Sc) (d : List UInt8) : Rs Sc Int :=
  if 0 < spanN blI d then .go s (spanN blI d)
  else if Lib.hasPrefix d [60, 33, 45, 45] then
    match commR d with
    | none => .bad 3
    | some n => .go s n
  else if s.rooted = false ∧ elemB d = true then beginR dep s d else .bad 3
def stepR (dep : Int) (s : Sc) (d : List UInt8) : Rs Sc Int :=
  if d = [] then .stop else if s.opn = [] then outerR dep s d else innerR dep s d
/-- What stands once, ahead of all else. -/
def preR (d : List UInt8) : Option Nat :=
  if Lib.hasPrefix (d.drop (if Lib.hasPrefix d [239, 187, 191] then 3 else 0)) [60, 63, 120, 109, 108] = true ∧ 0 < spanN blI (d.drop ((if Lib.hasPrefix d [239, 187, 191] then 3 else 0) + 5)) then
    match untilR [63, 62] (d.drop (if Lib.hasPrefix d [239, 187, 191] then 3 else 0)) with
    | none => none
    | some (_, n) => some ((if Lib.hasPrefix d [239, 187, 191] then 3 else 0) + n)
  else some (if Lib.hasPrefix d [239, 187, 191] then 3 else 0)
/-- A step of runes that may stand in a document. -/
def goodF (_ : Unit) (d : List UInt8) : Rs Unit Unit :=
  if d = [] then .stop else if charB (cutS d).1 = false then .bad () else if (cutS d).1 = 65533 ∧ d.take (cutN d) ≠ [239, 191, 189] then .bad () else .go () (cutN d)
def goodN (l : List UInt8) : Nat := (loopK goodF () l 0).2.2
/-- What the reference answers: tokens, or a fault's number. -/
inductive OutR where
  | toks (l : List Tk)
  | bad (q : Int)
def tokR (dep : Int) (l : List UInt8) : OutR :=
  match preR (l.take (goodN l)) with
  | none => .bad 3
  | some m =>
    match loopK (stepR dep) sc0 ((l.take (goodN l)).drop m) m with
    | (some q, _, _) => .bad q
    | (none, s, _) => if goodN l < l.length ∨ s.rooted = false ∨ s.opn ≠ [] then .bad 3 else .toks s.toks
def OutR.ts : OutR → List Tk
  | .toks t => t
  | .bad _ => []
def OutR.code : OutR → Int
  | .toks _ => 0
  | .bad q => q

theorem beginR_bd {dep : Int} {s s' : Sc} {d : List UInt8} {n : Nat} (h : beginR dep s d = .go s' n) : 1 ≤ n ∧ n ≤ max d.length 1 ∧ ∃ x : Tk, x.text = [] ∧ s'.toks = addT s.text s.toks x ∧ s'.text = [] ∧ s'.opn.length ≤ s.opn.length + 1 := by
  unfold beginR at h
  split at h
  · cases h
  split at h
  · cases h
  · rename_i nm n1 e1
    have h1 := nameP_le e1
    rw [List.length_drop] at h1
    split at h
    · cases h
    · rename_i l m e2
      have h2 := attrsR_le e2
      rw [List.length_drop] at h2
      injection h with ha hb
      subst ha hb
      exact ⟨by omega, by omega, ⟨3, nm, l, []⟩, rfl, rfl, rfl, by simp⟩
    · rename_i l m e2
      have h2 := attrsR_le e2
      rw [List.length_drop] at h2
      injection h with ha hb
      subst ha hb
      exact ⟨by omega, by omega, ⟨1, nm, l, []⟩, rfl, rfl, rfl, by simp⟩
theorem endR_bd {s s' : Sc} {d : List UInt8} {n : Nat} (h : endR s d = .go s' n) : 1 ≤ n ∧ n ≤ d.length ∧ ∃ x : Tk, x.text = [] ∧ s'.toks = addT s.text s.toks x ∧ s'.text = [] ∧ s'.opn.length ≤ s.opn.length + 1 := by
  unfold endR at h
  split at h
  · cases h
  · rename_i nm n1 e1
    split at h
    · cases h
    split at h
    · cases h
    split at h
    · rename_i hp
      have := prefix_len hp
      rw [List.length_drop] at this
      simp at this
      injection h with ha hb
      subst ha hb
      exact ⟨by omega, by omega, ⟨2, nm, [], []⟩, rfl, rfl, rfl, by simp; omega⟩
    · cases h
/-- Bounds of what a step leaves. -/
structure ScOk (s : Sc) (k : Nat) : Prop where
  txt : s.text.length + sumK s.toks ≤ 4 * k
  tok : s.toks.length ≤ 2 * k
  opn : s.opn.length ≤ k
theorem ScOk.tag {s s' : Sc} {k n : Nat} {x : Tk} (h : ScOk s k) (hn : 1 ≤ n) (hx : x.text = []) (h1 : s'.toks = addT s.text s.toks x) (h2 : s'.text = []) (h3 : s'.opn.length ≤ s.opn.length + 1) : ScOk s' (k + n) := by
  have := addT_sum (text := s.text) (toks := s.toks) hx
  have a := h.txt
  have b := h.tok
  have c := h.opn
  exact ⟨by rw [h1, h2]; simp only [List.length_nil]; omega, by rw [h1]; omega, by omega⟩
theorem ScOk.more {s : Sc} {k n : Nat} {x : List UInt8} (h : ScOk s k) (hx : x.length ≤ 4 * n) : ScOk (moreT s x) (k + n) := by
  have a := h.txt
  have b := h.tok
  have c := h.opn
  exact ⟨by unfold moreT; simp only [List.length_append]; omega, by unfold moreT; simp only; omega, by unfold moreT; simp only; omega⟩
theorem ScOk.on {s : Sc} {k : Nat} (h : ScOk s k) (n : Nat) : ScOk s (k + n) := ⟨by have := h.txt; omega, by have := h.tok; omega, by have := h.opn; omega⟩
theorem stepR_bd {dep : Int} {s s' : Sc} {d : List UInt8} {n : Nat} (h : stepR dep s d = .go s' n) : (1 ≤ n ∧ n ≤ d.length) ∧ ∀ k, ScOk s k → ScOk s' (k + n) := by
  unfold stepR at h
  split at h
  · cases h
  rename_i h0
  have hl : 0 < d.length := List.length_pos_iff.2 h0
  have hB : beginR dep s d = .go s' n → (1 ≤ n ∧ n ≤ d.length) ∧ ∀ k, ScOk s k → ScOk s' (k + n) := fun e => by
    obtain ⟨a, b, x, e1, e2, e3, e4⟩ := beginR_bd e
    exact ⟨⟨a, by omega⟩, fun k hk => hk.tag a e1 e2 e3 e4⟩
  have hC : (match commR d with | none => Rs.bad (3 : Int) | some n => .go s n) = .go s' n → (1 ≤ n ∧ n ≤ d.length) ∧ ∀ k, ScOk s k → ScOk s' (k + n) := fun e => by
    revert e
    cases e2 : commR d with
    | none => intro e; cases e
    | some m =>
      intro e
      injection e with ha hb
      subst ha hb
      exact ⟨commR_bd e2, fun k hk => hk.on _⟩
  split at h
  · unfold outerR at h
    split at h
    · injection h with ha hb
      subst ha hb
      exact ⟨⟨by omega, spanN_le _ _⟩, fun k hk => hk.on _⟩
    split at h
    · exact hC h
    split at h
    · exact hB h
    · cases h
  · unfold innerR at h
    split at h
    · obtain ⟨a, b, x, e1, e2, e3, e4⟩ := endR_bd h
      exact ⟨⟨a, b⟩, fun k hk => hk.tag a e1 e2 e3 e4⟩
    split at h
    · exact hC h
    split at h
    · rename_i hp
      have hpl := prefix_len hp
      simp at hpl
      split at h
      · cases h
      · rename_i x m e
        have := untilR_le e
        rw [List.length_drop] at this
        injection h with ha hb
        subst ha hb
        exact ⟨⟨by omega, by omega⟩, fun k hk => hk.more (by omega)⟩
    split at h
    · split at h
      · exact hB h
      · cases h
    split at h
    · split at h
      · cases h
      · rename_i x m e
        have := refP_bd e
        injection h with ha hb
        subst ha hb
        exact ⟨⟨by omega, by omega⟩, fun k hk => hk.more (by omega)⟩
    · injection h with ha hb
      subst ha hb
      exact ⟨⟨by omega, by omega⟩, fun k hk => hk.more (by rw [List.length_take]; omega)⟩
theorem stepR_steps (dep : Int) : Steps (stepR dep) := fun _ _ _ _ h => (stepR_bd h).1
/-- What the loop over a document keeps. -/
structure DrAt (dep : Int) (l : List UInt8) (m k : Nat) (s : Sc) : Prop where
  le : k ≤ l.length
  eq : loopK (stepR dep) sc0 (l.drop m) m = loopK (stepR dep) s (l.drop k) k
  ok : ScOk s k
theorem DrAt.zero {dep : Int} {l : List UInt8} {m : Nat} (h : m ≤ l.length) : DrAt dep l m m sc0 := ⟨h, rfl, ⟨by simp [sc0, sumK], by simp [sc0], by simp [sc0]⟩⟩
theorem DrAt.step {dep : Int} {l : List UInt8} {m k n : Nat} {s s' : Sc} (h : DrAt dep l m k s) (e : stepR dep s (l.drop k) = .go s' n) : DrAt dep l m (k + n) s' ∧ 1 ≤ n := by
  have hb := stepR_bd e
  rw [List.length_drop] at hb
  exact ⟨⟨by have := h.le; omega, by rw [h.eq, loopK_go (stepR_steps dep) _ e, List.drop_drop], hb.2 _ h.ok⟩, hb.1.1⟩
theorem DrAt.bad {dep : Int} {l : List UInt8} {m k : Nat} {s : Sc} {q : Int} (h : DrAt dep l m k s) (e : stepR dep s (l.drop k) = .bad q) : loopK (stepR dep) sc0 (l.drop m) m = (some q, s, k) := by rw [h.eq, loopK_bad _ e]
theorem DrAt.stop {dep : Int} {l : List UInt8} {m k : Nat} {s : Sc} (h : DrAt dep l m k s) (e : k = l.length) : loopK (stepR dep) sc0 (l.drop m) m = (none, s, k) := by
  rw [h.eq, loopK_stop]
  unfold stepR; rw [if_pos (by rw [List.drop_eq_nil_iff]; omega)]
theorem preR_le {l : List UInt8} {m : Nat} (h : preR l = some m) : m ≤ l.length := by
  unfold preR at h
  have hm : (if Lib.hasPrefix l [239, 187, 191] = true then 3 else 0) ≤ l.length := by
    split
    · rename_i hp
      have := prefix_len hp
      simpa using this
    · omega
  generalize (if Lib.hasPrefix l [239, 187, 191] = true then 3 else 0) = q at h hm
  split at h
  · split at h
    · cases h
    · rename_i x n e
      have := untilR_le e
      rw [List.length_drop] at this
      injection h with h
      omega
  · injection h with h
    omega
/-- Its tokens' number, and the bytes of their texts. -/
theorem tokR_len (dep : Int) (l : List UInt8) : (tokR dep l).ts.length ≤ 2 * l.length ∧ sumK (tokR dep l).ts ≤ 4 * l.length := by
  unfold tokR
  generalize hg : goodN l = g
  have hlg : (l.take g).length ≤ l.length := by rw [List.length_take]; omega
  cases hh : preR (l.take g) with
  | none => simp [OutR.ts, sumK]
  | some m =>
    have hm := preR_le hh
    have key : ∀ s d, ∀ k, ScOk s k → k + d.length ≤ l.length → (loopK (stepR dep) s d k).1 = none → ScOk (loopK (stepR dep) s d k).2.1 l.length := by
      refine loopK_ind (stepR_steps dep) (P := fun s d => ∀ k, ScOk s k → k + d.length ≤ l.length → (loopK (stepR dep) s d k).1 = none → ScOk (loopK (stepR dep) s d k).2.1 l.length) ?_ ?_ ?_
      · intro s d x e k _ _ h; rw [loopK_bad _ e] at h; cases h
      · intro s d e k hk hl _
        rw [loopK_stop _ e]
        have := hk.on (l.length - k)
        rw [show k + (l.length - k) = l.length by omega] at this
        exact this
      · intro s d s' n e ih k hk hl h
        have hb := stepR_bd e
        rw [loopK_go (stepR_steps dep) _ e] at h ⊢
        exact ih (k + n) (hb.2 k hk) (by rw [List.length_drop]; omega) h
    have hk := key sc0 ((l.take g).drop m) m ⟨by simp [sc0, sumK], by simp [sc0], by simp [sc0]⟩ (by rw [List.length_drop]; omega)
    revert hk
    simp only
    cases e : loopK (stepR dep) sc0 ((l.take g).drop m) m with
    | mk o y =>
      obtain ⟨s, k⟩ := y
      intro hk
      cases o with
      | some q => simp [OutR.ts, sumK]
      | none =>
        have := hk rfl
        simp only at this ⊢
        split
        · simp [OutR.ts, sumK]
        · exact ⟨this.tok, by have := this.txt; simp only [OutR.ts]; omega⟩
theorem goodF_steps : Steps goodF := by
  intro s d s' n h
  unfold goodF at h
  split at h
  · cases h
  split at h
  · cases h
  split at h
  · cases h
  · rename_i h0 _ _
    injection h with _ h
    subst h
    exact ⟨(cutN_bd d h0).1, (cutN_bd d h0).2.1⟩
structure GoAt (l : List UInt8) (k : Nat) : Prop where
  le : k ≤ l.length
  eq : loopK goodF () l 0 = loopK goodF () (l.drop k) k
theorem GoAt.zero (l : List UInt8) : GoAt l 0 := ⟨Nat.zero_le _, by simp⟩
theorem GoAt.step {l : List UInt8} {k n : Nat} (h : GoAt l k) (e : goodF () (l.drop k) = .go () n) : GoAt l (k + n) := by
  have := goodF_steps _ _ _ _ e
  rw [List.length_drop] at this
  exact ⟨by omega, by rw [h.eq, loopK_go goodF_steps _ e, List.drop_drop]⟩
theorem GoAt.bad {l : List UInt8} {k : Nat} (h : GoAt l k) (e : goodF () (l.drop k) = .bad ()) : goodN l = k := by unfold goodN; rw [h.eq, loopK_bad _ e]
theorem GoAt.stop {l : List UInt8} {k : Nat} (h : GoAt l k) (e : k = l.length) : goodN l = k := by
  unfold goodN
  rw [h.eq, loopK_stop]
  unfold goodF; rw [if_pos (by rw [List.drop_eq_nil_iff]; omega)]
end Go.Proofs.YtahohmdbiiknoaaDoor

/- Layer 12, plain: how what stands within a node is found, each node gone through once. -/
namespace Go.Proofs.YtahohmdbiiknoaaDoor

theorem getD_set (K : List Bool) (a j : Nat) (v : Bool) : (K.set a v).getD j false = if a = j ∧ a < K.length then v else K.getD j false := by
  by_cases e : a = j
  · subst e
    by_cases h : a < K.length
    · simp [List.getD, h]
    · simp [List.getD, h]
  · simp [List.getD, e]
/-- What is known, and of what it is known that it stands within i: behind k of the places. -/
structure WI (l : List Nd) (i : Int) (K I : List Bool) (k : Nat) : Prop where
  lk : K.length = l.length
  li : I.length = l.length
  ki : K.getD i.toNat false = true
  sub : ∀ j, I.getD j false = true → K.getD j false = true
  ok : ∀ j, j < l.length → K.getD j false = true → (I.getD j false = true ↔ Within l i (j : Int))
  done : ∀ j, j < k → K.getD j false = true
theorem WI.start {l : List Nd} {i : Int} (h : placeB l i = true) : WI l i ((List.replicate l.length false).set i.toNat true) ((List.replicate l.length false).set i.toNat true) 0 := by
  have hp := place_iff.1 h
  have hi : (i.toNat : Int) = i := by omega
  refine ⟨by simp, by simp, ?_, fun _ h => h, fun j hj h1 => ?_, fun j hj => by omega⟩
  · rw [getD_set, if_pos ⟨rfl, by simp; omega⟩]
  · refine ⟨fun _ => ?_, fun _ => h1⟩
    rw [getD_set] at h1
    split at h1
    · rename_i e
      rw [← e.1, hi]
      exact .here h
    · simp [List.getD, hj] at h1
/-- The way up from f. -/
def itN (l : List Nd) (f : Int) : Nat → Int
  | 0 => f
  | m + 1 => upN l (itN l f m)
/-- The way up from f, m nodes long, all of them new. -/
structure W2 (l : List Nd) (f : Int) (K0 K : List Bool) (m : Nat) : Prop where
  len : K.length = l.length
  fresh : ∀ a, a < m → placeB l (itN l f a) = true ∧ K0.getD (itN l f a).toNat false = false
  dist : ∀ a b, a < b → b < m → itN l f a ≠ itN l f b
  old : ∀ j, K0.getD j false = true → K.getD j false = true
  new : ∀ j, K.getD j false = true → K0.getD j false = true ∨ ∃ a, a < m ∧ itN l f a = (j : Int)
  mark : ∀ a, a < m → K.getD (itN l f a).toNat false = true
theorem W2.start {l : List Nd} {f : Int} {K : List Bool} (h : K.length = l.length) : W2 l f K K 0 :=
  ⟨h, fun a h => by omega, fun a b h1 h2 => by omega, fun _ h => h, fun _ h => Or.inl h, fun a h => by omega⟩
theorem W2.step {l : List Nd} {f : Int} {K0 K : List Bool} {m : Nat} (h : W2 l f K0 K m) (hp : placeB l (itN l f m) = true) (hk : K.getD (itN l f m).toNat false = false) : W2 l f K0 (K.set (itN l f m).toNat true) (m + 1) := by
  have hp' := place_iff.1 hp
  refine ⟨by simp [h.len], fun a ha => ?_, fun a b hab hb => ?_, fun j hj => ?_, fun j hj => ?_, fun a ha => ?_⟩
  · by_cases e : a = m
    · subst e
      refine ⟨hp, ?_⟩
      cases hq : K0.getD (itN l f a).toNat false
      · rfl
      · rw [h.old _ hq] at hk; cases hk
    · exact h.fresh a (by omega)
  · by_cases e : b = m
    · subst e
      intro e2
      have := h.mark a hab
      rw [e2, hk] at this
      cases this
    · exact h.dist a b hab (by omega)
  · rw [getD_set]
    split
    · rfl
    · exact h.old j hj
  · rw [getD_set] at hj
    split at hj
    · rename_i e
      exact Or.inr ⟨m, by omega, by omega⟩
    · rcases h.new j hj with e | ⟨a, ha, e⟩
      · exact Or.inl e
      · exact Or.inr ⟨a, by omega, e⟩
  · rw [getD_set]
    split
    · rfl
    · rename_i e
      by_cases e2 : a = m
      · subst e2
        exact absurd ⟨rfl, by rw [h.len]; omega⟩ e
      · exact h.mark a (by omega)
theorem W2.first {l : List Nd} {k : Nat} {K0 K : List Bool} {m : Nat} (h : W2 l (k : Int) K0 K m) (hk : k < l.length) (hend : placeB l (itN l k m) = true → K.getD (itN l k m).toNat false = true) : K.getD k false = true := by
  cases m with
  | zero => exact hend (place_nat hk)
  | succ m => exact h.mark 0 (by omega)
/-- The way ended outside, or at a node that doesn't stand within i: none of it does. -/
theorem W2.no {l : List Nd} {i : Int} {K0 K I : List Bool} {k m : Nat} (hW : WI l i K0 I k) (h : W2 l (k : Int) K0 K m) (hk : k < l.length) (hend : placeB l (itN l k m) = true → K.getD (itN l k m).toNat false = true)
    (hno : placeB l (itN l k m) = true → I.getD (itN l k m).toNat false = false) : WI l i K I (k + 1) := by
  have key : ∀ x, Within l i x → (∃ a, a < m ∧ itN l k a = x) → False := by
    intro x hx
    induction hx with
    | here _ =>
      rintro ⟨a, ha, e⟩
      have := (h.fresh a ha).2
      rw [e, hW.ki] at this
      cases this
    | up hp hw ih =>
      rintro ⟨a, ha, rfl⟩
      by_cases e : a + 1 < m
      · exact ih ⟨a + 1, e, rfl⟩
      · obtain rfl : m = a + 1 := by omega
        have hpl := hw.place
        have h1 := hend hpl
        have h2 := hno hpl
        have hpl' := place_iff.1 hpl
        rcases h.new _ h1 with h3 | ⟨b, hb, e2⟩
        · have hc : ((itN l k (a + 1)).toNat : Int) = itN l k (a + 1) := Int.toNat_of_nonneg hpl'.1
          have := (hW.ok (itN l k (a + 1)).toNat (by have : itN l k (a + 1) < l.length := hpl'.2; omega) h3).2 (by rw [hc]; exact hw)
          rw [this] at h2
          cases h2
        · exact ih ⟨b, hb, by rw [e2]; exact Int.toNat_of_nonneg hpl'.1⟩
  refine ⟨h.len, hW.li, h.old _ hW.ki, fun j hj => h.old j (hW.sub j hj), fun j hj h1 => ?_, fun j hj => ?_⟩
  · rcases h.new j h1 with h2 | ⟨a, ha, e⟩
    · exact hW.ok j hj h2
    · refine ⟨fun h3 => ?_, fun h3 => (key _ h3 ⟨a, ha, e⟩).elim⟩
      have := (h.fresh a ha).2
      rw [e, Int.toNat_natCast, hW.sub j h3] at this
      cases this
  · by_cases e : j = k
    · subst e; exact h.first hk hend
    · exact h.old j (hW.done j (by omega))
/-- What of the way is told to stand within i: its first c nodes. -/
structure W3 (l : List Nd) (f : Int) (I0 I : List Bool) (m c : Nat) : Prop where
  len : I.length = l.length
  le : c ≤ m
  old : ∀ j, I0.getD j false = true → I.getD j false = true
  new : ∀ j, I.getD j false = true → I0.getD j false = true ∨ ∃ a, a < c ∧ itN l f a = (j : Int)
  mark : ∀ a, a < c → I.getD (itN l f a).toNat false = true
theorem W3.start {l : List Nd} {f : Int} {I : List Bool} {m : Nat} (h : I.length = l.length) : W3 l f I I m 0 :=
  ⟨h, Nat.zero_le _, fun _ h => h, fun _ h => Or.inl h, fun a h => by omega⟩
section
variable {l : List Nd} {i : Int} {K0 K I I' : List Bool} {k m c : Nat}
theorem W3.place (_hW : WI l i K0 I k) (h2 : W2 l (k : Int) K0 K m) (h : W3 l (k : Int) I I' m c) (hp : placeB l (itN l k m) = true) : placeB l (itN l k c) = true := by
  by_cases e : c = m
  · rw [e]; exact hp
  · exact (h2.fresh c (by have := h.le; omega)).1
theorem W3.lt (h : W3 l (k : Int) I I' m c) (hin : I.getD (itN l k m).toNat false = true) (hc : I'.getD (itN l k c).toNat false = false) : c < m := by
  by_cases e : c = m
  · subst e
    rw [h.old _ hin] at hc
    cases hc
  · have := h.le; omega
theorem W3.step (h2 : W2 l (k : Int) K0 K m) (h : W3 l (k : Int) I I' m c) (hc : c < m) : W3 l (k : Int) I (I'.set (itN l k c).toNat true) m (c + 1) := by
  have hp := place_iff.1 (h2.fresh c hc).1
  refine ⟨by simp [h.len], by omega, fun j hj => ?_, fun j hj => ?_, fun a ha => ?_⟩
  · rw [getD_set]
    split
    · rfl
    · exact h.old j hj
  · rw [getD_set] at hj
    split at hj
    · exact Or.inr ⟨c, by omega, by omega⟩
    · rcases h.new j hj with e | ⟨a, ha, e⟩
      · exact Or.inl e
      · exact Or.inr ⟨a, by omega, e⟩
  · rw [getD_set]
    split
    · rfl
    · rename_i e
      by_cases e2 : a = c
      · subst e2
        exact absurd ⟨rfl, by rw [h.len]; omega⟩ e
      · exact h.mark a (by omega)
/-- It stops behind the whole way. -/
theorem W3.whole (hW : WI l i K0 I k) (h2 : W2 l (k : Int) K0 K m) (h : W3 l (k : Int) I I' m c) (hc : I'.getD (itN l k c).toNat false = true) : c = m := by
  by_cases e : c = m
  · exact e
  · exfalso
    have hcm : c < m := by have := h.le; omega
    have hf := h2.fresh c hcm
    have hp := place_iff.1 hf.1
    rcases h.new _ hc with h3 | ⟨a, ha, e2⟩
    · rw [hW.sub _ h3] at hf
      cases hf.2
    · refine h2.dist a c ha hcm ?_
      rw [e2]
      exact Int.toNat_of_nonneg hp.1
theorem W3.yes (hW : WI l i K0 I k) (h2 : W2 l (k : Int) K0 K m) (h : W3 l (k : Int) I I' m m) (hk : k < l.length) (hp : placeB l (itN l k m) = true) (hkn : K.getD (itN l k m).toNat false = true) (hin : I.getD (itN l k m).toNat false = true) : WI l i K I' (k + 1) := by
  have hp' := place_iff.1 hp
  have hm : Within l i (itN l k m) := by
    have := (hW.ok (itN l k m).toNat (by omega) (hW.sub _ hin)).1 hin
    rwa [Int.toNat_of_nonneg hp'.1] at this
  have hall : ∀ d a, a + d = m → Within l i (itN l k a) := by
    intro d
    induction d with
    | zero => intro a e; obtain rfl : a = m := by omega
              exact hm
    | succ d ih => intro a e; exact .up (h2.fresh a (by omega)).1 (ih (a + 1) (by omega))
  refine ⟨h2.len, h.len, h2.old _ hW.ki, fun j hj => ?_, fun j hj h1 => ?_, fun j hj => ?_⟩
  · rcases h.new j hj with e | ⟨a, ha, e⟩
    · exact h2.old j (hW.sub j e)
    · have := h2.mark a ha
      rw [e, Int.toNat_natCast] at this
      exact this
  · rcases h2.new j h1 with h3 | ⟨a, ha, e⟩
    · refine ⟨fun h4 => ?_, fun h4 => h.old j ((hW.ok j hj h3).2 h4)⟩
      rcases h.new j h4 with h5 | ⟨a, ha, e⟩
      · exact (hW.ok j hj h3).1 h5
      · rw [← e]; exact hall (m - a) a (by omega)
    · refine ⟨fun _ => ?_, fun _ => ?_⟩
      · rw [← e]; exact hall (m - a) a (by omega)
      · have := h.mark a ha
        rw [e, Int.toNat_natCast] at this
        exact this
  · by_cases e : j = k
    · subst e; exact h2.first hk fun _ => hkn
    · exact h2.old j (hW.done j (by omega))
end
/-- In the end: just what stands within i. -/
theorem WI.ends {l : List Nd} {i : Int} {K I : List Bool} (h : WI l i K I l.length) : I = (List.range l.length).map fun j : Nat => winB l i (j : Int) := by
  refine List.ext_getElem (by simp [h.li]) fun j h1 h2 => ?_
  have hj : j < l.length := by rw [← h.li]; exact h1
  have := h.ok j hj (h.done j hj)
  rw [List.getElem_map, List.getElem_range]
  rw [show I.getD j false = I[j] by simp [List.getD, h1]] at this
  rw [Bool.eq_iff_iff, winB_iff]
  exact this
end Go.Proofs.YtahohmdbiiknoaaDoor

/- Layer 14, plain: a field; which item each node stands within; the part of a list that tells of one item. -/
namespace Go.Proofs.YtahohmdbiiknoaaDoor

/-- A field: the first kid's text of a name, cleaned. -/
def fieldB (l : List Nd) (i : Int) (nm : List UInt8) : Option (List UInt8) :=
  match namedB l i nm with
  | [] => none
  | j :: _ => some (cleanB (textB l j))
def linkL : List UInt8 := [108, 105, 110, 107]
/-- The attributes of the kids link. -/
def linksB (l : List Nd) (i : Int) : List (List At) := (namedB l i linkL).map fun j => (atN l j).attrs
/-- The nearest place of S at j or above. -/
inductive Near (l : List Nd) (S : List Int) : Int → Int → Prop where
  | here {j : Int} : placeB l j = true → j ∈ S → Near l S j j
  | up {j p : Int} : placeB l j = true → j ∉ S → Near l S (upN l j) p → Near l S j p
section
variable {l : List Nd} {S : List Int} {c p q x : Int}
theorem Near.place (h : Near l S x p) : placeB l x = true := by cases h <;> assumption
theorem Near.mem (h : Near l S x p) : p ∈ S := by induction h with
  | here _ h => exact h
  | up _ _ _ ih => exact ih
theorem Near.top (h : Near l S x p) : placeB l p = true := by induction h with
  | here h _ => exact h
  | up _ _ _ ih => exact ih
theorem near_uniq (h : Near l S x p) : Near l S x q → p = q := by
  induction h with
  | here hp hm =>
    intro k
    cases k with
    | here => rfl
    | up _ hn _ => exact absurd hm hn
  | up hp hn _ ih =>
    intro k
    cases k with
    | here _ hm => exact absurd hm hn
    | up _ _ k => exact ih k
theorem near_up (hS : ∀ s ∈ S, upN l s = c) (hc : Near l S c q) (h : Near l S x q) : Near l S (upN l x) q := by
  cases h with
  | here _ hm => rw [hS _ hm]; exact hc
  | up _ _ h => exact h
theorem near_of_within (hp : p ∈ S) (h : Within l p x) : ∃ q, Near l S x q := by
  induction h with
  | here h => exact ⟨_, .here h hp⟩
  | @up k h _ ih =>
    by_cases hk : k ∈ S
    · exact ⟨_, .here h hk⟩
    · obtain ⟨q, hq⟩ := ih
      exact ⟨q, .up h hk hq⟩
theorem near_keep (hS : ∀ s ∈ S, upN l s = c) (hc : Near l S c q) (h : Within l p x) : Near l S x q → Near l S p q := by
  induction h with
  | here _ => exact id
  | up _ _ ih => exact fun k => ih (near_up hS hc k)
/-- What the channel doesn't stand within, of that nothing is above it. -/
theorem not_within (hS : ∀ s ∈ S, upN l s = c) (hp : p ∈ S) (hno : ¬ Near l S c p) : ¬ Within l p c := fun h => by
  obtain ⟨q, hq⟩ := near_of_within hp h
  have h2 := near_keep hS hq h hq
  have h3 := near_uniq (Near.here h2.place hp) h2
  subst h3
  exact hno hq
end
/-- The list of owners: each node's nearest item's number. -/
structure Own (l : List Nd) (S : List Int) (O : List Int) : Prop where
  len : O.length = l.length
  ok : ∀ j, j < l.length → (O.getD j (-2) = -1 ∧ ∀ p, ¬ Near l S (j : Int) p) ∨ ∃ i, i < S.length ∧ O.getD j (-2) = (i : Int) ∧ Near l S (j : Int) (S.getD i 0)
theorem nodup_inj {α : Type} {S : List α} (hn : S.Nodup) {i j : Nat} (hi : i < S.length) (hj : j < S.length) (h : S[i] = S[j]) : i = j := by
  have hp := List.pairwise_iff_getElem.1 hn
  rcases Nat.lt_trichotomy i j with e | e | e
  · exact absurd h (hp i j hi hj e)
  · exact e
  · exact absurd h.symm (hp j i hj hi e)
theorem getD_inj {S : List Int} (hn : S.Nodup) {i j : Nat} (hi : i < S.length) (hj : j < S.length) (h : S.getD i 0 = S.getD j 0) : i = j := by
  have e1 : S.getD i 0 = S[i] := by simp [List.getD, hi]
  have e2 : S.getD j 0 = S[j] := by simp [List.getD, hj]
  rw [e1, e2] at h
  exact nodup_inj hn hi hj h
theorem Own.iff {l : List Nd} {S O : List Int} (h : Own l S O) (hn : S.Nodup) {i j : Nat} (hi : i < S.length) (hj : j < l.length) : O.getD j (-2) = (i : Int) ↔ Near l S (j : Int) (S.getD i 0) := by
  rcases h.ok j hj with ⟨e, hno⟩ | ⟨i', hi', e, hnr⟩
  · exact ⟨fun e2 => by omega, fun k => absurd k (hno _)⟩
  · refine ⟨fun e2 => ?_, fun k => ?_⟩
    · have : i' = i := by omega
      subst this; exact hnr
    · have := getD_inj hn hi' hi (near_uniq hnr k)
      rw [e, this]
/-- The places of one owner, among the first t. -/
def ownL (O : List Int) (k : Int) (t : Nat) : List Nat := (List.range t).filter fun j => decide (O.getD j (-2) = k)
/-- A node's place among those of its owner. -/
def plN (O : List Int) (j : Nat) : Nat := (ownL O (O.getD j (-2)) j).length
theorem ownL_succ (O : List Int) (k : Int) (t : Nat) : ownL O k (t + 1) = ownL O k t ++ if O.getD t (-2) = k then [t] else [] := by
  unfold ownL
  rw [List.range_succ, List.filter_append]
  congr 1
  by_cases h : O.getD t (-2) = k
  · rw [if_pos h, List.filter_cons, if_pos (by rw [decide_eq_true_eq]; exact h)]; rfl
  · rw [if_neg h, List.filter_cons, if_neg (by rw [decide_eq_true_eq]; exact h)]; rfl
theorem ownL_app (O : List Int) (k : Int) (t d : Nat) : ∃ r, ownL O k (t + d) = ownL O k t ++ r := by
  induction d with
  | zero => exact ⟨[], by simp⟩
  | succ d ih =>
    obtain ⟨r, hr⟩ := ih
    rw [← Nat.add_assoc, ownL_succ, hr, List.append_assoc]
    exact ⟨_, rfl⟩
theorem ownL_mem {O : List Int} {k : Int} {t j : Nat} : j ∈ ownL O k t ↔ j < t ∧ O.getD j (-2) = k := by unfold ownL; simp
theorem own_at {O : List Int} {k : Int} {n j : Nat} (hj : j < n) (ho : O.getD j (-2) = k) : (ownL O k n)[plN O j]? = some j ∧ plN O j < (ownL O k n).length := by
  obtain ⟨r, hr⟩ := ownL_app O k (j + 1) (n - (j + 1))
  rw [show j + 1 + (n - (j + 1)) = n by omega, ownL_succ, if_pos ho] at hr
  have hp : plN O j = (ownL O k j).length := by unfold plN; rw [ho]
  rw [hr, hp]
  refine ⟨by simp [List.append_assoc], by simp⟩
theorem ownL_nodup (O : List Int) (k : Int) (t : Nat) : (ownL O k t).Nodup := List.Pairwise.filter _ List.nodup_range
theorem own_back {O : List Int} {k : Int} {n t : Nat} (ht : t < (ownL O k n).length) : plN O ((ownL O k n)[t]'ht) = t := by
  have hm := ownL_mem.1 (List.getElem_mem ht)
  obtain ⟨h1, h2⟩ := own_at hm.1 hm.2
  rw [List.getElem?_eq_getElem h2] at h1
  injection h1 with h1
  exact nodup_inj (ownL_nodup O k n) h2 ht h1
theorem plN_inj {O : List Int} {k : Int} {n i j : Nat} (hi : i < n) (hj : j < n) (h1 : O.getD i (-2) = k) (h2 : O.getD j (-2) = k) (h : plN O i = plN O j) : i = j := by
  have a := (own_at hi h1).1
  have b := (own_at hj h2).1
  rw [h, b] at a
  injection a with a
  exact a.symm
/-- A node within the part of s. -/
def pcNd (l : List Nd) (O : List Int) (s : Nat) (j : Nat) : Nd := { atN l (j : Int) with up := if j = s then -1 else (plN O (upN l (j : Int)).toNat : Int) }
/-- The part of l that tells of the item s, whose number is k. -/
def pieceB (l : List Nd) (O : List Int) (k : Int) (s t : Nat) : List Nd := (ownL O k t).map (pcNd l O s)

theorem flat_filter {α β : Type} (p : α → Bool) (f : α → List β) : ∀ l : List α, (∀ x ∈ l, p x = false → f x = []) → l.flatMap f = (l.filter p).flatMap f
  | [], _ => rfl
  | x :: t, h => by
    have ih := flat_filter p f t (fun y hy => h y (List.mem_cons_of_mem _ hy))
    cases hp : p x
    · rw [List.flatMap_cons, h x (List.mem_cons_self ..) hp, List.filter_cons, hp]; simpa using ih
    · rw [List.flatMap_cons, List.filter_cons, hp]; simp [ih]
theorem range_map (J : List Nat) : (List.range J.length).map (fun t => J.getD t 0) = J := by
  refine List.ext_getElem (by simp) fun i h1 h2 => ?_
  simp [List.getD, h2]
theorem range_flat {β : Type} (J : List Nat) (g : Nat → List β) : (List.range J.length).flatMap (fun t => g (J.getD t 0)) = J.flatMap g := by
  have := congrArg (fun L => List.flatMap g L) (range_map J)
  simpa [List.flatMap_map] using this
theorem filter_map' {α β : Type} (p : β → Bool) (f : α → β) (l : List α) : (l.map f).filter p = (l.filter fun x => p (f x)).map f := by
  rw [List.filter_map]; rfl

/-- What a part of a list keeps: the item s stands at S's number i, its channel at c. -/
structure PcOk (l : List Nd) (S O : List Int) (c : Int) (i s : Nat) : Prop where
  own : Own l S O
  nodup : S.Nodup
  lt : i < S.length
  at_ : S.getD i 0 = (s : Int)
  kids : ∀ x ∈ S, placeB l x = true ∧ upN l x = c ∧ x ≠ c
  no : ¬ Near l S c (s : Int)
section
variable {l : List Nd} {S O : List Int} {c : Int} {i s : Nat}
theorem PcOk.mem (h : PcOk l S O c i s) : (s : Int) ∈ S := by
  rw [← h.at_]
  have : S.getD i 0 = S[i]'h.lt := by simp [List.getD, h.lt]
  rw [this]
  exact List.getElem_mem _
theorem PcOk.sl (h : PcOk l S O c i s) : s < l.length := by have := place_iff.1 (h.kids _ h.mem).1; omega
theorem PcOk.iff (h : PcOk l S O c i s) {j : Nat} (hj : j < l.length) : O.getD j (-2) = (i : Int) ↔ Near l S (j : Int) (s : Int) := by
  have := h.own.iff h.nodup h.lt hj
  rw [h.at_] at this
  exact this
theorem PcOk.item (h : PcOk l S O c i s) : O.getD s (-2) = (i : Int) := (h.iff h.sl).2 (.here (h.kids _ h.mem).1 h.mem)
/-- One step up, within the part. -/
theorem PcOk.step (_h : PcOk l S O c i s) {x : Int} (hn : Near l S x (s : Int)) (hne : x ≠ (s : Int)) : x ∉ S ∧ Near l S (upN l x) (s : Int) := by
  cases hn with
  | here => exact absurd rfl hne
  | up _ h1 h2 => exact ⟨h1, h2⟩
/-- A kid of the item. -/
structure KidOf (l : List Nd) (S : List Int) (s a : Nat) : Prop where
  up : upN l (a : Int) = (s : Int)
  ne : (a : Int) ≠ (s : Int)
  lt : a < l.length
theorem PcOk.kid (h : PcOk l S O c i s) {a : Nat} (k : KidOf l S s a) : (a : Int) ∉ S := fun hm => by
  have h1 := (h.kids _ hm).2.1
  rw [k.up] at h1
  have h2 := (h.kids _ h.mem).2.2
  exact h2 h1
theorem PcOk.near (h : PcOk l S O c i s) {a : Nat} (k : KidOf l S s a) {x : Int} (hw : Within l (a : Int) x) : Near l S x (s : Int) := by
  induction hw with
  | here hp => exact .up hp (h.kid k) (by rw [k.up]; exact .here (h.kids _ h.mem).1 h.mem)
  | @up y hp _ ih =>
    by_cases hy : y ∈ S
    · have e := (h.kids _ hy).2.1
      rw [e] at ih
      exact absurd ih h.no
    · exact .up hp hy ih
theorem PcOk.not_item (h : PcOk l S O c i s) {a : Nat} (k : KidOf l S s a) {y : Int} (hw : Within l (a : Int) (upN l y)) : y ∉ S := fun hy => by
  have e := (h.kids _ hy).2.1
  have := h.near k hw
  rw [e] at this
  exact h.no this
theorem pc_len (t : Nat) : (pieceB l O (i : Int) s t).length = (ownL O (i : Int) t).length := by unfold pieceB; simp
theorem PcOk.atP (_h : PcOk l S O c i s) {j : Nat} (hj : j < l.length) (ho : O.getD j (-2) = (i : Int)) : atN (pieceB l O (i : Int) s l.length) (plN O j : Int) = pcNd l O s j ∧ placeB (pieceB l O (i : Int) s l.length) (plN O j : Int) = true := by
  obtain ⟨h1, h2⟩ := own_at hj ho
  refine ⟨?_, place_nat (by rw [pc_len]; exact h2)⟩
  unfold atN pieceB
  rw [Int.toNat_natCast, List.getD, List.getElem?_map, h1]
  rfl
theorem PcOk.upP (h : PcOk l S O c i s) {j : Nat} (hj : j < l.length) (ho : O.getD j (-2) = (i : Int)) : upN (pieceB l O (i : Int) s l.length) (plN O j : Int) = if j = s then -1 else (plN O (upN l (j : Int)).toNat : Int) := by
  unfold upN
  rw [(h.atP hj ho).1]
  rfl
theorem PcOk.within (h : PcOk l S O c i s) {a : Nat} (k : KidOf l S s a) : ∀ x, Within l (a : Int) x → ∀ j : Nat, x = (j : Int) → Within (pieceB l O (i : Int) s l.length) (plN O a : Int) (plN O j : Int) := by
  intro x hw
  have hak := (h.iff k.lt).2 (h.near k (.here (place_nat k.lt)))
  induction hw with
  | here hp =>
    intro j e
    have : a = j := by omega
    subst this
    exact .here (h.atP k.lt hak).2
  | @up y hp hw ih =>
    intro j e
    subst e
    have hj : j < l.length := by have := place_iff.1 hp; omega
    have hnr := h.near k (.up hp hw)
    have ho := (h.iff hj).2 hnr
    have hys := h.not_item k hw
    have hne : j ≠ s := fun e => hys (by rw [e]; exact h.mem)
    refine .up (h.atP hj ho).2 ?_
    rw [h.upP hj ho, if_neg hne]
    have hpl := place_iff.1 hw.place
    exact ih (upN l (j : Int)).toNat (by omega)
theorem PcOk.back (h : PcOk l S O c i s) {a : Nat} (k : KidOf l S s a) : ∀ x, Within (pieceB l O (i : Int) s l.length) (plN O a : Int) x → ∀ j : Nat, j < l.length → O.getD j (-2) = (i : Int) → x = (plN O j : Int) → Within l (a : Int) (j : Int) := by
  intro x hw
  have hak := (h.iff k.lt).2 (h.near k (.here (place_nat k.lt)))
  induction hw with
  | here _ =>
    intro j hj ho e
    have : a = j := plN_inj k.lt hj hak ho (by omega)
    subst this
    exact .here (place_nat hj)
  | up _ hw ih =>
    intro j hj ho e
    subst e
    rw [h.upP hj ho] at hw ih
    by_cases hne : j = s
    · rw [if_pos hne] at hw
      have := place_iff.1 hw.place
      omega
    · rw [if_neg hne] at ih
      have hst := h.step ((h.iff hj).1 ho) (by omega)
      have hpl := place_iff.1 hst.2.place
      have e3 : ((upN l (j : Int)).toNat : Int) = upN l (j : Int) := by omega
      have := ih (upN l (j : Int)).toNat (by omega) ((h.iff (by omega)).2 (by rw [e3]; exact hst.2)) rfl
      rw [e3] at this
      exact .up (place_nat hj) this
theorem PcOk.win (h : PcOk l S O c i s) {a : Nat} (k : KidOf l S s a) {j : Nat} (hj : j < l.length) (ho : O.getD j (-2) = (i : Int)) : winB (pieceB l O (i : Int) s l.length) (plN O a : Int) (plN O j : Int) = winB l (a : Int) (j : Int) := by
  rw [Bool.eq_iff_iff, winB_iff, winB_iff]
  exact ⟨fun w => h.back k _ w j hj ho rfl, fun w => h.within k _ w j rfl⟩
/-- The text of a kid is the same. -/
theorem PcOk.text (h : PcOk l S O c i s) {a : Nat} (k : KidOf l S s a) : textB (pieceB l O (i : Int) s l.length) (plN O a : Int) = textB l (a : Int) := by
  have hak := (h.iff k.lt).2 (h.near k (.here (place_nat k.lt)))
  unfold textB
  rw [if_pos (h.atP k.lt hak).2, if_pos (place_nat k.lt)]
  unfold textTo
  rw [flat_filter (fun j => decide (O.getD j (-2) = (i : Int))) (bitB l (a : Int)) (List.range l.length) (fun j hj ho => by
    rw [List.mem_range] at hj
    rw [decide_eq_false_iff_not] at ho
    unfold bitB
    rw [if_neg]
    rintro ⟨_, hw⟩
    exact ho ((h.iff hj).2 (h.near k (winB_iff.1 hw))))]
  show _ = (ownL O (i : Int) l.length).flatMap _
  rw [pc_len, ← range_flat (ownL O (i : Int) l.length) (bitB l (a : Int))]
  unfold List.flatMap
  congr 1
  refine List.map_congr_left fun t ht => ?_
  rw [List.mem_range] at ht
  have hg : (ownL O (i : Int) l.length).getD t 0 = (ownL O (i : Int) l.length)[t] := by simp [List.getD, ht]
  obtain ⟨j1, j2⟩ := ownL_mem.1 (List.getElem_mem ht)
  have hb := own_back ht
  rw [hg]
  generalize (ownL O (i : Int) l.length)[t] = j at j1 j2 hb
  have e := (h.atP j1 j2).1
  have w := h.win k j1 j2
  rw [hb] at e w
  unfold bitB
  rw [e, w]
  rfl
/-- Its kids, too. -/
theorem PcOk.named (h : PcOk l S O c i s) (nm : List UInt8) (hnm : nm ≠ []) : namedB l (s : Int) nm = (namedB (pieceB l O (i : Int) s l.length) (plN O s : Int) nm).map fun t => (((ownL O (i : Int) l.length).getD t.toNat 0 : Nat) : Int) := by
  have hsi := h.item
  unfold namedB kidsB
  rw [if_neg hnm, if_neg hnm, if_pos (place_nat h.sl), if_pos (h.atP h.sl hsi).2]
  unfold kidsTo
  rw [filter_map', filter_map', List.filter_filter, List.filter_filter, List.map_map]
  have hJ : (List.range l.length).filter (fun j : Nat => ((atN l (j : Int)).name == nm) && (decide (upN l (j : Int) = (s : Int)) && decide ((j : Int) ≠ (s : Int)))) = (ownL O (i : Int) l.length).filter (fun j : Nat => ((atN l (j : Int)).name == nm) && (decide (upN l (j : Int) = (s : Int)) && decide ((j : Int) ≠ (s : Int)))) := by
    unfold ownL
    rw [List.filter_filter]
    refine List.filter_congr fun j hj => ?_
    rw [List.mem_range] at hj
    cases hq : ((atN l (j : Int)).name == nm) && (decide (upN l (j : Int) = (s : Int)) && decide ((j : Int) ≠ (s : Int)))
    · rfl
    · simp only [Bool.and_eq_true, decide_eq_true_eq] at hq
      have k : KidOf l S s j := ⟨hq.2.1, hq.2.2, hj⟩
      rw [decide_eq_true ((h.iff hj).2 (h.near k (.here (place_nat hj))))]
      rfl
  rw [hJ, ← range_map (ownL O (i : Int) l.length), filter_map', List.map_map, range_map, pc_len]
  have hf : (List.range (ownL O (i : Int) l.length).length).filter (fun t => ((atN l (((ownL O (i : Int) l.length).getD t 0 : Nat) : Int)).name == nm) && (decide (upN l (((ownL O (i : Int) l.length).getD t 0 : Nat) : Int) = (s : Int)) && decide ((((ownL O (i : Int) l.length).getD t 0 : Nat) : Int) ≠ (s : Int)))) =
      (List.range (ownL O (i : Int) l.length).length).filter (fun t : Nat => ((atN (pieceB l O (i : Int) s l.length) (t : Int)).name == nm) && (decide (upN (pieceB l O (i : Int) s l.length) (t : Int) = (plN O s : Int)) && decide ((t : Int) ≠ (plN O s : Int)))) := by
    refine List.filter_congr fun t ht => ?_
    rw [List.mem_range] at ht
    have hg : (ownL O (i : Int) l.length).getD t 0 = (ownL O (i : Int) l.length)[t] := by simp [List.getD, ht]
    obtain ⟨j1, j2⟩ := ownL_mem.1 (List.getElem_mem ht)
    have hb := own_back ht
    rw [hg]
    generalize (ownL O (i : Int) l.length)[t] = j at j1 j2 hb
    have e := (h.atP j1 j2).1
    have u := h.upP j1 j2
    rw [hb] at e u
    rw [e, u]
    have e1 : (pcNd l O s j).name = (atN l (j : Int)).name := rfl
    rw [e1]
    congr 1
    rw [Bool.eq_iff_iff]
    simp only [Bool.and_eq_true, decide_eq_true_eq]
    by_cases hjs : j = s
    · subst hjs
      rw [if_pos rfl, hb]
      exact ⟨fun h => absurd rfl h.2, fun h => absurd rfl h.2⟩
    · rw [if_neg hjs]
      have hst := h.step ((h.iff j1).1 j2) (by omega)
      have hpl := place_iff.1 hst.2.place
      have e3 : ((upN l (j : Int)).toNat : Int) = upN l (j : Int) := by omega
      have ho := (h.iff (j := (upN l (j : Int)).toNat) (by omega)).2 (by rw [e3]; exact hst.2)
      refine ⟨fun ⟨a, b⟩ => ⟨by rw [a]; simp, fun e => hjs (plN_inj j1 h.sl j2 hsi (by omega))⟩, fun ⟨a, b⟩ => ⟨?_, by omega⟩⟩
      have := plN_inj (by omega) h.sl ho hsi (by omega)
      omega
  rw [hf]
  refine List.map_congr_left fun t ht => ?_
  simp
theorem PcOk.field (h : PcOk l S O c i s) (nm : List UInt8) : fieldB (pieceB l O (i : Int) s l.length) (plN O s : Int) nm = fieldB l (s : Int) nm := by
  by_cases hnm : nm = []
  · subst hnm
    unfold fieldB namedB
    simp
  have hn := h.named nm hnm
  unfold fieldB
  rw [hn]
  cases e : namedB (pieceB l O (i : Int) s l.length) (plN O s : Int) nm with
  | nil => rfl
  | cons t r =>
    have ht : t ∈ namedB (pieceB l O (i : Int) s l.length) (plN O s : Int) nm := by rw [e]; exact List.mem_cons_self ..
    have ht2 : t ∈ kidsB (pieceB l O (i : Int) s l.length) (plN O s : Int) := by unfold namedB at ht; rw [if_neg hnm] at ht; exact (List.mem_filter.1 ht).1
    have hp := place_iff.1 (kidsB_bd ht2).1
    rw [pc_len] at hp
    have htl : t.toNat < (ownL O (i : Int) l.length).length := by omega
    have hg : (ownL O (i : Int) l.length).getD t.toNat 0 = (ownL O (i : Int) l.length)[t.toNat] := by simp [List.getD, htl]
    have ha : (((ownL O (i : Int) l.length).getD t.toNat 0 : Nat) : Int) ∈ namedB l (s : Int) nm := by rw [hn, e]; exact List.mem_cons_self ..
    have ha2 : (((ownL O (i : Int) l.length).getD t.toNat 0 : Nat) : Int) ∈ kidsB l (s : Int) := by unfold namedB at ha; rw [if_neg hnm] at ha; exact (List.mem_filter.1 ha).1
    obtain ⟨k1, k2, k3, _⟩ := kidsB_bd ha2
    have hb := own_back htl
    rw [← hg] at hb
    have k : KidOf l S s ((ownL O (i : Int) l.length).getD t.toNat 0) := ⟨k2, k3, by have := place_iff.1 k1; omega⟩
    have htx := h.text k
    rw [hb] at htx
    rw [show ((t.toNat : Nat) : Int) = t by omega] at htx
    show some (cleanB (textB _ t)) = some (cleanB (textB l _))
    rw [htx]
/-- What a link's attributes are looked for in. -/
theorem PcOk.links (h : PcOk l S O c i s) : linksB (pieceB l O (i : Int) s l.length) (plN O s : Int) = linksB l (s : Int) := by
  have hn := h.named linkL (by decide)
  unfold linksB
  rw [hn, List.map_map]
  refine List.map_congr_left fun t ht => ?_
  have ht2 : t ∈ kidsB (pieceB l O (i : Int) s l.length) (plN O s : Int) := by unfold namedB at ht; rw [if_neg (by decide)] at ht; exact (List.mem_filter.1 ht).1
  have hp := place_iff.1 (kidsB_bd ht2).1
  rw [pc_len] at hp
  have htl : t.toNat < (ownL O (i : Int) l.length).length := by omega
  have hg : (ownL O (i : Int) l.length).getD t.toNat 0 = (ownL O (i : Int) l.length)[t.toNat] := by simp [List.getD, htl]
  obtain ⟨j1, j2⟩ := ownL_mem.1 (List.getElem_mem htl)
  have hb := own_back htl
  have e := (h.atP j1 j2).1
  rw [hb, show ((t.toNat : Nat) : Int) = t by omega] at e
  show (atN _ t).attrs = (atN l ((((ownL O (i : Int) l.length).getD t.toNat 0 : Nat) : Int))).attrs
  rw [e, hg]
  rfl
end
/-- A part tells of an item what the list does. -/
structure Told (q : List Nd) (j : Int) (l : List Nd) (i : Int) : Prop where
  field : ∀ nm, fieldB q j nm = fieldB l i nm
  links : linksB q j = linksB l i
  from_ : ∀ x ∈ q, ∃ y ∈ l, x.attrs = y.attrs
theorem Told.same (l : List Nd) (i : Int) : Told l i l i := ⟨fun _ => rfl, rfl, fun x hx => ⟨x, hx, rfl⟩⟩
theorem PcOk.told {l : List Nd} {S O : List Int} {c : Int} {i s : Nat} (h : PcOk l S O c i s) : Told (pieceB l O (i : Int) s l.length) (plN O s : Int) l (s : Int) := by
  refine ⟨h.field, h.links, fun x hx => ?_⟩
  unfold pieceB at hx
  obtain ⟨j, hj, rfl⟩ := List.mem_map.1 hx
  have hlt := (ownL_mem.1 hj).1
  refine ⟨l[j], List.getElem_mem hlt, ?_⟩
  unfold pcNd atN
  simp [List.getD, hlt]
end Go.Proofs.YtahohmdbiiknoaaDoor
