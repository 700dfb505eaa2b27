/- The reference of layer 11, plain: what its reader makes of a document. Its steps are layer 11's, but for comments, ends and texts. -/
import Derived.Test.YtahohmdbiiknoaaGreatDoorBR03
import Derived.Test.YtahohmdbiiknoaaGreatDoorBR04
namespace Go.Proofs.YtahohmdbiiknoaaGreatDoor

/-- Where a text stands first. -/
def findE (t : List UInt8) : List UInt8 → Option Nat
  | [] => if t = [] then some 0 else none
  | c :: r => if Lib.hasPrefix (c :: r) t then some 0 else (findE t r).map (· + 1)
theorem findE_short {t : List UInt8} : ∀ {d : List UInt8}, d.length < t.length → findE t d = none
  | [], h => by unfold findE; rw [if_neg (by intro e; subst e; simp at h)]
  | c :: r, h => by
    unfold findE
    have h1 : ¬ Lib.hasPrefix (c :: r) t = true := fun e => by have := prefix_len e; omega
    rw [if_neg h1, findE_short (by simp at h; omega)]
    rfl
theorem findE_le {t : List UInt8} : ∀ {d : List UInt8} {i : Nat}, findE t d = some i → i + t.length ≤ d.length
  | [], i, h => by
    unfold findE at h
    split at h
    · rename_i e; injection h with h; subst h e; simp
    · cases h
  | c :: r, i, h => by
    unfold findE at h
    split at h
    · rename_i e; injection h with h; subst h; have := prefix_len e; omega
    · cases e : findE t r with
      | none => rw [e] at h; cases h
      | some j =>
        rw [e] at h
        have h : j + 1 = i := by injection h
        have := findE_le e
        simp only [List.length_cons]; omega
/-- What a loop that looks for it keeps. -/
structure FiAt (t d : List UInt8) (j : Nat) : Prop where
  le : j ≤ d.length
  eq : findE t d = (findE t (d.drop j)).map (· + j)
theorem FiAt.zero (t d : List UInt8) : FiAt t d 0 := ⟨Nat.zero_le _, by simp⟩
theorem FiAt.step {t d : List UInt8} {j : Nat} (h : FiAt t d j) (hj : j < d.length) (hp : Lib.hasPrefix (d.drop j) t = false) : FiAt t d (j + 1) := by
  refine ⟨hj, ?_⟩
  rw [h.eq]
  rw [List.drop_eq_getElem_cons hj] at hp ⊢
  rw [findE, if_neg (by rw [hp]; decide), Option.map_map]
  congr 1
  funext x
  simp; omega
theorem FiAt.hit {t d : List UInt8} {j : Nat} (h : FiAt t d j) (hp : Lib.hasPrefix (d.drop j) t = true) : findE t d = some j := by
  rw [h.eq]
  cases e : d.drop j with
  | nil =>
    rw [e] at hp
    have := prefix_len hp
    have h0 : t = [] := List.length_eq_zero_iff.1 (by simpa using this)
    unfold findE
    rw [if_pos h0]; simp
  | cons c r => rw [e] at hp; unfold findE; rw [if_pos hp]; simp
theorem FiAt.none {t d : List UInt8} {j : Nat} (h : FiAt t d j) (hl : d.length < j + t.length) : findE t d = none := by
  rw [h.eq, findE_short (by rw [List.length_drop]; have := h.le; omega)]; rfl
/-- A text and the end behind it. -/
def untilR (t d : List UInt8) : Option (List UInt8 × Nat) := (findE t d).map fun i => (d.take i, i + t.length)
theorem untilR_le {t d x : List UInt8} {n : Nat} (h : untilR t d = some (x, n)) : t.length ≤ n ∧ n ≤ d.length ∧ x.length ≤ n := by
  unfold untilR at h
  cases e : findE t d with
  | none => rw [e] at h; cases h
  | some i =>
    rw [e] at h
    injection h with h
    injection h with h1 h2
    have := findE_le e
    subst h1 h2
    rw [List.length_take]; omega
/-- How many bytes a comment takes. -/
def commR (d : List UInt8) : Option Nat :=
  match untilR [45, 45] (d.drop 4) with
  | none => none
  | some (_, n) => if Lib.hasPrefix (d.drop (4 + n)) [62] then some (4 + n + 1) else none
theorem commR_bd {d : List UInt8} {n : Nat} (h : commR d = some n) : 1 ≤ n ∧ n ≤ d.length := by
  unfold commR at h
  split at h
  · cases h
  · rename_i x m e
    split at h
    · rename_i hp
      injection h with h
      have := prefix_len hp
      rw [List.length_drop] at this
      simp at this
      omega
    · cases h
/-- A step of attributes, with the blanks ahead. -/
def attrsRF (l : List At) (d : List UInt8) : Rs (List At) Unit :=
  if Lib.hasPrefix (d.drop (spanN blI d)) [62] then .stop
  else if Lib.hasPrefix (d.drop (spanN blI d)) [47, 62] then .stop
  else if spanN blI d = 0 ∨ l.length = 16 then .bad ()
  else match attrP (d.drop (spanN blI d)) with
    | none => .bad ()
    | some (x, n) => if (l.any fun y => y.1 == x.1) = true then .bad () else .go (l ++ [x]) (spanN blI d + n)
/-- Attributes, up to an element's end; whether it ends at once. -/
def attrsR (d : List UInt8) : Option ((List At × Bool) × Nat) :=
  match loopK attrsRF [] d 0 with
  | (none, l, k) => if Lib.hasPrefix (d.drop (k + spanN blI (d.drop k))) [62] then some ((l, false), k + spanN blI (d.drop k) + 1)
    else if Lib.hasPrefix (d.drop (k + spanN blI (d.drop k))) [47, 62] then some ((l, true), k + spanN blI (d.drop k) + 2) else none
  | (some _, _, _) => none
theorem attrsRF_steps : Steps attrsRF := by
  intro s d s' n h
  unfold attrsRF at h
  split at h
  · cases h
  split at h
  · cases h
  split at h
  · cases h
  split at h
  · cases h
  · rename_i x m e
    split at h
    · cases h
    · injection h with _ h
      have := attrP_le e
      rw [List.length_drop] at this
      have := spanN_le blI d
      omega
theorem attrsR_le {d : List UInt8} {l : List At} {b : Bool} {n : Nat} (h : attrsR d = some ((l, b), n)) : 1 ≤ n ∧ n ≤ d.length := by
  unfold attrsR at h
  have hk := loopK_le attrsRF_steps [] d 0
  revert h
  cases e : loopK attrsRF [] d 0 with
  | mk o y =>
    rw [e] at hk
    obtain ⟨l', k⟩ := y
    cases o with
    | some _ => intro h; cases h
    | none =>
      intro h
      simp only at h
      split at h
      · rename_i hp
        injection h with h
        injection h with h1 h2
        have := prefix_len hp
        rw [List.length_drop] at this
        simp at this
        omega
      · split at h
        · rename_i hp
          injection h with h
          injection h with h1 h2
          have := prefix_len hp
          rw [List.length_drop] at this
          simp at this
          omega
        · cases h
/-- What the loop of attributes keeps. -/
structure ArAt (d : List UInt8) (j : Nat) (l : List At) : Prop where
  le : j ≤ d.length
  eq : loopK attrsRF [] d 0 = loopK attrsRF l (d.drop j) j
  len : l.length ≤ 16
theorem ArAt.zero (d : List UInt8) : ArAt d 0 [] := ⟨Nat.zero_le _, by simp, by simp⟩
theorem ArAt.step {d : List UInt8} {l l' : List At} {j n : Nat} (h : ArAt d j l) (e : attrsRF l (d.drop j) = .go l' n) (hl : l'.length ≤ 16) : ArAt d (j + n) l' := by
  have := attrsRF_steps _ _ _ _ e
  rw [List.length_drop] at this
  exact ⟨by omega, by rw [h.eq, loopK_go attrsRF_steps _ e, List.drop_drop], hl⟩
theorem ArAt.stop {d : List UInt8} {l : List At} {j : Nat} (h : ArAt d j l) (e : attrsRF l (d.drop j) = .stop) : attrsR d = if Lib.hasPrefix (d.drop (j + spanN blI (d.drop j))) [62] then some ((l, false), j + spanN blI (d.drop j) + 1)
    else if Lib.hasPrefix (d.drop (j + spanN blI (d.drop j))) [47, 62] then some ((l, true), j + spanN blI (d.drop j) + 2) else none := by
  unfold attrsR; rw [h.eq, loopK_stop _ e]
theorem ArAt.bad {d : List UInt8} {l : List At} {j : Nat} (h : ArAt d j l) (e : attrsRF l (d.drop j) = .bad ()) : attrsR d = none := by
  unfold attrsR; rw [h.eq, loopK_bad _ e]
/-- An element's begin. -/
def beginR (dep : Int) (s : Sc) (d : List UInt8) : Rs Sc Int :=
  if (s.opn.length : Int) = dep ∨ dep < 1 then .bad 4
  else match nameP (d.drop 1) with
    | none => .bad 3
    | some (nm, n) =>
      match attrsR (d.drop (1 + n)) with
      | none => .bad 3
      | some ((l, true), m) => .go ⟨true, s.opn, [], addT s.text s.toks ⟨3, nm, l, []⟩⟩ (1 + n + m)
      | some ((l, false), m) => .go ⟨true, s.opn ++ [nm], [], addT s.text s.toks ⟨1, nm, l, []⟩⟩ (1 + n + m)
/-- An element's end. -/
def endR (s : Sc) (d : List UInt8) : Rs Sc Int :=
  match nameP (d.drop 2) with
  | none => .bad 3
  | some (nm, n) =>
    if s.opn = [] then .bad 3
    else if s.opn.getLastD [] ≠ nm then .bad 3
    else if Lib.hasPrefix (d.drop (2 + n + spanN blI (d.drop (2 + n)))) [62] then
      .go ⟨s.rooted, s.opn.dropLast, [], addT s.text s.toks ⟨2, nm, [], []⟩⟩ (2 + n + spanN blI (d.drop (2 + n)) + 1)
    else .bad 3
/-- A text more. -/
def moreT (s : Sc) (x : List UInt8) : Sc := ⟨s.rooted, s.opn, s.text ++ x, s.toks⟩
def innerR (dep : Int) (s : Sc) (d : List UInt8) : Rs Sc Int :=
  if Lib.hasPrefix d [60, 47] then endR s d
  else if Lib.hasPrefix d [60, 33, 45, 45] then
    match commR d with
    | none => .bad 3
    | some n => .go s n
  else if Lib.hasPrefix d [60, 33, 91, 67, 68, 65, 84, 65, 91] then
    match untilR [93, 93, 62] (d.drop 9) with
    | none => .bad 3
    | some (x, n) => .go (moreT s x) (9 + n)
  else if Lib.hasPrefix d [60] then if leadsB (d.drop 1) then beginR dep s d else .bad 3
  else if Lib.hasPrefix d [38] then
    match refP d with
    | none => .bad 3
    | some (x, n) => .go (moreT s x) n
  else .go (moreT s (d.take 1)) 1
def outerR (dep : Int) (s : Sc) (d : List UInt8) : Rs Sc Int :=
  if 0 < spanN blI d then .go s (spanN blI d)
  else if Lib.hasPrefix d [60, 33, 45, 45] then
    match commR d with
    | none => .bad 3
    | some n => .go s n
  else if s.rooted = false ∧ elemB d = true then beginR dep s d else .bad 3
def stepR (dep : Int) (s : Sc) (d : List UInt8) : Rs Sc Int :=
  if d = [] then .stop else if s.opn = [] then outerR dep s d else innerR dep s d
/-- What stands once, ahead of all else. -/
def preR (d : List UInt8) : Option Nat :=
  if Lib.hasPrefix (d.drop (if Lib.hasPrefix d [239, 187, 191] then 3 else 0)) [60, 63, 120, 109, 108] = true ∧ 0 < spanN blI (d.drop ((if Lib.hasPrefix d [239, 187, 191] then 3 else 0) + 5)) then
    match untilR [63, 62] (d.drop (if Lib.hasPrefix d [239, 187, 191] then 3 else 0)) with
    | none => none
    | some (_, n) => some ((if Lib.hasPrefix d [239, 187, 191] then 3 else 0) + n)
  else some (if Lib.hasPrefix d [239, 187, 191] then 3 else 0)
/-- A step of runes that may stand in a document. -/
def goodF (_ : Unit) (d : List UInt8) : Rs Unit Unit :=
  if d = [] then .stop else if charB (cutS d).1 = false then .bad () else if (cutS d).1 = 65533 ∧ d.take (cutN d) ≠ [239, 191, 189] then .bad () else .go () (cutN d)
def goodN (l : List UInt8) : Nat := (loopK goodF () l 0).2.2
/-- What the reference answers: tokens, or a fault's number. -/
inductive OutR where
  | toks (l : List Tk)
  | bad (q : Int)
def tokR (dep : Int) (l : List UInt8) : OutR :=
  match preR (l.take (goodN l)) with
  | none => .bad 3
  | some m =>
    match loopK (stepR dep) sc0 ((l.take (goodN l)).drop m) m with
    | (some q, _, _) => .bad q
    | (none, s, _) => if goodN l < l.length ∨ s.rooted = false ∨ s.opn ≠ [] then .bad 3 else .toks s.toks
def OutR.ts : OutR → List Tk
  | .toks t => t
  | .bad _ => []
def OutR.code : OutR → Int
  | .toks _ => 0
  | .bad q => q

theorem beginR_bd {dep : Int} {s s' : Sc} {d : List UInt8} {n : Nat} (h : beginR dep s d = .go s' n) : 1 ≤ n ∧ n ≤ max d.length 1 ∧ ∃ x : Tk, x.text = [] ∧ s'.toks = addT s.text s.toks x ∧ s'.text = [] ∧ s'.opn.length ≤ s.opn.length + 1 := by
  unfold beginR at h
  split at h
  · cases h
  split at h
  · cases h
  · rename_i nm n1 e1
    have h1 := nameP_le e1
    rw [List.length_drop] at h1
    split at h
    · cases h
    · rename_i l m e2
      have h2 := attrsR_le e2
      rw [List.length_drop] at h2
      injection h with ha hb
      subst ha hb
      exact ⟨by omega, by omega, ⟨3, nm, l, []⟩, rfl, rfl, rfl, by simp⟩
    · rename_i l m e2
      have h2 := attrsR_le e2
      rw [List.length_drop] at h2
      injection h with ha hb
      subst ha hb
      exact ⟨by omega, by omega, ⟨1, nm, l, []⟩, rfl, rfl, rfl, by simp⟩
theorem endR_bd {s s' : Sc} {d : List UInt8} {n : Nat} (h : endR s d = .go s' n) : 1 ≤ n ∧ n ≤ d.length ∧ ∃ x : Tk, x.text = [] ∧ s'.toks = addT s.text s.toks x ∧ s'.text = [] ∧ s'.opn.length ≤ s.opn.length + 1 := by
  unfold endR at h
  split at h
  · cases h
  · rename_i nm n1 e1
    split at h
    · cases h
    split at h
    · cases h
    split at h
    · rename_i hp
      have := prefix_len hp
      rw [List.length_drop] at this
      simp at this
      injection h with ha hb
      subst ha hb
      exact ⟨by omega, by omega, ⟨2, nm, [], []⟩, rfl, rfl, rfl, by simp; omega⟩
    · cases h
/-- Bounds of what a step leaves. -/
structure ScOk (s : Sc) (k : Nat) : Prop where
  txt : s.text.length + sumK s.toks ≤ 4 * k
  tok : s.toks.length ≤ 2 * k
  opn : s.opn.length ≤ k
theorem ScOk.tag {s s' : Sc} {k n : Nat} {x : Tk} (h : ScOk s k) (hn : 1 ≤ n) (hx : x.text = []) (h1 : s'.toks = addT s.text s.toks x) (h2 : s'.text = []) (h3 : s'.opn.length ≤ s.opn.length + 1) : ScOk s' (k + n) := by
  have := addT_sum (text := s.text) (toks := s.toks) hx
  have a := h.txt
  have b := h.tok
  have c := h.opn
  exact ⟨by rw [h1, h2]; simp only [List.length_nil]; omega, by rw [h1]; omega, by omega⟩
theorem ScOk.more {s : Sc} {k n : Nat} {x : List UInt8} (h : ScOk s k) (hx : x.length ≤ 4 * n) : ScOk (moreT s x) (k + n) := by
  have a := h.txt
  have b := h.tok
  have c := h.opn
  exact ⟨by unfold moreT; simp only [List.length_append]; omega, by unfold moreT; simp only; omega, by unfold moreT; simp only; omega⟩
theorem ScOk.on {s : Sc} {k : Nat} (h : ScOk s k) (n : Nat) : ScOk s (k + n) := ⟨by have := h.txt; omega, by have := h.tok; omega, by have := h.opn; omega⟩
theorem stepR_bd {dep : Int} {s s' : Sc} {d : List UInt8} {n : Nat} (h : stepR dep s d = .go s' n) : (1 ≤ n ∧ n ≤ d.length) ∧ ∀ k, ScOk s k → ScOk s' (k + n) := by
  unfold stepR at h
  split at h
  · cases h
  rename_i h0
  have hl : 0 < d.length := List.length_pos_iff.2 h0
  have hB : beginR dep s d = .go s' n → (1 ≤ n ∧ n ≤ d.length) ∧ ∀ k, ScOk s k → ScOk s' (k + n) := fun e => by
    obtain ⟨a, b, x, e1, e2, e3, e4⟩ := beginR_bd e
    exact ⟨⟨a, by omega⟩, fun k hk => hk.tag a e1 e2 e3 e4⟩
  have hC : (match commR d with | none => Rs.bad (3 : Int) | some n => .go s n) = .go s' n → (1 ≤ n ∧ n ≤ d.length) ∧ ∀ k, ScOk s k → ScOk s' (k + n) := fun e => by
    revert e
    cases e2 : commR d with
    | none => intro e; cases e
    | some m =>
      intro e
      injection e with ha hb
      subst ha hb
      exact ⟨commR_bd e2, fun k hk => hk.on _⟩
  split at h
  · unfold outerR at h
    split at h
    · injection h with ha hb
      subst ha hb
      exact ⟨⟨by omega, spanN_le _ _⟩, fun k hk => hk.on _⟩
    split at h
    · exact hC h
    split at h
    · exact hB h
    · cases h
  · unfold innerR at h
    split at h
    · obtain ⟨a, b, x, e1, e2, e3, e4⟩ := endR_bd h
      exact ⟨⟨a, b⟩, fun k hk => hk.tag a e1 e2 e3 e4⟩
    split at h
    · exact hC h
    split at h
    · rename_i hp
      have hpl := prefix_len hp
      simp at hpl
      split at h
      · cases h
      · rename_i x m e
        have := untilR_le e
        rw [List.length_drop] at this
        injection h with ha hb
        subst ha hb
        exact ⟨⟨by omega, by omega⟩, fun k hk => hk.more (by omega)⟩
    split at h
    · split at h
      · exact hB h
      · cases h
    split at h
    · split at h
      · cases h
      · rename_i x m e
        have := refP_bd e
        injection h with ha hb
        subst ha hb
        exact ⟨⟨by omega, by omega⟩, fun k hk => hk.more (by omega)⟩
    · injection h with ha hb
      subst ha hb
      exact ⟨⟨by omega, by omega⟩, fun k hk => hk.more (by rw [List.length_take]; omega)⟩
theorem stepR_steps (dep : Int) : Steps (stepR dep) := fun _ _ _ _ h => (stepR_bd h).1
/-- What the loop over a document keeps. -/
structure DrAt (dep : Int) (l : List UInt8) (m k : Nat) (s : Sc) : Prop where
  le : k ≤ l.length
  eq : loopK (stepR dep) sc0 (l.drop m) m = loopK (stepR dep) s (l.drop k) k
  ok : ScOk s k
theorem DrAt.zero {dep : Int} {l : List UInt8} {m : Nat} (h : m ≤ l.length) : DrAt dep l m m sc0 := ⟨h, rfl, ⟨by simp [sc0, sumK], by simp [sc0], by simp [sc0]⟩⟩
theorem DrAt.step {dep : Int} {l : List UInt8} {m k n : Nat} {s s' : Sc} (h : DrAt dep l m k s) (e : stepR dep s (l.drop k) = .go s' n) : DrAt dep l m (k + n) s' ∧ 1 ≤ n := by
  have hb := stepR_bd e
  rw [List.length_drop] at hb
  exact ⟨⟨by have := h.le; omega, by rw [h.eq, loopK_go (stepR_steps dep) _ e, List.drop_drop], hb.2 _ h.ok⟩, hb.1.1⟩
theorem DrAt.bad {dep : Int} {l : List UInt8} {m k : Nat} {s : Sc} {q : Int} (h : DrAt dep l m k s) (e : stepR dep s (l.drop k) = .bad q) : loopK (stepR dep) sc0 (l.drop m) m = (some q, s, k) := by rw [h.eq, loopK_bad _ e]
theorem DrAt.stop {dep : Int} {l : List UInt8} {m k : Nat} {s : Sc} (h : DrAt dep l m k s) (e : k = l.length) : loopK (stepR dep) sc0 (l.drop m) m = (none, s, k) := by
  rw [h.eq, loopK_stop]
  unfold stepR; rw [if_pos (by rw [List.drop_eq_nil_iff]; omega)]
theorem preR_le {l : List UInt8} {m : Nat} (h : preR l = some m) : m ≤ l.length := by
  unfold preR at h
  have hm : (if Lib.hasPrefix l [239, 187, 191] = true then 3 else 0) ≤ l.length := by
    split
    · rename_i hp
      have := prefix_len hp
      simpa using this
    · omega
  generalize (if Lib.hasPrefix l [239, 187, 191] = true then 3 else 0) = q at h hm
  split at h
  · split at h
    · cases h
    · rename_i x n e
      have := untilR_le e
      rw [List.length_drop] at this
      injection h with h
      omega
  · injection h with h
    omega
/-- Its tokens' number, and the bytes of their texts. -/
theorem tokR_len (dep : Int) (l : List UInt8) : (tokR dep l).ts.length ≤ 2 * l.length ∧ sumK (tokR dep l).ts ≤ 4 * l.length := by
  unfold tokR
  generalize hg : goodN l = g
  have hlg : (l.take g).length ≤ l.length := by rw [List.length_take]; omega
  cases hh : preR (l.take g) with
  | none => simp [OutR.ts, sumK]
  | some m =>
    have hm := preR_le hh
    have key : ∀ s d, ∀ k, ScOk s k → k + d.length ≤ l.length → (loopK (stepR dep) s d k).1 = none → ScOk (loopK (stepR dep) s d k).2.1 l.length := by
      refine loopK_ind (stepR_steps dep) (P := fun s d => ∀ k, ScOk s k → k + d.length ≤ l.length → (loopK (stepR dep) s d k).1 = none → ScOk (loopK (stepR dep) s d k).2.1 l.length) ?_ ?_ ?_
      · intro s d x e k _ _ h; rw [loopK_bad _ e] at h; cases h
      · intro s d e k hk hl _
        rw [loopK_stop _ e]
        have := hk.on (l.length - k)
        rw [show k + (l.length - k) = l.length by omega] at this
        exact this
      · intro s d s' n e ih k hk hl h
        have hb := stepR_bd e
        rw [loopK_go (stepR_steps dep) _ e] at h ⊢
        exact ih (k + n) (hb.2 k hk) (by rw [List.length_drop]; omega) h
    have hk := key sc0 ((l.take g).drop m) m ⟨by simp [sc0, sumK], by simp [sc0], by simp [sc0]⟩ (by rw [List.length_drop]; omega)
    revert hk
    simp only
    cases e : loopK (stepR dep) sc0 ((l.take g).drop m) m with
    | mk o y =>
      obtain ⟨s, k⟩ := y
      intro hk
      cases o with
      | some q => simp [OutR.ts, sumK]
      | none =>
        have := hk rfl
        simp only at this ⊢
        split
        · simp [OutR.ts, sumK]
        · exact ⟨this.tok, by have := this.txt; simp only [OutR.ts]; omega⟩
theorem goodF_steps : Steps goodF := by
  intro s d s' n h
  unfold goodF at h
  split at h
  · cases h
  split at h
  · cases h
  split at h
  · cases h
  · rename_i h0 _ _
    injection h with _ h
    subst h
    exact ⟨(cutN_bd d h0).1, (cutN_bd d h0).2.1⟩
structure GoAt (l : List UInt8) (k : Nat) : Prop where
  le : k ≤ l.length
  eq : loopK goodF () l 0 = loopK goodF () (l.drop k) k
theorem GoAt.zero (l : List UInt8) : GoAt l 0 := ⟨Nat.zero_le _, by simp⟩
theorem GoAt.step {l : List UInt8} {k n : Nat} (h : GoAt l k) (e : goodF () (l.drop k) = .go () n) : GoAt l (k + n) := by
  have := goodF_steps _ _ _ _ e
  rw [List.length_drop] at this
  exact ⟨by omega, by rw [h.eq, loopK_go goodF_steps _ e, List.drop_drop]⟩
theorem GoAt.bad {l : List UInt8} {k : Nat} (h : GoAt l k) (e : goodF () (l.drop k) = .bad ()) : goodN l = k := by unfold goodN; rw [h.eq, loopK_bad _ e]
theorem GoAt.stop {l : List UInt8} {k : Nat} (h : GoAt l k) (e : k = l.length) : goodN l = k := by
  unfold goodN
  rw [h.eq, loopK_stop]
  unfold goodF; rw [if_pos (by rw [List.drop_eq_nil_iff]; omega)]
end Go.Proofs.YtahohmdbiiknoaaGreatDoor

/- Layer 12, plain: how what stands within a node is found, each node gone through once. -/
namespace Go.Proofs.YtahohmdbiiknoaaGreatDoor

theorem getD_set (K : List Bool) (a j : Nat) (v : Bool) : (K.set a v).getD j false = if a = j ∧ a < K.length then v else K.getD j false := by
  by_cases e : a = j
  · subst e
    by_cases h : a < K.length
    · simp [List.getD, h]
    · simp [List.getD, h]
  · simp [List.getD, e]
/-- What is known, and of what it is known that it stands within i: behind k of the places. -/
structure WI (l : List Nd) (i : Int) (K I : List Bool) (k : Nat) : Prop where
  lk : K.length = l.length
  li : I.length = l.length
  ki : K.getD i.toNat false = true
  sub : ∀ j, I.getD j false = true → K.getD j false = true
  ok : ∀ j, j < l.length → K.getD j false = true → (I.getD j false = true ↔ Within l i (j : Int))
  done : ∀ j, j < k → K.getD j false = true
theorem WI.start {l : List Nd} {i : Int} (h : placeB l i = true) : WI l i ((List.replicate l.length false).set i.toNat true) ((List.replicate l.length false).set i.toNat true) 0 := by
  have hp := place_iff.1 h
  have hi : (i.toNat : Int) = i := by omega
  refine ⟨by simp, by simp, ?_, fun _ h => h, fun j hj h1 => ?_, fun j hj => by omega⟩
  · rw [getD_set, if_pos ⟨rfl, by simp; omega⟩]
  · refine ⟨fun _ => ?_, fun _ => h1⟩
    rw [getD_set] at h1
    split at h1
    · rename_i e
      rw [← e.1, hi]
      exact .here h
    · simp [List.getD, hj] at h1
/-- The way up from f. -/
def itN (l : List Nd) (f : Int) : Nat → Int
  | 0 => f
  | m + 1 => upN l (itN l f m)
/-- The way up from f, m nodes long, all of them new. -/
structure W2 (l : List Nd) (f : Int) (K0 K : List Bool) (m : Nat) : Prop where
  len : K.length = l.length
  fresh : ∀ a, a < m → placeB l (itN l f a) = true ∧ K0.getD (itN l f a).toNat false = false
  dist : ∀ a b, a < b → b < m → itN l f a ≠ itN l f b
  old : ∀ j, K0.getD j false = true → K.getD j false = true
  new : ∀ j, K.getD j false = true → K0.getD j false = true ∨ ∃ a, a < m ∧ itN l f a = (j : Int)
  mark : ∀ a, a < m → K.getD (itN l f a).toNat false = true
theorem W2.start {l : List Nd} {f : Int} {K : List Bool} (h : K.length = l.length) : W2 l f K K 0 :=
  ⟨h, fun a h => by omega, fun a b h1 h2 => by omega, fun _ h => h, fun _ h => Or.inl h, fun a h => by omega⟩
theorem W2.step {l : List Nd} {f : Int} {K0 K : List Bool} {m : Nat} (h : W2 l f K0 K m) (hp : placeB l (itN l f m) = true) (hk : K.getD (itN l f m).toNat false = false) : W2 l f K0 (K.set (itN l f m).toNat true) (m + 1) := by
  have hp' := place_iff.1 hp
  refine ⟨by simp [h.len], fun a ha => ?_, fun a b hab hb => ?_, fun j hj => ?_, fun j hj => ?_, fun a ha => ?_⟩
  · by_cases e : a = m
    · subst e
      refine ⟨hp, ?_⟩
      cases hq : K0.getD (itN l f a).toNat false
      · rfl
      · rw [h.old _ hq] at hk; cases hk
    · exact h.fresh a (by omega)
  · by_cases e : b = m
    · subst e
      intro e2
      have := h.mark a hab
      rw [e2, hk] at this
      cases this
    · exact h.dist a b hab (by omega)
  · rw [getD_set]
    split
    · rfl
    · exact h.old j hj
  · rw [getD_set] at hj
    split at hj
    · rename_i e
      exact Or.inr ⟨m, by omega, by omega⟩
    · rcases h.new j hj with e | ⟨a, ha, e⟩
      · exact Or.inl e
      · exact Or.inr ⟨a, by omega, e⟩
  · rw [getD_set]
    split
    · rfl
    · rename_i e
      by_cases e2 : a = m
      · subst e2
        exact absurd ⟨rfl, by rw [h.len]; omega⟩ e
      · exact h.mark a (by omega)
theorem W2.first {l : List Nd} {k : Nat} {K0 K : List Bool} {m : Nat} (h : W2 l (k : Int) K0 K m) (hk : k < l.length) (hend : placeB l (itN l k m) = true → K.getD (itN l k m).toNat false = true) : K.getD k false = true := by
  cases m with
  | zero => exact hend (place_nat hk)
  | succ m => exact h.mark 0 (by omega)
/-- The way ended outside, or at a node that doesn't stand within i: none of it does. -/
theorem W2.no {l : List Nd} {i : Int} {K0 K I : List Bool} {k m : Nat} (hW : WI l i K0 I k) (h : W2 l (k : Int) K0 K m) (hk : k < l.length) (hend : placeB l (itN l k m) = true → K.getD (itN l k m).toNat false = true)
    (hno : placeB l (itN l k m) = true → I.getD (itN l k m).toNat false = false) : WI l i K I (k + 1) := by
  have key : ∀ x, Within l i x → (∃ a, a < m ∧ itN l k a = x) → False := by
    intro x hx
    induction hx with
    | here _ =>
      rintro ⟨a, ha, e⟩
      have := (h.fresh a ha).2
      rw [e, hW.ki] at this
      cases this
    | up hp hw ih =>
      rintro ⟨a, ha, rfl⟩
      by_cases e : a + 1 < m
      · exact ih ⟨a + 1, e, rfl⟩
      · obtain rfl : m = a + 1 := by omega
        have hpl := hw.place
        have h1 := hend hpl
        have h2 := hno hpl
        have hpl' := place_iff.1 hpl
        rcases h.new _ h1 with h3 | ⟨b, hb, e2⟩
        · have hc : ((itN l k (a + 1)).toNat : Int) = itN l k (a + 1) := Int.toNat_of_nonneg hpl'.1
          have := (hW.ok (itN l k (a + 1)).toNat (by have : itN l k (a + 1) < l.length := hpl'.2; omega) h3).2 (by rw [hc]; exact hw)
          rw [this] at h2
          cases h2
        · exact ih ⟨b, hb, by rw [e2]; exact Int.toNat_of_nonneg hpl'.1⟩
  refine ⟨h.len, hW.li, h.old _ hW.ki, fun j hj => h.old j (hW.sub j hj), fun j hj h1 => ?_, fun j hj => ?_⟩
  · rcases h.new j h1 with h2 | ⟨a, ha, e⟩
    · exact hW.ok j hj h2
    · refine ⟨fun h3 => ?_, fun h3 => (key _ h3 ⟨a, ha, e⟩).elim⟩
      have := (h.fresh a ha).2
      rw [e, Int.toNat_natCast, hW.sub j h3] at this
      cases this
  · by_cases e : j = k
    · subst e; exact h.first hk hend
    · exact h.old j (hW.done j (by omega))
/-- What of the way is told to stand within i: its first c nodes. -/
structure W3 (l : List Nd) (f : Int) (I0 I : List Bool) (m c : Nat) : Prop where
  len : I.length = l.length
  le : c ≤ m
  old : ∀ j, I0.getD j false = true → I.getD j false = true
  new : ∀ j, I.getD j false = true → I0.getD j false = true ∨ ∃ a, a < c ∧ itN l f a = (j : Int)
  mark : ∀ a, a < c → I.getD (itN l f a).toNat false = true
theorem W3.start {l : List Nd} {f : Int} {I : List Bool} {m : Nat} (h : I.length = l.length) : W3 l f I I m 0 :=
  ⟨h, Nat.zero_le _, fun _ h => h, fun _ h => Or.inl h, fun a h => by omega⟩
section
variable {l : List Nd} {i : Int} {K0 K I I' : List Bool} {k m c : Nat}
theorem W3.place (_hW : WI l i K0 I k) (h2 : W2 l (k : Int) K0 K m) (h : W3 l (k : Int) I I' m c) (hp : placeB l (itN l k m) = true) : placeB l (itN l k c) = true := by
  by_cases e : c = m
  · rw [e]; exact hp
  · exact (h2.fresh c (by have := h.le; omega)).1
theorem W3.lt (h : W3 l (k : Int) I I' m c) (hin : I.getD (itN l k m).toNat false = true) (hc : I'.getD (itN l k c).toNat false = false) : c < m := by
  by_cases e : c = m
  · subst e
    rw [h.old _ hin] at hc
    cases hc
  · have := h.le; omega
theorem W3.step (h2 : W2 l (k : Int) K0 K m) (h : W3 l (k : Int) I I' m c) (hc : c < m) : W3 l (k : Int) I (I'.set (itN l k c).toNat true) m (c + 1) := by
  have hp := place_iff.1 (h2.fresh c hc).1
  refine ⟨by simp [h.len], by omega, fun j hj => ?_, fun j hj => ?_, fun a ha => ?_⟩
  · rw [getD_set]
    split
    · rfl
    · exact h.old j hj
  · rw [getD_set] at hj
    split at hj
    · exact Or.inr ⟨c, by omega, by omega⟩
    · rcases h.new j hj with e | ⟨a, ha, e⟩
      · exact Or.inl e
      · exact Or.inr ⟨a, by omega, e⟩
  · rw [getD_set]
    split
    · rfl
    · rename_i e
      by_cases e2 : a = c
      · subst e2
        exact absurd ⟨rfl, by rw [h.len]; omega⟩ e
      · exact h.mark a (by omega)
/-- It stops behind the whole way. -/
theorem W3.whole (hW : WI l i K0 I k) (h2 : W2 l (k : Int) K0 K m) (h : W3 l (k : Int) I I' m c) (hc : I'.getD (itN l k c).toNat false = true) : c = m := by
  by_cases e : c = m
  · exact e
  · exfalso
    have hcm : c < m := by have := h.le; omega
    have hf := h2.fresh c hcm
    have hp := place_iff.1 hf.1
    rcases h.new _ hc with h3 | ⟨a, ha, e2⟩
    · rw [hW.sub _ h3] at hf
      cases hf.2
    · refine h2.dist a c ha hcm ?_
      rw [e2]
      exact Int.toNat_of_nonneg hp.1
theorem W3.yes (hW : WI l i K0 I k) (h2 : W2 l (k : Int) K0 K m) (h : W3 l (k : Int) I I' m m) (hk : k < l.length) (hp : placeB l (itN l k m) = true) (hkn : K.getD (itN l k m).toNat false = true) (hin : I.getD (itN l k m).toNat false = true) : WI l i K I' (k + 1) := by
  have hp' := place_iff.1 hp
  have hm : Within l i (itN l k m) := by
    have := (hW.ok (itN l k m).toNat (by omega) (hW.sub _ hin)).1 hin
    rwa [Int.toNat_of_nonneg hp'.1] at this
  have hall : ∀ d a, a + d = m → Within l i (itN l k a) := by
    intro d
    induction d with
    | zero => intro a e; obtain rfl : a = m := by omega
              exact hm
    | succ d ih => intro a e; exact .up (h2.fresh a (by omega)).1 (ih (a + 1) (by omega))
  refine ⟨h2.len, h.len, h2.old _ hW.ki, fun j hj => ?_, fun j hj h1 => ?_, fun j hj => ?_⟩
  · rcases h.new j hj with e | ⟨a, ha, e⟩
    · exact h2.old j (hW.sub j e)
    · have := h2.mark a ha
      rw [e, Int.toNat_natCast] at this
      exact this
  · rcases h2.new j h1 with h3 | ⟨a, ha, e⟩
    · refine ⟨fun h4 => ?_, fun h4 => h.old j ((hW.ok j hj h3).2 h4)⟩
      rcases h.new j h4 with h5 | ⟨a, ha, e⟩
      · exact (hW.ok j hj h3).1 h5
      · rw [← e]; exact hall (m - a) a (by omega)
    · refine ⟨fun _ => ?_, fun _ => ?_⟩
      · rw [← e]; exact hall (m - a) a (by omega)
      · have := h.mark a ha
        rw [e, Int.toNat_natCast] at this
        exact this
  · by_cases e : j = k
    · subst e; exact h2.first hk fun _ => hkn
    · exact h2.old j (hW.done j (by omega))
end
/-- In the end: just what stands within i. -/
theorem WI.ends {l : List Nd} {i : Int} {K I : List Bool} (h : WI l i K I l.length) : I = (List.range l.length).map fun j : Nat => winB l i (j : Int) := by
  refine List.ext_getElem (by simp [h.li]) fun j h1 h2 => ?_
  have hj : j < l.length := by rw [← h.li]; exact h1
  have := h.ok j hj (h.done j hj)
  rw [List.getElem_map, List.getElem_range]
  rw [show I.getD j false = I[j] by simp [List.getD, h1]] at this
  rw [Bool.eq_iff_iff, winB_iff]
  exact this
end Go.Proofs.YtahohmdbiiknoaaGreatDoor
