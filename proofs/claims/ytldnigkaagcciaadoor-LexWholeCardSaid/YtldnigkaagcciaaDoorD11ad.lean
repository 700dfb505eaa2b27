/- Layer 11's laws, plain: a document's tokens are those of a tree. -/
import Derived.Test.YtldnigkaagcciaaDoorD11s
import Derived.Test.YtldnigkaagcciaaDoorD11l
namespace Go.Proofs.YtldnigkaagcciaaDoor

/-- A token as it may stand. -/
def TkOk (t : Tk) : Prop := (t.kind = 4 ∧ t.name = [] ∧ t.text ≠ []) ∨ ((t.kind = 1 ∨ t.kind = 2 ∨ t.kind = 3) ∧ nameB t.name = true ∧ t.text = [])
/-- No text beside another one. -/
def Apart (l : List Tk) : Prop := ∀ i a b, l[i]? = some a → l[i + 1]? = some b → ¬ (a.kind = 4 ∧ b.kind = 4)
/-- The last one is no text. -/
def Shut (l : List Tk) : Prop := ∀ x, l.getLast? = some x → x.kind ≠ 4
/-- A token behind open elements; b: the first one. -/
def trF (b : Bool) (op : List (List UInt8)) (t : Tk) : Option (List (List UInt8)) :=
  if b = false ∧ op = [] then none
  else if t.kind = 1 then some (op ++ [t.name])
  else if t.kind = 2 then (if op = [] ∨ op.getLastD [] ≠ t.name then none else some op.dropLast)
  else if t.kind = 4 then (if b = true then none else some op)
  else some op
def trL : List Tk → Bool → List (List UInt8) → Option (List (List UInt8))
  | [], _, op => some op
  | t :: l, b, op => match trF b op t with
    | none => none
    | some o => trL l false o
theorem trL_snoc (x : Tk) : ∀ (l : List Tk) (b : Bool) (op o : List (List UInt8)), trL l b op = some o → trL (l ++ [x]) b op = trF (b && l.isEmpty) o x
  | [], b, op, o, h => by
    injection h with h
    subst h
    rw [List.nil_append, trL]
    simp only [List.isEmpty_nil, Bool.and_true]
    cases trF b op x <;> rfl
  | t :: l, b, op, o, h => by
    rw [trL] at h
    rw [List.cons_append, trL]
    cases e : trF b op t with
    | none => rw [e] at h; cases h
    | some o1 =>
      rw [e] at h
      simp only at h ⊢
      rw [trL_snoc x l false o1 o h]
      simp
theorem apart_snoc {l : List Tk} {x : Tk} (h : Apart l) (hx : Shut l ∨ x.kind ≠ 4) : Apart (l ++ [x]) := by
  intro i a b ha hb ⟨h4a, h4b⟩
  have hi : i + 1 < (l ++ [x]).length := by
    rcases Nat.lt_or_ge (i + 1) (l ++ [x]).length with h | h
    · exact h
    · rw [List.getElem?_eq_none h] at hb; cases hb
  rw [List.length_append] at hi
  simp at hi
  rcases Nat.lt_or_ge (i + 1) l.length with h2 | h2
  · rw [List.getElem?_append_left (by omega)] at ha
    rw [List.getElem?_append_left h2] at hb
    exact h i a b ha hb ⟨h4a, h4b⟩
  · have e : i + 1 = l.length := by omega
    rw [List.getElem?_append_left (by omega)] at ha
    rw [e] at hb
    simp at hb
    subst hb
    rcases hx with hx | hx
    · refine hx a ?_ h4a
      rw [List.getLast?_eq_getElem?, show l.length - 1 = i by omega]
      exact ha
    · exact hx h4b
theorem shut_snoc {l : List Tk} {x : Tk} (hx : x.kind ≠ 4) : Shut (l ++ [x]) := by
  intro y hy
  simp at hy
  subst hy
  exact hx
/-- What a document's steps keep. -/
structure Whole (s : Sc) : Prop where
  fresh : s.rooted = false → s.toks = [] ∧ s.opn = []
  bare : s.opn = [] → s.text = []
  begun : s.rooted = true → s.toks ≠ []
  run : trL s.toks true [] = some s.opn
  ok : ∀ t ∈ s.toks, TkOk t
  apart : Apart s.toks
  shut : Shut s.toks
  names : ∀ nm ∈ s.opn, nameB nm = true
theorem Whole.zero : Whole sc0 := ⟨fun _ => ⟨rfl, rfl⟩, fun _ => rfl, (fun h => by cases h), rfl, fun t h => (by cases h), fun i a b h => (by simp [sc0] at h), fun x h => (by simp [sc0] at h), fun x h => (by cases h)⟩
theorem Whole.words {s : Sc} (h : Whole s) {tx : List UInt8} (ho : s.opn ≠ []) : Whole ⟨s.rooted, s.opn, tx, s.toks⟩ := ⟨h.fresh, fun e => absurd e ho, h.begun, h.run, h.ok, h.apart, h.shut, h.names⟩
theorem Whole.add {s : Sc} (h : Whole s) {x : Tk} {o : List (List UInt8)} (hx : TkOk x) (h4 : x.kind ≠ 4) (hr : trF (s.toks.isEmpty) s.opn x = some o) (hn : ∀ nm ∈ o, nameB nm = true) :
    Whole ⟨true, o, [], addT s.text s.toks x⟩ := by
  have hne : ∀ l : List Tk, l ++ [x] ≠ [] := fun l => by simp
  by_cases ht : 0 < s.text.length
  · have hop : s.opn ≠ [] := fun e => by rw [h.bare e] at ht; simp at ht
    have hroot : s.rooted = true := by
      cases hq : s.rooted
      · exact absurd (h.fresh hq).2 hop
      · rfl
    have htk := h.begun hroot
    have hem : s.toks.isEmpty = false := by
      cases hq : s.toks with
      | nil => exact absurd hq htk
      | cons _ _ => rfl
    have e : addT s.text s.toks x = (s.toks ++ [⟨4, [], [], s.text⟩]) ++ [x] := by unfold addT; rw [if_pos ht]
    have hrun1 : trL (s.toks ++ [⟨4, [], [], s.text⟩]) true [] = some s.opn := by
      rw [trL_snoc _ _ _ _ _ h.run, hem]
      unfold trF
      rw [if_neg (by simp [hop])]
      rfl
    rw [e]
    refine ⟨(fun e => by cases e), fun _ => rfl, fun _ => hne _, ?_, ?_, apart_snoc (apart_snoc h.apart (Or.inl h.shut)) (Or.inr h4), shut_snoc h4, hn⟩
    · show trL (s.toks ++ [⟨4, [], [], s.text⟩] ++ [x]) true [] = some o
      rw [trL_snoc _ _ _ _ _ hrun1, ← hr, hem]
      have e0 : (s.toks ++ [(⟨4, [], [], s.text⟩ : Tk)]).isEmpty = false := by cases s.toks <;> rfl
      rw [e0]; rfl
    · intro t htm
      rcases List.mem_append.1 htm with hm | hm
      · rcases List.mem_append.1 hm with hm | hm
        · exact h.ok t hm
        · obtain rfl := List.mem_singleton.1 hm
          exact Or.inl ⟨rfl, rfl, List.length_pos_iff.1 ht⟩
      · obtain rfl := List.mem_singleton.1 hm
        exact hx
  · have e : addT s.text s.toks x = s.toks ++ [x] := by unfold addT; rw [if_neg ht]
    rw [e]
    refine ⟨(fun e => by cases e), fun _ => rfl, fun _ => hne _, ?_, ?_, apart_snoc h.apart (Or.inr h4), shut_snoc h4, hn⟩
    · show trL (s.toks ++ [x]) true [] = some o
      rw [trL_snoc _ _ _ _ _ h.run, ← hr]
      simp
    · intro t htm
      rcases List.mem_append.1 htm with hm | hm
      · exact h.ok t hm
      · obtain rfl := List.mem_singleton.1 hm
        exact hx
theorem last_mem {l : List (List UInt8)} (h : l ≠ []) : l.getLastD [] ∈ l := by
  cases l with
  | nil => exact absurd rfl h
  | cons a t => rw [List.getLastD_eq_getLast?, List.getLast?_eq_some_getLast (by simp)]; exact List.getLast_mem _
theorem Whole.step {dep : Int} {s s' : Sc} {d : List UInt8} {n : Nat} (h : Whole s) (e : docF dep s d = .go s' n) : Whole s' := by
  by_cases h0 : d = []
  · subst h0; rw [docF_nil] at e; cases e
  cases h1 : Lib.hasPrefix d [60, 33, 45, 45]
  case true =>
    rw [docF_comment h0 h1] at e
    cases e2 : untilP [45, 45, 62] [45, 45] (d.drop 4) with
    | none => rw [e2] at e; cases e
    | some y => obtain ⟨x, m⟩ := y; rw [e2] at e; injection e with ea eb; subst ea eb; exact h
  cases h2 : elemB d
  case true =>
    by_cases h3 : s.rooted = true ∧ s.opn = []
    · rw [docF_two h0 h1 h2 h3] at e; cases e
    by_cases h4 : dep ≤ s.opn.length
    · rw [docF_deep h0 h1 h2 h3 h4] at e; cases e
    rw [docF_begin h0 h1 h2 h3 h4] at e
    have hfit : ¬ (s.toks.isEmpty = false ∧ s.opn = []) := by
      intro ⟨hx, hy⟩
      cases hq : s.rooted
      · rw [(h.fresh hq).1] at hx; cases hx
      · exact h3 ⟨hq, hy⟩
    rcases e2 : beginP (d.drop 1) with _ | ⟨⟨nm, l, b⟩, m⟩
    · rw [e2] at e; cases e
    have hnm := (beginP_le e2).2.1
    rw [e2] at e
    cases b
    · injection e with ea eb
      subst ea eb
      refine h.add (Or.inr ⟨Or.inl rfl, hnm, rfl⟩) (show (1 : Int) ≠ 4 by decide) ?_ ?_
      · unfold trF; rw [if_neg hfit]; rfl
      · intro y hy
        rcases List.mem_append.1 hy with hy | hy
        · exact h.names y hy
        · obtain rfl := List.mem_singleton.1 hy; exact hnm
    · injection e with ea eb
      subst ea eb
      refine h.add (Or.inr ⟨Or.inr (Or.inr rfl), hnm, rfl⟩) (show (3 : Int) ≠ 4 by decide) ?_ h.names
      unfold trF; rw [if_neg hfit]; rfl
  by_cases h3 : s.opn = []
  · rw [docF_gap h0 h1 h2 h3] at e
    split at e
    · cases e
    · injection e with ea eb; subst ea eb; exact h
  cases h4 : Lib.hasPrefix d [60, 47]
  case true =>
    rw [docF_end h0 h1 h2 h3 h4] at e
    cases e2 : endP (s.opn.getLastD []) (d.drop 2) with
    | none => rw [e2] at e; cases e
    | some m =>
      rw [e2] at e
      injection e with ea eb
      subst ea eb
      have hroot : s.rooted = true := by
        cases hq : s.rooted
        · exact absurd (h.fresh hq).2 h3
        · rfl
      rw [hroot]
      refine h.add (Or.inr ⟨Or.inr (Or.inl rfl), h.names _ (last_mem h3), rfl⟩) (show (2 : Int) ≠ 4 by decide) ?_ (fun y hy => h.names y (List.dropLast_subset _ hy))
      unfold trF
      rw [if_neg (by simp [h3]), if_neg (show ¬ ((2 : Int) = 1) by decide), if_pos rfl, if_neg (by simp [h3])]
  cases h5 : Lib.hasPrefix d [60, 33, 91, 67, 68, 65, 84, 65, 91]
  case true =>
    rw [docF_cdata h0 h1 h2 h3 h4 h5] at e
    cases e2 : untilP [93, 93, 62] [93, 93, 62] (d.drop 9) with
    | none => rw [e2] at e; cases e
    | some y => obtain ⟨x, m⟩ := y; rw [e2] at e; injection e with ea eb; subst ea eb; exact h.words h3
  cases h6 : Lib.hasPrefix d [60]
  case true => rw [docF_lt h0 h1 h2 h3 h4 h5 h6] at e; cases e
  rw [docF_run h0 h1 h2 h3 h4 h5 h6] at e
  cases e2 : runP [60] d with
  | none => rw [e2] at e; cases e
  | some y => obtain ⟨x, m⟩ := y; rw [e2] at e; injection e with ea eb; subst ea eb; exact h.words h3
theorem whole_doc {dep : Int} {l : List UInt8} {t : List Tk} (h : docB dep l = .toks t) : t ≠ [] ∧ trL t true [] = some [] ∧ (∀ x ∈ t, TkOk x) ∧ Apart t := by
  unfold docB at h
  cases hm : headP l with
  | none => rw [hm] at h; cases h
  | some m =>
    rw [hm] at h
    simp only at h
    have hi := loopK_inv (docF_steps dep) (I := fun s _ => Whole s) (fun s d s' n k e hk => hk.step e) sc0 (l.drop m) m Whole.zero
    generalize loopK (docF dep) sc0 (l.drop m) m = r at h hi
    obtain ⟨x, s, k⟩ := r
    cases x with
    | none => cases h
    | some x =>
      cases x with
      | syn => cases h
      | deep => cases h
      | fin =>
        simp only at h hi
        split at h
        · rename_i hc
          rw [Bool.and_eq_true] at hc
          injection h with h
          subst h
          have ho : s.opn = [] := List.isEmpty_iff.1 hc.2
          exact ⟨hi.begun hc.1, by rw [hi.run, ho], hi.ok, hi.apart⟩
        · cases h
theorem whole_tok {dep : Int} {l : List UInt8} {t : List Tk} (h : tokB dep l = .toks t) : t ≠ [] ∧ trL t true [] = some [] ∧ (∀ x ∈ t, TkOk x) ∧ Apart t := by
  unfold tokB at h
  split at h
  · rename_i t' hd _
    injection h with h
    subst h
    exact whole_doc hd
  · cases h
  · cases h
  · cases h
  · split at h <;> cases h
end Go.Proofs.YtldnigkaagcciaaDoor

/- Layer 11's laws: LexWhole. -/
namespace Go.Proofs.YtldnigkaagcciaaDoor
open Go.RowKit

/-- The cells of the token j. -/
structure TkAt (w : World) (g j : Nat) (t : Tk) (v : Value) : Prop where
  c0 : w.cell? ⟨g, j * 4, none⟩ = some (.int .i64 t.kind)
  c1 : w.cell? ⟨g, j * 4 + 1, none⟩ = some (.string ⟨t.name.toArray⟩)
  c2 : w.cell? ⟨g, j * 4 + 2, none⟩ = some v
  c3 : w.cell? ⟨g, j * 4 + 3, none⟩ = some (.string ⟨t.text.toArray⟩)
theorem whole_at {P : List (Tk × Value)} {ts : List Tk} (hP : P.map Prod.fst = ts) (j : Nat) (hj : j < P.length) : ts[j]? = some (P[j]'hj).1 := by
  rw [← hP]; simp [hj]
/-- What the second loop keeps. -/
def OpAt (w wr : World) (ts : List Tk) (n : Nat) (o : Value) (op : List (List UInt8)) : Prop :=
  Strs wr w.heap.size o op ∧ Below w.heap.size w wr ∧ trL (ts.drop n) (decide (n = 0)) op = some [] ∧ op.length ≤ n
/-- The world behind Tokens: its tokens, and that they are a tree's. -/
structure WhAt (w : World) (g : Nat) (P : List (Tk × Value)) (ts : List Tk) : Prop where
  lt : g < w.heap.size
  cells : ∀ j (hj : j < P.length), TkAt w g j (P[j]'hj).1 (P[j]'hj).2
  fst : P.map Prod.fst = ts
  tree : trL ts true [] = some []
  ok : ∀ x ∈ ts, TkOk x
  apart : Apart ts
  few : P.length ≤ 1000000
theorem WhAt.okAt {w : World} {g : Nat} {P : List (Tk × Value)} {ts : List Tk} (h : WhAt w g P ts) (j : Nat) (hj : j < P.length) : TkOk (P[j]'hj).1 := h.ok _ (by rw [← h.fst]; exact List.mem_map.2 ⟨_, List.getElem_mem hj, rfl⟩)
theorem name_ne {nm : List UInt8} (h : nameB nm = true) : ∃ c t, nm = c :: t := by
  cases nm with
  | nil => cases h
  | cons c t => exact ⟨c, t, rfl⟩

theorem tr_step {ts : List Tk} {n : Nat} {b : Bool} {op : List (List UInt8)} {t : Tk} (h : trL (ts.drop n) b op = some []) (ht : ts[n]? = some t) : ∃ o, trF b op t = some o ∧ trL (ts.drop (n + 1)) false o = some [] := by
  have hn : n < ts.length := by
    rcases Nat.lt_or_ge n ts.length with h | h
    · exact h
    · rw [List.getElem?_eq_none h] at ht; cases ht
  rw [List.getElem?_eq_getElem hn] at ht
  injection ht with ht
  rw [List.drop_eq_getElem_cons hn, trL, ht] at h
  cases e : trF b op t with
  | none => rw [e] at h; cases h
  | some o => rw [e] at h; exact ⟨o, rfl, h⟩
theorem tr_ne {op o : List (List UInt8)} {t : Tk} (h : trF false op t = some o) : op ≠ [] := by
  intro e; subst e; cases h
theorem tr_1 {b : Bool} {op o : List (List UInt8)} {nm tx : List UInt8} {ta : List At} (h : trF b op ⟨1, nm, ta, tx⟩ = some o) : o = op ++ [nm] := by
  unfold trF at h
  split at h
  · cases h
  · rw [if_pos rfl] at h; injection h with h; exact h.symm
theorem tr_2 {b : Bool} {op o : List (List UInt8)} {nm tx : List UInt8} {ta : List At} (h : trF b op ⟨2, nm, ta, tx⟩ = some o) : op = o ++ [nm] := by
  unfold trF at h
  split at h
  · cases h
  · rw [if_neg (show ¬ ((2 : Int) = 1) by decide), if_pos rfl] at h
    split at h
    · cases h
    · rename_i h2
      injection h with h
      have h3 : op ≠ [] := fun e => h2 (Or.inl e)
      have h4 : op.getLastD [] = nm := by
        by_cases e : op.getLastD [] = nm
        · exact e
        · exact absurd (Or.inr e) h2
      rw [← h, ← h4, List.getLastD_eq_getLast?, List.getLast?_eq_some_getLast h3]
      exact (List.dropLast_concat_getLast h3).symm
theorem tr_3 {b : Bool} {op o : List (List UInt8)} {nm tx : List UInt8} {ta : List At} (h : trF b op ⟨3, nm, ta, tx⟩ = some o) : o = op := by
  unfold trF at h
  split at h
  · cases h
  · rw [if_neg (show ¬ ((3 : Int) = 1) by decide), if_neg (show ¬ ((3 : Int) = 2) by decide), if_neg (show ¬ ((3 : Int) = 4) by decide)] at h; injection h with h; exact h.symm
theorem tr_4 {b : Bool} {op o : List (List UInt8)} {nm tx : List UInt8} {ta : List At} (h : trF b op ⟨4, nm, ta, tx⟩ = some o) : o = op ∧ b = false := by
  unfold trF at h
  split at h
  · cases h
  · rw [if_neg (show ¬ ((4 : Int) = 1) by decide), if_neg (show ¬ ((4 : Int) = 2) by decide), if_pos rfl] at h
    split at h
    · cases h
    · rename_i hb; injection h with h; exact ⟨h.symm, by simpa using hb⟩

set_option maxRecDepth 100000 in
set_option maxHeartbeats 4000000 in
/-- The law LexWhole. -/
theorem whole11_law (l : List UInt8) (d : Int) (w : World) (_ : l.length ≤ maxLen) (hd : (Lit.int .u8 d).wf = true) (A : Addr) (hL : Laid11 w A) :
    Calls Tryd.prog 7 #[.string ⟨l.toArray⟩, .int .u8 d] w (LawPost w) := by
  obtain ⟨hd0, hd1⟩ := u8_bd11 hd
  clear hd
  have ha := Lib.hid (fun (W : World) (hW : Laid11 W A) => awake11_any A W hW)
  by_cases hl : l.length ≤ 3000
  · have hl2 : ¬ (3000 < (l.length : Int)) := by omega
    have r1 := Lib.hid (tokens11_any l d A w hL (by omega))
    have hw := fun ts => whole_tok (dep := d) (l := l) (t := ts)
    have hlen := tokB_len (dep := d) (l := l)
    generalize tokB d l = o at r1 hw hlen
    replace hL := Lib.hid hL
    cases o with
    | toks ts =>
      obtain ⟨hne, htree, hok, hap⟩ := hw ts rfl
      have hlen' : ts.length ≤ 2 * l.length := hlen
      clear hw hlen
      go_enter Tryd.func7, Tryd.ntmps7
      go_wp2_with fail
      refine r1.out.mono ?_; rintro e w1 ⟨v, P, rfl, ht, hP, b1⟩
      have hPl : P.length = ts.length := by rw [← hP]; simp
      have hPne : P ≠ [] := by intro e; rw [e] at hP; exact hne hP.symm
      obtain ⟨g, cap, rfl, hg, hc⟩ := ht.cells hPne
      have hW : Hid (WhAt w1 g P ts) := ⟨hg, fun j hj => ⟨(hc j hj).1, (hc j hj).2.1, (hc j hj).2.2.1, (hc j hj).2.2.2⟩, hP, htree, hok, hap, by omega⟩
      have hL1 := Lib.hid (hL.out.below b1)
      have hpos : 0 < P.length := List.length_pos_iff.2 hPne
      replace b1 := Lib.hid b1
      replace hne := Lib.hid hne
      replace hPne := Lib.hid hPne
      clear r1 hL ht hP htree hok hap hc hg hPl hlen'
      go_wp2_with fail
      go_loop [7, 8] (fun i _ => ∃ n : Nat, i = .int .i64 n ∧ n ≤ P.length) (fun i _ => P.length - (intOf i).toNat)
      case atStart => exact ⟨0, rfl, Nat.zero_le _⟩
      case round =>
        obtain ⟨n, rfl, hn⟩ := hrel
        by_cases hlt : n < P.length
        · have hlt1 : (n : Int) < P.length := by omega
          obtain ⟨a0, a1, _, a3⟩ := hW.out.cells n hlt
          have hk := hW.out.okAt n hlt
          have hxt := whole_at hW.out.fst n hlt
          generalize P[n]'hlt = p at a0 a1 a3 hk hxt
          obtain ⟨⟨tk, tn, ta, tt⟩, pv⟩ := p
          simp only at a0 a1 a3 hk hxt
          have hmx : (n : Int) + 1 ≤ 9223372036854775807 := by have := hW.out.few; omega
          rcases hk with ⟨e1, e2, e3⟩ | ⟨e1, e2, e3⟩
          · simp only at e1 e2 e3
            subst e1 e2
            obtain ⟨c, cs, rfl⟩ : ∃ c cs, tt = c :: cs := by
              cases tt with
              | nil => exact absurd rfl e3
              | cons c cs => exact ⟨c, cs, rfl⟩
            rcases Nat.eq_zero_or_pos n with h0 | h0
            · subst h0
              go_wp2_with fail
              exact ⟨⟨1, rfl, by omega⟩, by simp [intOf]; omega⟩
            · obtain ⟨m, hm⟩ : ∃ m, n = m + 1 := ⟨n - 1, by omega⟩
              have hsub : (n : Int) - 1 = (m : Int) := by omega
              have hmP : m < P.length := by omega
              have hm1 : (m : Int) < P.length := by omega
              have hn0 : 0 < (n : Int) := by omega
              obtain ⟨z0, _, _, _⟩ := hW.out.cells m hmP
              have hkz := hW.out.okAt m hmP
              have hxz := whole_at hW.out.fst m hmP
              have hap := hW.out.apart m _ _ hxz (by rw [← hm]; exact hxt)
              generalize P[m]'hmP = q at z0 hkz hap
              obtain ⟨⟨qk, qn, qa, qt⟩, qv⟩ := q
              simp only at z0 hkz hap
              have hk3 : qk = 1 ∨ qk = 2 ∨ qk = 3 := by
                rcases hkz with ⟨e, _⟩ | ⟨e, _⟩
                · exact absurd ⟨e, trivial⟩ hap
                · exact e
              clear hxz hkz hap hm
              rcases hk3 with rfl | rfl | rfl
              all_goals
                go_wp2_with fail
                exact ⟨⟨n + 1, by go_num, by omega⟩, by simp [intOf]; omega⟩
          · simp only at e1 e2 e3
            subst e3
            obtain ⟨c, cs, rfl⟩ := name_ne e2
            have hnm := Lib.hid (fun W : World => name11_any (c :: cs) W)
            rw [e2] at hnm
            replace hnm := Lib.hid hnm.out
            clear hxt
            rcases e1 with rfl | rfl | rfl
            all_goals
              go_wp2_with fail
              refine (hnm.out _).mono ?_; rintro e w' ⟨rfl, rfl⟩
              go_wp2_with fail
              exact ⟨⟨n + 1, by go_num, by omega⟩, by simp [intOf]; omega⟩
        · have hlt1 : ¬ ((n : Int) < P.length) := by omega
          go_wp2_with fail
          clear hlt hlt1
          go_loopw [9, 10] (fun o i wr => ∃ (n : Nat) (op : List (List UInt8)) (a : Option Addr) (c : Nat), i = .int .i64 n ∧ o = .slice a op.length c ∧ n ≤ P.length ∧ OpAt w1 wr ts n (.slice a op.length c) op) (fun _ i _ => P.length - (intOf i).toNat)
          case atStart => exact ⟨0, [], none, 0, rfl, rfl, Nat.zero_le _, World.ownsRow_nil _ _ _ _, Below.refl _ _, hW.out.tree, Nat.le_refl _⟩
          case round =>
            obtain ⟨n, op, oa, oc, rfl, rfl, hn, hO⟩ := hrel
            by_cases hlt : n < P.length
            · have hlt1 : (n : Int) < P.length := by omega
              have hC := hW.out.cells n hlt
              have hk := hW.out.okAt n hlt
              have hxt := whole_at hW.out.fst n hlt
              generalize P[n]'hlt = p at hC hk hxt
              obtain ⟨⟨tk, tn, ta, tt⟩, pv⟩ := p
              obtain ⟨hS, hB, hT, hol⟩ := hO
              have hB0 := hB
              obtain ⟨o', ho1, ho2⟩ := tr_step hT hxt
              have hgl := hW.out.lt
              have a0 := (hB.cell (p := ⟨g, n * 4, none⟩) hgl).trans hC.c0
              have a1 := (hB.cell (p := ⟨g, n * 4 + 1, none⟩) hgl).trans hC.c1
              have hsz := hB.size
              have hfew := hW.out.few
              simp only at a0 a1 hk hxt
              clear hC hT hxt hgl hB
              rcases Nat.eq_zero_or_pos n with h0 | h0
              · subst h0
                rcases hk with ⟨e1, _, _⟩ | ⟨e1, _, _⟩
                · simp only at e1; subst e1; exact absurd (tr_4 ho1).2 (by decide)
                simp only at e1
                rcases e1 with rfl | rfl | rfl
                · obtain rfl := tr_1 ho1
                  replace hS := Lib.hid hS
                  replace hB0 := Lib.hid hB0
                  replace ho1 := Lib.hid ho1
                  replace ho2 := Lib.hid ho2
                  go_wp2_with (at_builtin; go_must (refine wpList_append1 rfl _ _ 38 9 rfl Tryd.underlying38 (.string ⟨#[]⟩) 16 info_str rfl (by decide) w1.heap.size _ _ _ _ hS.out rfl rfl rfl (by omega) hsz ?_))
                  intro v4 w4 h4 b4 _
                  have hS4 := strs_mk h4
                  obtain ⟨a4, c4, hv4⟩ := own_form hS4
                  rw [List.length_append, List.length_singleton] at hv4
                  subst hv4
                  have hO4 : Hid (OpAt w1 w4 ts (0 + 1) (.slice a4 (op.length + 1) c4) (op ++ [tn])) := ⟨hS4, hB0.out.trans b4, ho2.out, by rw [List.length_append, List.length_singleton]; omega⟩
                  clear hS4 h4 b4
                  go_wp2_with fail
                  exact ⟨⟨0 + 1, op ++ [tn], a4, c4, by go_num, by rw [List.length_append, List.length_singleton], by omega, by rw [List.length_append, List.length_singleton]; exact hO4.out⟩, by simp [intOf]; omega⟩
                · have := tr_2 ho1
                  rw [this] at hol
                  simp at hol
                · obtain rfl := tr_3 ho1
                  replace hS := Lib.hid hS
                  replace hB0 := Lib.hid hB0
                  replace ho1 := Lib.hid ho1
                  replace ho2 := Lib.hid ho2
                  have hO4 : Hid (OpAt w1 wr ts (0 + 1) (.slice oa o'.length oc) o') := ⟨hS.out, hB0.out, ho2.out, by omega⟩
                  go_wp2_with fail
                  exact ⟨⟨0 + 1, o', oa, oc, by go_num, rfl, by omega, hO4.out⟩, by simp [intOf]; omega⟩
              · have hd0 : decide (n = 0) = false := by simpa using (show ¬ (n = 0) by omega)
                rw [hd0] at ho1
                obtain ⟨k, hk'⟩ : ∃ k, op.length = k + 1 := ⟨op.length - 1, by have := List.length_pos_iff.2 (tr_ne ho1); omega⟩
                rw [hk'] at hS ⊢
                have h01 : 0 < (n : Int) := by omega
                clear hd0
                rcases hk with ⟨e1, _, _⟩ | ⟨e1, _, _⟩
                · simp only at e1
                  subst e1
                  obtain rfl := (tr_4 ho1).1
                  replace hS := Lib.hid hS
                  replace hB0 := Lib.hid hB0
                  replace ho1 := Lib.hid ho1
                  replace ho2 := Lib.hid ho2
                  have hO4 : Hid (OpAt w1 wr ts (n + 1) (.slice oa (k + 1) oc) o') := ⟨hS.out, hB0.out, ho2.out, by omega⟩
                  replace hk' := Lib.hid hk'
                  go_wp2_with fail
                  exact ⟨⟨n + 1, o', oa, oc, by go_num, by rw [hk'.out], by omega, by rw [hk'.out]; exact hO4.out⟩, by simp [intOf]; omega⟩
                simp only at e1
                rcases e1 with rfl | rfl | rfl
                · replace hk' := Lib.hid hk'
                  obtain rfl := tr_1 ho1
                  replace hS := Lib.hid hS
                  replace hB0 := Lib.hid hB0
                  replace ho1 := Lib.hid ho1
                  replace ho2 := Lib.hid ho2
                  go_wp2_with (at_builtin; go_must (refine wpList_append1 rfl _ _ 38 9 rfl Tryd.underlying38 (.string ⟨#[]⟩) 16 info_str rfl (by decide) w1.heap.size _ _ _ _ hS.out rfl rfl rfl (by omega) hsz ?_))
                  intro v4 w4 h4 b4 _
                  have hS4 := strs_mk h4
                  obtain ⟨a4, c4, hv4⟩ := own_form hS4
                  rw [List.length_append, List.length_singleton] at hv4
                  subst hv4
                  have hO4 : Hid (OpAt w1 w4 ts (n + 1) (.slice a4 (op.length + 1) c4) (op ++ [tn])) := ⟨hS4, hB0.out.trans b4, ho2.out, by rw [List.length_append, List.length_singleton]; omega⟩
                  clear hS4 h4 b4
                  go_wp2_with fail
                  exact ⟨⟨n + 1, op ++ [tn], a4, c4, by go_num, by rw [List.length_append, List.length_singleton], by omega, by rw [List.length_append, List.length_singleton]; exact hO4.out⟩, by simp [intOf]; omega⟩
                · obtain rfl := tr_2 ho1
                  obtain rfl : k = o'.length := by rw [List.length_append, List.length_singleton] at hk'; omega
                  obtain ⟨g2, cap2, hv2, hcap2, _, cg2, _, hS2⟩ := opn_last hS
                  injection hv2 with hv2 hv3 hv4
                  subst hv2 hv4
                  rw [List.length_append, List.length_singleton] at hol
                  clear hv3 hS ho1 hk'
                  have hO4 : Hid (∀ wr' : World, Drawn wr wr' → OpAt w1 wr' ts (n + 1) (.slice (some ⟨g2, 0, none⟩) o'.length oc) o') := fun wr' hd => ⟨ownsRow_drawn hS2 hd, hB0.trans (hd.below _), ho2, by omega⟩
                  clear hS2 hB0 ho2
                  go_wp2_with fail
                  go_quiet (fail)
                  go_wp2_with fail
                  exact ⟨⟨n + 1, o', _, _, by go_num, rfl, by omega, hO4.out _ ⟨_, rfl⟩⟩, by simp [intOf]; omega⟩
                · obtain rfl := tr_3 ho1
                  replace hS := Lib.hid hS
                  replace hB0 := Lib.hid hB0
                  replace ho1 := Lib.hid ho1
                  replace ho2 := Lib.hid ho2
                  have hO4 : Hid (OpAt w1 wr ts (n + 1) (.slice oa (k + 1) oc) o') := ⟨hS.out, hB0.out, ho2.out, by omega⟩
                  replace hk' := Lib.hid hk'
                  go_wp2_with fail
                  exact ⟨⟨n + 1, o', oa, oc, by go_num, by rw [hk'.out], by omega, by rw [hk'.out]; exact hO4.out⟩, by simp [intOf]; omega⟩
            · have hlt1 : ¬ ((n : Int) < P.length) := by omega
              obtain ⟨hS, hB, hT, _⟩ := hO
              have hdr : ts.drop n = [] := List.drop_eq_nil_of_le (by rw [← hW.out.fst, List.length_map]; omega)
              rw [hdr] at hT
              obtain rfl : op = [] := by injection hT
              have hpos1 : 0 < (P.length : Int) := by omega
              have ha2 := Lib.hid (ha.out wr (hL1.out.below hB))
              have hb2 := Lib.hid (b1.out.andThen hB)
              clear hS hB hT hdr
              go_wp2_with fail
              refine ha2.out.mono ?_; rintro e w3 ⟨rfl, b3⟩
              have hb3 := Lib.hid (hb2.out.andThen b3)
              clear b3
              go_wp2_with fail
              go_ret
              exact ⟨rfl, hb3.out⟩
    | syn =>
      clear hw hlen
      go_enter Tryd.func7, Tryd.ntmps7
      go_wp2_with fail
      refine r1.out.mono ?_; rintro e w1 ⟨f, q, rfl, _, _, b1⟩
      have ha2 := Lib.hid (ha.out w1 (hL.out.below b1))
      replace b1 := Lib.hid b1
      unfold faultV
      go_wp2_with fail
      refine ha2.out.mono ?_; rintro e w3 ⟨rfl, b3⟩
      have hb3 := Lib.hid (b1.out.andThen b3)
      clear b3
      go_wp2_with fail
      go_ret
      exact ⟨rfl, hb3.out⟩
    | deep =>
      clear hw hlen
      go_enter Tryd.func7, Tryd.ntmps7
      go_wp2_with fail
      refine r1.out.mono ?_; rintro e w1 ⟨f, q, rfl, _, _, b1⟩
      have ha2 := Lib.hid (ha.out w1 (hL.out.below b1))
      replace b1 := Lib.hid b1
      unfold faultV
      go_wp2_with fail
      refine ha2.out.mono ?_; rintro e w3 ⟨rfl, b3⟩
      have hb3 := Lib.hid (b1.out.andThen b3)
      clear b3
      go_wp2_with fail
      go_ret
      exact ⟨rfl, hb3.out⟩
  · have hl2 : 3000 < (l.length : Int) := by omega
    go_enter Tryd.func7, Tryd.ntmps7
    go_wp2_with fail
    refine (ha.out w hL).mono ?_; rintro e w1 ⟨rfl, hb⟩
    replace hb := Lib.hid hb
    go_wp2_with fail
    go_ret
    exact ⟨rfl, hb.out⟩
end Go.Proofs.YtldnigkaagcciaaDoor
