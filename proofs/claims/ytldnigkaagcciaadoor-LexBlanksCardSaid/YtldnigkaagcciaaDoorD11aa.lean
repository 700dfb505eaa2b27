/- Layer 11, plain: what is read ahead of a < is read alike with more behind it. -/
import Derived.Test.YtldnigkaagcciaaDoorD11s
import Derived.Test.YtldnigkaagcciaaDoorD11l
namespace Go.Proofs.YtldnigkaagcciaaDoor

/-- What LexBlanks lays behind a document. -/
def tlB : List UInt8 := [60, 33, 45, 45, 120, 45, 45, 62, 9]
theorem tlB_eq : tlB = 60 :: [33, 45, 45, 120, 45, 45, 62, 9] := rfl
theorem pre_app_no (t : List UInt8) : ∀ (p : List UInt8), 60 ∉ p → ∀ d, Lib.hasPrefix (d ++ 60 :: t) p = Lib.hasPrefix d p
  | [], _, d => by simp [Lib.hasPrefix]
  | x :: p, h, [] => by
    have hx : (x == 60) = false := by
      rw [beq_eq_false_iff_ne]; intro e; subst e; simp at h
    simp [Lib.hasPrefix, List.isPrefixOf, hx]
  | x :: p, h, c :: d => by
    have ih := pre_app_no t p (by intro e; exact h (List.mem_cons_of_mem _ e)) d
    simp only [Lib.hasPrefix] at ih
    simp only [Lib.hasPrefix, List.cons_append, List.isPrefixOf, ih]
theorem pre_app_lt (t : List UInt8) (p : List UInt8) (h : 60 ∉ p) (d : List UInt8) (h0 : d ≠ []) (x : UInt8) : Lib.hasPrefix (d ++ 60 :: t) (x :: p) = Lib.hasPrefix d (x :: p) := by
  cases d with
  | nil => exact absurd rfl h0
  | cons c d =>
    have ih := pre_app_no t p h d
    simp only [Lib.hasPrefix] at ih
    simp only [Lib.hasPrefix, List.cons_append, List.isPrefixOf, ih]
theorem pre_app_true {d p : List UInt8} (t : List UInt8) (h : Lib.hasPrefix d p = true) : Lib.hasPrefix (d ++ t) p = true :=
  List.isPrefixOf_iff_prefix.2 ((List.isPrefixOf_iff_prefix.1 h).trans (List.prefix_append d t))
theorem span_app {p : Int → Bool} (hp : p 60 = false) (t : List UInt8) : ∀ d, spanN p (d ++ 60 :: t) = spanN p d
  | [] => by
    show spanN p (60 :: t) = 0
    unfold spanN
    rw [show ((60 : UInt8).toNat : Int) = 60 from rfl, hp]; rfl
  | c :: d => by
    show spanN p (c :: (d ++ 60 :: t)) = spanN p (c :: d)
    unfold spanN
    rw [span_app hp t d]
theorem take_app {d : List UInt8} (t : List UInt8) {n : Nat} (h : n ≤ d.length) : (d ++ t).take n = d.take n := List.take_append_of_le_length h
theorem drop_app {d : List UInt8} (t : List UInt8) {n : Nat} (h : n ≤ d.length) : (d ++ t).drop n = d.drop n ++ t := List.drop_append_of_le_length h
theorem name_app (t d : List UInt8) : nameP (d ++ 60 :: t) = nameP d := by
  unfold nameP
  rw [span_app (by decide), take_app _ (spanN_le _ _)]
theorem leads_app (t d : List UInt8) : leadsB (d ++ 60 :: t) = leadsB d := by
  cases d with
  | nil => simp [leadsB, bt, leadI]
  | cons c d => simp [leadsB, bt]
theorem index_app (p t : List UInt8) : ∀ d, 0 ≤ Lib.index d p → Lib.index (d ++ t) p = Lib.index d p
  | [], h => by
    cases p with
    | nil => cases t <;> rfl
    | cons x p => simp [Lib.index] at h
  | b :: l, h => by
    have hr := Lib.index_room (b :: l) p h
    rw [List.cons_append]
    unfold Lib.index at h hr ⊢
    by_cases hp : p.isPrefixOf (b :: l) = true
    · have h2 : p.isPrefixOf (b :: (l ++ t)) = true := pre_app_true (d := b :: l) t hp
      rw [if_pos hp, if_pos h2]
    · rw [if_neg hp] at h hr ⊢
      by_cases hi : (Lib.index l p == -1) = true
      · rw [if_pos hi] at h; exact absurd h (by decide)
      · rw [if_neg hi] at h hr ⊢
        have h0 : 0 ≤ Lib.index l p := by
          have := Lib.index_ge l p
          have : Lib.index l p ≠ -1 := by simpa using hi
          omega
        have ih := index_app p t l h0
        have h2 : ¬ (p.isPrefixOf (b :: (l ++ t)) = true) := by
          intro e
          apply hp
          have e' : p <+: (b :: l) ++ t := List.isPrefixOf_iff_prefix.1 e
          refine List.isPrefixOf_iff_prefix.2 (List.prefix_of_prefix_length_le e' (List.prefix_append _ _) ?_)
          omega
        rw [if_neg h2, ih, if_neg hi]
theorem until_app {e bar d : List UInt8} {y : List UInt8 × Nat} (t : List UInt8) (h : untilP e bar d = some y) : untilP e bar (d ++ t) = some y := by
  unfold untilP at h ⊢
  by_cases h0 : Lib.index d e < 0
  · rw [if_pos h0] at h; cases h
  · have hr := Lib.index_room d e (by omega)
    rw [if_neg h0] at h
    rw [index_app e t d (by omega), if_neg h0, take_app _ (by omega)]
    exact h
theorem ib_lt (c : UInt8) : ∀ l : List UInt8, Lib.indexByte l c < l.length
  | [] => by simp [Lib.indexByte]
  | b :: l => by
    have := ib_lt c l
    unfold Lib.indexByte
    simp only [List.length_cons]
    split
    · omega
    · split <;> omega
theorem ib_app (c : UInt8) (m : List UInt8) : ∀ l : List UInt8, 0 ≤ Lib.indexByte l c → Lib.indexByte (l ++ m) c = Lib.indexByte l c
  | [], h => by simp [Lib.indexByte] at h
  | b :: l, h => by
    rw [List.cons_append]
    unfold Lib.indexByte at h ⊢
    by_cases hb : (b == c) = true
    · rw [if_pos hb, if_pos hb]
    · rw [if_neg hb] at h ⊢
      by_cases hi : (Lib.indexByte l c == -1) = true
      · rw [if_pos hi] at h; exact absurd h (by decide)
      · have hge := Lib.indexByte_ge l c
        have : Lib.indexByte l c ≠ -1 := by simpa using hi
        rw [ib_app c m l (by omega), if_neg hb]
theorem ref_app {d : List UInt8} {y : List UInt8 × Nat} (t : List UInt8) (h : refP d = some y) : refP (d ++ t) = some y := by
  unfold refP at h ⊢
  by_cases h0 : Lib.indexByte (d.take 13) 59 < 0
  · rw [if_pos h0] at h; cases h
  · have hlt := ib_lt 59 (d.take 13)
    rw [List.length_take] at hlt
    rw [if_neg h0] at h
    rw [show (d ++ t).take 13 = d.take 13 ++ t.take (13 - d.length) from List.take_append, ib_app 59 _ _ (by omega), if_neg h0, take_app _ (by omega)]
    exact h
section
variable {σ ε : Type}
theorem loop_app {f : σ → List UInt8 → Rs σ ε} (hs : Steps f) (T : List UInt8) (hg : ∀ s d s' n, f s d = .go s' n → f s (d ++ T) = .go s' n) (he : ∀ s d, f s d = .stop → f s (d ++ T) = .stop) :
    ∀ s d k s' k', loopK f s d k = (none, s', k') → loopK f s (d ++ T) k = (none, s', k') := by
  refine loopK_ind hs (P := fun s d => ∀ k s' k', loopK f s d k = (none, s', k') → loopK f s (d ++ T) k = (none, s', k')) ?_ ?_ ?_
  · intro s d x e k s' k' h; rw [loopK_bad k e] at h; cases h
  · intro s d e k s' k' h; rw [loopK_stop k e] at h; rw [loopK_stop k (he s d e)]; exact h
  · intro s d s1 n e ih k s' k' h
    have hn := hs s d s1 n e
    rw [loopK_go hs k e] at h
    rw [loopK_go hs k (hg s d s1 n e), drop_app _ hn.2]
    exact ih _ _ _ h
end
theorem runF_app {ends acc d acc' : List UInt8} {n : Nat} (T : List UInt8) (h : runF ends acc d = .go acc' n) : runF ends acc (d ++ T) = .go acc' n := by
  cases d with
  | nil => cases h
  | cons c t =>
    rw [List.cons_append]
    rw [runF] at h ⊢
    split at h
    · cases h
    · split at h
      · rename_i h1 h2; rw [if_neg h1, if_pos h2]; exact h
      · rename_i h1 h2
        rw [if_neg h1, if_neg h2]
        cases e : refP (c :: t) with
        | none => rw [e] at h; cases h
        | some y =>
          have := ref_app T e
          rw [List.cons_append] at this
          rw [this]
          rw [e] at h
          exact h
theorem runF_stop {ends acc d : List UInt8} (t : List UInt8) (h0 : 0 ≤ Lib.indexByte ends 60) (h : runF ends acc d = .stop) : runF ends acc (d ++ 60 :: t) = .stop := by
  cases d with
  | nil => show runF ends acc (60 :: t) = _; rw [runF, if_pos h0]
  | cons c d =>
    rw [List.cons_append]
    rw [runF] at h ⊢
    split at h
    · rename_i h1; rw [if_pos h1]
    · split at h
      · cases h
      · cases e : refP (c :: d) with
        | none => rw [e] at h; cases h
        | some y => rw [e] at h; cases h
theorem run_app {ends d : List UInt8} {y : List UInt8 × Nat} (t : List UInt8) (h0 : 0 ≤ Lib.indexByte ends 60) (h : runP ends d = some y) : runP ends (d ++ 60 :: t) = some y := by
  unfold runP at h ⊢
  generalize hr : loopK (runF ends) [] d 0 = r at h
  obtain ⟨x, s, k⟩ := r
  cases x with
  | some _ => cases h
  | none =>
    rw [loop_app (runF_steps ends) (60 :: t) (fun _ _ _ _ e => runF_app _ e) (fun _ _ e => runF_stop t h0 e) _ _ _ _ _ hr]
    exact h
theorem value_app {d : List UInt8} {y : List UInt8 × Nat} (t : List UInt8) (h : valueP d = some y) : valueP (d ++ 60 :: t) = some y := by
  unfold valueP at h ⊢
  rw [pre_app_no t [39] (by decide) d]
  generalize hq : (if Lib.hasPrefix d [39] = true then (39 : UInt8) else 34) = q at h ⊢
  have hq2 : (60 : UInt8) ∉ [q] := by
    rw [← hq]; split <;> decide
  have hq3 : 0 ≤ Lib.indexByte [60, q] 60 := by simp [Lib.indexByte]
  rw [pre_app_no t [q] hq2 d]
  by_cases h1 : Lib.hasPrefix d [q] = false
  · rw [if_pos h1] at h; cases h
  rw [if_neg h1] at h ⊢
  have hl := prefix_len (p := [q]) (by simpa using h1)
  simp at hl
  rw [drop_app _ (by omega)]
  cases e : runP [60, q] (d.drop 1) with
  | none => rw [e] at h; cases h
  | some z =>
    obtain ⟨x, n⟩ := z
    have hn := runP_le e
    rw [List.length_drop] at hn
    rw [e] at h
    rw [run_app t hq3 e]
    simp only at h ⊢
    rw [drop_app _ (by omega), pre_app_no t [q] hq2]
    exact h
theorem attr_app {d : List UInt8} {y : At × Nat} (t : List UInt8) (h : attrP d = some y) : attrP (d ++ 60 :: t) = some y := by
  unfold attrP at h ⊢
  rw [name_app]
  cases e : nameP d with
  | none => rw [e] at h; cases h
  | some z =>
    obtain ⟨nm, n⟩ := z
    have hn := (nameP_le e).2.1
    rw [e] at h
    simp only at h ⊢
    have h1 := spanN_le blI (d.drop n)
    rw [List.length_drop] at h1
    rw [drop_app _ hn, span_app (by decide), drop_app _ (show n + spanN blI (d.drop n) ≤ d.length by omega), pre_app_no t [61] (by decide)]
    by_cases h2 : Lib.hasPrefix (d.drop (n + spanN blI (d.drop n))) [61] = false
    · rw [if_pos h2] at h; cases h
    rw [if_neg h2] at h ⊢
    have h3 := prefix_len (p := [61]) (by simpa using h2)
    rw [List.length_drop] at h3
    simp at h3
    have h4 := spanN_le blI (d.drop (n + spanN blI (d.drop n) + 1))
    rw [List.length_drop] at h4
    rw [drop_app _ (show n + spanN blI (d.drop n) + 1 ≤ d.length by omega), span_app (by decide), drop_app _ (by omega)]
    cases e2 : valueP (d.drop (n + spanN blI (d.drop n) + 1 + spanN blI (d.drop (n + spanN blI (d.drop n) + 1)))) with
    | none => rw [e2] at h; cases h
    | some v =>
      rw [e2] at h
      rw [value_app t e2]
      exact h
theorem attrsF_go {l l' : List At} {d : List UInt8} {n : Nat} (t : List UInt8) (h : attrsF l d = .go l' n) : attrsF l (d ++ 60 :: t) = .go l' n := by
  unfold attrsF at h ⊢
  rw [span_app (by decide), drop_app _ (spanN_le _ _), leads_app]
  split at h
  · rename_i h1
    rw [if_pos h1]
    cases e : attrP (d.drop (spanN blI d)) with
    | none => rw [e] at h; cases h
    | some y =>
      rw [e] at h
      rw [attr_app t e]
      exact h
  · cases h
theorem attrsF_stop {l : List At} {d : List UInt8} (t : List UInt8) (h : attrsF l d = .stop) : attrsF l (d ++ 60 :: t) = .stop := by
  unfold attrsF at h ⊢
  rw [span_app (by decide), drop_app _ (spanN_le _ _), leads_app]
  split at h
  · cases e : attrP (d.drop (spanN blI d)) with
    | none => rw [e] at h; cases h
    | some y =>
      obtain ⟨y1, y2⟩ := y
      rw [e] at h
      simp only at h
      split at h <;> cases h
  · rename_i h1
    rw [if_neg h1]
theorem attrs_app {d : List UInt8} {y : List At × Nat} (t : List UInt8) (h : attrsP d = some y) : attrsP (d ++ 60 :: t) = some y := by
  unfold attrsP at h ⊢
  generalize hr : loopK attrsF [] d 0 = r at h
  have hle := loopK_le attrsF_steps [] d 0
  rw [hr] at hle
  obtain ⟨x, s, k⟩ := r
  cases x with
  | some _ => cases h
  | none =>
    rw [loop_app attrsF_steps (60 :: t) (fun _ _ _ _ e => attrsF_go t e) (fun _ _ e => attrsF_stop t e) _ _ _ _ _ hr]
    simp only at h hle ⊢
    rw [drop_app _ (by omega), span_app (by decide)]
    exact h
theorem begin_app {d : List UInt8} {y : (List UInt8 × List At × Bool) × Nat} (t : List UInt8) (h : beginP d = some y) : beginP (d ++ 60 :: t) = some y := by
  unfold beginP at h ⊢
  rw [name_app]
  cases e : nameP d with
  | none => rw [e] at h; cases h
  | some z =>
    obtain ⟨nm, n⟩ := z
    have hn := (nameP_le e).2.1
    rw [e] at h
    simp only at h ⊢
    rw [drop_app _ hn]
    cases e2 : attrsP (d.drop n) with
    | none => rw [e2] at h; cases h
    | some z =>
      obtain ⟨l, m⟩ := z
      have hm := attrsP_le e2
      rw [List.length_drop] at hm
      rw [e2] at h
      rw [attrs_app t e2]
      simp only at h ⊢
      rw [drop_app _ (by omega), pre_app_no t [47, 62] (by decide), pre_app_no t [62] (by decide)]
      exact h
theorem end_app {nm d : List UInt8} {y : Nat} (t : List UInt8) (h : endP nm d = some y) : endP nm (d ++ 60 :: t) = some y := by
  unfold endP at h ⊢
  by_cases h1 : Lib.hasPrefix d nm = false
  · rw [if_pos h1] at h; cases h
  have h1' : Lib.hasPrefix d nm = true := by simpa using h1
  have hl := prefix_len h1'
  have h2 := spanN_le blI (d.drop nm.length)
  rw [List.length_drop] at h2
  rw [if_neg h1] at h
  rw [pre_app_true _ h1', if_neg (by decide), drop_app _ hl, span_app (by decide), drop_app _ (by omega), pre_app_no t [62] (by decide)]
  exact h
theorem elem_app {d : List UInt8} (t : List UInt8) (h0 : d ≠ []) : elemB (d ++ 60 :: t) = elemB d := by
  unfold elemB
  have : 1 ≤ d.length := List.length_pos_iff.2 h0
  rw [pre_app_lt t [] (by decide) d h0, drop_app _ this, leads_app]
theorem doc_app {dep : Int} {s s' : Sc} {d : List UInt8} {n : Nat} (t : List UInt8) (h : docF dep s d = .go s' n) : docF dep s (d ++ 60 :: t) = .go s' n := by
  have h0 : d ≠ [] := by intro e; subst e; rw [docF_nil] at h; cases h
  have h0' : d ++ 60 :: t ≠ [] := by simp
  have e1 := pre_app_lt t [33, 45, 45] (by decide) d h0 60
  have e2 := elem_app t h0
  have e4 := pre_app_lt t [47] (by decide) d h0 60
  have e5 := pre_app_lt t [33, 91, 67, 68, 65, 84, 65, 91] (by decide) d h0 60
  have e6 := pre_app_lt t [] (by decide) d h0 60
  have hl : 1 ≤ d.length := List.length_pos_iff.2 h0
  unfold docF at h ⊢
  rw [if_neg h0] at h
  rw [if_neg h0', e1, e2, e4, e5, e6]
  split at h
  · rename_i h1
    rw [if_pos h1]
    have hp := prefix_len h1
    simp at hp
    rw [drop_app _ (by omega)]
    cases e : untilP [45, 45, 62] [45, 45] (d.drop 4) with
    | none => rw [e] at h; cases h
    | some y => rw [e] at h; rw [until_app _ e]; exact h
  rename_i h1
  rw [if_neg h1]
  split at h
  · rename_i h2
    rw [if_pos h2]
    split at h
    · cases h
    rename_i h3
    rw [if_neg h3]
    split at h
    · cases h
    rename_i h4
    rw [if_neg h4, drop_app _ hl]
    cases e : beginP (d.drop 1) with
    | none => rw [e] at h; cases h
    | some y => rw [e] at h; rw [begin_app t e]; exact h
  rename_i h2
  rw [if_neg h2]
  split at h
  · rename_i h3
    rw [if_pos h3, span_app (by decide)]
    exact h
  rename_i h3
  rw [if_neg h3]
  split at h
  · rename_i h4
    rw [if_pos h4]
    have hp := prefix_len h4
    simp at hp
    rw [drop_app _ (by omega)]
    cases e : endP (s.opn.getLastD []) (d.drop 2) with
    | none => rw [e] at h; cases h
    | some y => rw [e] at h; rw [end_app t e]; exact h
  rename_i h4
  rw [if_neg h4]
  split at h
  · rename_i h5
    rw [if_pos h5]
    have hp := prefix_len h5
    simp at hp
    rw [drop_app _ (by omega)]
    cases e : untilP [93, 93, 62] [93, 93, 62] (d.drop 9) with
    | none => rw [e] at h; cases h
    | some y => rw [e] at h; rw [until_app _ e]; exact h
  rename_i h5
  rw [if_neg h5]
  split at h
  · cases h
  rename_i h6
  rw [if_neg h6]
  cases e : runP [60] d with
  | none => rw [e] at h; cases h
  | some y => rw [e] at h; rw [run_app t (by decide) e]; exact h
end Go.Proofs.YtldnigkaagcciaaDoor

/- Layer 11's laws: blanks and comments ahead of a document and behind it, plain. -/
namespace Go.Proofs.YtldnigkaagcciaaDoor

/-- What LexBlanks lays ahead of a document. -/
def hdB : List UInt8 := [10, 32, 60, 33, 45, 45, 32, 62, 32, 45, 45, 62]
theorem asc_step {c : UInt8} (t : List UInt8) (h : c.toNat < 128) (hc : charB c.toNat = true) : runeF () (c :: t) = .go () 1 := by
  have h0 : c :: t ≠ [] := by simp
  have hb : bt (c :: t) 0 = c.toNat := rfl
  have e := cutS_one h0 (by rw [hb]; omega)
  unfold runeF cutN
  rw [if_neg h0, e, hb]
  simp only [hc]
  rfl
theorem asc_loop (s : List UInt8) : ∀ (p : List UInt8) (k : Nat), (p.all fun c => decide (c.toNat < 128) && charB c.toNat) = true → loopK runeF () (p ++ s) k = loopK runeF () s (k + p.length)
  | [], k, _ => rfl
  | c :: p, k, h => by
    rw [List.all_cons, Bool.and_eq_true] at h
    obtain ⟨h1, h2⟩ := h
    rw [Bool.and_eq_true, decide_eq_true_eq] at h1
    rw [List.cons_append, loopK_go runeF_steps k (asc_step (p ++ s) h1.1 h1.2), List.drop_succ_cons, List.drop_zero, asc_loop s p (k + 1) h2, List.length_cons, Nat.add_assoc, Nat.add_comm 1]
theorem runes_pre (s : List UInt8) : runesB (hdB ++ s) = (runesB s).map (12 + ·) := by
  unfold runesB
  rw [asc_loop s hdB 0 (by kernel_rfl)]
  have ho := loopK_off runeF_steps () s 0 12
  rw [show 0 + hdB.length = 12 + 0 from rfl, ho]
  generalize loopK runeF () s 0 = r
  obtain ⟨x, _, k⟩ := r
  cases x <;> rfl
theorem runes_suf {s : List UInt8} (h : runesB s = none) : runesB (s ++ tlB) = none := by
  have key : ∀ (u : Unit) (d : List UInt8) (k : Nat), (loopK runeF u d k).1 = none → (loopK runeF u (d ++ tlB) k).1 = none := by
    refine loopK_ind runeF_steps (P := fun u d => ∀ k, (loopK runeF u d k).1 = none → (loopK runeF u (d ++ tlB) k).1 = none) ?_ ?_ ?_
    · intro u d x e k h; rw [loopK_bad k e] at h; cases h
    · intro u d e k h
      have hd : d = [] := by
        unfold runeF at e
        split at e
        · assumption
        · split at e <;> cases e
      subst hd
      have := asc_loop [] tlB k (by kernel_rfl)
      rw [List.append_nil] at this
      rw [List.nil_append, this, loopK_stop _ (by rfl)]
    · intro u d u' n e ih k h
      have hn := runeF_steps u d u' n e
      rw [loopK_go runeF_steps k e] at h
      have e2 : runeF u (d ++ tlB) = .go u' n := by
        have h0 : d ≠ [] := by intro e0; subst e0; simp at hn; omega
        have h0' : d ++ tlB ≠ [] := by simp [h0]
        unfold runeF at e ⊢
        rw [if_neg h0] at e
        rw [if_neg h0']
        split at e
        · rename_i hc
          rw [Bool.and_eq_true] at hc
          have hcut := cut_app d tlB h0 hc.2
          unfold cutN at e ⊢
          rw [hcut, hc.1, hc.2]
          exact e
        · cases e
      rw [loopK_go runeF_steps k e2, drop_app _ hn.2]
      exact ih _ h
  unfold runesB at h ⊢
  have := key () s 0
  generalize hr : loopK runeF () s 0 = r at h this
  generalize loopK runeF () (s ++ tlB) 0 = r2 at this
  obtain ⟨x, _, k⟩ := r
  obtain ⟨x2, _, k2⟩ := r2
  cases x with
  | some _ => cases h
  | none =>
    obtain rfl := this rfl
    rfl
theorem doc_head (dep : Int) (s : List UInt8) : loopK (docF dep) sc0 (hdB ++ s) 0 = loopK (docF dep) sc0 s (12 + 0) := by
  have e1 : docF dep sc0 (hdB ++ s) = .go sc0 2 := by kernel_rfl
  have e2 : docF dep sc0 ([60, 33, 45, 45, 32, 62, 32, 45, 45, 62] ++ s) = .go sc0 10 := by kernel_rfl
  rw [loopK_go (docF_steps dep) 0 e1]
  show loopK (docF dep) sc0 ([60, 33, 45, 45, 32, 62, 32, 45, 45, 62] ++ s) 2 = _
  rw [loopK_go (docF_steps dep) 2 e2]
  rfl
theorem tokB_pre (dep : Int) {s : List UInt8} (hh : headP s = some 0) : tokB dep (hdB ++ s) = tokB dep s := by
  have hh2 : headP (hdB ++ s) = some 0 := by kernel_rfl
  unfold tokB
  rw [runes_pre]
  unfold docB
  rw [hh, hh2]
  simp only [List.drop_zero]
  rw [doc_head, loopK_off (docF_steps dep) sc0 s 0 12]
  generalize loopK (docF dep) sc0 s 0 = r
  obtain ⟨x, s', k⟩ := r
  cases runesB s with
  | none =>
    cases x with
    | none => rfl
    | some x => cases x <;> rfl
  | some q =>
    cases x with
    | none => rfl
    | some x =>
      cases x with
      | fin =>
        simp only [Option.map_some]
        cases (s'.rooted && s'.opn.isEmpty) <;> rfl
      | syn => rfl
      | deep =>
        show (if 12 + q < 12 + k then Out.syn else Out.deep) = if q < k then Out.syn else Out.deep
        by_cases h : q < k
        · rw [if_pos h, if_pos (by omega)]
        · rw [if_neg h, if_neg (by omega)]
theorem doc_fin {dep : Int} {s : Sc} {d : List UInt8} (h : docF dep s d = .bad .fin) : d = [] := by
  unfold docF at h
  split at h
  · assumption
  exfalso
  split at h
  · split at h <;> cases h
  split at h
  · split at h
    · cases h
    · split at h
      · cases h
      · split at h <;> cases h
  split at h
  · split at h <;> cases h
  split at h
  · split at h <;> cases h
  split at h
  · split at h <;> cases h
  split at h
  · cases h
  · split at h <;> cases h
theorem loop_tail {dep : Int} : ∀ s d k s' k', loopK (docF dep) s d k = (some .fin, s', k') → s'.opn = [] → ∃ k2, loopK (docF dep) s (d ++ tlB) k = (some .fin, s', k2) := by
  refine loopK_ind (docF_steps dep) (P := fun s d => ∀ k s' k', loopK (docF dep) s d k = (some .fin, s', k') → s'.opn = [] → ∃ k2, loopK (docF dep) s (d ++ tlB) k = (some .fin, s', k2)) ?_ ?_ ?_
  · intro s d x e k s' k' h ho
    rw [loopK_bad k e] at h
    injection h with h1 h
    injection h1 with h1
    injection h with h2 h3
    subst h1 h2 h3
    obtain rfl := doc_fin e
    have e1 : docF dep s tlB = .go s 8 := by kernel_rfl
    have e2 : docF dep s [9] = .go s 1 := by rw [docF_gap (by decide) (by decide) (by decide) ho]; rfl
    refine ⟨k + 8 + 1, ?_⟩
    rw [List.nil_append, loopK_go (docF_steps dep) k e1]
    show loopK (docF dep) s [9] (k + 8) = _
    rw [loopK_go (docF_steps dep) (k + 8) e2]
    exact loopK_bad _ docF_nil
  · intro s d e k s' k' h _
    rw [loopK_stop k e] at h
    cases h
  · intro s d s1 n e ih k s' k' h ho
    have hn := docF_steps dep s d s1 n e
    rw [loopK_go (docF_steps dep) k e] at h
    have e2 : docF dep s (d ++ tlB) = .go s1 n := doc_app _ e
    rw [loopK_go (docF_steps dep) k e2, drop_app _ hn.2]
    exact ih _ _ _ h ho
theorem docB_suf {dep : Int} {s : List UInt8} {t : List Tk} (hh : headP s = some 0) (hh2 : headP (s ++ tlB) = some 0) (h : docB dep s = .toks t) : docB dep (s ++ tlB) = .toks t := by
  unfold docB at h ⊢
  rw [hh] at h
  rw [hh2]
  simp only [List.drop_zero] at h ⊢
  have hx := fun s' k' => loop_tail (dep := dep) sc0 s 0 s' k'
  generalize loopK (docF dep) sc0 s 0 = r at h hx
  obtain ⟨x, s', k⟩ := r
  cases x with
  | none => cases h
  | some x =>
    cases x with
    | syn => cases h
    | deep => cases h
    | fin =>
      simp only at h
      by_cases hr : (s'.rooted && s'.opn.isEmpty) = true
      · have ho : s'.opn = [] := by
          rw [Bool.and_eq_true] at hr
          exact List.isEmpty_iff.1 hr.2
        obtain ⟨k2, e2⟩ := hx s' k rfl ho
        rw [e2]
        exact h
      · rw [if_neg hr] at h; cases h
theorem tokB_suf {dep : Int} {s : List UInt8} (hh : headP s = some 0) (hh2 : headP (s ++ tlB) = some 0) (h : (tokB dep s).code = 0) : tokB dep (s ++ tlB) = tokB dep s := by
  cases hd : docB dep s with
  | syn => unfold tokB at h; rw [hd] at h; cases hr : runesB s <;> rw [hr] at h <;> cases h
  | deep k =>
    unfold tokB at h; rw [hd] at h
    cases hr : runesB s with
    | none => rw [hr] at h; cases h
    | some q => rw [hr] at h; simp only at h; split at h <;> cases h
  | toks t =>
    cases hr : runesB s with
    | some q => unfold tokB at h; rw [hd, hr] at h; cases h
    | none => unfold tokB; rw [docB_suf hh hh2 hd, runes_suf hr, hd, hr]
theorem head_no {s : List UInt8} (h1 : Lib.hasPrefix s [239, 187, 191] = false) (h2 : Lib.hasPrefix s [60, 63, 120, 109, 108] = false) : headP s = some 0 := by
  unfold headP
  rw [h1]
  simp only [Bool.false_eq_true, if_false, List.drop_zero]
  rw [h2]
  rfl
theorem head_both {s : List UInt8} (h : ¬ (1 < s.length ∧ (s.take 2 = [60, 63] ∨ bt s 0 = 239))) : headP s = some 0 ∧ headP (s ++ tlB) = some 0 := by
  match s with
  | [] => exact ⟨by kernel_rfl, by kernel_rfl⟩
  | [c] =>
    refine ⟨head_no ?_ ?_, head_no ?_ ?_⟩
    · simp [Lib.hasPrefix, List.isPrefixOf]
    · simp [Lib.hasPrefix, List.isPrefixOf]
    · simp [Lib.hasPrefix, List.isPrefixOf, tlB]
    · simp [Lib.hasPrefix, List.isPrefixOf, tlB]
  | c :: c2 :: t =>
    have hc : ¬ ((c = 60 ∧ c2 = 63) ∨ c = 239) := by
      intro e
      apply h
      refine ⟨by simp, ?_⟩
      rcases e with ⟨rfl, rfl⟩ | rfl
      · exact Or.inl rfl
      · exact Or.inr rfl
    have k1 : (239 == c) = false := by rw [beq_eq_false_iff_ne]; intro e; exact hc (Or.inr e.symm)
    have k2 : ((60 == c) && (63 == c2)) = false := by
      rw [Bool.eq_false_iff]; intro e; rw [Bool.and_eq_true, beq_iff_eq, beq_iff_eq] at e
      exact hc (Or.inl ⟨e.1.symm, e.2.symm⟩)
    refine ⟨head_no ?_ ?_, head_no ?_ ?_⟩
    · simp [Lib.hasPrefix, List.isPrefixOf, k1]
    · simp only [Lib.hasPrefix, List.isPrefixOf]
      rw [← Bool.and_assoc, k2]; rfl
    · simp [Lib.hasPrefix, List.isPrefixOf, k1]
    · simp only [Lib.hasPrefix, List.cons_append, List.isPrefixOf]
      rw [← Bool.and_assoc, k2]; rfl
end Go.Proofs.YtldnigkaagcciaaDoor

/- Layer 11's laws: LexBlanks. -/
namespace Go.Proofs.YtldnigkaagcciaaDoor
open Go.RowKit

set_option maxRecDepth 100000 in
set_option maxHeartbeats 4000000 in
/-- The law LexBlanks. -/
theorem blanks11_law (l : List UInt8) (d : Int) (w : World) (_ : l.length ≤ maxLen) (hd : (Lit.int .u8 d).wf = true) (A : Addr) (hL : Laid11 w A) :
    Calls Tryd.prog 6 #[.string ⟨l.toArray⟩, .int .u8 d] w (LawPost w) := by
  obtain ⟨hd0, hd1⟩ := u8_bd11 hd
  clear hd
  have ha := Lib.hid (fun (W : World) (hW : Laid11 W A) => awake11_any A W hW)
  by_cases hl : l.length ≤ 3000
  · have hl2 : ¬ (3000 < (l.length : Int)) := by omega
    by_cases hout : 1 < l.length ∧ (l.take 2 = [60, 63] ∨ bt l 0 = 239)
    · obtain ⟨h1, h2⟩ := hout
      have h1' : 1 < (l.length : Int) := by omega
      have h2' : ¬ ((l.length : Int) < 2) := by omega
      have h3 : 0 < l.length := by omega
      by_cases ht : l.take 2 = [60, 63]
      · go_enter Tryd.func6, Tryd.ntmps6
        go_wp2_with fail
        refine (ha.out w hL).mono ?_; rintro e w1 ⟨rfl, hb⟩
        replace hb := Lib.hid hb
        go_wp2_with fail
        go_ret
        exact ⟨rfl, hb.out⟩
      · have h4 := h2.resolve_left ht
        go_enter Tryd.func6, Tryd.ntmps6
        go_wp2_with fail
        refine (ha.out w hL).mono ?_; rintro e w1 ⟨rfl, hb⟩
        replace hb := Lib.hid hb
        go_wp2_with fail
        go_ret
        exact ⟨rfl, hb.out⟩
    · have hh := head_both hout
      have e2 := tokB_pre d hh.1
      have e3 := tokB_suf (dep := d) hh.1 hh.2
      have hlen := tokB_len (dep := d) (l := l)
      have r1 := Lib.hid (res11_any l d A w hL (by omega))
      have r2 := Lib.hid (fun (W : World) (hW : Laid11 W A) => res11_any (hdB ++ l) d A W hW (by rw [List.length_append]; show 12 + l.length ≤ _; omega))
      have r3 := Lib.hid (fun (W : World) (hW : Laid11 W A) => res11_any (l ++ tlB) d A W hW (by rw [List.length_append]; show l.length + 9 ≤ _; omega))
      rw [e2] at r2
      generalize tokB d (l ++ tlB) = o3 at r3 e3
      generalize tokB d l = o at r1 r2 e3 hlen
      unfold hdB at r2
      unfold tlB at r3
      clear hh e2
      have hcond : (1 < (l.length : Int) ∧ ¬ ((l.length : Int) < 2) ∧ 0 < l.length ∧ (l.take 2 == [60, 63]) = false ∧ (bt l 0 == 239) = false) ∨ ¬ (1 < (l.length : Int)) := by
        by_cases h1 : 1 < l.length
        · exact Or.inl ⟨by omega, by omega, by omega, by rw [beq_eq_false_iff_ne]; exact fun e => hout ⟨h1, Or.inl e⟩, by rw [beq_eq_false_iff_ne]; exact fun e => hout ⟨h1, Or.inr e⟩⟩
        · exact Or.inr (by omega)
      clear hout
      replace hL := Lib.hid hL
      replace e3 := Lib.hid e3
      by_cases hc : o.code = 0
      · obtain rfl := e3.out hc
        clear e3
        rcases hcond with ⟨h1, h2, h3, h4, h5⟩ | h1
        all_goals
          replace hc := Lib.hid hc
          go_enter Tryd.func6, Tryd.ntmps6
          go_wp2_with fail
          refine r1.out.mono ?_; rintro e w1 ⟨a1, n1, c1, v1, P1, rfl, q1, b1⟩
          have hL1 := Lib.hid (hL.out.below b1)
          replace q1 := Lib.hid q1
          replace b1 := Lib.hid b1
          clear r1 hL
          go_wp2_with fail
          all_goals try (exfalso; omega)
          refine (r2.out w1 hL1.out).mono ?_; rintro e w2 ⟨a2, n2, c2, v2, P2, rfl, q2, b2⟩
          have hL2 := Lib.hid (hL1.out.below b2)
          have q1 := Lib.hid (q1.out.below b2)
          have q2 := Lib.hid q2
          have b12 := Lib.hid (b1.out.andThen b2)
          clear r2 hL1 b1 b2
          go_wp2_with fail
          all_goals try (exfalso; omega)
          refine (r3.out w2 hL2.out).mono ?_; rintro e w3 ⟨a3, n3, c3, v3, P3, rfl, q3, b3⟩
          have hL3 := Lib.hid (hL2.out.below b3)
          have u1 := q1.out.below b3
          have u2 := q2.out.below b3
          have u3 := q3
          have b13 := Lib.hid (b12.out.andThen b3)
          clear r3 hL2 b12 b3 q1 q2 q3
          have hP1 : P1.length ≤ 1000000 := by have := congrArg List.length u1.fst; rw [List.length_map] at this; omega
          have k1 := u1.err.calls
          have k3 := u3.err.calls
          rw [hc.out] at k1 k3
          have s13 := Lib.hid (same11_any _ _ _ _ P1 P3 w3 u1.tks u3.tks (u1.fst.trans u3.fst.symm) hP1)
          replace k1 := Lib.hid k1
          replace k3 := Lib.hid k3
          replace u1 := Lib.hid u1
          replace u2 := Lib.hid u2
          replace hP1 := Lib.hid hP1
          clear u3
          go_wp2_with fail
          refine k1.out.mono ?_; rintro e w' ⟨rfl, rfl⟩
          go_wp2_with fail
          refine k3.out.mono ?_; rintro e w' ⟨rfl, rfl⟩
          go_wp2_with fail
          refine s13.out.mono ?_; rintro e w4 ⟨rfl, d4⟩
          have hL4 := hL3.out.below (d4.below _)
          have u1 := Lib.hid (u1.out.below (d4.below _))
          have u2 := Lib.hid (u2.out.below (d4.below _))
          have b14 := Lib.hid (b13.out.trans (d4.below _))
          have ha4 := Lib.hid (ha.out w4 hL4)
          clear hL3 hL4 b13 d4 k1 k3 s13 ha
          go_wp2_with fail
          refine ha4.out.mono ?_; rintro e w5 ⟨rfl, b5⟩
          have v1 := u1.out.below b5
          have v2 := u2.out.below b5
          have b15 := Lib.hid (b14.out.andThen b5)
          have k1 := v1.err.calls
          have k2 := v2.err.calls
          rw [hc.out] at k1 k2
          have s12 := Lib.hid (same11_any _ _ _ _ P1 P2 w5 v1.tks v2.tks (v1.fst.trans v2.fst.symm) hP1.out)
          replace k1 := Lib.hid k1
          replace k2 := Lib.hid k2
          clear v1 v2 u1 u2 b5 b14 ha4
          go_wp2_with fail
          refine k1.out.mono ?_; rintro e w' ⟨rfl, rfl⟩
          go_wp2_with fail
          refine k2.out.mono ?_; rintro e w' ⟨rfl, rfl⟩
          go_wp2_with fail
          refine s12.out.mono ?_; rintro e w6 ⟨rfl, d6⟩
          have b16 := Lib.hid (b15.out.trans (d6.below _))
          clear d6
          go_wp2_with fail
          go_ret
          exact ⟨rfl, b16.out⟩
      · clear e3
        generalize hcc : o.code = cc at hc
        rcases hcond with ⟨h1, h2, h3, h4, h5⟩ | h1
        all_goals
          replace hcc := Lib.hid hcc
          go_enter Tryd.func6, Tryd.ntmps6
          go_wp2_with fail
          refine r1.out.mono ?_; rintro e w1 ⟨a1, n1, c1, v1, P1, rfl, q1, b1⟩
          have hL1 := Lib.hid (hL.out.below b1)
          replace q1 := Lib.hid q1
          replace b1 := Lib.hid b1
          clear r1 hL
          go_wp2_with fail
          all_goals try (exfalso; omega)
          refine (r2.out w1 hL1.out).mono ?_; rintro e w2 ⟨a2, n2, c2, v2, P2, rfl, q2, b2⟩
          have hL2 := Lib.hid (hL1.out.below b2)
          have q1 := Lib.hid (q1.out.below b2)
          have q2 := Lib.hid q2
          have b12 := Lib.hid (b1.out.andThen b2)
          clear r2 hL1 b1 b2
          go_wp2_with fail
          all_goals try (exfalso; omega)
          refine (r3.out w2 hL2.out).mono ?_; rintro e w3 ⟨a3, n3, c3, v3, P3, rfl, q3, b3⟩
          have hL3 := hL2.out.below b3
          have u1 := q1.out.below b3
          have u2 := q2.out.below b3
          have b13 := Lib.hid (b12.out.andThen b3)
          have ha4 := Lib.hid (ha.out w3 hL3)
          clear r3 hL2 b12 b3 q1 q2 q3 ha hL3
          have hP1 : P1.length ≤ 1000000 := by have := congrArg List.length u1.fst; rw [List.length_map] at this; omega
          have k1 := u1.err.calls
          rw [hcc.out] at k1
          replace k1 := Lib.hid k1
          replace u1 := Lib.hid u1
          replace u2 := Lib.hid u2
          replace hP1 := Lib.hid hP1
          go_wp2_with fail
          refine k1.out.mono ?_; rintro e w' ⟨rfl, rfl⟩
          clear k1
          go_wp2_with fail
          refine ha4.out.mono ?_; rintro e w5 ⟨rfl, b5⟩
          have v1 := u1.out.below b5
          have v2 := u2.out.below b5
          have b15 := Lib.hid (b13.out.andThen b5)
          have k1 := v1.err.calls
          have k2 := v2.err.calls
          rw [hcc.out] at k1 k2
          have s12 := Lib.hid (same11_any _ _ _ _ P1 P2 w5 v1.tks v2.tks (v1.fst.trans v2.fst.symm) hP1.out)
          replace k1 := Lib.hid k1
          replace k2 := Lib.hid k2
          clear v1 v2 u1 u2 b5 b13 ha4
          go_wp2_with fail
          refine k1.out.mono ?_; rintro e w' ⟨rfl, rfl⟩
          go_wp2_with fail
          refine k2.out.mono ?_; rintro e w' ⟨rfl, rfl⟩
          go_wp2_with fail
          refine s12.out.mono ?_; rintro e w6 ⟨rfl, d6⟩
          have b16 := Lib.hid (b15.out.trans (d6.below _))
          clear d6
          go_wp2_with fail
          go_ret
          exact ⟨rfl, b16.out⟩
  · have hl2 : 3000 < (l.length : Int) := by omega
    go_enter Tryd.func6, Tryd.ntmps6
    go_wp2_with fail
    refine (ha.out w hL).mono ?_; rintro e w1 ⟨rfl, hb⟩
    replace hb := Lib.hid hb
    go_wp2_with fail
    go_ret
    exact ⟨rfl, hb.out⟩
end Go.Proofs.YtldnigkaagcciaaDoor
