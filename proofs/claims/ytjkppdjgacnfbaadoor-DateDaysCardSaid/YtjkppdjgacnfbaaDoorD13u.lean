/- Layer 13, plain: what the program reads and what the document's reader reads is the same: pieces. -/
import Derived.Test.YtjkppdjgacnfbaaDoorD13r
namespace Go.Proofs.YtjkppdjgacnfbaaDoor
open Go.RowKit

/-- Both answer alike. -/
def Alike13 (p q : Int × Bool) : Prop := p.2 = q.2 ∧ (p.2 = true → p.1 = q.1)
theorem alike_no {p q : Int × Bool} (h : p.2 = false) (k : q.2 = false) : Alike13 p q := ⟨by rw [h, k], fun e => by rw [h] at e; cases e⟩
theorem alike_same {p q : Int × Bool} (h : p = q) : Alike13 p q := ⟨by rw [h], fun _ => by rw [h]⟩

/-- What is bad stays bad. -/
theorem numC_bad {k : Nat} {s : RSt} (h : s.2 = true) : (numC k s).2.2 = true := by unfold numC; split; rfl; exact h
theorem signC_bad {p : List UInt8} {s : RSt} (h : s.2 = true) : (signC s p).2 = true := by unfold signC; show (if _ then s.2 else true) = true; split; exact h; rfl
theorem digitsC_bad {s : RSt} (h : s.2 = true) : (digitsC s).2 = true := by unfold digitsC; show (if _ then true else s.2) = true; split; rfl; exact h
theorem partC_bad {k : Nat} {s : RSt} (h : s.2 = true) : (partC k s).2.2 = true := by unfold partC; split; rfl; exact numC_bad h
theorem monthC_bad {s : RSt} (h : s.2 = true) : (monthC s).2.2 = true := by
  unfold monthC
  cases monF monthsL s.1 with
  | none => rfl
  | some p => obtain ⟨m, t⟩ := p; exact h
theorem yearC_bad {s : RSt} (h : s.2 = true) : (yearC s).2.2 = true := by unfold yearC; split; exact numC_bad h; exact numC_bad h
theorem hoursC_bad {p : List UInt8} {s : RSt} (h : s.2 = true) : (hoursC p s).2.2 = true := partC_bad (signC_bad (partC_bad h))
theorem secondsC_bad {s : RSt} (h : s.2 = true) : (secondsC s).2.2 = true := partC_bad (signC_bad h)
theorem offsetC_bad {p : List UInt8} {s : RSt} (h : s.2 = true) : (offsetC p s).2.2 = true := by
  unfold offsetC
  split
  · exact hoursC_bad h
  · exact hoursC_bad (signC_bad h)
theorem zoneC_bad {s : RSt} (h : s.2 = true) : (zoneC s).2.2 = true := by
  unfold zoneC
  cases zoneNm s.1 with
  | none => exact offsetC_bad h
  | some z => exact h
theorem dateC_bad {s : RSt} (h : s.2 = true) (y m d : Nat) (c : Int) : (dateC s y m d c).2 = false := by unfold dateC; rw [if_pos (Or.inl h)]
theorem dateC_rest {s : RSt} (h : s.1 ≠ []) (y m d : Nat) (c : Int) : (dateC s y m d c).2 = false := by unfold dateC; rw [if_pos (Or.inr (Or.inl h))]
theorem r822g_bad {d m y : Nat} {q : Int × RSt} (h : q.2.2 = true) : (r822g d m y q).2 = false := dateC_bad (zoneC_bad h) _ _ _ _
theorem r822f_bad {d m y n : Nat} {k : Bool × RSt} (h : k.2.2 = true) : (r822f d m y n k).2 = false := by
  unfold r822f
  split
  · exact r822g_bad h
  · exact r822g_bad (signC_bad (secondsC_bad h))
theorem r822e_bad {d m y : Nat} {k : Nat × RSt} (h : k.2.2 = true) : (r822e d m y k).2 = false := r822f_bad h
theorem r822d_bad {d m : Nat} {y : Nat × RSt} (h : y.2.2 = true) : (r822d d m y).2 = false := r822e_bad (hoursC_bad (signC_bad h))
theorem r822b_bad {d : Nat} {m : Nat × RSt} (h : m.2.2 = true) : (r822b d m).2 = false := r822d_bad (yearC_bad (signC_bad h))
theorem r822b_gap {d : Nat} {m : Nat × RSt} (h : (signC m.2 [32]).2 = true) : (r822b d m).2 = false := r822d_bad (yearC_bad h)
theorem r822a_bad {d : Nat × RSt} (h : d.2.2 = true) : (r822a d).2 = false := r822b_bad (monthC_bad (signC_bad h))
theorem r3339g_bad {y m d : Nat} {z : Int × RSt} (h : z.2.2 = true) : (r3339g y m d z).2 = false := dateC_bad h _ _ _ _
theorem r3339f_bad {y m d c : Nat} {s : RSt} (h : s.2 = true) : (r3339f y m d c s).2 = false := by
  unfold r3339f
  split
  · exact r3339g_bad h
  · split
    · exact r3339g_bad h
    · exact r3339g_bad (offsetC_bad h)
theorem r3339e_bad {y m d c : Nat} {k : Bool × RSt} (h : k.2.2 = true) : (r3339e y m d c k).2 = false := by
  unfold r3339e
  split
  · exact r3339f_bad (digitsC_bad h)
  · exact r3339f_bad h
theorem r3339d_bad {y m d h : Nat} {c : Nat × RSt} (k : c.2.2 = true) : (r3339d y m d h c).2 = false := r3339e_bad k
theorem r3339c_bad {y m d : Nat} {h : Nat × RSt} (k : h.2.2 = true) : (r3339c y m d h).2 = false := r3339d_bad (secondsC_bad k)
theorem teeC_bad {s : RSt} (h : s.2 = true) : (teeC s).2 = true := by
  unfold teeC
  split
  · exact h
  · split
    · exact h
    · exact signC_bad h
theorem r3339b_bad {y m : Nat} {d : Nat × RSt} (h : d.2.2 = true) : (r3339b y m d).2 = false := r3339c_bad (hoursC_bad (teeC_bad h))
theorem r3339a_bad {y : Nat} {m : Nat × RSt} (h : m.2.2 = true) : (r3339a y m).2 = false := r3339b_bad (numC_bad (signC_bad h))
theorem r3339y_bad {y : Nat × RSt} (h : y.2.2 = true) : (r3339y y).2 = false := r3339a_bad (numC_bad (signC_bad h))

/-- Digits: both read them, or both don't. -/
theorem num_dig (k : Nat) (l : List UInt8) :
    ((numC k (l, false)).2.2 = true ∧ digR k l = (0, [], false) ∧ aheadL l < k) ∨
    (∃ v, numC k (l, false) = (v, (l.drop k, false)) ∧ digR k l = (v, l.drop k, true) ∧ v < 10 ^ k ∧ k ≤ aheadL l) := by
  by_cases h : aheadL l < k
  · refine Or.inl ⟨?_, ?_, h⟩
    · unfold numC; rw [if_pos h]
    · unfold digR; rw [if_pos h]
  · refine Or.inr ⟨valN 0 (l.take k), ?_, ?_, valN_bd (by omega), by omega⟩
    · unfold numC; rw [if_neg h]
    · unfold digR; rw [if_neg h]
theorem sig_sg (l p : List UInt8) :
    ((signC (l, false) p).2 = true ∧ sgR l p = ([], false)) ∨ (signC (l, false) p = (l.drop p.length, false) ∧ sgR l p = (l.drop p.length, true)) := by
  cases h : Lib.hasPrefix l p with
  | false => exact Or.inl ⟨by unfold signC; show (if Lib.hasPrefix l p = true then false else true) = true; rw [h]; rfl, by unfold sgR; rw [h]; rfl⟩
  | true =>
    refine Or.inr ⟨?_, by unfold sgR; rw [h]; rfl⟩
    unfold signC Lib.trimPrefix
    show ((if Lib.hasPrefix l p = true then l.drop p.length else l), (if Lib.hasPrefix l p = true then false else true)) = _
    rw [h]; rfl

/-- Hours and minutes. -/
def hmR (h m : Nat × List UInt8 × Bool) (b : Bool) : Bool := h.2.2 && b && m.2.2 && decide (h.1 ≤ 23) && decide (m.1 ≤ 59)
theorem hours_alike (l p : List UInt8) :
    ((hoursC p (l, false)).2.2 = true ∧ hmR (digR 2 l) (digR 2 (sgR (digR 2 l).2.1 p).1) (sgR (digR 2 l).2.1 p).2 = false) ∨
    (∃ a b t u v, digR 2 l = (a, t, true) ∧ sgR t p = (u, true) ∧ digR 2 u = (b, v, true) ∧ a ≤ 23 ∧ b ≤ 59 ∧ hoursC p (l, false) = (a * 3600 + b * 60, (v, false))) := by
  unfold hoursC
  rcases num_dig 2 l with ⟨h1, h2, _⟩ | ⟨a, h1, h2, _, _⟩
  · refine Or.inl ⟨partC_bad (signC_bad ?_), by rw [h2]; rfl⟩
    unfold partC
    split
    · rfl
    · exact h1
  by_cases ha : 23 < a
  · refine Or.inl ⟨partC_bad (signC_bad ?_), ?_⟩
    · unfold partC; rw [h1]; show (if 23 < a then _ else _ : Nat × RSt).2.2 = true; rw [if_pos ha]
    · rw [h2]; unfold hmR; show (true && _ && _ && decide (a ≤ 23) && _) = false; rw [decide_eq_false (by omega : ¬ a ≤ 23)]; simp
  have e1 : partC 23 (l, false) = (a, (l.drop 2, false)) := by
    unfold partC; rw [h1]; show (if 23 < a then _ else _ : Nat × RSt) = _; rw [if_neg ha]
  rw [e1, h2]
  show ((partC 59 (signC (l.drop 2, false) p)).2.2 = true ∧ hmR (a, l.drop 2, true) (digR 2 (sgR (l.drop 2) p).1) (sgR (l.drop 2) p).2 = false) ∨ _
  rcases sig_sg (l.drop 2) p with ⟨h3, h4⟩ | ⟨h3, h4⟩
  · exact Or.inl ⟨partC_bad h3, by rw [h4]; unfold hmR; simp⟩
  generalize hu : (l.drop 2).drop p.length = u at *
  rw [h3, h4]
  rcases num_dig 2 u with ⟨h5, h6, _⟩ | ⟨b, h5, h6, _, _⟩
  · refine Or.inl ⟨?_, by show hmR _ (digR 2 u) _ = false; rw [h6]; unfold hmR; simp⟩
    unfold partC
    split
    · rfl
    · exact h5
  by_cases hb : 59 < b
  · refine Or.inl ⟨?_, ?_⟩
    · unfold partC; rw [h5]; show (if 59 < b then _ else _ : Nat × RSt).2.2 = true; rw [if_pos hb]
    · show hmR _ (digR 2 u) _ = false; rw [h6]; unfold hmR; show (true && _ && _ && _ && decide (b ≤ 59)) = false; rw [decide_eq_false (by omega : ¬ b ≤ 59)]; simp
  have e2 : partC 59 (u, false) = (b, (u.drop 2, false)) := by
    unfold partC; rw [h5]; show (if 59 < b then _ else _ : Nat × RSt) = _; rw [if_neg hb]
  exact Or.inr ⟨a, b, l.drop 2, u, u.drop 2, rfl, h4, h6, by omega, by omega, by rw [e2]⟩
/-- A number behind a colon. -/
theorem secs_alike (l : List UInt8) :
    ((secondsC (l, false)).2.2 = true ∧ ((sgR l [58]).2 && (digR 2 (sgR l [58]).1).2.2 && decide ((digR 2 (sgR l [58]).1).1 ≤ 59)) = false) ∨
    (∃ u b v, sgR l [58] = (u, true) ∧ digR 2 u = (b, v, true) ∧ b ≤ 59 ∧ secondsC (l, false) = (b, (v, false))) := by
  unfold secondsC
  rcases sig_sg l [58] with ⟨h3, h4⟩ | ⟨h3, h4⟩
  · exact Or.inl ⟨partC_bad h3, by rw [h4]; rfl⟩
  generalize hu : l.drop [58].length = u at *
  rw [h3, h4]
  rcases num_dig 2 u with ⟨h5, h6, _⟩ | ⟨b, h5, h6, _, _⟩
  · refine Or.inl ⟨?_, by show (true && (digR 2 u).2.2 && _) = false; rw [h6]; rfl⟩
    unfold partC
    split
    · rfl
    · exact h5
  by_cases hb : 59 < b
  · refine Or.inl ⟨?_, ?_⟩
    · unfold partC; rw [h5]; show (if 59 < b then _ else _ : Nat × RSt).2.2 = true; rw [if_pos hb]
    · show (true && (digR 2 u).2.2 && decide ((digR 2 u).1 ≤ 59)) = false; rw [h6]; show (true && true && decide (b ≤ 59)) = false; rw [decide_eq_false (by omega : ¬ b ≤ 59)]; rfl
  have e2 : partC 59 (u, false) = (b, (u.drop 2, false)) := by
    unfold partC; rw [h5]; show (if 59 < b then _ else _ : Nat × RSt) = _; rw [if_neg hb]
  exact Or.inr ⟨u, b, u.drop 2, rfl, h6, by omega, e2⟩

theorem pre_nil (c : UInt8) : Lib.hasPrefix [] [c] = false := rfl
theorem pre_cons (c x : UInt8) (t : List UInt8) : Lib.hasPrefix (x :: t) [c] = (c == x) := by
  show (c == x && List.isPrefixOf [] t) = (c == x)
  simp
theorem trim_cons (c : UInt8) (t : List UInt8) : Lib.trimPrefix (c :: t) [c] = t := by
  unfold Lib.trimPrefix
  rw [if_pos (by rw [pre_cons]; simp)]
  rfl
theorem trim_not {c x : UInt8} (h : c ≠ x) (t : List UInt8) : Lib.trimPrefix (x :: t) [c] = x :: t := by
  unfold Lib.trimPrefix
  rw [if_neg (by rw [pre_cons]; simpa using h)]
theorem skip_nil (c : UInt8) (b : Bool) : skipC ([], b) [c] = (false, ([], b)) := rfl
theorem skip_yes (c : UInt8) (t : List UInt8) (b : Bool) : skipC (c :: t, b) [c] = (true, (t, b)) := by
  unfold skipC; show (Lib.hasPrefix (c :: t) [c], (Lib.trimPrefix (c :: t) [c], b)) = _; rw [trim_cons, pre_cons]; simp
theorem skip_no {c x : UInt8} (h : c ≠ x) (t : List UInt8) (b : Bool) : skipC (x :: t, b) [c] = (false, (x :: t, b)) := by
  unfold skipC; show (Lib.hasPrefix (x :: t) [c], (Lib.trimPrefix (x :: t) [c], b)) = _; rw [trim_not h, pre_cons]; simp [h]
theorem sign_nil (c : UInt8) (b : Bool) : signC ([], b) [c] = ([], true) := rfl
theorem sign_yes (c : UInt8) (t : List UInt8) (b : Bool) : signC (c :: t, b) [c] = (t, b) := by
  unfold signC; show (Lib.trimPrefix (c :: t) [c], (if Lib.hasPrefix (c :: t) [c] = true then b else true)) = _; rw [trim_cons, pre_cons]; simp
theorem sign_no {c x : UInt8} (h : c ≠ x) (t : List UInt8) (b : Bool) : signC (x :: t, b) [c] = (x :: t, true) := by
  unfold signC; show (Lib.trimPrefix (x :: t) [c], (if Lib.hasPrefix (x :: t) [c] = true then b else true)) = _; rw [trim_not h, pre_cons]; simp [h]
theorem bt_cons (x : UInt8) (t : List UInt8) : bt (x :: t) 0 = (x.toNat : Int) := by unfold bt; rfl
theorem bt_is {x c : UInt8} {t : List UInt8} : (bt (x :: t) 0 = (c.toNat : Int)) ↔ c = x := by
  rw [bt_cons]
  constructor
  · intro h; exact (UInt8.toNat_inj.1 (by omega)).symm
  · rintro rfl; rfl

/-- A zone of hours and minutes. -/
theorem off_alike (p l : List UInt8) :
    (((offsetC p (l, false)).2.2 = true ∨ (offsetC p (l, false)).2.1 ≠ []) ∧ (offR l p).2 = false) ∨
    (∃ z, offsetC p (l, false) = (z, ([], false)) ∧ offR l p = (z, true)) := by
  cases l with
  | nil => exact Or.inl ⟨Or.inl (by unfold offsetC; rw [skip_nil]; exact hoursC_bad rfl), rfl⟩
  | cons x t =>
    have hf : ∀ neg : Bool, ∀ h m b, hmR h m b = false → (off1 neg h m b).2 = false := by
      intro neg h m b e
      unfold off1
      show offK h m b = false
      unfold offK
      unfold hmR at e
      generalize decide (h.1 ≤ 23) = k1 at *
      generalize decide (m.1 ≤ 59) = k2 at *
      generalize h.2.2 = k3 at *
      generalize m.2.2 = k4 at *
      generalize m.2.1.isEmpty = k5 at *
      revert e
      cases k1 <;> cases k2 <;> cases k3 <;> cases k4 <;> cases k5 <;> cases b <;> decide
    by_cases h45 : (45 : UInt8) = x
    · subst h45
      have eC : offsetC p (45 :: t, false) = (-((hoursC p (t, false)).1 : Int), (hoursC p (t, false)).2) := by unfold offsetC; rw [skip_yes]; rfl
      have eR : offR (45 :: t) p = off1 true (digR 2 t) (digR 2 (sgR (digR 2 t).2.1 p).1) (sgR (digR 2 t).2.1 p).2 := by unfold offR; rfl
      rw [eC, eR]
      rcases hours_alike t p with ⟨h1, h2⟩ | ⟨a, b, u, v, r, h1, h2, h3, h4, h5, h6⟩
      · exact Or.inl ⟨Or.inl h1, hf _ _ _ _ h2⟩
      · rw [h6, h1]
        show _ ∨ (∃ z, (-((a * 3600 + b * 60 : Nat) : Int), (r, false)) = (z, (([] : List UInt8), false)) ∧ _)
        show _ ∨ (∃ z, _ ∧ off1 true (a, u, true) (digR 2 (sgR u p).1) (sgR u p).2 = (z, true))
        show ((_ ∨ r ≠ []) ∧ (off1 true (a, u, true) (digR 2 (sgR u p).1) (sgR u p).2).2 = false) ∨ _
        rw [h2]
        show ((_ ∨ r ≠ []) ∧ (off1 true (a, u, true) (digR 2 v) true).2 = false) ∨ (∃ z, _ ∧ off1 true (a, u, true) (digR 2 v) true = (z, true))
        rw [h3]
        cases r with
        | nil => exact Or.inr ⟨_, rfl, by unfold off1 offK; simp [h4, h5]; omega⟩
        | cons c r => exact Or.inl ⟨Or.inr (by simp), by unfold off1 offK; simp⟩
    · by_cases h43 : (43 : UInt8) = x
      · subst h43
        have eC : offsetC p (43 :: t, false) = (((hoursC p (t, false)).1 : Int), (hoursC p (t, false)).2) := by unfold offsetC; rw [skip_no (by decide)]; show (if false = true then _ else _) = _; rw [if_neg (by decide), sign_yes]
        have eR : offR (43 :: t) p = off1 false (digR 2 t) (digR 2 (sgR (digR 2 t).2.1 p).1) (sgR (digR 2 t).2.1 p).2 := by unfold offR; rfl
        rw [eC, eR]
        rcases hours_alike t p with ⟨h1, h2⟩ | ⟨a, b, u, v, r, h1, h2, h3, h4, h5, h6⟩
        · exact Or.inl ⟨Or.inl h1, hf _ _ _ _ h2⟩
        · rw [h6, h1]
          show ((_ ∨ r ≠ []) ∧ (off1 false (a, u, true) (digR 2 (sgR u p).1) (sgR u p).2).2 = false) ∨ (∃ z, (((a * 3600 + b * 60 : Nat) : Int), (r, false)) = (z, (([] : List UInt8), false)) ∧ off1 false (a, u, true) (digR 2 (sgR u p).1) (sgR u p).2 = (z, true))
          rw [h2]
          show ((_ ∨ r ≠ []) ∧ (off1 false (a, u, true) (digR 2 v) true).2 = false) ∨ (∃ z, _ ∧ off1 false (a, u, true) (digR 2 v) true = (z, true))
          rw [h3]
          cases r with
          | nil => exact Or.inr ⟨_, rfl, by unfold off1 offK; simp [h4, h5]; omega⟩
          | cons c r => exact Or.inl ⟨Or.inr (by simp), by unfold off1 offK; simp⟩
      · refine Or.inl ⟨Or.inl ?_, ?_⟩
        · unfold offsetC
          rw [skip_no h45]
          show (if false = true then _ else _ : Int × RSt).2.2 = true
          rw [if_neg (by decide)]
          show (hoursC p (signC (x :: t, false) [43])).2.2 = true
          rw [sign_no h43]
          exact hoursC_bad rfl
        · unfold offR
          rw [if_pos]
          have e1 : ¬ bt (x :: t) 0 = 43 := fun e => h43 (bt_is.1 e)
          have e2 : ¬ bt (x :: t) 0 = 45 := fun e => h45 (bt_is.1 e)
          simp [e1, e2]
/-- The date and the time together. -/
theorem whole_alike (y m d : Nat) (c z : Int) : Alike13 (dateC ([], false) y m d (c - z)) (wholeR y m d c z) := by
  have hb := daysB_bd y m d
  unfold dateC wholeR
  generalize daysB y m d = q at *
  obtain ⟨n, b⟩ := q
  cases b with
  | false => exact alike_no (by rw [if_pos (Or.inr (Or.inr (Or.inl rfl)))]) rfl
  | true =>
    simp only at *
    by_cases h1 : 0 ≤ 86400 * n + c - z
    · by_cases h2 : 86400 * n + c - z ≤ 253402300799
      · refine alike_same ?_
        rw [if_neg (by rintro (h | h | h | h | h) <;> first | cases h | exact h rfl | omega), decide_eq_true h1, decide_eq_true h2]
        exact Prod.ext (by show n * 86400 + (c - z) = 86400 * n + c - z; omega) rfl
      · exact alike_no (by rw [if_pos (Or.inr (Or.inr (Or.inr (Or.inr (by omega)))))]) (by rw [decide_eq_false h2]; simp)
    · exact alike_no (by rw [if_pos (Or.inr (Or.inr (Or.inr (Or.inl (by omega)))))]) (by rw [decide_eq_false h1]; simp)
end Go.Proofs.YtjkppdjgacnfbaaDoor
