/- Layer 13, plain: what the program reads and what the document's reader reads is the same: pieces. -/
import Derived.Test.YtahohmdbiiknoaaGreatDoorBR32
import Derived.Test.YtahohmdbiiknoaaGreatDoorBR15
namespace Go.Proofs.YtahohmdbiiknoaaGreatDoor
open Go.RowKit

/-- Both answer alike. -/
def Alike13 (p q : Int × Bool) : Prop := p.2 = q.2 ∧ (p.2 = true → p.1 = q.1)
theorem alike_no {p q : Int × Bool} (h : p.2 = false) (k : q.2 = false) : Alike13 p q := ⟨by rw [h, k], fun e => by rw [h] at e; cases e⟩
theorem alike_same {p q : Int × Bool} (h : p = q) : Alike13 p q := ⟨by rw [h], fun _ => by rw [h]⟩

/-- What is bad stays bad. -/
theorem numC_bad {k : Nat} {s : RSt} (h : s.2 = true) : (numD k s).2.2 = true := by unfold numD; split; rfl; exact h
theorem signC_bad {p : List UInt8} {s : RSt} (h : s.2 = true) : (signC s p).2 = true := by unfold signC; show (if _ then s.2 else true) = true; split; exact h; rfl
theorem digitsC_bad {s : RSt} (h : s.2 = true) : (digitsC s).2 = true := by unfold digitsC; show (if _ then true else s.2) = true; split; rfl; exact h
theorem partC_bad {k : Nat} {s : RSt} (h : s.2 = true) : (partC k s).2.2 = true := by unfold partC; split; rfl; exact numC_bad h
theorem monthC_bad {s : RSt} (h : s.2 = true) : (monthC s).2.2 = true := by
  unfold monthC
  cases monF monthsL s.1 with
  | none => rfl
  | some p => obtain ⟨m, t⟩ := p; exact h
theorem yearC_bad {s : RSt} (h : s.2 = true) : (yearC s).2.2 = true := by unfold yearC; split; exact numC_bad h; exact numC_bad h
theorem hoursC_bad {p : List UInt8} {s : RSt} (h : s.2 = true) : (hoursC p s).2.2 = true := partC_bad (signC_bad (partC_bad h))
theorem secondsC_bad {s : RSt} (h : s.2 = true) : (secondsC s).2.2 = true := partC_bad (signC_bad h)
theorem offsetC_bad {p : List UInt8} {s : RSt} (h : s.2 = true) : (offsetC p s).2.2 = true := by
  unfold offsetC
  split
  · exact hoursC_bad h
  · exact hoursC_bad (signC_bad h)
theorem zoneC_bad {s : RSt} (h : s.2 = true) : (zoneC s).2.2 = true := by
  unfold zoneC
  cases zoneNm s.1 with
  | none => exact offsetC_bad h
  | some z => exact h
theorem dateC_bad {s : RSt} (h : s.2 = true) (y m d : Nat) (c : Int) : (dateC s y m d c).2 = false := by unfold dateC; rw [if_pos (Or.inl h)]
theorem dateC_rest {s : RSt} (h : s.1 ≠ []) (y m d : Nat) (c : Int) : (dateC s y m d c).2 = false := by unfold dateC; rw [if_pos (Or.inr (Or.inl h))]
theorem r822g_bad {d m y : Nat} {q : Int × RSt} (h : q.2.2 = true) : (r822g d m y q).2 = false := dateC_bad (zoneC_bad h) _ _ _ _
theorem r822f_bad {d m y n : Nat} {k : Bool × RSt} (h : k.2.2 = true) : (r822f d m y n k).2 = false := by
  unfold r822f
  split
  · exact r822g_bad h
  · exact r822g_bad (signC_bad (secondsC_bad h))
theorem r822e_bad {d m y : Nat} {k : Nat × RSt} (h : k.2.2 = true) : (r822e d m y k).2 = false := r822f_bad h
theorem r822d_bad {d m : Nat} {y : Nat × RSt} (h : y.2.2 = true) : (r822d d m y).2 = false := r822e_bad (hoursC_bad (signC_bad h))
theorem r822b_bad {d : Nat} {m : Nat × RSt} (h : m.2.2 = true) : (r822b d m).2 = false := r822d_bad (yearC_bad (signC_bad h))
theorem r822b_gap {d : Nat} {m : Nat × RSt} (h : (signC m.2 [32]).2 = true) : (r822b d m).2 = false := r822d_bad (yearC_bad h)
theorem r822a_bad {d : Nat × RSt} (h : d.2.2 = true) : (r822a d).2 = false := r822b_bad (monthC_bad (signC_bad h))
theorem r3339g_bad {y m d : Nat} {z : Int × RSt} (h : z.2.2 = true) : (r3339g y m d z).2 = false := dateC_bad h _ _ _ _
theorem r3339f_bad {y m d c : Nat} {s : RSt} (h : s.2 = true) : (r3339f y m d c s).2 = false := by
  unfold r3339f
  split
  · exact r3339g_bad h
  · split
    · exact r3339g_bad h
    · exact r3339g_bad (offsetC_bad h)
theorem r3339e_bad {y m d c : Nat} {k : Bool × RSt} (h : k.2.2 = true) : (r3339e y m d c k).2 = false := by
  unfold r3339e
  split
  · exact r3339f_bad (digitsC_bad h)
  · exact r3339f_bad h
theorem r3339d_bad {y m d h : Nat} {c : Nat × RSt} (k : c.2.2 = true) : (r3339d y m d h c).2 = false := r3339e_bad k
theorem r3339c_bad {y m d : Nat} {h : Nat × RSt} (k : h.2.2 = true) : (r3339c y m d h).2 = false := r3339d_bad (secondsC_bad k)
theorem teeC_bad {s : RSt} (h : s.2 = true) : (teeC s).2 = true := by
  unfold teeC
  split
  · exact h
  · split
    · exact h
    · exact signC_bad h
theorem r3339b_bad {y m : Nat} {d : Nat × RSt} (h : d.2.2 = true) : (r3339b y m d).2 = false := r3339c_bad (hoursC_bad (teeC_bad h))
theorem r3339a_bad {y : Nat} {m : Nat × RSt} (h : m.2.2 = true) : (r3339a y m).2 = false := r3339b_bad (numC_bad (signC_bad h))
theorem r3339y_bad {y : Nat × RSt} (h : y.2.2 = true) : (r3339y y).2 = false := r3339a_bad (numC_bad (signC_bad h))

/-- Digits: both read them, or both don't. -/
theorem num_dig (k : Nat) (l : List UInt8) :
    ((numD k (l, false)).2.2 = true ∧ digR k l = (0, [], false) ∧ aheadL l < k) ∨
    (∃ v, numD k (l, false) = (v, (l.drop k, false)) ∧ digR k l = (v, l.drop k, true) ∧ v < 10 ^ k ∧ k ≤ aheadL l) := by
  by_cases h : aheadL l < k
  · refine Or.inl ⟨?_, ?_, h⟩
    · unfold numD; rw [if_pos h]
    · unfold digR; rw [if_pos h]
  · refine Or.inr ⟨valN 0 (l.take k), ?_, ?_, valN_bd (by omega), by omega⟩
    · unfold numD; rw [if_neg h]
    · unfold digR; rw [if_neg h]
theorem sig_sg (l p : List UInt8) :
    ((signC (l, false) p).2 = true ∧ sgR l p = ([], false)) ∨ (signC (l, false) p = (l.drop p.length, false) ∧ sgR l p = (l.drop p.length, true)) := by
  cases h : Lib.hasPrefix l p with
  | false => exact Or.inl ⟨by unfold signC; show (if Lib.hasPrefix l p = true then false else true) = true; rw [h]; rfl, by unfold sgR; rw [h]; rfl⟩
  | true =>
    refine Or.inr ⟨?_, by unfold sgR; rw [h]; rfl⟩
    unfold signC Lib.trimPrefix
    show ((if Lib.hasPrefix l p = true then l.drop p.length else l), (if Lib.hasPrefix l p = true then false else true)) = _
    rw [h]; rfl

/-- Hours and minutes. -/
def hmR (h m : Nat × List UInt8 × Bool) (b : Bool) : Bool := h.2.2 && b && m.2.2 && decide (h.1 ≤ 23) && decide (m.1 ≤ 59)
theorem hours_alike (l p : List UInt8) :
    ((hoursC p (l, false)).2.2 = true ∧ hmR (digR 2 l) (digR 2 (sgR (digR 2 l).2.1 p).1) (sgR (digR 2 l).2.1 p).2 = false) ∨
    (∃ a b t u v, digR 2 l = (a, t, true) ∧ sgR t p = (u, true) ∧ digR 2 u = (b, v, true) ∧ a ≤ 23 ∧ b ≤ 59 ∧ hoursC p (l, false) = (a * 3600 + b * 60, (v, false))) := by
  unfold hoursC
  rcases num_dig 2 l with ⟨h1, h2, _⟩ | ⟨a, h1, h2, _, _⟩
  · refine Or.inl ⟨partC_bad (signC_bad ?_), by rw [h2]; rfl⟩
    unfold partC
    split
    · rfl
    · exact h1
  by_cases ha : 23 < a
  · refine Or.inl ⟨partC_bad (signC_bad ?_), ?_⟩
    · unfold partC; rw [h1]; show (if 23 < a then _ else _ : Nat × RSt).2.2 = true; rw [if_pos ha]
    · rw [h2]; unfold hmR; show (true && _ && _ && decide (a ≤ 23) && _) = false; rw [decide_eq_false (by omega : ¬ a ≤ 23)]; simp
  have e1 : partC 23 (l, false) = (a, (l.drop 2, false)) := by
    unfold partC; rw [h1]; show (if 23 < a then _ else _ : Nat × RSt) = _; rw [if_neg ha]
  rw [e1, h2]
  show ((partC 59 (signC (l.drop 2, false) p)).2.2 = true ∧ hmR (a, l.drop 2, true) (digR 2 (sgR (l.drop 2) p).1) (sgR (l.drop 2) p).2 = false) ∨ _
  rcases sig_sg (l.drop 2) p with ⟨h3, h4⟩ | ⟨h3, h4⟩
  · exact Or.inl ⟨partC_bad h3, by rw [h4]; unfold hmR; simp⟩
  generalize hu : (l.drop 2).drop p.length = u at *
  rw [h3, h4]
  rcases num_dig 2 u with ⟨h5, h6, _⟩ | ⟨b, h5, h6, _, _⟩
  · refine Or.inl ⟨?_, by show hmR _ (digR 2 u) _ = false; rw [h6]; unfold hmR; simp⟩
    unfold partC
    split
    · rfl
    · exact h5
  by_cases hb : 59 < b
  · refine Or.inl ⟨?_, ?_⟩
    · unfold partC; rw [h5]; show (if 59 < b then _ else _ : Nat × RSt).2.2 = true; rw [if_pos hb]
    · show hmR _ (digR 2 u) _ = false; rw [h6]; unfold hmR; show (true && _ && _ && _ && decide (b ≤ 59)) = false; rw [decide_eq_false (by omega : ¬ b ≤ 59)]; simp
  have e2 : partC 59 (u, false) = (b, (u.drop 2, false)) := by
    unfold partC; rw [h5]; show (if 59 < b then _ else _ : Nat × RSt) = _; rw [if_neg hb]
  exact Or.inr ⟨a, b, l.drop 2, u, u.drop 2, rfl, h4, h6, by omega, by omega, by rw [e2]⟩
/-- A number behind a colon. -/
theorem secs_alike (l : List UInt8) :
    ((secondsC (l, false)).2.2 = true ∧ ((sgR l [58]).2 && (digR 2 (sgR l [58]).1).2.2 && decide ((digR 2 (sgR l [58]).1).1 ≤ 59)) = false) ∨
    (∃ u b v, sgR l [58] = (u, true) ∧ digR 2 u = (b, v, true) ∧ b ≤ 59 ∧ secondsC (l, false) = (b, (v, false))) := by
  unfold secondsC
  rcases sig_sg l [58] with ⟨h3, h4⟩ | ⟨h3, h4⟩
  · exact Or.inl ⟨partC_bad h3, by rw [h4]; rfl⟩
  generalize hu : l.drop [58].length = u at *
  rw [h3, h4]
  rcases num_dig 2 u with ⟨h5, h6, _⟩ | ⟨b, h5, h6, _, _⟩
  · refine Or.inl ⟨?_, by show (true && (digR 2 u).2.2 && _) = false; rw [h6]; rfl⟩
    unfold partC
    split
    · rfl
    · exact h5
  by_cases hb : 59 < b
  · refine Or.inl ⟨?_, ?_⟩
    · unfold partC; rw [h5]; show (if 59 < b then _ else _ : Nat × RSt).2.2 = true; rw [if_pos hb]
    · show (true && (digR 2 u).2.2 && decide ((digR 2 u).1 ≤ 59)) = false; rw [h6]; show (true && true && decide (b ≤ 59)) = false; rw [decide_eq_false (by omega : ¬ b ≤ 59)]; rfl
  have e2 : partC 59 (u, false) = (b, (u.drop 2, false)) := by
    unfold partC; rw [h5]; show (if 59 < b then _ else _ : Nat × RSt) = _; rw [if_neg hb]
  exact Or.inr ⟨u, b, u.drop 2, rfl, h6, by omega, e2⟩

/-- A zone of hours and minutes. -/
theorem off_alike (p l : List UInt8) :
    (((offsetC p (l, false)).2.2 = true ∨ (offsetC p (l, false)).2.1 ≠ []) ∧ (offR l p).2 = false) ∨
    (∃ z, offsetC p (l, false) = (z, ([], false)) ∧ offR l p = (z, true)) := by
  cases l with
  | nil => exact Or.inl ⟨Or.inl (by unfold offsetC; rw [skip_nil]; exact hoursC_bad rfl), rfl⟩
  | cons x t =>
    have hf : ∀ neg : Bool, ∀ h m b, hmR h m b = false → (off1 neg h m b).2 = false := by
      intro neg h m b e
      unfold off1
      show offK h m b = false
      unfold offK
      unfold hmR at e
      generalize decide (h.1 ≤ 23) = k1 at *
      generalize decide (m.1 ≤ 59) = k2 at *
      generalize h.2.2 = k3 at *
      generalize m.2.2 = k4 at *
      generalize m.2.1.isEmpty = k5 at *
      revert e
      cases k1 <;> cases k2 <;> cases k3 <;> cases k4 <;> cases k5 <;> cases b <;> decide
    by_cases h45 : (45 : UInt8) = x
    · subst h45
      have eC : offsetC p (45 :: t, false) = (-((hoursC p (t, false)).1 : Int), (hoursC p (t, false)).2) := by unfold offsetC; rw [skip_yes]; rfl
      have eR : offR (45 :: t) p = off1 true (digR 2 t) (digR 2 (sgR (digR 2 t).2.1 p).1) (sgR (digR 2 t).2.1 p).2 := by unfold offR; rfl
      rw [eC, eR]
      rcases hours_alike t p with ⟨h1, h2⟩ | ⟨a, b, u, v, r, h1, h2, h3, h4, h5, h6⟩
      · exact Or.inl ⟨Or.inl h1, hf _ _ _ _ h2⟩
      · rw [h6, h1]
        show _ ∨ (∃ z, (-((a * 3600 + b * 60 : Nat) : Int), (r, false)) = (z, (([] : List UInt8), false)) ∧ _)
        show _ ∨ (∃ z, _ ∧ off1 true (a, u, true) (digR 2 (sgR u p).1) (sgR u p).2 = (z, true))
        show ((_ ∨ r ≠ []) ∧ (off1 true (a, u, true) (digR 2 (sgR u p).1) (sgR u p).2).2 = false) ∨ _
        rw [h2]
        show ((_ ∨ r ≠ []) ∧ (off1 true (a, u, true) (digR 2 v) true).2 = false) ∨ (∃ z, _ ∧ off1 true (a, u, true) (digR 2 v) true = (z, true))
        rw [h3]
        cases r with
        | nil => exact Or.inr ⟨_, rfl, by unfold off1 offK; simp [h4, h5]; omega⟩
        | cons c r => exact Or.inl ⟨Or.inr (by simp), by unfold off1 offK; simp⟩
    · by_cases h43 : (43 : UInt8) = x
      · subst h43
        have eC : offsetC p (43 :: t, false) = (((hoursC p (t, false)).1 : Int), (hoursC p (t, false)).2) := by unfold offsetC; rw [skip_no (by decide)]; show (if false = true then _ else _) = _; rw [if_neg (by decide), sign_yes]
        have eR : offR (43 :: t) p = off1 false (digR 2 t) (digR 2 (sgR (digR 2 t).2.1 p).1) (sgR (digR 2 t).2.1 p).2 := by unfold offR; rfl
        rw [eC, eR]
        rcases hours_alike t p with ⟨h1, h2⟩ | ⟨a, b, u, v, r, h1, h2, h3, h4, h5, h6⟩
        · exact Or.inl ⟨Or.inl h1, hf _ _ _ _ h2⟩
        · rw [h6, h1]
          show ((_ ∨ r ≠ []) ∧ (off1 false (a, u, true) (digR 2 (sgR u p).1) (sgR u p).2).2 = false) ∨ (∃ z, (((a * 3600 + b * 60 : Nat) : Int), (r, false)) = (z, (([] : List UInt8), false)) ∧ off1 false (a, u, true) (digR 2 (sgR u p).1) (sgR u p).2 = (z, true))
          rw [h2]
          show ((_ ∨ r ≠ []) ∧ (off1 false (a, u, true) (digR 2 v) true).2 = false) ∨ (∃ z, _ ∧ off1 false (a, u, true) (digR 2 v) true = (z, true))
          rw [h3]
          cases r with
          | nil => exact Or.inr ⟨_, rfl, by unfold off1 offK; simp [h4, h5]; omega⟩
          | cons c r => exact Or.inl ⟨Or.inr (by simp), by unfold off1 offK; simp⟩
      · refine Or.inl ⟨Or.inl ?_, ?_⟩
        · unfold offsetC
          rw [skip_no h45]
          show (if false = true then _ else _ : Int × RSt).2.2 = true
          rw [if_neg (by decide)]
          show (hoursC p (signC (x :: t, false) [43])).2.2 = true
          rw [sign_no h43]
          exact hoursC_bad rfl
        · unfold offR
          rw [if_pos]
          have e1 : ¬ bt (x :: t) 0 = 43 := fun e => h43 (bt_is.1 e)
          have e2 : ¬ bt (x :: t) 0 = 45 := fun e => h45 (bt_is.1 e)
          simp [e1, e2]
/-- The date and the time together. -/
theorem whole_alike (y m d : Nat) (c z : Int) : Alike13 (dateC ([], false) y m d (c - z)) (wholeR y m d c z) := by
  have hb := daysB_bd y m d
  unfold dateC wholeR
  generalize daysB y m d = q at *
  obtain ⟨n, b⟩ := q
  cases b with
  | false => exact alike_no (by rw [if_pos (Or.inr (Or.inr (Or.inl rfl)))]) rfl
  | true =>
    simp only at *
    by_cases h1 : 0 ≤ 86400 * n + c - z
    · by_cases h2 : 86400 * n + c - z ≤ 253402300799
      · refine alike_same ?_
        rw [if_neg (by rintro (h | h | h | h | h) <;> first | cases h | exact h rfl | omega), decide_eq_true h1, decide_eq_true h2]
        exact Prod.ext (by show n * 86400 + (c - z) = 86400 * n + c - z; omega) rfl
      · exact alike_no (by rw [if_pos (Or.inr (Or.inr (Or.inr (Or.inr (by omega)))))]) (by rw [decide_eq_false h2]; simp)
    · exact alike_no (by rw [if_pos (Or.inr (Or.inr (Or.inr (Or.inl (by omega)))))]) (by rw [decide_eq_false h1]; simp)
end Go.Proofs.YtahohmdbiiknoaaGreatDoor

/- Layer 13, plain: what the program reads and what the document's reader reads is the same: the whole. -/
namespace Go.Proofs.YtahohmdbiiknoaaGreatDoor
open Go.RowKit

theorem offR_other {x : UInt8} (t p : List UInt8) (h1 : (43 : UInt8) ≠ x) (h2 : (45 : UInt8) ≠ x) : (offR (x :: t) p).2 = false := by
  unfold offR
  rw [if_pos]
  have e1 : ¬ bt (x :: t) 0 = 43 := fun e => h1 (bt_is.1 e)
  have e2 : ¬ bt (x :: t) 0 = 45 := fun e => h2 (bt_is.1 e)
  simp [e1, e2]
theorem r3339R3_other {x : UInt8} (t : List UInt8) (y m d c : Nat) (h0 : x :: t ≠ [90]) (h01 : x :: t ≠ [122]) (h1 : (43 : UInt8) ≠ x) (h2 : (45 : UInt8) ≠ x) : (r3339R3 y m d c (x :: t)).2 = false := by
  unfold r3339R3
  rw [if_neg (by rw [Bool.or_eq_true, beq_iff_eq, beq_iff_eq]; rintro (h | h); exact h0 h; exact h01 h)]
  unfold r3339R4
  rw [if_neg (by rw [offR_other t _ h1 h2]; decide)]
theorem r3339g_off (y m d c : Nat) (s : List UInt8) : Alike13 (r3339g y m d ((c : Int) - (offsetC [58] (s, false)).1, (offsetC [58] (s, false)).2)) (r3339R4 y m d c (offR s [58])) := by
  unfold r3339g
  rcases off_alike [58] s with ⟨h1, h2⟩ | ⟨z, h1, h2⟩
  · refine alike_no ?_ (by unfold r3339R4; rw [if_neg (by rw [h2]; decide)])
    rcases h1 with h1 | h1
    · exact dateC_bad h1 _ _ _ _
    · exact dateC_rest h1 _ _ _ _
  · rw [h1, h2]
    unfold r3339R4
    rw [if_pos rfl]
    exact whole_alike y m d c z
theorem r3339f_alike (y m d c : Nat) (s : List UInt8) : Alike13 (r3339f y m d c (s, false)) (r3339R3 y m d c s) := by
  have hw := whole_alike y m d c 0
  rw [Int.sub_zero] at hw
  cases s with
  | nil => exact r3339g_off y m d c []
  | cons x t =>
    by_cases h90 : (90 : UInt8) = x
    · subst h90
      have e : r3339f y m d c (90 :: t, false) = dateC (t, false) y m d c := by unfold r3339f; rw [skip_yes]; rfl
      rw [e]
      cases t with
      | nil => exact hw
      | cons b t => exact alike_no (dateC_rest (by simp) _ _ _ _) (r3339R3_other _ _ _ _ _ (by simp) (by simp) (by decide) (by decide))
    by_cases h122 : (122 : UInt8) = x
    · subst h122
      have e : r3339f y m d c (122 :: t, false) = dateC (t, false) y m d c := by
        unfold r3339f; rw [skip_no h90]
        show (if false = true then _ else if (skipC (122 :: t, false) [122]).1 = true then _ else _ : Int × Bool) = _
        rw [if_neg (by decide), skip_yes]; rfl
      rw [e]
      cases t with
      | nil => exact hw
      | cons b t => exact alike_no (dateC_rest (by simp) _ _ _ _) (r3339R3_other _ _ _ _ _ (by simp) (by simp) (by decide) (by decide))
    have e : r3339f y m d c (x :: t, false) = r3339g y m d ((c : Int) - (offsetC [58] (x :: t, false)).1, (offsetC [58] (x :: t, false)).2) := by
      unfold r3339f; rw [skip_no h90]
      show (if false = true then _ else if (skipC (x :: t, false) [122]).1 = true then _ else _ : Int × Bool) = _
      rw [if_neg (by decide), skip_no h122]; rfl
    rw [e]
    unfold r3339R3
    rw [if_neg]
    · exact r3339g_off y m d c (x :: t)
    · rw [Bool.or_eq_true, beq_iff_eq, beq_iff_eq]
      rintro (h | h)
      · injection h with h _; exact h90 h.symm
      · injection h with h _; exact h122 h.symm
theorem r3339e_alike (y m d c : Nat) (s : List UInt8) : Alike13 (r3339e y m d c (skipC (s, false) [46])) (r3339R3 y m d c (fracR s)) := by
  cases s with
  | nil =>
    have ef : fracR [] = [] := by simp [fracR]
    have ee : r3339e y m d c (false, ([], false)) = r3339f y m d c ([], false) := by unfold r3339e; rw [if_neg (by decide)]
    rw [skip_nil, ef, ee]
    exact r3339f_alike y m d c []
  | cons x t =>
    by_cases h46 : (46 : UInt8) = x
    · subst h46
      rw [skip_yes]
      have ee : r3339e y m d c (true, (t, false)) = r3339f y m d c (digitsC (t, false)) := by unfold r3339e; rw [if_pos rfl]
      rw [ee]
      by_cases h0 : aheadL t = 0
      · have ef : fracR (46 :: t) = 46 :: t := by
          unfold fracR
          rw [if_neg]
          intro hh
          simp only [Bool.and_eq_true, decide_eq_true_eq] at hh
          have ht : t ≠ [] := by rintro rfl; simp at hh
          rw [ahead_step ht] at h0
          have eb : bt (46 :: t) 1 = bt t 0 := (bt_tail (l := 46 :: t) hh.1.1.1).symm
          rw [if_pos ⟨by omega, by omega⟩] at h0
          omega
        rw [ef]
        exact alike_no (r3339f_bad (by unfold digitsC; show (if aheadL t = 0 then true else false) = true; rw [if_pos h0])) (r3339R3_other _ _ _ _ _ (by simp) (by simp) (by decide) (by decide))
      · have ht : t ≠ [] := by rintro rfl; exact h0 rfl
        have eb : bt (46 :: t) 1 = bt t 0 := (bt_tail (l := 46 :: t) (by have := List.length_pos_iff.2 ht; show 1 < t.length + 1; omega)).symm
        have hd := ahead_step ht
        have hdd : 48 ≤ bt t 0 ∧ bt t 0 ≤ 57 := by
          by_cases hk : 48 ≤ bt t 0 ∧ bt t 0 ≤ 57
          · exact hk
          · rw [if_neg hk] at hd; exact absurd hd h0
        have ef : fracR (46 :: t) = t.drop (aheadL t) := by
          unfold fracR
          rw [if_pos]
          · rfl
          · have h1 := List.length_pos_iff.2 ht
            have h2 : 1 < (46 :: t : List UInt8).length := by show 1 < t.length + 1; omega
            have h3 : bt (46 :: t) 0 = 46 := bt_cons _ _
            simp only [Bool.and_eq_true, decide_eq_true_eq]
            exact ⟨⟨⟨h2, h3⟩, by omega⟩, by omega⟩
        rw [ef]
        have ed : digitsC (t, false) = (t.drop (aheadL t), false) := by unfold digitsC; show (_, (if aheadL t = 0 then true else false)) = _; rw [if_neg h0]
        rw [ed]
        exact r3339f_alike y m d c _
    · have ef : fracR (x :: t) = x :: t := by
        unfold fracR
        rw [if_neg]
        intro hh
        simp only [Bool.and_eq_true, decide_eq_true_eq] at hh
        exact h46 (bt_is.1 hh.1.1.2)
      have ee : r3339e y m d c (false, (x :: t, false)) = r3339f y m d c (x :: t, false) := by unfold r3339e; rw [if_neg (fun h => Bool.noConfusion h)]
      rw [skip_no h46, ef, ee]
      exact r3339f_alike y m d c _
theorem r3339c_alike (y m d : Nat) (s : List UInt8) : Alike13 (r3339c y m d (hoursC [58] (s, false))) (r3339R2 y m d (clkR s false)) := by
  unfold clkR
  rcases hours_alike s [58] with ⟨h1, h2⟩ | ⟨a, b, t, u, v, h1, h2, h3, h4, h5, h6⟩
  · refine alike_no (r3339c_bad h1) ?_
    unfold clk1
    unfold hmR at h2
    rw [h2]; rfl
  · rw [h1, h6]
    show Alike13 _ (r3339R2 y m d (clk1 (a, t, true) (digR 2 (sgR t [58]).1) (sgR t [58]).2 false))
    rw [h2]
    show Alike13 _ (r3339R2 y m d (clk1 (a, t, true) (digR 2 u) true false))
    rw [h3]
    unfold clk1
    show Alike13 _ (r3339R2 y m d (if (true && decide (a ≤ 23) && decide (b ≤ 59)) = true then _ else _))
    rw [if_pos (by rw [decide_eq_true h4, decide_eq_true h5]; rfl)]
    show Alike13 (r3339d y m d (a * 3600 + b * 60) (secondsC (v, false))) (r3339R2 y m d (clk2 (3600 * a + 60 * b) v false (sgR v [58])))
    rcases secs_alike v with ⟨k1, k2⟩ | ⟨u2, b2, v2, k1, k2, k3, k4⟩
    · refine alike_no (r3339d_bad k1) ?_
      unfold clk2
      cases hs : (sgR v [58]).2 with
      | false => rfl
      | true =>
        rw [hs, Bool.true_and] at k2
        rw [if_pos rfl]
        unfold r3339R2
        show (if (_ && _) = true then _ else _ : Int × Bool).2 = false
        rw [k2]; rfl
    · rw [k4, k1]
      unfold clk2
      show Alike13 _ (r3339R2 y m d (3600 * a + 60 * b + (digR 2 u2).1, (digR 2 u2).2.1, (digR 2 u2).2.2 && decide ((digR 2 u2).1 ≤ 59)))
      rw [k2]
      show Alike13 (r3339e y m d (a * 3600 + b * 60 + b2) (skipC (v2, false) [46])) (r3339R2 y m d (3600 * a + 60 * b + b2, v2, true && decide (b2 ≤ 59)))
      rw [decide_eq_true k3]
      show Alike13 _ (r3339R3 y m d (3600 * a + 60 * b + b2) (fracR v2))
      rw [Nat.mul_comm a, Nat.mul_comm b]
      exact r3339e_alike _ _ _ _ _
theorem tee_alike (y m d : Nat × List UInt8 × Bool) (hy : y.2.2 = true) (hm : m.2.2 = true) (hd : d.2.2 = true) (a b : Bool) (ha : a = true) (hb : b = true) : Alike13 (r3339c y.1 m.1 d.1 (hoursC [58] (teeC (d.2.1, false)))) (r3339R1 y m d a b) := by
  subst ha hb
  obtain ⟨d, s, f⟩ := d
  simp only at hd
  subst hd
  unfold r3339R1
  rw [hy, hm]
  show Alike13 _ (if (true && !s.isEmpty && (decide (bt s 0 = 84) || decide (bt s 0 = 116) || decide (bt s 0 = 32))) = true then r3339R2 y.1 m.1 d (clkR s.tail false) else (0, false))
  cases s with
  | nil => exact alike_no (r3339c_bad (hoursC_bad rfl)) rfl
  | cons x t =>
    have e1 : (true && !(x :: t).isEmpty && (decide (bt (x :: t) 0 = 84) || decide (bt (x :: t) 0 = 116) || decide (bt (x :: t) 0 = 32))) = (decide ((84 : UInt8) = x) || decide ((116 : UInt8) = x) || decide ((32 : UInt8) = x)) := by
      have d1 : decide (bt (x :: t) 0 = 84) = decide ((84 : UInt8) = x) := decide_eq_decide.2 (bt_is (c := 84))
      have d2 : decide (bt (x :: t) 0 = 116) = decide ((116 : UInt8) = x) := decide_eq_decide.2 (bt_is (c := 116))
      have d3 : decide (bt (x :: t) 0 = 32) = decide ((32 : UInt8) = x) := decide_eq_decide.2 (bt_is (c := 32))
      rw [d1, d2, d3]
      rfl
    rw [e1]
    show Alike13 (r3339c y.1 m.1 d (hoursC [58] (teeC (x :: t, false)))) (if _ then r3339R2 y.1 m.1 d (clkR t false) else _)
    by_cases h84 : (84 : UInt8) = x
    · subst h84
      rw [if_pos (by simp)]
      rw [show teeC (84 :: t, false) = (t, false) by unfold teeC; rw [skip_yes]; rfl]
      exact r3339c_alike _ _ _ _
    by_cases h116 : (116 : UInt8) = x
    · subst h116
      rw [if_pos (by simp)]
      rw [show teeC (116 :: t, false) = (t, false) by
        unfold teeC; rw [skip_no h84]
        show (if false = true then _ else if (skipC (116 :: t, false) [116]).1 = true then _ else _ : RSt) = _
        rw [if_neg (by decide), skip_yes]; rfl]
      exact r3339c_alike _ _ _ _
    have e2 : teeC (x :: t, false) = signC (x :: t, false) [32] := by
      unfold teeC; rw [skip_no h84]
      show (if false = true then _ else if (skipC (x :: t, false) [116]).1 = true then _ else _ : RSt) = _
      rw [if_neg (by decide), skip_no h116]; rfl
    rw [e2]
    by_cases h32 : (32 : UInt8) = x
    · subst h32
      rw [if_pos (by simp), sign_yes]
      exact r3339c_alike _ _ _ _
    · rw [if_neg (by simp [h84, h116, h32]), sign_no h32]
      exact alike_no (r3339c_bad (hoursC_bad rfl)) rfl
/-- Rfc3339 reads what the document reads. -/
theorem r3339_alike (l : List UInt8) : Alike13 (r3339C l) (r3339R l) := by
  unfold r3339C r3339R
  have hno : ∀ y m d : Nat × List UInt8 × Bool, ∀ a b : Bool, (y.2.2 && a && m.2.2 && b && d.2.2) = false → (r3339R1 y m d a b).2 = false := by
    intro y m d a b h
    unfold r3339R1
    rw [h]; rfl
  rcases num_dig 4 l with ⟨h1, h2, _⟩ | ⟨y, h1, h2, _, _⟩
  · exact alike_no (r3339y_bad h1) (by rw [h2]; exact hno _ _ _ _ _ (by simp))
  generalize l.drop 4 = s1 at *
  rw [h1, h2]
  show Alike13 (r3339a y (numD 2 (signC (s1, false) [45]))) (r3339Ra (y, s1, true) (sgR s1 [45]))
  rcases sig_sg s1 [45] with ⟨h3, h4⟩ | ⟨h3, h4⟩
  · exact alike_no (r3339a_bad (numC_bad h3)) (by rw [h4]; exact hno _ _ _ _ _ (by simp))
  generalize s1.drop [45].length = s2 at *
  rw [h3, h4]
  show Alike13 _ (r3339Rm (y, s1, true) true (digR 2 s2))
  rcases num_dig 2 s2 with ⟨h5, h6, _⟩ | ⟨m, h5, h6, _, _⟩
  · exact alike_no (r3339a_bad h5) (by rw [h6]; exact hno _ _ _ _ _ (by simp))
  generalize s2.drop 2 = s3 at *
  rw [h5, h6]
  show Alike13 (r3339b y m (numD 2 (signC (s3, false) [45]))) (r3339Rb (y, s1, true) (m, s3, true) true (sgR s3 [45]))
  rcases sig_sg s3 [45] with ⟨h7, h8⟩ | ⟨h7, h8⟩
  · exact alike_no (r3339b_bad (numC_bad h7)) (by rw [h8]; exact hno _ _ _ _ _ (by simp))
  generalize s3.drop [45].length = s4 at *
  rw [h7, h8]
  show Alike13 _ (r3339R1 (y, s1, true) (m, s3, true) (digR 2 s4) true true)
  rcases num_dig 2 s4 with ⟨h9, h10, _⟩ | ⟨d, h9, h10, _, _⟩
  · exact alike_no (r3339b_bad h9) (by rw [h10]; exact hno _ _ _ _ _ (by simp))
  rw [h9, h10]
  exact tee_alike (y, s1, true) (m, s3, true) (d, s4.drop 2, true) rfl rfl rfl true true rfl rfl
end Go.Proofs.YtahohmdbiiknoaaGreatDoor

/- Layer 13, plain: Rfc822 reads what the document's reader reads. -/
namespace Go.Proofs.YtahohmdbiiknoaaGreatDoor
open Go.RowKit

theorem pre_short {l p : List UInt8} (h : l.length < p.length) : Lib.hasPrefix l p = false := by
  cases hp : Lib.hasPrefix l p with
  | false => rfl
  | true =>
    unfold Lib.hasPrefix at hp
    rw [List.isPrefixOf_iff_prefix] at hp
    have := hp.length_le
    omega
theorem mIx_zero (t : List (List UInt8)) (i : Nat) (l : List UInt8) : (mIx i t l = 0) ↔ l ∉ t := by
  induction t generalizing i with
  | nil => simp [mIx]
  | cons n t ih =>
    unfold mIx
    by_cases h : n = l
    · subst h; simp
    · have h' : ¬ l = n := fun e => h e.symm
      rw [if_neg (by simpa using h), ih]
      simp [h']
theorem monF_three (t : List (List UInt8)) (ht : ∀ n ∈ t, n.length = 3) (a b c : UInt8) (r : List UInt8) : monF t (a :: b :: c :: r) = if [a, b, c] ∈ t then some (monIx [a, b, c], r) else none := by
  induction t with
  | nil => simp [monF]
  | cons n t ih =>
    have hn := ht n (by simp)
    unfold monF
    rw [pre_three hn, ih (fun k hk => ht k (by simp [hk]))]
    by_cases h : n = [a, b, c]
    · subst h
      rw [if_pos (by simp), if_pos (by simp)]
      unfold Lib.trimPrefix
      rw [if_pos (by rw [pre_three rfl]; simp)]
      rfl
    · have h' : ¬ [a, b, c] = n := fun e => h e.symm
      rw [if_neg (by simpa using h)]
      by_cases h2 : [a, b, c] ∈ t
      · rw [if_pos h2, if_pos (by simp [h2])]
      · rw [if_neg h2, if_neg (by simp [h2, h'])]
theorem monF_short (t : List (List UInt8)) (ht : ∀ n ∈ t, n.length = 3) {l : List UInt8} (h : l.length < 3) : monF t l = none := by
  induction t with
  | nil => rfl
  | cons n t ih =>
    unfold monF
    rw [pre_short (by rw [ht n (by simp)]; exact h), if_neg (by decide)]
    exact ih (fun k hk => ht k (by simp [hk]))
/-- A month's name and a blank. -/
theorem mon_alike (l : List UInt8) :
    ((signC (monthC (l, false)).2 [32]).2 = true ∧ (decide (4 ≤ l.length) && decide (monIx (l.take 3) ≠ 0) && decide (bt l 3 = 32)) = false) ∨
    (signC (monthC (l, false)).2 [32] = (l.drop 4, false) ∧ (monthC (l, false)).1 = monIx (l.take 3) ∧ (decide (4 ≤ l.length) && decide (monIx (l.take 3) ≠ 0) && decide (bt l 3 = 32)) = true) := by
  by_cases hs : l.length < 3
  · refine Or.inl ⟨signC_bad ?_, by rw [decide_eq_false (by omega)]; rfl⟩
    unfold monthC
    rw [monF_short _ months_three hs]
  obtain ⟨a, b, c, r, rfl⟩ : ∃ a b c r, l = a :: b :: c :: r := by
    match l, hs with
    | a :: b :: c :: r, _ => exact ⟨a, b, c, r, rfl⟩
    | [], h => exact absurd (by simp) h
    | [a], h => exact absurd (by simp) h
    | [a, b], h => exact absurd (by simp) h
  show _ ∨ (_ ∧ _ = monIx [a, b, c] ∧ _)
  by_cases hm : [a, b, c] ∈ monthsL
  · have em : monthC (a :: b :: c :: r, false) = (monIx [a, b, c], (r, false)) := by unfold monthC; rw [monF_three _ months_three, if_pos hm]
    have ei : monIx [a, b, c] ≠ 0 := fun e => (mIx_zero _ _ _).1 e hm
    rw [em]
    cases r with
    | nil => exact Or.inl ⟨rfl, rfl⟩
    | cons d r =>
      by_cases hd : (32 : UInt8) = d
      · subst hd
        refine Or.inr ⟨sign_yes _ _ _, rfl, ?_⟩
        rw [decide_eq_true (by simp), decide_eq_true (by exact ei), decide_eq_true (by unfold bt; rfl)]; rfl
      · refine Or.inl ⟨by rw [show (monIx [a, b, c], d :: r, false).2 = (d :: r, false) from rfl, sign_no hd], ?_⟩
        have hb : ¬ bt (a :: b :: c :: d :: r) 3 = 32 := by
          have : bt (a :: b :: c :: d :: r) 3 = bt (d :: r) 0 := by unfold bt; rfl
          rw [this]; exact fun e => hd (bt_is.1 e)
        rw [decide_eq_false hb, Bool.and_false]
  · refine Or.inl ⟨signC_bad ?_, ?_⟩
    · unfold monthC; rw [monF_three _ months_three, if_neg hm]
    · have e0 : monIx [a, b, c] = 0 := (mIx_zero _ _ _).2 hm
      rw [show (a :: b :: c :: r).take 3 = [a, b, c] from rfl, e0]
      simp
theorem wkF_five (t : List (List UInt8)) (ht : ∀ n ∈ t, n.length = 3) (a b c d e : UInt8) (r : List UInt8) : wkF t (a :: b :: c :: d :: e :: r) = if [a, b, c] ∈ t ∧ [d, e] = [44, 32] then r else a :: b :: c :: d :: e :: r := by
  induction t with
  | nil => simp [wkF]
  | cons n t ih =>
    have hn := ht n (by simp)
    unfold wkF
    rw [pre_five hn, ih (fun k hk => ht k (by simp [hk]))]
    by_cases h2 : [d, e] = [44, 32]
    · injection h2 with h2 h3
      injection h3 with h3 _
      subst h2 h3
      by_cases h : n = [a, b, c]
      · subst h
        rw [if_pos (by simp), if_pos (by simp)]
        unfold Lib.trimPrefix
        rw [if_pos (by rw [pre_five rfl]; simp)]
        rfl
      · have h' : ¬ [a, b, c] = n := fun e => h e.symm
        rw [if_neg (by simpa using h)]
        by_cases h3 : [a, b, c] ∈ t
        · rw [if_pos ⟨h3, rfl⟩, if_pos (by simp [h3])]
        · rw [if_neg (fun k => h3 k.1), if_neg (by simp [h3, h'])]
    · rw [if_neg (by simpa using fun _ => h2), if_neg (fun k => h2 k.2), if_neg (fun k => h2 k.2)]
theorem wkF_short (t : List (List UInt8)) (ht : ∀ n ∈ t, n.length = 3) {l : List UInt8} (h : l.length < 5) : wkF t l = l := by
  induction t with
  | nil => rfl
  | cons n t ih =>
    unfold wkF
    rw [pre_short (by rw [List.length_append, ht n (by simp)]; exact h), if_neg (by decide)]
    exact ih (fun k hk => ht k (by simp [hk]))
theorem wk_alike (l : List UInt8) : wkF weekL l = headR l ∨ (aheadL (wkF weekL l) = 0 ∧ aheadL (headR l) = 0) := by
  by_cases hs : l.length < 5
  · refine Or.inl ?_
    rw [wkF_short _ week_three hs]
    unfold headR
    rw [decide_eq_false (by omega : ¬ 5 < l.length)]; rfl
  obtain ⟨a, b, c, d, e, r, rfl⟩ : ∃ a b c d e r, l = a :: b :: c :: d :: e :: r := by
    match l, hs with
    | a :: b :: c :: d :: e :: r, _ => exact ⟨a, b, c, d, e, r, rfl⟩
    | [], h => exact absurd (by simp) h
    | [a], h => exact absurd (by simp) h
    | [a, b], h => exact absurd (by simp) h
    | [a, b, c], h => exact absurd (by simp) h
    | [a, b, c, d], h => exact absurd (by simp) h
  rw [wkF_five _ week_three]
  have eh : headR (a :: b :: c :: d :: e :: r) = if decide (5 < (a :: b :: c :: d :: e :: r).length) && decide (0 < mIx 0 weekL [a, b, c]) && ([d, e] == [44, 32]) then r else a :: b :: c :: d :: e :: r := rfl
  rw [eh]
  by_cases hm : [a, b, c] ∈ weekL
  · have ei : 0 < mIx 0 weekL [a, b, c] := Nat.pos_of_ne_zero fun e => (mIx_zero _ _ _).1 e hm
    rw [decide_eq_true ei]
    by_cases h2 : [d, e] = [44, 32]
    · rw [if_pos ⟨hm, h2⟩, show ([d, e] == [44, 32]) = true from by rw [beq_iff_eq]; exact h2]
      cases r with
      | nil =>
        refine Or.inr ⟨rfl, ?_⟩
        have hl : ∀ n ∈ weekL, aheadL (n ++ [44, 32]) = 0 := by decide
        have := hl _ hm
        rw [← h2] at this
        exact this
      | cons x r => exact Or.inl (by rw [decide_eq_true (by simp)]; rfl)
    · rw [if_neg (fun k => h2 k.2), show ([d, e] == [44, 32]) = false from by rw [beq_eq_false_iff_ne]; exact h2, Bool.and_false]
      exact Or.inl rfl
  · have e0 : ¬ 0 < mIx 0 weekL [a, b, c] := by rw [(mIx_zero _ _ _).2 hm]; decide
    rw [if_neg (fun k => hm k.1), decide_eq_false e0, Bool.and_false]
    exact Or.inl rfl

theorem day_alike (l : List UInt8) : ((dayC (l, false)).2.2 = true ∧ (r822R1 l).2 = false) ∨ (∃ v t, dayC (l, false) = (v, (t, false)) ∧ r822R1 l = r822R2 (v, t, true)) := by
  have hno : ∀ b, (r822R2 (0, [], b)).2 = false := by intro b; unfold r822R2 r822R3; rw [sgR_short (by simp)]; cases b <;> rfl
  unfold dayC
  rcases num_dig 2 l with ⟨h1, h2, h3⟩ | ⟨v, h1, h2, _, h3⟩
  · have e1 : r822R1 l = r822R2 (digR 1 l) := by unfold r822R1; rw [h2]; exact if_neg (by decide)
    rw [e1]
    rcases num_dig 1 l with ⟨k1, k2, k3⟩ | ⟨v, k1, k2, _, k3⟩
    · refine Or.inl ⟨?_, by rw [k2]; exact hno _⟩
      rw [if_neg (by show ¬ aheadL l = 1; omega)]
      exact h1
    · refine Or.inr ⟨v, l.drop 1, ?_, by rw [k2]⟩
      rw [if_pos (by show aheadL l = 1; omega)]
      exact k1
  · refine Or.inr ⟨v, l.drop 2, ?_, by unfold r822R1; rw [h2]; exact if_pos rfl⟩
    rw [if_neg (by show ¬ aheadL l = 1; omega)]
    exact h1
theorem year_alike (l : List UInt8) :
    ((signC (yearC (l, false)).2 [32]).2 = true ∧ ((yerR l).2.2 && (sgR (yerR l).2.1 [32]).2) = false) ∨
    (∃ y r t, signC (yearC (l, false)).2 [32] = (t, false) ∧ (yearC (l, false)).1 = y ∧ yerR l = (y, r, true) ∧ sgR r [32] = (t, true)) := by
  have hfin : ∀ y r, yearC (l, false) = (y, (r, false)) → yerR l = (y, r, true) → ((signC (yearC (l, false)).2 [32]).2 = true ∧ ((yerR l).2.2 && (sgR (yerR l).2.1 [32]).2) = false) ∨
    (∃ y r t, signC (yearC (l, false)).2 [32] = (t, false) ∧ (yearC (l, false)).1 = y ∧ yerR l = (y, r, true) ∧ sgR r [32] = (t, true)) := by
    intro y r h1 h2
    rw [h1, h2]
    rcases sig_sg r [32] with ⟨h3, h4⟩ | ⟨h3, h4⟩
    · exact Or.inl ⟨h3, by show (true && (sgR r [32]).2) = false; rw [h4]; rfl⟩
    · exact Or.inr ⟨y, r, _, h3, rfl, rfl, h4⟩
  rcases num_dig 4 l with ⟨h1, h2, h3⟩ | ⟨y, h1, h2, _, h3⟩
  · have er : yerR l = (if (digR 2 l).1 < 50 then 2000 + (digR 2 l).1 else 1900 + (digR 2 l).1, (digR 2 l).2.1, (digR 2 l).2.2) := by unfold yerR; rw [h2, if_neg (by decide)]
    rcases num_dig 2 l with ⟨k1, k2, k3⟩ | ⟨v, k1, k2, _, k3⟩
    · refine Or.inl ⟨signC_bad ?_, by rw [er, k2]; rfl⟩
      unfold yearC
      rw [if_neg (by show ¬ aheadL l = 2; omega)]
      exact h1
    · by_cases h22 : aheadL l = 2
      · refine hfin (if v < 50 then 2000 + v else 1900 + v) (l.drop 2) ?_ (by rw [er, k2])
        unfold yearC
        rw [if_pos (by exact h22), k1]
      · refine Or.inl ⟨signC_bad ?_, ?_⟩
        · unfold yearC
          rw [if_neg (by exact h22)]
          exact h1
        · have hd := aheadL_dg (l := l) (k := 2) (by omega)
          have hl := aheadL_le l
          have e2 : sgR (l.drop 2) [32] = ([], false) := by
            unfold sgR
            rw [if_neg]
            rw [List.drop_eq_getElem_cons (by omega), pre_cons]
            intro e
            rw [beq_iff_eq] at e
            have hb : bt l 2 = ((l[2]'(by omega)).toNat : Int) := by unfold bt; simp [List.getD, show 2 < l.length by omega]
            rw [← e] at hb
            rw [hb] at hd
            exact absurd hd.1 (by decide)
          rw [er, k2]
          show (true && (sgR (l.drop 2) [32]).2) = false
          rw [e2]; rfl
  · refine hfin y (l.drop 4) ?_ ?_
    · unfold yearC
      rw [if_neg (by show ¬ aheadL l = 2; omega)]
      exact h1
    · unfold yerR
      rw [h2, if_pos rfl]
theorem zone_alike (d m y : Nat) (c : Nat) (t u : List UInt8) : Alike13 (r822g d m y ((c : Int), (t, false))) (r822R8 d m y (c, u, true) true (zonR t)) := by
  unfold r822g zoneC
  show Alike13 (dateC (match zoneNm t with | some z => (z * 3600, ([], false)) | none => offsetC [] (t, false) : Int × RSt).2 y m d ((c : Int) - (match zoneNm t with | some z => (z * 3600, ([], false)) | none => offsetC [] (t, false) : Int × RSt).1)) (if (true && true && (zonR t).2) = true then wholeR y m d c (zonR t).1 else (0, false))
  cases hz : zoneNm t with
  | some z =>
    rw [zonR_some hz, if_pos (by rfl)]
    exact whole_alike y m d c (z * 3600)
  | none =>
    rw [zonR_none hz]
    show Alike13 (dateC (offsetC [] (t, false)).2 y m d ((c : Int) - (offsetC [] (t, false)).1)) _
    rcases off_alike [] t with ⟨h1, h2⟩ | ⟨z, h1, h2⟩
    · refine alike_no ?_ (by rw [if_neg (by rw [h2]; decide)])
      rcases h1 with h1 | h1
      · exact dateC_bad h1 _ _ _ _
      · exact dateC_rest h1 _ _ _ _
    · rw [h1, h2, if_pos (by rfl)]
      exact whole_alike y m d c z
theorem gap_alike (d m y c : Nat) (s : List UInt8) : Alike13 (r822g d m y ((c : Int), signC (s, false) [32])) (r822R6 d m y (c, s, true)) := by
  show Alike13 _ (r822R7 d m y (c, s, true) (sgR s [32]))
  rcases sig_sg s [32] with ⟨h3, h4⟩ | ⟨h3, h4⟩
  · refine alike_no (r822g_bad h3) ?_
    rw [h4]; rfl
  · rw [h3, h4]
    exact zone_alike d m y c _ s
theorem r822e_alike (d m y : Nat) (l : List UInt8) : Alike13 (r822e d m y (hoursC [58] (l, false))) (r822R6 d m y (clkR l true)) := by
  unfold clkR
  have hno : ∀ n u, (r822R6 d m y (n, u, false)).2 = false := fun _ _ => rfl
  rcases hours_alike l [58] with ⟨h1, h2⟩ | ⟨a, b, t, u, v, h1, h2, h3, h4, h5, h6⟩
  · refine alike_no (r822e_bad h1) ?_
    unfold clk1
    unfold hmR at h2
    rw [h2]; rfl
  rw [h1, h6]
  show Alike13 _ (r822R6 d m y (clk1 (a, t, true) (digR 2 (sgR t [58]).1) (sgR t [58]).2 true))
  rw [h2]
  show Alike13 _ (r822R6 d m y (clk1 (a, t, true) (digR 2 u) true true))
  rw [h3]
  unfold clk1
  show Alike13 _ (r822R6 d m y (if (true && decide (a ≤ 23) && decide (b ≤ 59)) = true then _ else _))
  rw [if_pos (by rw [decide_eq_true h4, decide_eq_true h5]; rfl)]
  show Alike13 (r822f d m y (a * 3600 + b * 60) (skipC (v, false) [32])) (r822R6 d m y (clk2 (3600 * a + 60 * b) v true (sgR v [58])))
  rw [Nat.mul_comm a, Nat.mul_comm b]
  generalize 3600 * a + 60 * b = n
  have hsec : Lib.hasPrefix v [32] = false → r822f d m y n (skipC (v, false) [32]) = r822g d m y (((n + (secondsC (v, false)).1 : Nat) : Int), signC (secondsC (v, false)).2 [32]) := by
    intro hp
    have e : skipC (v, false) [32] = (false, (v, false)) := by
      unfold skipC
      show (Lib.hasPrefix v [32], (Lib.trimPrefix v [32], false)) = _
      unfold Lib.trimPrefix
      rw [hp]; rfl
    rw [e]
    unfold r822f
    exact if_neg (fun h => Bool.noConfusion h)
  rcases secs_alike v with ⟨k1, k2⟩ | ⟨u2, b2, v2, k1, k2, k3, k4⟩
  · cases hs : (sgR v [58]).2 with
    | true =>
      have hp : Lib.hasPrefix v [32] = false := by
        cases v with
        | nil => rfl
        | cons x v =>
          rw [pre_cons, beq_eq_false_iff_ne]
          rintro rfl
          rw [sgR, if_neg (by rw [pre_cons]; decide)] at hs
          cases hs
      rw [hsec hp]
      refine alike_no (r822g_bad (signC_bad k1)) ?_
      rw [hs, Bool.true_and] at k2
      unfold clk2
      rw [if_pos hs, k2]
      exact hno _ _
    | false =>
      unfold clk2
      rw [if_neg (by rw [hs]; decide)]
      cases hp : Lib.hasPrefix v [32] with
      | true =>
        obtain ⟨t', rfl⟩ : ∃ t', v = 32 :: t' := by
          cases v with
          | nil => cases hp
          | cons x v => rw [pre_cons, beq_iff_eq] at hp; subst hp; exact ⟨v, rfl⟩
        rw [skip_yes]
        have e : r822f d m y n (true, (t', false)) = r822g d m y ((n : Int), (t', false)) := by unfold r822f; exact if_pos rfl
        rw [e]
        have := gap_alike d m y n (32 :: t')
        rw [sign_yes] at this
        exact this
      | false =>
        rw [hsec hp]
        refine alike_no (r822g_bad (signC_bad k1)) ?_
        show (r822R7 d m y (n, v, true) (sgR v [32])).2 = false
        unfold sgR
        rw [hp]; rfl
  · have hp : Lib.hasPrefix v [32] = false := by
      cases v with
      | nil => rfl
      | cons x v =>
        rw [pre_cons, beq_eq_false_iff_ne]
        rintro rfl
        rw [sgR, if_neg (by rw [pre_cons]; decide)] at k1
        cases k1
    rw [hsec hp, k4, k1]
    unfold clk2
    show Alike13 (r822g d m y (((n + b2 : Nat) : Int), signC (v2, false) [32])) (r822R6 d m y (n + (digR 2 u2).1, (digR 2 u2).2.1, (digR 2 u2).2.2 && decide ((digR 2 u2).1 ≤ 59)))
    rw [k2]
    show Alike13 _ (r822R6 d m y (n + b2, v2, true && decide (b2 ≤ 59)))
    rw [decide_eq_true k3]
    exact gap_alike d m y (n + b2) v2
/-- Rfc822 reads what the document reads. -/
theorem r822_alike (l : List UInt8) : Alike13 (r822C l) (r822R l) := by
  have hR3 : ∀ d : Nat × List UInt8 × Bool, ∀ b : List UInt8 × Bool, (d.2.2 && b.2) = false → (r822R3 d b).2 = false := by
    intro d b h; unfold r822R3; rw [h]; rfl
  have main : ∀ l, Alike13 (r822a (dayC (l, false))) (r822R1 l) := by
    intro l
    rcases day_alike l with ⟨h1, h2⟩ | ⟨v, t, h1, h2⟩
    · exact alike_no (r822a_bad h1) h2
    rw [h1, h2]
    show Alike13 (r822b v (monthC (signC (t, false) [32]))) (r822R3 (v, t, true) (sgR t [32]))
    rcases sig_sg t [32] with ⟨h3, h4⟩ | ⟨h3, h4⟩
    · exact alike_no (r822b_bad (monthC_bad h3)) (by rw [h4]; exact hR3 _ _ rfl)
    generalize t.drop [32].length = u at *
    rw [h3, h4]
    have eR : r822R3 (v, t, true) (u, true) = if (decide (4 ≤ u.length) && decide (monIx (u.take 3) ≠ 0) && decide (bt u 3 = 32)) = true then r822R4 v (monIx (u.take 3)) (yerR (u.drop 4)) else (0, false) := rfl
    rw [eR]
    rcases mon_alike u with ⟨k1, k2⟩ | ⟨k1, k2, k3⟩
    · exact alike_no (r822b_gap k1) (by rw [k2]; rfl)
    rw [k3, if_pos rfl]
    have eC : r822b v (monthC (u, false)) = r822d v (monthC (u, false)).1 (yearC (u.drop 4, false)) := by
      unfold r822b
      rw [k1]
    rw [eC, k2]
    clear eC k1 k2 k3 eR
    generalize u.drop 4 = s
    generalize monIx (u.take 3) = mm
    unfold r822d r822R4
    rcases year_alike s with ⟨j1, j2⟩ | ⟨y, r, t2, j1, j2, j3, j4⟩
    · refine alike_no (r822e_bad (hoursC_bad j1)) ?_
      unfold r822R5
      rw [j2]; rfl
    · rw [j1, j2, j3]
      show Alike13 _ (r822R5 v mm (y, r, true) (sgR r [32]))
      rw [j4]
      exact r822e_alike v mm y t2
  have hbad : ∀ l, aheadL l = 0 → (dayC (l, false)).2.2 = true := by
    intro l h
    unfold dayC
    rw [if_neg (by show ¬ aheadL l = 1; omega)]
    unfold numD
    rw [if_pos (by show aheadL l < 2; omega)]
  unfold r822C r822R
  show Alike13 (r822a (dayC (wkF weekL l, false))) _
  rcases wk_alike l with h | ⟨h1, h2⟩
  · rw [h]; exact main _
  · refine alike_no (r822a_bad (hbad _ h1)) ?_
    rw [← (main (headR l)).1]
    exact r822a_bad (hbad _ h2)
end Go.Proofs.YtahohmdbiiknoaaGreatDoor
