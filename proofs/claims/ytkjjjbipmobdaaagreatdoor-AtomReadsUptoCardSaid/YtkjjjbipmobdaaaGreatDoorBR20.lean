/- Layer 13, plain: Rfc822 reads what the document's reader reads. -/
import Derived.Test.YtkjjjbipmobdaaaGreatDoorBR19
import Derived.Test.YtkjjjbipmobdaaaGreatDoorBR12
import Derived.Test.YtkjjjbipmobdaaaGreatDoorBR15
import Derived.Test.YtkjjjbipmobdaaaGreatDoorBR11
import Derived.Test.YtkjjjbipmobdaaaGreatDoorBR02
import Derived.Laws.CopyOwn
import Derived.Deep.RegionLaw
import Derived.Lib.AppendZerosOnto
import Derived.Lib.Overlaps
namespace Go.Proofs.YtkjjjbipmobdaaaGreatDoor
open Go.RowKit

theorem pre_short {l p : List UInt8} (h : l.length < p.length) : Lib.hasPrefix l p = false := by
  cases hp : Lib.hasPrefix l p with
  | false => rfl
  | true =>
    unfold Lib.hasPrefix at hp
    rw [List.isPrefixOf_iff_prefix] at hp
    have := hp.length_le
    omega
theorem three_is {n : List UInt8} (h : n.length = 3) : ∃ x y z, n = [x, y, z] := by
  match n, h with
  | [x, y, z], _ => exact ⟨x, y, z, rfl⟩
theorem pre_three {n : List UInt8} (h : n.length = 3) (a b c : UInt8) (r : List UInt8) : Lib.hasPrefix (a :: b :: c :: r) n = (n == [a, b, c]) := by
  obtain ⟨x, y, z, rfl⟩ := three_is h
  unfold Lib.hasPrefix
  simp [List.isPrefixOf]
theorem pre_five {n : List UInt8} (h : n.length = 3) (a b c d e : UInt8) (r : List UInt8) : Lib.hasPrefix (a :: b :: c :: d :: e :: r) (n ++ [44, 32]) = (n == [a, b, c] && ([d, e] == [44, 32])) := by
  obtain ⟨x, y, z, rfl⟩ := three_is h
  unfold Lib.hasPrefix
  have e1 : ((44 : UInt8) == d) = (d == 44) := by rw [Bool.eq_iff_iff, beq_iff_eq, beq_iff_eq]; exact eq_comm
  have e2 : ((32 : UInt8) == e) = (e == 32) := by rw [Bool.eq_iff_iff, beq_iff_eq, beq_iff_eq]; exact eq_comm
  simp [List.isPrefixOf, e1, e2, Bool.and_assoc]
theorem mIx_zero (t : List (List UInt8)) (i : Nat) (l : List UInt8) : (mIx i t l = 0) ↔ l ∉ t := by
  induction t generalizing i with
  | nil => simp [mIx]
  | cons n t ih =>
    unfold mIx
    by_cases h : n = l
    · subst h; simp
    · have h' : ¬ l = n := fun e => h e.symm
      rw [if_neg (by simpa using h), ih]
      simp [h']
theorem monF_three (t : List (List UInt8)) (ht : ∀ n ∈ t, n.length = 3) (a b c : UInt8) (r : List UInt8) : monF t (a :: b :: c :: r) = if [a, b, c] ∈ t then some (monIx [a, b, c], r) else none := by
  induction t with
  | nil => simp [monF]
  | cons n t ih =>
    have hn := ht n (by simp)
    unfold monF
    rw [pre_three hn, ih (fun k hk => ht k (by simp [hk]))]
    by_cases h : n = [a, b, c]
    · subst h
      rw [if_pos (by simp), if_pos (by simp)]
      unfold Lib.trimPrefix
      rw [if_pos (by rw [pre_three rfl]; simp)]
      rfl
    · have h' : ¬ [a, b, c] = n := fun e => h e.symm
      rw [if_neg (by simpa using h)]
      by_cases h2 : [a, b, c] ∈ t
      · rw [if_pos h2, if_pos (by simp [h2])]
      · rw [if_neg h2, if_neg (by simp [h2, h'])]
theorem monF_short (t : List (List UInt8)) (ht : ∀ n ∈ t, n.length = 3) {l : List UInt8} (h : l.length < 3) : monF t l = none := by
  induction t with
  | nil => rfl
  | cons n t ih =>
    unfold monF
    rw [pre_short (by rw [ht n (by simp)]; exact h), if_neg (by decide)]
    exact ih (fun k hk => ht k (by simp [hk]))
/-- A month's name and a blank. -/
theorem mon_alike (l : List UInt8) :
    ((signC (monthC (l, false)).2 [32]).2 = true ∧ (decide (4 ≤ l.length) && decide (monIx (l.take 3) ≠ 0) && decide (bt l 3 = 32)) = false) ∨
    (signC (monthC (l, false)).2 [32] = (l.drop 4, false) ∧ (monthC (l, false)).1 = monIx (l.take 3) ∧ (decide (4 ≤ l.length) && decide (monIx (l.take 3) ≠ 0) && decide (bt l 3 = 32)) = true) := by
  by_cases hs : l.length < 3
  · refine Or.inl ⟨signC_bad ?_, by rw [decide_eq_false (by omega)]; rfl⟩
    unfold monthC
    rw [monF_short _ months_three hs]
  obtain ⟨a, b, c, r, rfl⟩ : ∃ a b c r, l = a :: b :: c :: r := by
    match l, hs with
    | a :: b :: c :: r, _ => exact ⟨a, b, c, r, rfl⟩
    | [], h => exact absurd (by simp) h
    | [a], h => exact absurd (by simp) h
    | [a, b], h => exact absurd (by simp) h
  show _ ∨ (_ ∧ _ = monIx [a, b, c] ∧ _)
  by_cases hm : [a, b, c] ∈ monthsL
  · have em : monthC (a :: b :: c :: r, false) = (monIx [a, b, c], (r, false)) := by unfold monthC; rw [monF_three _ months_three, if_pos hm]
    have ei : monIx [a, b, c] ≠ 0 := fun e => (mIx_zero _ _ _).1 e hm
    rw [em]
    cases r with
    | nil => exact Or.inl ⟨rfl, rfl⟩
    | cons d r =>
      by_cases hd : (32 : UInt8) = d
      · subst hd
        refine Or.inr ⟨sign_yes _ _ _, rfl, ?_⟩
        rw [decide_eq_true (by simp), decide_eq_true (by exact ei), decide_eq_true (by unfold bt; rfl)]; rfl
      · refine Or.inl ⟨by rw [show (monIx [a, b, c], d :: r, false).2 = (d :: r, false) from rfl, sign_no hd], ?_⟩
        have hb : ¬ bt (a :: b :: c :: d :: r) 3 = 32 := by
          have : bt (a :: b :: c :: d :: r) 3 = bt (d :: r) 0 := by unfold bt; rfl
          rw [this]; exact fun e => hd (bt_is.1 e)
        rw [decide_eq_false hb, Bool.and_false]
  · refine Or.inl ⟨signC_bad ?_, ?_⟩
    · unfold monthC; rw [monF_three _ months_three, if_neg hm]
    · have e0 : monIx [a, b, c] = 0 := (mIx_zero _ _ _).2 hm
      rw [show (a :: b :: c :: r).take 3 = [a, b, c] from rfl, e0]
      simp
theorem wkF_five (t : List (List UInt8)) (ht : ∀ n ∈ t, n.length = 3) (a b c d e : UInt8) (r : List UInt8) : wkF t (a :: b :: c :: d :: e :: r) = if [a, b, c] ∈ t ∧ [d, e] = [44, 32] then r else a :: b :: c :: d :: e :: r := by
  induction t with
  | nil => simp [wkF]
  | cons n t ih =>
    have hn := ht n (by simp)
    unfold wkF
    rw [pre_five hn, ih (fun k hk => ht k (by simp [hk]))]
    by_cases h2 : [d, e] = [44, 32]
    · injection h2 with h2 h3
      injection h3 with h3 _
      subst h2 h3
      by_cases h : n = [a, b, c]
      · subst h
        rw [if_pos (by simp), if_pos (by simp)]
        unfold Lib.trimPrefix
        rw [if_pos (by rw [pre_five rfl]; simp)]
        rfl
      · have h' : ¬ [a, b, c] = n := fun e => h e.symm
        rw [if_neg (by simpa using h)]
        by_cases h3 : [a, b, c] ∈ t
        · rw [if_pos ⟨h3, rfl⟩, if_pos (by simp [h3])]
        · rw [if_neg (fun k => h3 k.1), if_neg (by simp [h3, h'])]
    · rw [if_neg (by simpa using fun _ => h2), if_neg (fun k => h2 k.2), if_neg (fun k => h2 k.2)]
theorem wkF_short (t : List (List UInt8)) (ht : ∀ n ∈ t, n.length = 3) {l : List UInt8} (h : l.length < 5) : wkF t l = l := by
  induction t with
  | nil => rfl
  | cons n t ih =>
    unfold wkF
    rw [pre_short (by rw [List.length_append, ht n (by simp)]; exact h), if_neg (by decide)]
    exact ih (fun k hk => ht k (by simp [hk]))
theorem wk_alike (l : List UInt8) : wkF weekL l = headR l ∨ (aheadL (wkF weekL l) = 0 ∧ aheadL (headR l) = 0) := by
  by_cases hs : l.length < 5
  · refine Or.inl ?_
    rw [wkF_short _ week_three hs]
    unfold headR
    rw [decide_eq_false (by omega : ¬ 5 < l.length)]; rfl
  obtain ⟨a, b, c, d, e, r, rfl⟩ : ∃ a b c d e r, l = a :: b :: c :: d :: e :: r := by
    match l, hs with
    | a :: b :: c :: d :: e :: r, _ => exact ⟨a, b, c, d, e, r, rfl⟩
    | [], h => exact absurd (by simp) h
    | [a], h => exact absurd (by simp) h
    | [a, b], h => exact absurd (by simp) h
    | [a, b, c], h => exact absurd (by simp) h
    | [a, b, c, d], h => exact absurd (by simp) h
  rw [wkF_five _ week_three]
  have eh : headR (a :: b :: c :: d :: e :: r) = if decide (5 < (a :: b :: c :: d :: e :: r).length) && decide (0 < mIx 0 weekL [a, b, c]) && ([d, e] == [44, 32]) then r else a :: b :: c :: d :: e :: r := rfl
  rw [eh]
  by_cases hm : [a, b, c] ∈ weekL
  · have ei : 0 < mIx 0 weekL [a, b, c] := Nat.pos_of_ne_zero fun e => (mIx_zero _ _ _).1 e hm
    rw [decide_eq_true ei]
    by_cases h2 : [d, e] = [44, 32]
    · rw [if_pos ⟨hm, h2⟩, show ([d, e] == [44, 32]) = true from by rw [beq_iff_eq]; exact h2]
      cases r with
      | nil =>
        refine Or.inr ⟨rfl, ?_⟩
        have hl : ∀ n ∈ weekL, aheadL (n ++ [44, 32]) = 0 := by decide
        have := hl _ hm
        rw [← h2] at this
        exact this
      | cons x r => exact Or.inl (by rw [decide_eq_true (by simp)]; rfl)
    · rw [if_neg (fun k => h2 k.2), show ([d, e] == [44, 32]) = false from by rw [beq_eq_false_iff_ne]; exact h2, Bool.and_false]
      exact Or.inl rfl
  · have e0 : ¬ 0 < mIx 0 weekL [a, b, c] := by rw [(mIx_zero _ _ _).2 hm]; decide
    rw [if_neg (fun k => hm k.1), decide_eq_false e0, Bool.and_false]
    exact Or.inl rfl

theorem day_alike (l : List UInt8) : ((dayC (l, false)).2.2 = true ∧ (r822R1 l).2 = false) ∨ (∃ v t, dayC (l, false) = (v, (t, false)) ∧ r822R1 l = r822R2 (v, t, true)) := by
  have hno : ∀ b, (r822R2 (0, [], b)).2 = false := by intro b; unfold r822R2 r822R3; rw [sgR_short (by simp)]; cases b <;> rfl
  unfold dayC
  rcases num_dig 2 l with ⟨h1, h2, h3⟩ | ⟨v, h1, h2, _, h3⟩
  · have e1 : r822R1 l = r822R2 (digR 1 l) := by unfold r822R1; rw [h2]; exact if_neg (by decide)
    rw [e1]
    rcases num_dig 1 l with ⟨k1, k2, k3⟩ | ⟨v, k1, k2, _, k3⟩
    · refine Or.inl ⟨?_, by rw [k2]; exact hno _⟩
      rw [if_neg (by show ¬ aheadL l = 1; omega)]
      exact h1
    · refine Or.inr ⟨v, l.drop 1, ?_, by rw [k2]⟩
      rw [if_pos (by show aheadL l = 1; omega)]
      exact k1
  · refine Or.inr ⟨v, l.drop 2, ?_, by unfold r822R1; rw [h2]; exact if_pos rfl⟩
    rw [if_neg (by show ¬ aheadL l = 1; omega)]
    exact h1
theorem year_alike (l : List UInt8) :
    ((signC (yearC (l, false)).2 [32]).2 = true ∧ ((yerR l).2.2 && (sgR (yerR l).2.1 [32]).2) = false) ∨
    (∃ y r t, signC (yearC (l, false)).2 [32] = (t, false) ∧ (yearC (l, false)).1 = y ∧ yerR l = (y, r, true) ∧ sgR r [32] = (t, true)) := by
  have hfin : ∀ y r, yearC (l, false) = (y, (r, false)) → yerR l = (y, r, true) → ((signC (yearC (l, false)).2 [32]).2 = true ∧ ((yerR l).2.2 && (sgR (yerR l).2.1 [32]).2) = false) ∨
    (∃ y r t, signC (yearC (l, false)).2 [32] = (t, false) ∧ (yearC (l, false)).1 = y ∧ yerR l = (y, r, true) ∧ sgR r [32] = (t, true)) := by
    intro y r h1 h2
    rw [h1, h2]
    rcases sig_sg r [32] with ⟨h3, h4⟩ | ⟨h3, h4⟩
    · exact Or.inl ⟨h3, by show (true && (sgR r [32]).2) = false; rw [h4]; rfl⟩
    · exact Or.inr ⟨y, r, _, h3, rfl, rfl, h4⟩
  rcases num_dig 4 l with ⟨h1, h2, h3⟩ | ⟨y, h1, h2, _, h3⟩
  · have er : yerR l = (if (digR 2 l).1 < 50 then 2000 + (digR 2 l).1 else 1900 + (digR 2 l).1, (digR 2 l).2.1, (digR 2 l).2.2) := by unfold yerR; rw [h2, if_neg (by decide)]
    rcases num_dig 2 l with ⟨k1, k2, k3⟩ | ⟨v, k1, k2, _, k3⟩
    · refine Or.inl ⟨signC_bad ?_, by rw [er, k2]; rfl⟩
      unfold yearC
      rw [if_neg (by show ¬ aheadL l = 2; omega)]
      exact h1
    · by_cases h22 : aheadL l = 2
      · refine hfin (if v < 50 then 2000 + v else 1900 + v) (l.drop 2) ?_ (by rw [er, k2])
        unfold yearC
        rw [if_pos (by exact h22), k1]
      · refine Or.inl ⟨signC_bad ?_, ?_⟩
        · unfold yearC
          rw [if_neg (by exact h22)]
          exact h1
        · have hd := aheadL_dg (l := l) (k := 2) (by omega)
          have hl := aheadL_le l
          have e2 : sgR (l.drop 2) [32] = ([], false) := by
            unfold sgR
            rw [if_neg]
            rw [List.drop_eq_getElem_cons (by omega), pre_cons]
            intro e
            rw [beq_iff_eq] at e
            have hb : bt l 2 = ((l[2]'(by omega)).toNat : Int) := by unfold bt; simp [List.getD, show 2 < l.length by omega]
            rw [← e] at hb
            rw [hb] at hd
            exact absurd hd.1 (by decide)
          rw [er, k2]
          show (true && (sgR (l.drop 2) [32]).2) = false
          rw [e2]; rfl
  · refine hfin y (l.drop 4) ?_ ?_
    · unfold yearC
      rw [if_neg (by show ¬ aheadL l = 2; omega)]
      exact h1
    · unfold yerR
      rw [h2, if_pos rfl]
theorem zone_alike (d m y : Nat) (c : Nat) (t u : List UInt8) : Alike13 (r822g d m y ((c : Int), (t, false))) (r822R8 d m y (c, u, true) true (zonR t)) := by
  unfold r822g zoneC
  show Alike13 (dateC (match zoneNm t with | some z => (z * 3600, ([], false)) | none => offsetC [] (t, false) : Int × RSt).2 y m d ((c : Int) - (match zoneNm t with | some z => (z * 3600, ([], false)) | none => offsetC [] (t, false) : Int × RSt).1)) (if (true && true && (zonR t).2) = true then wholeR y m d c (zonR t).1 else (0, false))
  cases hz : zoneNm t with
  | some z =>
    rw [zonR_some hz, if_pos (by rfl)]
    exact whole_alike y m d c (z * 3600)
  | none =>
    rw [zonR_none hz]
    show Alike13 (dateC (offsetC [] (t, false)).2 y m d ((c : Int) - (offsetC [] (t, false)).1)) _
    rcases off_alike [] t with ⟨h1, h2⟩ | ⟨z, h1, h2⟩
    · refine alike_no ?_ (by rw [if_neg (by rw [h2]; decide)])
      rcases h1 with h1 | h1
      · exact dateC_bad h1 _ _ _ _
      · exact dateC_rest h1 _ _ _ _
    · rw [h1, h2, if_pos (by rfl)]
      exact whole_alike y m d c z
theorem gap_alike (d m y c : Nat) (s : List UInt8) : Alike13 (r822g d m y ((c : Int), signC (s, false) [32])) (r822R6 d m y (c, s, true)) := by
  show Alike13 _ (r822R7 d m y (c, s, true) (sgR s [32]))
  rcases sig_sg s [32] with ⟨h3, h4⟩ | ⟨h3, h4⟩
  · refine alike_no (r822g_bad h3) ?_
    rw [h4]; rfl
  · rw [h3, h4]
    exact zone_alike d m y c _ s
theorem r822e_alike (d m y : Nat) (l : List UInt8) : Alike13 (r822e d m y (hoursC [58] (l, false))) (r822R6 d m y (clkR l true)) := by
  unfold clkR
  have hno : ∀ n u, (r822R6 d m y (n, u, false)).2 = false := fun _ _ => rfl
  rcases hours_alike l [58] with ⟨h1, h2⟩ | ⟨a, b, t, u, v, h1, h2, h3, h4, h5, h6⟩
  · refine alike_no (r822e_bad h1) ?_
    unfold clk1
    unfold hmR at h2
    rw [h2]; rfl
  rw [h1, h6]
  show Alike13 _ (r822R6 d m y (clk1 (a, t, true) (digR 2 (sgR t [58]).1) (sgR t [58]).2 true))
  rw [h2]
  show Alike13 _ (r822R6 d m y (clk1 (a, t, true) (digR 2 u) true true))
  rw [h3]
  unfold clk1
  show Alike13 _ (r822R6 d m y (if (true && decide (a ≤ 23) && decide (b ≤ 59)) = true then _ else _))
  rw [if_pos (by rw [decide_eq_true h4, decide_eq_true h5]; rfl)]
  show Alike13 (r822f d m y (a * 3600 + b * 60) (skipC (v, false) [32])) (r822R6 d m y (clk2 (3600 * a + 60 * b) v true (sgR v [58])))
  rw [Nat.mul_comm a, Nat.mul_comm b]
  generalize 3600 * a + 60 * b = n
  have hsec : Lib.hasPrefix v [32] = false → r822f d m y n (skipC (v, false) [32]) = r822g d m y (((n + (secondsC (v, false)).1 : Nat) : Int), signC (secondsC (v, false)).2 [32]) := by
    intro hp
    have e : skipC (v, false) [32] = (false, (v, false)) := by
      unfold skipC
      show (Lib.hasPrefix v [32], (Lib.trimPrefix v [32], false)) = _
      unfold Lib.trimPrefix
      rw [hp]; rfl
    rw [e]
    unfold r822f
    exact if_neg (fun h => Bool.noConfusion h)
  rcases secs_alike v with ⟨k1, k2⟩ | ⟨u2, b2, v2, k1, k2, k3, k4⟩
  · cases hs : (sgR v [58]).2 with
    | true =>
      have hp : Lib.hasPrefix v [32] = false := by
        cases v with
        | nil => rfl
        | cons x v =>
          rw [pre_cons, beq_eq_false_iff_ne]
          rintro rfl
          rw [sgR, if_neg (by rw [pre_cons]; decide)] at hs
          cases hs
      rw [hsec hp]
      refine alike_no (r822g_bad (signC_bad k1)) ?_
      rw [hs, Bool.true_and] at k2
      unfold clk2
      rw [if_pos hs, k2]
      exact hno _ _
    | false =>
      unfold clk2
      rw [if_neg (by rw [hs]; decide)]
      cases hp : Lib.hasPrefix v [32] with
      | true =>
        obtain ⟨t', rfl⟩ : ∃ t', v = 32 :: t' := by
          cases v with
          | nil => cases hp
          | cons x v => rw [pre_cons, beq_iff_eq] at hp; subst hp; exact ⟨v, rfl⟩
        rw [skip_yes]
        have e : r822f d m y n (true, (t', false)) = r822g d m y ((n : Int), (t', false)) := by unfold r822f; exact if_pos rfl
        rw [e]
        have := gap_alike d m y n (32 :: t')
        rw [sign_yes] at this
        exact this
      | false =>
        rw [hsec hp]
        refine alike_no (r822g_bad (signC_bad k1)) ?_
        show (r822R7 d m y (n, v, true) (sgR v [32])).2 = false
        unfold sgR
        rw [hp]; rfl
  · have hp : Lib.hasPrefix v [32] = false := by
      cases v with
      | nil => rfl
      | cons x v =>
        rw [pre_cons, beq_eq_false_iff_ne]
        rintro rfl
        rw [sgR, if_neg (by rw [pre_cons]; decide)] at k1
        cases k1
    rw [hsec hp, k4, k1]
    unfold clk2
    show Alike13 (r822g d m y (((n + b2 : Nat) : Int), signC (v2, false) [32])) (r822R6 d m y (n + (digR 2 u2).1, (digR 2 u2).2.1, (digR 2 u2).2.2 && decide ((digR 2 u2).1 ≤ 59)))
    rw [k2]
    show Alike13 _ (r822R6 d m y (n + b2, v2, true && decide (b2 ≤ 59)))
    rw [decide_eq_true k3]
    exact gap_alike d m y (n + b2) v2
/-- Rfc822 reads what the document reads. -/
theorem r822_alike (l : List UInt8) : Alike13 (r822C l) (r822R l) := by
  have hR3 : ∀ d : Nat × List UInt8 × Bool, ∀ b : List UInt8 × Bool, (d.2.2 && b.2) = false → (r822R3 d b).2 = false := by
    intro d b h; unfold r822R3; rw [h]; rfl
  have main : ∀ l, Alike13 (r822a (dayC (l, false))) (r822R1 l) := by
    intro l
    rcases day_alike l with ⟨h1, h2⟩ | ⟨v, t, h1, h2⟩
    · exact alike_no (r822a_bad h1) h2
    rw [h1, h2]
    show Alike13 (r822b v (monthC (signC (t, false) [32]))) (r822R3 (v, t, true) (sgR t [32]))
    rcases sig_sg t [32] with ⟨h3, h4⟩ | ⟨h3, h4⟩
    · exact alike_no (r822b_bad (monthC_bad h3)) (by rw [h4]; exact hR3 _ _ rfl)
    generalize t.drop [32].length = u at *
    rw [h3, h4]
    have eR : r822R3 (v, t, true) (u, true) = if (decide (4 ≤ u.length) && decide (monIx (u.take 3) ≠ 0) && decide (bt u 3 = 32)) = true then r822R4 v (monIx (u.take 3)) (yerR (u.drop 4)) else (0, false) := rfl
    rw [eR]
    rcases mon_alike u with ⟨k1, k2⟩ | ⟨k1, k2, k3⟩
    · exact alike_no (r822b_gap k1) (by rw [k2]; rfl)
    rw [k3, if_pos rfl]
    have eC : r822b v (monthC (u, false)) = r822d v (monthC (u, false)).1 (yearC (u.drop 4, false)) := by
      unfold r822b
      rw [k1]
    rw [eC, k2]
    clear eC k1 k2 k3 eR
    generalize u.drop 4 = s
    generalize monIx (u.take 3) = mm
    unfold r822d r822R4
    rcases year_alike s with ⟨j1, j2⟩ | ⟨y, r, t2, j1, j2, j3, j4⟩
    · refine alike_no (r822e_bad (hoursC_bad j1)) ?_
      unfold r822R5
      rw [j2]; rfl
    · rw [j1, j2, j3]
      show Alike13 _ (r822R5 v mm (y, r, true) (sgR r [32]))
      rw [j4]
      exact r822e_alike v mm y t2
  have hbad : ∀ l, aheadL l = 0 → (dayC (l, false)).2.2 = true := by
    intro l h
    unfold dayC
    rw [if_neg (by show ¬ aheadL l = 1; omega)]
    unfold numD
    rw [if_pos (by show aheadL l < 2; omega)]
  unfold r822C r822R
  show Alike13 (r822a (dayC (wkF weekL l, false))) _
  rcases wk_alike l with h | ⟨h1, h2⟩
  · rw [h]; exact main _
  · refine alike_no (r822a_bad (hbad _ h1)) ?_
    rw [← (main (headR l)).1]
    exact r822a_bad (hbad _ h2)
end Go.Proofs.YtkjjjbipmobdaaaGreatDoor

/- Layer 14, plain: an entry of its fields; a part's field; errors.Is of no error. -/
namespace Go.Proofs.YtkjjjbipmobdaaaGreatDoor
open Go.RowKit

theorem spT_bd : ∀ (l : List UInt8) (a g : Bool) (n : Nat), (spT a g n l).length ≤ 2 * l.length
  | [], a, g, n => by rw [spT_nil]; simp
  | c :: t, a, g, n + 1 => by have := spT_bd t a g n; rw [spT, List.length_cons]; omega
  | c :: t, a, g, 0 => by
    rw [spT]
    split
    · have := spT_bd t true false 0
      rw [List.length_append, List.length_cons, List.length_cons]
      split <;> simp <;> omega
    · have := spT_bd t a true (blankN (c :: t) - 1)
      rw [List.length_cons]; omega
theorem cleanB_bd (l : List UInt8) : (cleanB l).length ≤ 8 * l.length := by
  unfold cleanB spB
  have h1 := spT_bd (entB (stripB l)) false false 0
  have h2 := ent_len (stripB l)
  have h3 := strip_len l
  omega
theorem fieldB_bd {l : List Nd} {i : Int} {nm s : List UInt8} (h : fieldB l i nm = some s) : s.length ≤ 8 * sumT l := by
  rw [fieldB_first] at h
  cases hf : firstB l i nm with
  | none => rw [hf] at h; cases h
  | some j =>
    rw [hf] at h
    injection h with h
    subst h
    show (cleanB (textB l j)).length ≤ _
    have := cleanB_bd (textB l j)
    have := textB_len l j
    omega

def guidL : List UInt8 := [103, 117, 105, 100]
def titleL : List UInt8 := [116, 105, 116, 108, 101]
def descL : List UInt8 := [100, 101, 115, 99, 114, 105, 112, 116, 105, 111, 110]
def pubL : List UInt8 := [112, 117, 98, 68, 97, 116, 101]
def itemL : List UInt8 := [105, 116, 101, 109]
/-- The entry of the fields F, where dates are read by R. -/
def oneB (F : List UInt8 → Option (List UInt8)) (R : List UInt8 → Int × Bool) : It where
  guid := (F guidL).getD []
  title := (F titleL).getD []
  link := (F linkL).getD []
  body := (F descL).getD []
  date := match F pubL with | none => 0 | some s => (R s).1
  dated := match F pubL with | none => false | some s => (R s).2
/-- Is the date a wrong one? -/
def lateB (F : List UInt8 → Option (List UInt8)) (R : List UInt8 → Int × Bool) : Bool := match F pubL with | none => false | some s => !(R s).2
/-- An entry, or what is wrong. -/
inductive ItO where
  | bad (q : Int)
  | it (x : It)
def itO (F : List UInt8 → Option (List UInt8)) (R : List UInt8 → Int × Bool) (most : Int) : ItO :=
  if shortB (oneB F R) most = false then .bad 6 else if (oneB F R).guid = [] ∨ lateB F R = true then .bad 7 else .it (oneB F R)
def it0 : It := ⟨[], [], [], [], 0, false⟩
/-- What entry answers. -/
def ItPost (w : World) (o : ItO) (e : Ending) (w' : World) : Prop :=
  match o with
  | .bad q => ∃ f, e = .returned (.tuple #[itV it0, faultV f]) ∧ w.heap.size ≤ f ∧ FaultAt w' f 0 (codeV q) ∧ Below w.heap.size w w'
  | .it x => e = .returned (.tuple #[itV x, .nilIface]) ∧ Below w.heap.size w w'
theorem is14_nil (q : Int) (w : World) : Calls Tryz.prog 40 #[.nilIface, codeV q] w fun e w' => e = .returned (.bool false) ∧ w = w' := by
  unfold codeV
  have he : ∀ W : World, (binOp .eql 26 .nilIface (.iface 29 (.int .i64 q))).run Tryz.prog W = .ok (.bool false) W := fun W => by kernel_rfl
  go_enter Tryz.func40, Tryz.ntmps40
  go_wp2
  go_ret
  exact ⟨rfl, rfl⟩
theorem cell_next {w w' : World} {p : Addr} {v : Value} (h : w.cell? p = some v) (hb : Below w.heap.size w w') : w'.cell? p = some v := (hb.cell (p := p) (World.block_lt_of_cell? w p h)).trans h
end Go.Proofs.YtkjjjbipmobdaaaGreatDoor

/- copy, append and clear on rows of elements of any number of cells: laws for the walk. -/
namespace Go.Proofs.YtkjjjbipmobdaaaGreatDoor
open Go.RowKit
section
variable {P : Program} {w : World} {ops : Array Oper} {rest : List Oper} {o : Oper} {a : Act} {K : Act → World → Prop} {Q : Exit → Act → World → Prop}

theorem run_copy_k (dT sT ty elem : TypeId) (z g off dLen dCap : Nat) (ad : Addr) (sLen sCap : Nat) (cur : List Value) (t : TypeId) (cs : List Value)
    (hu : P.underlying dT = some (.slice elem)) (hs : (P.info? elem).map (·.size) = some z)
    (hg : ArrAt w g t cur) (hn : cs.length = Nat.min sLen dLen * z)
    (hsrc : ∀ j v, cs[j]? = some v → w.cell? (ad.add j) = some v) (hfit : off + cs.length ≤ cur.length) (h1 : ∀ v ∈ cs, v.oneCell' = true) :
    (Builtin.copy_ #[dT, sT] ty #[.slice (some ⟨g, off, none⟩) dLen dCap, .slice (some ad) sLen sCap]).run P w =
      .ok (goInt (Nat.min sLen dLen)) (w.setRow g (splice cur off cs).toArray) := by
  have hl := run_loadCells_list (P := P) w ad cs hsrc
  have hst := run_storeCells_at P g off t cs 0 cur.toArray w hg (by simpa using hfit) h1
  rw [hn] at hl
  cases hq : P.info? elem with
  | none => simp [hq] at hs
  | some i =>
    have hi : i.size = z := by simpa [hq] using hs
    simp [Builtin.copy_, run_underlying hu, Builtin.lenOf, Builtin.firstCells, sizeOf, typeInfo, hq, hi, hl, hst, splice]

theorem wp_copy_k (d s : Operand) (dT sT : TypeId) (ho : o.op = .call { callee := .builtin .copy, args := #[d, s], argTypes := #[dT, sT] }) (elem : TypeId) (z : Nat) (hu : P.underlying dT = some (.slice elem)) (hsz : (P.info? elem).map (·.size) = some z)
    (g off dLen dCap : Nat) (ad : Addr) (sLen sCap : Nat) (hd : a.eval d = .slice (some ⟨g, off, none⟩) dLen dCap) (hs : a.eval s = .slice (some ad) sLen sCap)
    (cur : List Value) (t : TypeId) (hg : ArrAt w g t cur) (cs : List Value) (hn : cs.length = Nat.min sLen dLen * z)
    (hsrc : ∀ j v, cs[j]? = some v → w.cell? (ad.add j) = some v) (hfit : off + cs.length ≤ cur.length) (h1 : ∀ v ∈ cs, v.oneCell' = true)
    (h : ∀ w', Hid (ArrAt w' g t (splice cur off cs)) → w.grownBy w' (some g) → K (a.put o.dst (goInt (Nat.min sLen dLen))) w') : o.wp P a w K Q := by
  have hrun := run_copy_k (P := P) dT sT o.type elem z g off dLen dCap ad sLen sCap cur t cs hu hsz hg hn hsrc hfit h1
  unfold Oper.wp
  simp [execOp, ho, resolve, invoke, builtin, hd, hs, hrun, Result.andThen]
  exact h _ (setRow_heap w g _ _ t _ hg) (grown_setRow w g _)
theorem wpList_copy_k (hgd : o.guard = none) (d s : Operand) (dT sT : TypeId) (ho : o.op = .call { callee := .builtin .copy, args := #[d, s], argTypes := #[dT, sT] }) (elem : TypeId) (z : Nat) (hu : P.underlying dT = some (.slice elem)) (hsz : (P.info? elem).map (·.size) = some z)
    (g off dLen dCap : Nat) (ad : Addr) (sLen sCap : Nat) (hd : a.eval d = .slice (some ⟨g, off, none⟩) dLen dCap) (hs : a.eval s = .slice (some ad) sLen sCap)
    (cur : List Value) (t : TypeId) (hg : ArrAt w g t cur) (cs : List Value) (hn : cs.length = Nat.min sLen dLen * z)
    (hsrc : ∀ j v, cs[j]? = some v → w.cell? (ad.add j) = some v) (hfit : off + cs.length ≤ cur.length) (h1 : ∀ v ∈ cs, v.oneCell' = true)
    (h : ∀ w', Hid (ArrAt w' g t (splice cur off cs)) → w.grownBy w' (some g) → wpList P ops Q rest (a.put o.dst (goInt (Nat.min sLen dLen))) w') : wpList P ops Q (o :: rest) a w :=
  wpList_plain hgd fun _ hK => wp_copy_k d s dT sT ho elem z hu hsz g off dLen dCap ad sLen sCap hd hs cur t hg cs hn hsrc hfit h1 fun w' h2 h3 => hK _ _ (h w' h2 h3)
theorem step_copy_k {E : Prop} (hgd : o.guard = none) (d s : Operand) (dT sT : TypeId) (ho : o.op = .call { callee := .builtin .copy, args := #[d, s], argTypes := #[dT, sT] }) (elem : TypeId) (z : Nat) (hu : P.underlying dT = some (.slice elem)) (hsz : (P.info? elem).map (·.size) = some z)
    (g off dLen dCap : Nat) (ad : Addr) (sLen sCap : Nat) (hd : a.eval d = .slice (some ⟨g, off, none⟩) dLen dCap) (hs : a.eval s = .slice (some ad) sLen sCap)
    (cur : List Value) (t : TypeId) (hg : ArrAt w g t cur) (cs : List Value) (hn : cs.length = Nat.min sLen dLen * z)
    (hsrc : ∀ j v, cs[j]? = some v → w.cell? (ad.add j) = some v) (hfit : off + cs.length ≤ cur.length) (h1 : ∀ v ∈ cs, v.oneCell' = true)
    (h : ∀ w', Hid (ArrAt w' g t (splice cur off cs)) → w.grownBy w' (some g) → K (a.put o.dst (goInt (Nat.min sLen dLen))) w') :
    if Region.wanted o (yielded ops a.tmps) = true then Oper.wp P o a w K Q else E := by
  rw [if_pos (by simp [Region.wanted, hgd])]
  exact wp_copy_k d s dT sT ho elem z hu hsz g off dLen dCap ad sLen sCap hd hs cur t hg cs hn hsrc hfit h1 h

/-- append within a row that has room. -/
theorem step_append_k {E : Prop} (hgd : o.guard = none) (s x : Operand) (t : TypeId) (ho : o.op = .call { callee := .builtin .append, args := #[s, x], argTypes := #[t, t] })
    (e : TypeId) (i : TypeInfo) (z : Nat) (hu : P.underlying t = some (.slice e)) (hi : P.info? e = some i) (hz : i.size = z)
    (g n cap : Nat) (hs : a.eval s = .slice (some ⟨g, 0, none⟩) n cap) (ad : Addr) (m c : Nat) (news : List Value) (hx : a.eval x = .slice (some ad) m c) (hn : news.length = m * z)
    (hsrc : ∀ j v, news[j]? = some v → w.cell? (ad.add j) = some v) (h1 : ∀ v ∈ news, v.oneCell' = true)
    (cur : List Value) (te : TypeId) (hg : ArrAt w g te cur) (N off : Nat) (hN : n + m = N) (hoff : off = n * z) (hroom : N ≤ cap) (hfit : off + news.length ≤ cur.length)
    (h : ∀ w', Hid (ArrAt w' g te (splice cur off news)) → w.grownBy w' (some g) → K (a.put o.dst (.slice (some ⟨g, 0, none⟩) N cap)) w') :
    if Region.wanted o (yielded ops a.tmps) = true then Oper.wp P o a w K Q else E := by
  rw [if_pos (by simp [Region.wanted, hgd])]
  subst hz hN hoff
  have hspare : ∀ j, j < news.length → w.cell? ⟨g, 0 + n * i.size + j, none⟩ = some (cur.getD (n * i.size + j) undef) := fun j hj => by
    rw [Nat.zero_add, hg.cell, List.getElem?_eq_getElem (by omega)]; simp [List.getD, List.getElem?_eq_getElem (show n * i.size + j < cur.length by omega)]
  have hrun := run_append_room_cells (P := P) w t o.type e i hu hi g 0 n cap ad m c news hn hsrc h1 hroom (fun j hj => by rw [hspare j hj]; rfl) (fun j hj => hg.soft _)
  have hsp : w.setCells g (0 + n * i.size) news = w.setRow g (splice cur (n * i.size) news).toArray := by
    have h1 := run_storeCells_at P g (n * i.size) te news 0 cur.toArray w hg (by simpa using hfit) h1
    have h2 := run_storeCells_cells (P := P) g (n * i.size) news 0 w (fun j hj => by rw [Nat.add_zero, hg.cell, List.getElem?_eq_getElem (by omega)]; rfl) (fun j hj => hg.soft _) ‹_›
    rw [h2] at h1
    injection h1 with _ h1
    simpa [splice] using h1
  unfold Oper.wp
  simp [execOp, ho, resolve, invoke, builtin, hs, hx, hrun, Result.andThen]
  rw [Nat.zero_add] at hsp
  rw [hsp]
  exact h _ (setRow_heap w g _ _ te _ hg) (grown_setRow w g _)

/-- clear of a part of a row. -/
theorem wpList_clear_k (hgd : o.guard = none) (x : Operand) (t : TypeId) (ho : o.op = .call { callee := .builtin .clear, args := #[x], argTypes := #[t] })
    (e : TypeId) (zv : Value) (hu : P.underlying t = some (.slice e)) (hv : ∀ w, (zeroValue e).run P w = .ok zv w) (g off n c : Nat) (h1 : ∀ v ∈ (Builtin.zeroCells zv.cells n).toList, v.oneCell' = true)
    (hx : a.eval x = .slice (some ⟨g, off, none⟩) n c) (h0 : 0 < n) (cur : List Value) (te : TypeId) (hg : ArrAt w g te cur) (hfit : off + (Builtin.zeroCells zv.cells n).toList.length ≤ cur.length)
    (h : ∀ w', Hid (ArrAt w' g te (splice cur off (Builtin.zeroCells zv.cells n).toList)) → w.grownBy w' (some g) → wpList P ops Q rest (a.put o.dst (.tuple #[])) w') : wpList P ops Q (o :: rest) a w := by
  refine wpList_plain hgd fun K hK => ?_
  have hst := run_storeCells_at P g off te (Builtin.zeroCells zv.cells n).toList 0 cur.toArray w hg (by simpa using hfit) h1
  obtain ⟨m, rfl⟩ : ∃ m, n = m + 1 := ⟨n - 1, by omega⟩
  have hrun : (Builtin.clear_ #[t] o.type #[.slice (some ⟨g, off, none⟩) (m + 1) c]).run P w = .ok (.tuple #[]) (w.setRow g (splice cur off (Builtin.zeroCells zv.cells (m + 1)).toList).toArray) := by
    simp [Builtin.clear_, run_underlying hu, hv, hst, splice]
  unfold Oper.wp
  simp only [execOp, ho, resolve, invoke, builtin, Sem.run_bind, Sem.run_pure, Result.andThen_ok, List.map_toArray, List.map_cons, List.map_nil, hx, hrun]
  exact hK _ _ (h _ (setRow_heap w g _ _ te _ hg) (grown_setRow w g _))

/-- append(s[:i], make([]E, k)...) where there is no room: a new row. -/
theorem wpList_append_zeros (hgd : o.guard = none) (s x : Operand) (t tn : TypeId) (ho : o.op = .call { callee := .builtin .append, args := #[s, x], argTypes := #[t, tn] })
    (e : TypeId) (i : TypeInfo) (zv : Value) (z : Nat) (kn : IntKind) (hu : P.underlying t = some (.slice e)) (htn : P.underlying tn = some (.int kn)) (hi : P.info? e = some i) (hzv : i.zero = some zv) (hz : i.size = z) (hzc : zv.cells.size = z) (h0 : 0 < z)
    (ad : Addr) (n cap : Nat) (hs : a.eval s = .slice (some ad) n cap) (olds : List Value) (hol : olds.length = n * z) (hold : ∀ j v, olds[j]? = some v → w.cell? (ad.add j) = some v)
    (k : Nat) (kq : IntKind) (y : Int) (hx : a.eval x = .int kq y) (hy : y = k) (hk : 0 < k) (N H : Nat) (hN : n + k = N) (hH : w.heap.size = H) (hg : cap < N) (hbig : N * i.bytes ≤ 140737488355328) (h63 : N ≤ 9223372036854775807)
    (h : ∀ (G : Nat) (tail : List Value) w', N ≤ G → G ≤ maxLen → Hid ((olds ++ tail).length = G * z) → Hid (ArrAt w' H e (olds ++ tail)) → Below H w w' → H < w'.heap.size → wpList P ops Q rest (a.put o.dst (.slice (some ⟨H, 0, none⟩) N G)) w') :
    wpList P ops Q (o :: rest) a w := by
  subst hz hy hN hH
  have hf : (Builtin.firstCells i.size n (.slice (some ad) n cap)).run P w.drew = .ok olds.toArray w.drew := run_firstCells_some w.drew i.size n ad n cap olds hol hold
  have hrun := Lib.run_append_grow_zeros w t tn o.type e i zv kq kn hu htn hi hzv (some ad) n cap olds hf k hk h0 hg (by omega) (Nat.le_trans (Nat.mul_le_mul_right _ (Nat.le_add_left k n)) (Nat.le_trans hbig (by decide))) (growslice_fits hg hbig)
  have hge := grownCap_ge w (n + k) cap e
  have hcm : grownCap w (n + k) cap e ≤ maxLen := grownCap_le_maxLen w (n + k) cap e (by unfold maxLen; omega)
  refine Lib.wpList_append_run w hgd s x t tn ho _ _ hs hx _ _ hrun (h _ ((Builtin.zeroCells zv.cells k).toList ++ (Builtin.zeroCells zv.cells (grownCap w (n + k) cap e - (n + k))).toList) _ hge hcm ?_ ?_ ?_ ?_)
  · show _ = _
    simp only [List.length_append, Array.length_toList, size_zeroCells, hzc, hol, ← Nat.add_mul]
    congr 1; omega
  · show _ = _
    rw [show (olds ++ ((Builtin.zeroCells zv.cells k).toList ++ (Builtin.zeroCells zv.cells (grownCap w (n + k) cap e - (n + k))).toList)).toArray = olds.toArray ++ Builtin.zeroCells zv.cells k ++ Builtin.zeroCells zv.cells (grownCap w (n + k) cap e - (n + k)) by simp]
    exact heap_alloc_new w.drew _
  · exact (Below.refl _ _).drew.alloc (Nat.le_refl _) _
  · simp
end

/-- The model's slices.overlaps where the first slice is a row of one element just laid, in another block. -/
theorem run_overlaps_row {P : Program} (w : World) (tS tR e : TypeId) (ht : P.underlying tS = some (.slice e)) (z : Nat) (hz : ∀ w, (Go.sizeOf e).run P w = .ok z w) (g h off la ca lb cb : Nat) (cg ch : List Value) (tg th : TypeId)
    (hg : ArrAt w g tg cg) (hh : ArrAt w h th ch) (hne : h ≠ g) (h0 : cg ≠ []) :
    (Extern.SlicesOverlaps.overlaps #[tS, tS] #[tR] #[.slice (some ⟨h, 0, none⟩) la ca, .slice (some ⟨g, off, none⟩) lb cb]).run P w = .ok (.bool false) w :=
  Lib.run_overlaps_apart w tS tR e ht z hz ⟨h, 0, none⟩ ⟨g, off, none⟩ la ca lb cb hne th tg ch.length cg.length (by unfold ArrAt at hh; simp [World.shape?, hh]) (by unfold ArrAt at hg; simp [World.shape?, hg]) (by simpa using h0) (hh.soft 0) (hh.soft _)
end Go.Proofs.YtkjjjbipmobdaaaGreatDoor
