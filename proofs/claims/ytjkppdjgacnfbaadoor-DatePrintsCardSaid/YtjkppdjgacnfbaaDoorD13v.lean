/- Layer 13, plain: what the program reads and what the document's reader reads is the same: the whole. -/
import Derived.Test.YtjkppdjgacnfbaaDoorD13u
namespace Go.Proofs.YtjkppdjgacnfbaaDoor
open Go.RowKit

theorem offR_other {x : UInt8} (t p : List UInt8) (h1 : (43 : UInt8) ≠ x) (h2 : (45 : UInt8) ≠ x) : (offR (x :: t) p).2 = false := by
  unfold offR
  rw [if_pos]
  have e1 : ¬ bt (x :: t) 0 = 43 := fun e => h1 (bt_is.1 e)
  have e2 : ¬ bt (x :: t) 0 = 45 := fun e => h2 (bt_is.1 e)
  simp [e1, e2]
theorem r3339R3_other {x : UInt8} (t : List UInt8) (y m d c : Nat) (h0 : x :: t ≠ [90]) (h01 : x :: t ≠ [122]) (h1 : (43 : UInt8) ≠ x) (h2 : (45 : UInt8) ≠ x) : (r3339R3 y m d c (x :: t)).2 = false := by
  unfold r3339R3
  rw [if_neg (by rw [Bool.or_eq_true, beq_iff_eq, beq_iff_eq]; rintro (h | h); exact h0 h; exact h01 h)]
  unfold r3339R4
  rw [if_neg (by rw [offR_other t _ h1 h2]; decide)]
theorem r3339g_off (y m d c : Nat) (s : List UInt8) : Alike13 (r3339g y m d ((c : Int) - (offsetC [58] (s, false)).1, (offsetC [58] (s, false)).2)) (r3339R4 y m d c (offR s [58])) := by
  unfold r3339g
  rcases off_alike [58] s with ⟨h1, h2⟩ | ⟨z, h1, h2⟩
  · refine alike_no ?_ (by unfold r3339R4; rw [if_neg (by rw [h2]; decide)])
    rcases h1 with h1 | h1
    · exact dateC_bad h1 _ _ _ _
    · exact dateC_rest h1 _ _ _ _
  · rw [h1, h2]
    unfold r3339R4
    rw [if_pos rfl]
    exact whole_alike y m d c z
theorem r3339f_alike (y m d c : Nat) (s : List UInt8) : Alike13 (r3339f y m d c (s, false)) (r3339R3 y m d c s) := by
  have hw := whole_alike y m d c 0
  rw [Int.sub_zero] at hw
  cases s with
  | nil => exact r3339g_off y m d c []
  | cons x t =>
    by_cases h90 : (90 : UInt8) = x
    · subst h90
      have e : r3339f y m d c (90 :: t, false) = dateC (t, false) y m d c := by unfold r3339f; rw [skip_yes]; rfl
      rw [e]
      cases t with
      | nil => exact hw
      | cons b t => exact alike_no (dateC_rest (by simp) _ _ _ _) (r3339R3_other _ _ _ _ _ (by simp) (by simp) (by decide) (by decide))
    by_cases h122 : (122 : UInt8) = x
    · subst h122
      have e : r3339f y m d c (122 :: t, false) = dateC (t, false) y m d c := by
        unfold r3339f; rw [skip_no h90]
        show (if false = true then _ else if (skipC (122 :: t, false) [122]).1 = true then _ else _ : Int × Bool) = _
        rw [if_neg (by decide), skip_yes]; rfl
      rw [e]
      cases t with
      | nil => exact hw
      | cons b t => exact alike_no (dateC_rest (by simp) _ _ _ _) (r3339R3_other _ _ _ _ _ (by simp) (by simp) (by decide) (by decide))
    have e : r3339f y m d c (x :: t, false) = r3339g y m d ((c : Int) - (offsetC [58] (x :: t, false)).1, (offsetC [58] (x :: t, false)).2) := by
      unfold r3339f; rw [skip_no h90]
      show (if false = true then _ else if (skipC (x :: t, false) [122]).1 = true then _ else _ : Int × Bool) = _
      rw [if_neg (by decide), skip_no h122]; rfl
    rw [e]
    unfold r3339R3
    rw [if_neg]
    · exact r3339g_off y m d c (x :: t)
    · rw [Bool.or_eq_true, beq_iff_eq, beq_iff_eq]
      rintro (h | h)
      · injection h with h _; exact h90 h.symm
      · injection h with h _; exact h122 h.symm
theorem r3339e_alike (y m d c : Nat) (s : List UInt8) : Alike13 (r3339e y m d c (skipC (s, false) [46])) (r3339R3 y m d c (fracR s)) := by
  cases s with
  | nil =>
    have ef : fracR [] = [] := by simp [fracR]
    have ee : r3339e y m d c (false, ([], false)) = r3339f y m d c ([], false) := by unfold r3339e; rw [if_neg (by decide)]
    rw [skip_nil, ef, ee]
    exact r3339f_alike y m d c []
  | cons x t =>
    by_cases h46 : (46 : UInt8) = x
    · subst h46
      rw [skip_yes]
      have ee : r3339e y m d c (true, (t, false)) = r3339f y m d c (digitsC (t, false)) := by unfold r3339e; rw [if_pos rfl]
      rw [ee]
      by_cases h0 : aheadL t = 0
      · have ef : fracR (46 :: t) = 46 :: t := by
          unfold fracR
          rw [if_neg]
          intro hh
          simp only [Bool.and_eq_true, decide_eq_true_eq] at hh
          have ht : t ≠ [] := by rintro rfl; simp at hh
          rw [ahead_step ht] at h0
          have eb : bt (46 :: t) 1 = bt t 0 := (bt_tail (l := 46 :: t) hh.1.1.1).symm
          rw [if_pos ⟨by omega, by omega⟩] at h0
          omega
        rw [ef]
        exact alike_no (r3339f_bad (by unfold digitsC; show (if aheadL t = 0 then true else false) = true; rw [if_pos h0])) (r3339R3_other _ _ _ _ _ (by simp) (by simp) (by decide) (by decide))
      · have ht : t ≠ [] := by rintro rfl; exact h0 rfl
        have eb : bt (46 :: t) 1 = bt t 0 := (bt_tail (l := 46 :: t) (by have := List.length_pos_iff.2 ht; show 1 < t.length + 1; omega)).symm
        have hd := ahead_step ht
        have hdd : 48 ≤ bt t 0 ∧ bt t 0 ≤ 57 := by
          by_cases hk : 48 ≤ bt t 0 ∧ bt t 0 ≤ 57
          · exact hk
          · rw [if_neg hk] at hd; exact absurd hd h0
        have ef : fracR (46 :: t) = t.drop (aheadL t) := by
          unfold fracR
          rw [if_pos]
          · rfl
          · have h1 := List.length_pos_iff.2 ht
            have h2 : 1 < (46 :: t : List UInt8).length := by show 1 < t.length + 1; omega
            have h3 : bt (46 :: t) 0 = 46 := bt_cons _ _
            simp only [Bool.and_eq_true, decide_eq_true_eq]
            exact ⟨⟨⟨h2, h3⟩, by omega⟩, by omega⟩
        rw [ef]
        have ed : digitsC (t, false) = (t.drop (aheadL t), false) := by unfold digitsC; show (_, (if aheadL t = 0 then true else false)) = _; rw [if_neg h0]
        rw [ed]
        exact r3339f_alike y m d c _
    · have ef : fracR (x :: t) = x :: t := by
        unfold fracR
        rw [if_neg]
        intro hh
        simp only [Bool.and_eq_true, decide_eq_true_eq] at hh
        exact h46 (bt_is.1 hh.1.1.2)
      have ee : r3339e y m d c (false, (x :: t, false)) = r3339f y m d c (x :: t, false) := by unfold r3339e; rw [if_neg (fun h => Bool.noConfusion h)]
      rw [skip_no h46, ef, ee]
      exact r3339f_alike y m d c _
theorem r3339c_alike (y m d : Nat) (s : List UInt8) : Alike13 (r3339c y m d (hoursC [58] (s, false))) (r3339R2 y m d (clkR s false)) := by
  unfold clkR
  rcases hours_alike s [58] with ⟨h1, h2⟩ | ⟨a, b, t, u, v, h1, h2, h3, h4, h5, h6⟩
  · refine alike_no (r3339c_bad h1) ?_
    unfold clk1
    unfold hmR at h2
    rw [h2]; rfl
  · rw [h1, h6]
    show Alike13 _ (r3339R2 y m d (clk1 (a, t, true) (digR 2 (sgR t [58]).1) (sgR t [58]).2 false))
    rw [h2]
    show Alike13 _ (r3339R2 y m d (clk1 (a, t, true) (digR 2 u) true false))
    rw [h3]
    unfold clk1
    show Alike13 _ (r3339R2 y m d (if (true && decide (a ≤ 23) && decide (b ≤ 59)) = true then _ else _))
    rw [if_pos (by rw [decide_eq_true h4, decide_eq_true h5]; rfl)]
    show Alike13 (r3339d y m d (a * 3600 + b * 60) (secondsC (v, false))) (r3339R2 y m d (clk2 (3600 * a + 60 * b) v false (sgR v [58])))
    rcases secs_alike v with ⟨k1, k2⟩ | ⟨u2, b2, v2, k1, k2, k3, k4⟩
    · refine alike_no (r3339d_bad k1) ?_
      unfold clk2
      cases hs : (sgR v [58]).2 with
      | false => rfl
      | true =>
        rw [hs, Bool.true_and] at k2
        rw [if_pos rfl]
        unfold r3339R2
        show (if (_ && _) = true then _ else _ : Int × Bool).2 = false
        rw [k2]; rfl
    · rw [k4, k1]
      unfold clk2
      show Alike13 _ (r3339R2 y m d (3600 * a + 60 * b + (digR 2 u2).1, (digR 2 u2).2.1, (digR 2 u2).2.2 && decide ((digR 2 u2).1 ≤ 59)))
      rw [k2]
      show Alike13 (r3339e y m d (a * 3600 + b * 60 + b2) (skipC (v2, false) [46])) (r3339R2 y m d (3600 * a + 60 * b + b2, v2, true && decide (b2 ≤ 59)))
      rw [decide_eq_true k3]
      show Alike13 _ (r3339R3 y m d (3600 * a + 60 * b + b2) (fracR v2))
      rw [Nat.mul_comm a, Nat.mul_comm b]
      exact r3339e_alike _ _ _ _ _
theorem tee_alike (y m d : Nat × List UInt8 × Bool) (hy : y.2.2 = true) (hm : m.2.2 = true) (hd : d.2.2 = true) (a b : Bool) (ha : a = true) (hb : b = true) : Alike13 (r3339c y.1 m.1 d.1 (hoursC [58] (teeC (d.2.1, false)))) (r3339R1 y m d a b) := by
  subst ha hb
  obtain ⟨d, s, f⟩ := d
  simp only at hd
  subst hd
  unfold r3339R1
  rw [hy, hm]
  show Alike13 _ (if (true && !s.isEmpty && (decide (bt s 0 = 84) || decide (bt s 0 = 116) || decide (bt s 0 = 32))) = true then r3339R2 y.1 m.1 d (clkR s.tail false) else (0, false))
  cases s with
  | nil => exact alike_no (r3339c_bad (hoursC_bad rfl)) rfl
  | cons x t =>
    have e1 : (true && !(x :: t).isEmpty && (decide (bt (x :: t) 0 = 84) || decide (bt (x :: t) 0 = 116) || decide (bt (x :: t) 0 = 32))) = (decide ((84 : UInt8) = x) || decide ((116 : UInt8) = x) || decide ((32 : UInt8) = x)) := by
      have d1 : decide (bt (x :: t) 0 = 84) = decide ((84 : UInt8) = x) := decide_eq_decide.2 (bt_is (c := 84))
      have d2 : decide (bt (x :: t) 0 = 116) = decide ((116 : UInt8) = x) := decide_eq_decide.2 (bt_is (c := 116))
      have d3 : decide (bt (x :: t) 0 = 32) = decide ((32 : UInt8) = x) := decide_eq_decide.2 (bt_is (c := 32))
      rw [d1, d2, d3]
      rfl
    rw [e1]
    show Alike13 (r3339c y.1 m.1 d (hoursC [58] (teeC (x :: t, false)))) (if _ then r3339R2 y.1 m.1 d (clkR t false) else _)
    by_cases h84 : (84 : UInt8) = x
    · subst h84
      rw [if_pos (by simp)]
      rw [show teeC (84 :: t, false) = (t, false) by unfold teeC; rw [skip_yes]; rfl]
      exact r3339c_alike _ _ _ _
    by_cases h116 : (116 : UInt8) = x
    · subst h116
      rw [if_pos (by simp)]
      rw [show teeC (116 :: t, false) = (t, false) by
        unfold teeC; rw [skip_no h84]
        show (if false = true then _ else if (skipC (116 :: t, false) [116]).1 = true then _ else _ : RSt) = _
        rw [if_neg (by decide), skip_yes]; rfl]
      exact r3339c_alike _ _ _ _
    have e2 : teeC (x :: t, false) = signC (x :: t, false) [32] := by
      unfold teeC; rw [skip_no h84]
      show (if false = true then _ else if (skipC (x :: t, false) [116]).1 = true then _ else _ : RSt) = _
      rw [if_neg (by decide), skip_no h116]; rfl
    rw [e2]
    by_cases h32 : (32 : UInt8) = x
    · subst h32
      rw [if_pos (by simp), sign_yes]
      exact r3339c_alike _ _ _ _
    · rw [if_neg (by simp [h84, h116, h32]), sign_no h32]
      exact alike_no (r3339c_bad (hoursC_bad rfl)) rfl
/-- Rfc3339 reads what the document reads. -/
theorem r3339_alike (l : List UInt8) : Alike13 (r3339C l) (r3339R l) := by
  unfold r3339C r3339R
  have hno : ∀ y m d : Nat × List UInt8 × Bool, ∀ a b : Bool, (y.2.2 && a && m.2.2 && b && d.2.2) = false → (r3339R1 y m d a b).2 = false := by
    intro y m d a b h
    unfold r3339R1
    rw [h]; rfl
  rcases num_dig 4 l with ⟨h1, h2, _⟩ | ⟨y, h1, h2, _, _⟩
  · exact alike_no (r3339y_bad h1) (by rw [h2]; exact hno _ _ _ _ _ (by simp))
  generalize l.drop 4 = s1 at *
  rw [h1, h2]
  show Alike13 (r3339a y (numC 2 (signC (s1, false) [45]))) (r3339Ra (y, s1, true) (sgR s1 [45]))
  rcases sig_sg s1 [45] with ⟨h3, h4⟩ | ⟨h3, h4⟩
  · exact alike_no (r3339a_bad (numC_bad h3)) (by rw [h4]; exact hno _ _ _ _ _ (by simp))
  generalize s1.drop [45].length = s2 at *
  rw [h3, h4]
  show Alike13 _ (r3339Rm (y, s1, true) true (digR 2 s2))
  rcases num_dig 2 s2 with ⟨h5, h6, _⟩ | ⟨m, h5, h6, _, _⟩
  · exact alike_no (r3339a_bad h5) (by rw [h6]; exact hno _ _ _ _ _ (by simp))
  generalize s2.drop 2 = s3 at *
  rw [h5, h6]
  show Alike13 (r3339b y m (numC 2 (signC (s3, false) [45]))) (r3339Rb (y, s1, true) (m, s3, true) true (sgR s3 [45]))
  rcases sig_sg s3 [45] with ⟨h7, h8⟩ | ⟨h7, h8⟩
  · exact alike_no (r3339b_bad (numC_bad h7)) (by rw [h8]; exact hno _ _ _ _ _ (by simp))
  generalize s3.drop [45].length = s4 at *
  rw [h7, h8]
  show Alike13 _ (r3339R1 (y, s1, true) (m, s3, true) (digR 2 s4) true true)
  rcases num_dig 2 s4 with ⟨h9, h10, _⟩ | ⟨d, h9, h10, _, _⟩
  · exact alike_no (r3339b_bad h9) (by rw [h10]; exact hno _ _ _ _ _ (by simp))
  rw [h9, h10]
  exact tee_alike (y, s1, true) (m, s3, true) (d, s4.drop 2, true) rfl rfl rfl true true rfl rfl
end Go.Proofs.YtjkppdjgacnfbaaDoor
