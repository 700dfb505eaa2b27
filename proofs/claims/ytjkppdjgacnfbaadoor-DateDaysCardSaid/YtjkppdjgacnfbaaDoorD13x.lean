/- Layer 13, plain: what was written is read. -/
import Derived.Test.YtjkppdjgacnfbaaDoorD13t
import Derived.Test.YtjkppdjgacnfbaaDoorD13w
namespace Go.Proofs.YtjkppdjgacnfbaaDoor
open Go.RowKit

theorem dig_nat {k : Nat} (h : k < 10) : (dig k).toNat = 48 + k := by
  unfold dig
  rw [UInt8.toNat_ofNat']
  omega
theorem dgB_dig {k : Nat} (h : k < 10) : dgB (dig k) = true := by
  unfold dgB
  rw [dig_nat h, decide_eq_true (by omega), decide_eq_true (by omega)]; rfl
theorem ahead_dig {k : Nat} (h : k < 10) (t : List UInt8) : aheadL (dig k :: t) = aheadL t + 1 := by
  rw [aheadL, dgB_dig h, if_pos rfl]
theorem ahead_two {n : Nat} (h : n < 100) (t : List UInt8) : aheadL (two13 n ++ t) = aheadL t + 2 := by
  show aheadL (dig (n / 10) :: dig (n % 10) :: t) = _
  rw [ahead_dig (by omega), ahead_dig (by omega)]
theorem ahead_four {n : Nat} (h : n ≤ 9999) (t : List UInt8) : aheadL (four13 n ++ t) = aheadL t + 4 := by
  show aheadL (dig (n / 1000) :: dig (n / 100 % 10) :: dig (n / 10 % 10) :: dig (n % 10) :: t) = _
  rw [ahead_dig (by omega), ahead_dig (by omega), ahead_dig (by omega), ahead_dig (by omega)]
theorem num_two {n : Nat} (h : n < 100) (t : List UInt8) (f : Bool) : numC 2 (two13 n ++ t, f) = (n, (t, f)) := by
  unfold numC
  rw [if_neg (by show ¬ aheadL (two13 n ++ t) < 2; rw [ahead_two h]; omega)]
  have e : valN 0 ((two13 n ++ t).take 2) = n := by
    show (0 * 10 + ((dig (n / 10)).toNat - 48)) * 10 + ((dig (n % 10)).toNat - 48) = n
    rw [dig_nat (by omega), dig_nat (by omega)]; omega
  show (valN 0 ((two13 n ++ t).take 2), _) = _
  rw [e]; rfl
theorem num_four {n : Nat} (h : n ≤ 9999) (t : List UInt8) (f : Bool) : numC 4 (four13 n ++ t, f) = (n, (t, f)) := by
  unfold numC
  rw [if_neg (by show ¬ aheadL (four13 n ++ t) < 4; rw [ahead_four h]; omega)]
  have e : valN 0 ((four13 n ++ t).take 4) = n := by
    show (((0 * 10 + ((dig (n / 1000)).toNat - 48)) * 10 + ((dig (n / 100 % 10)).toNat - 48)) * 10 + ((dig (n / 10 % 10)).toNat - 48)) * 10 + ((dig (n % 10)).toNat - 48) = n
    rw [dig_nat (by omega), dig_nat (by omega), dig_nat (by omega), dig_nat (by omega)]; omega
  show (valN 0 ((four13 n ++ t).take 4), _) = _
  rw [e]; rfl
theorem part_two {n k : Nat} (hk : n ≤ k) (h : n < 100) (t : List UInt8) (f : Bool) : partC k (two13 n ++ t, f) = (n, (t, f)) := by
  unfold partC
  rw [num_two h]
  exact if_neg (by show ¬ k < n; omega)
theorem sign_own (p t : List UInt8) (f : Bool) : signC (p ++ t, f) p = (t, f) := by
  have h : Lib.hasPrefix (p ++ t) p = true := by unfold Lib.hasPrefix; rw [List.isPrefixOf_iff_prefix]; exact List.prefix_append p t
  unfold signC Lib.trimPrefix
  show ((if Lib.hasPrefix (p ++ t) p = true then (p ++ t).drop p.length else p ++ t), (if Lib.hasPrefix (p ++ t) p = true then f else true)) = _
  rw [h, if_pos rfl, if_pos rfl, List.drop_left]
theorem hours_two {a b : Nat} (ha : a ≤ 23) (hb : b ≤ 59) (p t : List UInt8) (f : Bool) : hoursC p (two13 a ++ (p ++ (two13 b ++ t)), f) = (a * 3600 + b * 60, (t, f)) := by
  unfold hoursC
  rw [part_two ha (by omega)]
  show (a * 3600 + (partC 59 (signC (p ++ (two13 b ++ t), f) p)).1 * 60, (partC 59 (signC (p ++ (two13 b ++ t), f) p)).2) = _
  rw [sign_own, part_two hb (by omega)]
theorem secs_two {b : Nat} (hb : b ≤ 59) (t : List UInt8) (f : Bool) : secondsC (58 :: (two13 b ++ t), f) = (b, (t, f)) := by
  unfold secondsC
  rw [sign_yes, part_two hb (by omega)]
/-- Hours, minutes and seconds are read. -/
theorem clock_read {c : Nat} (h : c < 86400) (t : List UInt8) (f : Bool) :
    ∃ s, hoursC [58] (clock13 c ++ t, f) = (c / 3600 * 3600 + c / 60 % 60 * 60, (58 :: s, f)) ∧ secondsC (58 :: s, f) = (c % 60, (t, f)) := by
  refine ⟨two13 (c % 60) ++ t, ?_, secs_two (by omega) t f⟩
  have e : clock13 c ++ t = two13 (c / 3600) ++ ([58] ++ (two13 (c / 60 % 60) ++ (58 :: (two13 (c % 60) ++ t)))) := by
    unfold clock13
    simp only [List.append_assoc, List.cons_append, List.nil_append]
  rw [e]
  exact hours_two (by omega) (by omega) _ _ _
/-- A date as RFC 3339 has it, ahead of its zone. -/
def d39 (y m d c : Nat) : List UInt8 := four13 y ++ (45 :: (two13 m ++ (45 :: (two13 d ++ (84 :: clock13 c)))))
theorem d39_len (y m d c : Nat) : (d39 y m d c).length = 19 := rfl
theorem p39_eq (y m d c : Nat) : p39 y m d c = d39 y m d c ++ [90] := by
  unfold p39 d39
  simp only [List.append_assoc, List.cons_append, List.nil_append]
theorem read39 {y m d c : Nat} (hy : y ≤ 9999) (hm : m < 100) (hd : d < 100) (hc : c < 86400) (z : List UInt8) (hz : Lib.hasPrefix z [46] = false) : r3339C (d39 y m d c ++ z) = r3339f y m d c (z, false) := by
  obtain ⟨s, h1, h2⟩ := clock_read hc z false
  have e : d39 y m d c ++ z = four13 y ++ (45 :: (two13 m ++ (45 :: (two13 d ++ (84 :: (clock13 c ++ z)))))) := by
    unfold d39
    simp only [List.append_assoc, List.cons_append]
  unfold r3339C
  rw [e, num_four hy]
  unfold r3339y
  rw [sign_yes, num_two hm]
  unfold r3339a
  rw [sign_yes, num_two hd]
  unfold r3339b
  have et : teeC (84 :: (clock13 c ++ z), false) = (clock13 c ++ z, false) := by unfold teeC; rw [skip_yes]; rfl
  rw [et, h1]
  unfold r3339c
  rw [h2]
  unfold r3339d
  have ek : skipC (z, false) [46] = (false, (z, false)) := by
    unfold skipC
    show (Lib.hasPrefix z [46], (Lib.trimPrefix z [46], false)) = _
    unfold Lib.trimPrefix
    rw [hz]; rfl
  rw [ek]
  unfold r3339e
  rw [if_neg (fun h => Bool.noConfusion h), show c / 3600 * 3600 + c / 60 % 60 * 60 + c % 60 = c by omega]
theorem r3339f_z (y m d c : Nat) : r3339f y m d c ([90], false) = dateC ([], false) y m d c := by
  unfold r3339f
  rw [skip_yes, if_pos rfl]
  simp only [r3339g]
theorem off_yes {a b : Nat} (ha : a ≤ 23) (hb : b ≤ 59) (p : List UInt8) : offsetC p (43 :: (two13 a ++ (p ++ two13 b)), false) = (((a * 3600 + b * 60 : Nat) : Int), ([], false)) := by
  unfold offsetC
  rw [skip_no (by decide)]
  have := hours_two ha hb p [] false
  rw [List.append_nil] at this
  rw [if_neg (fun h => Bool.noConfusion h), sign_yes, this]
theorem off_no {a b : Nat} (ha : a ≤ 23) (hb : b ≤ 59) (p : List UInt8) : offsetC p (45 :: (two13 a ++ (p ++ two13 b)), false) = (-((a * 3600 + b * 60 : Nat) : Int), ([], false)) := by
  unfold offsetC
  rw [skip_yes]
  have := hours_two ha hb p [] false
  rw [List.append_nil] at this
  rw [if_pos rfl, this]
theorem r3339f_off {y m d c a b : Nat} (ha : a ≤ 23) (hb : b ≤ 59) : r3339f y m d c (43 :: (two13 a ++ ([58] ++ two13 b)), false) = dateC ([], false) y m d ((c : Int) - ((a * 3600 + b * 60 : Nat) : Int)) := by
  have e : r3339f y m d c (43 :: (two13 a ++ ([58] ++ two13 b)), false) = r3339g y m d ((c : Int) - (offsetC [58] (43 :: (two13 a ++ ([58] ++ two13 b)), false)).1, (offsetC [58] (43 :: (two13 a ++ ([58] ++ two13 b)), false)).2) := by
    unfold r3339f; rw [skip_no (by decide)]
    rw [if_neg (fun h => Bool.noConfusion h), skip_no (by decide), if_neg (fun h => Bool.noConfusion h)]
  rw [e, off_yes ha hb]
  rfl
/-- A date as RFC 822 has it, ahead of its zone. -/
def d82 (k y m d c : Nat) : List UInt8 := weekL.getD k [] ++ (44 :: 32 :: (two13 d ++ (32 :: (monthsL.getD (m - 1) [] ++ (32 :: (four13 y ++ (32 :: (clock13 c ++ [32]))))))))
theorem d82_len {k m : Nat} (hk : k < 7) (h1 : 1 ≤ m) (h2 : m ≤ 12) (y d c : Nat) : (d82 k y m d c).length = 26 := by
  have e1 : (weekL.getD k []).length = 3 := by
    have : ∀ i < 7, (weekL.getD i []).length = 3 := by decide
    exact this k hk
  have e2 : (monthsL.getD (m - 1) []).length = 3 := by
    have : ∀ i < 12, (monthsL.getD i []).length = 3 := by decide
    exact this _ (by omega)
  have e3 : (two13 d).length = 2 := rfl
  have e4 : (four13 y).length = 4 := rfl
  have e5 : (clock13 c).length = 8 := rfl
  unfold d82
  simp only [List.length_append, List.length_cons, List.length_nil, e1, e2, e3, e4, e5]
theorem p82_eq (k y m d c : Nat) : p82 k y m d c = d82 k y m d c ++ [71, 77, 84] := by
  unfold p82 d82
  simp only [List.append_assoc, List.cons_append, List.nil_append]
theorem week_read {k : Nat} (hk : k < 7) (t : List UInt8) : wkF weekL (weekL.getD k [] ++ (44 :: 32 :: t)) = t := by
  have h : weekL.getD k [] ∈ weekL := by
    have : ∀ i < 7, weekL.getD i [] ∈ weekL := by decide
    exact this k hk
  obtain ⟨a, b, c, e⟩ := three_is (week_three _ h)
  rw [e] at h ⊢
  show wkF weekL (a :: b :: c :: 44 :: 32 :: t) = t
  rw [wkF_five _ week_three, if_pos ⟨h, rfl⟩]
theorem month_read {m : Nat} (h1 : 1 ≤ m) (h2 : m ≤ 12) (t : List UInt8) (f : Bool) : monthC (monthsL.getD (m - 1) [] ++ t, f) = (m, (t, f)) := by
  have h : monthsL.getD (m - 1) [] ∈ monthsL ∧ monIx (monthsL.getD (m - 1) []) = m - 1 + 1 := by
    have : ∀ i < 12, monthsL.getD i [] ∈ monthsL ∧ monIx (monthsL.getD i []) = i + 1 := by decide
    exact this _ (by omega)
  obtain ⟨a, b, c, e⟩ := three_is (months_three _ h.1)
  rw [e] at h ⊢
  unfold monthC
  show (match monF monthsL (a :: b :: c :: t) with | some (m, t) => (m, (t, f)) | none => (0, (a :: b :: c :: t, true))) = _
  rw [monF_three _ months_three, if_pos h.1, h.2, show m - 1 + 1 = m by omega]
theorem read82 {k y m d c : Nat} (hk : k < 7) (hy : y ≤ 9999) (h1 : 1 ≤ m) (h2 : m ≤ 12) (hd : d < 100) (hc : c < 86400) (z : List UInt8) : r822C (d82 k y m d c ++ z) = r822g d m y ((c : Int), (z, false)) := by
  obtain ⟨s, k1, k2⟩ := clock_read hc (32 :: z) false
  have e : d82 k y m d c ++ z = weekL.getD k [] ++ (44 :: 32 :: (two13 d ++ (32 :: (monthsL.getD (m - 1) [] ++ (32 :: (four13 y ++ (32 :: (clock13 c ++ (32 :: z))))))))) := by
    unfold d82
    simp only [List.append_assoc, List.cons_append, List.nil_append]
  unfold r822C weekdayC
  rw [e, week_read hk]
  have e1 : ∀ t, dayC (two13 d ++ (32 :: t), false) = (d, (32 :: t, false)) := by
    intro t
    unfold dayC
    rw [if_neg (by show ¬ aheadL (two13 d ++ (32 :: t)) = 1; rw [ahead_two hd]; omega), num_two hd]
  rw [e1]
  unfold r822a
  rw [sign_yes, month_read h1 h2]
  unfold r822b
  rw [sign_yes]
  have e2 : ∀ t, yearC (four13 y ++ (32 :: t), false) = (y, (32 :: t, false)) := by
    intro t
    have ea : aheadL (32 :: t) = 0 := by rw [aheadL]; exact if_neg (by decide)
    unfold yearC
    rw [if_neg (by show ¬ aheadL (four13 y ++ (32 :: t)) = 2; rw [ahead_four hy, ea]; omega), num_four hy]
  rw [e2]
  unfold r822d
  rw [sign_yes, k1]
  unfold r822e
  rw [skip_no (by decide)]
  unfold r822f
  rw [if_neg (fun h => Bool.noConfusion h), k2]
  show r822g d m y (_, signC (32 :: z, false) [32]) = _
  rw [sign_yes, show c / 3600 * 3600 + c / 60 % 60 * 60 + c % 60 = c by omega]
theorem r822g_gmt (d m y : Nat) (c : Int) : r822g d m y (c, ([71, 77, 84], false)) = dateC ([], false) y m d c := by
  have e : zoneC ([71, 77, 84], false) = (0, ([], false)) := by decide
  unfold r822g
  rw [e]
  show dateC ([], false) y m d (c - 0) = _
  rw [Int.sub_zero]
theorem zoneNm_sign (t : List UInt8) : zoneNm (45 :: t) = none := by
  unfold zoneNm
  simp
theorem r822g_off {a b : Nat} (ha : a ≤ 23) (hb : b ≤ 59) (d m y : Nat) (c : Int) : r822g d m y (c, (45 :: (two13 a ++ two13 b), false)) = dateC ([], false) y m d (c + ((a * 3600 + b * 60 : Nat) : Int)) := by
  have e : zoneC (45 :: (two13 a ++ two13 b), false) = (-((a * 3600 + b * 60 : Nat) : Int), ([], false)) := by
    unfold zoneC
    show (match zoneNm (45 :: (two13 a ++ two13 b)) with | some z => (z * 3600, ([], false)) | none => offsetC [] (45 :: (two13 a ++ two13 b), false)) = _
    rw [zoneNm_sign]
    exact off_no ha hb []
  unfold r822g
  rw [e]
  show dateC ([], false) y m d (c - -((a * 3600 + b * 60 : Nat) : Int)) = _
  rw [Int.sub_neg]
theorem civN_in {N : Nat} (h : N ≤ 2932896) : (civN N).1 ≤ 9999 ∧ 1 ≤ (civN N).2.1 ∧ (civN N).2.1 ≤ 12 ∧ (civN N).2.2 < 100 := by
  have hc := civN_is h
  have h3 := (lenN_low (y := (civN N).1) hc.m1 hc.m2).2
  have h4 := hc.d2
  exact ⟨hc.y2, hc.m1, hc.m2, by omega⟩
theorem date_read {N : Nat} (h : N ≤ 2932896) {c : Int} (h0 : 0 ≤ (N : Int) * 86400 + c) (h9 : (N : Int) * 86400 + c ≤ 253402300799) : dateC ([], false) (civN N).1 (civN N).2.1 (civN N).2.2 c = ((N : Int) * 86400 + c, true) := by
  unfold dateC
  rw [(civN_is h).days]
  rw [if_neg]
  rintro (h | h | h | h | h)
  · cases h
  · exact h rfl
  · cases h
  · exact absurd h (by show ¬ (N : Int) * 86400 + c < 0; omega)
  · exact absurd h (by show ¬ 253402300799 < (N : Int) * 86400 + c; omega)
end Go.Proofs.YtjkppdjgacnfbaaDoor
