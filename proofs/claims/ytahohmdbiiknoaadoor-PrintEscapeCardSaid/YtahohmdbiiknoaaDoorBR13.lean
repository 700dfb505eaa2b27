/- Layer 13, plain: what was written is read. -/
import Derived.Test.YtahohmdbiiknoaaDoorBR12
import Derived.Test.YtahohmdbiiknoaaDoorBR02
import Derived.Test.YtahohmdbiiknoaaDoorBR10
import Derived.Test.YtahohmdbiiknoaaDoorBR03
namespace Go.Proofs.YtahohmdbiiknoaaDoor

theorem dig_nat {k : Nat} (h : k < 10) : (dig k).toNat = 48 + k := by
  unfold dig
  rw [UInt8.toNat_ofNat']
  omega
theorem dgB_dig {k : Nat} (h : k < 10) : dgB (dig k) = true := by
  unfold dgB
  rw [dig_nat h, decide_eq_true (by omega), decide_eq_true (by omega)]; rfl
theorem ahead_dig {k : Nat} (h : k < 10) (t : List UInt8) : aheadL (dig k :: t) = aheadL t + 1 := by
  rw [aheadL, dgB_dig h, if_pos rfl]
theorem ahead_two {n : Nat} (h : n < 100) (t : List UInt8) : aheadL (two13 n ++ t) = aheadL t + 2 := by
  show aheadL (dig (n / 10) :: dig (n % 10) :: t) = _
  rw [ahead_dig (by omega), ahead_dig (by omega)]
theorem ahead_four {n : Nat} (h : n ≤ 9999) (t : List UInt8) : aheadL (four13 n ++ t) = aheadL t + 4 := by
  show aheadL (dig (n / 1000) :: dig (n / 100 % 10) :: dig (n / 10 % 10) :: dig (n % 10) :: t) = _
  rw [ahead_dig (by omega), ahead_dig (by omega), ahead_dig (by omega), ahead_dig (by omega)]
theorem num_two {n : Nat} (h : n < 100) (t : List UInt8) (f : Bool) : numD 2 (two13 n ++ t, f) = (n, (t, f)) := by
  unfold numD
  rw [if_neg (by show ¬ aheadL (two13 n ++ t) < 2; rw [ahead_two h]; omega)]
  have e : valN 0 ((two13 n ++ t).take 2) = n := by
    show (0 * 10 + ((dig (n / 10)).toNat - 48)) * 10 + ((dig (n % 10)).toNat - 48) = n
    rw [dig_nat (by omega), dig_nat (by omega)]; omega
  show (valN 0 ((two13 n ++ t).take 2), _) = _
  rw [e]; rfl
theorem num_four {n : Nat} (h : n ≤ 9999) (t : List UInt8) (f : Bool) : numD 4 (four13 n ++ t, f) = (n, (t, f)) := by
  unfold numD
  rw [if_neg (by show ¬ aheadL (four13 n ++ t) < 4; rw [ahead_four h]; omega)]
  have e : valN 0 ((four13 n ++ t).take 4) = n := by
    show (((0 * 10 + ((dig (n / 1000)).toNat - 48)) * 10 + ((dig (n / 100 % 10)).toNat - 48)) * 10 + ((dig (n / 10 % 10)).toNat - 48)) * 10 + ((dig (n % 10)).toNat - 48) = n
    rw [dig_nat (by omega), dig_nat (by omega), dig_nat (by omega), dig_nat (by omega)]; omega
  show (valN 0 ((four13 n ++ t).take 4), _) = _
  rw [e]; rfl
theorem part_two {n k : Nat} (hk : n ≤ k) (h : n < 100) (t : List UInt8) (f : Bool) : partC k (two13 n ++ t, f) = (n, (t, f)) := by
  unfold partC
  rw [num_two h]
  exact if_neg (by show ¬ k < n; omega)
theorem sign_own (p t : List UInt8) (f : Bool) : signC (p ++ t, f) p = (t, f) := by
  have h : Lib.hasPrefix (p ++ t) p = true := by unfold Lib.hasPrefix; rw [List.isPrefixOf_iff_prefix]; exact List.prefix_append p t
  unfold signC Lib.trimPrefix
  show ((if Lib.hasPrefix (p ++ t) p = true then (p ++ t).drop p.length else p ++ t), (if Lib.hasPrefix (p ++ t) p = true then f else true)) = _
  rw [h, if_pos rfl, if_pos rfl, List.drop_left]
theorem hours_two {a b : Nat} (ha : a ≤ 23) (hb : b ≤ 59) (p t : List UInt8) (f : Bool) : hoursC p (two13 a ++ (p ++ (two13 b ++ t)), f) = (a * 3600 + b * 60, (t, f)) := by
  unfold hoursC
  rw [part_two ha (by omega)]
  show (a * 3600 + (partC 59 (signC (p ++ (two13 b ++ t), f) p)).1 * 60, (partC 59 (signC (p ++ (two13 b ++ t), f) p)).2) = _
  rw [sign_own, part_two hb (by omega)]
theorem secs_two {b : Nat} (hb : b ≤ 59) (t : List UInt8) (f : Bool) : secondsC (58 :: (two13 b ++ t), f) = (b, (t, f)) := by
  unfold secondsC
  rw [sign_yes, part_two hb (by omega)]
/-- Hours, minutes and seconds are read. -/
theorem clock_read {c : Nat} (h : c < 86400) (t : List UInt8) (f : Bool) :
    ∃ s, hoursC [58] (clock13 c ++ t, f) = (c / 3600 * 3600 + c / 60 % 60 * 60, (58 :: s, f)) ∧ secondsC (58 :: s, f) = (c % 60, (t, f)) := by
  refine ⟨two13 (c % 60) ++ t, ?_, secs_two (by omega) t f⟩
  have e : clock13 c ++ t = two13 (c / 3600) ++ ([58] ++ (two13 (c / 60 % 60) ++ (58 :: (two13 (c % 60) ++ t)))) := by
    unfold clock13
    simp only [List.append_assoc, List.cons_append, List.nil_append]
  rw [e]
  exact hours_two (by omega) (by omega) _ _ _
/-- A date as RFC 3339 has it, ahead of its zone. -/
def d39 (y m d c : Nat) : List UInt8 := four13 y ++ (45 :: (two13 m ++ (45 :: (two13 d ++ (84 :: clock13 c)))))
theorem d39_len (y m d c : Nat) : (d39 y m d c).length = 19 := rfl
theorem p39_eq (y m d c : Nat) : p39 y m d c = d39 y m d c ++ [90] := by
  unfold p39 d39
  simp only [List.append_assoc, List.cons_append, List.nil_append]
theorem read39 {y m d c : Nat} (hy : y ≤ 9999) (hm : m < 100) (hd : d < 100) (hc : c < 86400) (z : List UInt8) (hz : Lib.hasPrefix z [46] = false) : r3339C (d39 y m d c ++ z) = r3339f y m d c (z, false) := by
  obtain ⟨s, h1, h2⟩ := clock_read hc z false
  have e : d39 y m d c ++ z = four13 y ++ (45 :: (two13 m ++ (45 :: (two13 d ++ (84 :: (clock13 c ++ z)))))) := by
    unfold d39
    simp only [List.append_assoc, List.cons_append]
  unfold r3339C
  rw [e, num_four hy]
  unfold r3339y
  rw [sign_yes, num_two hm]
  unfold r3339a
  rw [sign_yes, num_two hd]
  unfold r3339b
  have et : teeC (84 :: (clock13 c ++ z), false) = (clock13 c ++ z, false) := by unfold teeC; rw [skip_yes]; rfl
  rw [et, h1]
  unfold r3339c
  rw [h2]
  unfold r3339d
  have ek : skipC (z, false) [46] = (false, (z, false)) := by
    unfold skipC
    show (Lib.hasPrefix z [46], (Lib.trimPrefix z [46], false)) = _
    unfold Lib.trimPrefix
    rw [hz]; rfl
  rw [ek]
  unfold r3339e
  rw [if_neg (fun h => Bool.noConfusion h), show c / 3600 * 3600 + c / 60 % 60 * 60 + c % 60 = c by omega]
theorem r3339f_z (y m d c : Nat) : r3339f y m d c ([90], false) = dateC ([], false) y m d c := by
  unfold r3339f
  rw [skip_yes, if_pos rfl]
  simp only [r3339g]
theorem off_yes {a b : Nat} (ha : a ≤ 23) (hb : b ≤ 59) (p : List UInt8) : offsetC p (43 :: (two13 a ++ (p ++ two13 b)), false) = (((a * 3600 + b * 60 : Nat) : Int), ([], false)) := by
  unfold offsetC
  rw [skip_no (by decide)]
  have := hours_two ha hb p [] false
  rw [List.append_nil] at this
  rw [if_neg (fun h => Bool.noConfusion h), sign_yes, this]
theorem off_no {a b : Nat} (ha : a ≤ 23) (hb : b ≤ 59) (p : List UInt8) : offsetC p (45 :: (two13 a ++ (p ++ two13 b)), false) = (-((a * 3600 + b * 60 : Nat) : Int), ([], false)) := by
  unfold offsetC
  rw [skip_yes]
  have := hours_two ha hb p [] false
  rw [List.append_nil] at this
  rw [if_pos rfl, this]
theorem r3339f_off {y m d c a b : Nat} (ha : a ≤ 23) (hb : b ≤ 59) : r3339f y m d c (43 :: (two13 a ++ ([58] ++ two13 b)), false) = dateC ([], false) y m d ((c : Int) - ((a * 3600 + b * 60 : Nat) : Int)) := by
  have e : r3339f y m d c (43 :: (two13 a ++ ([58] ++ two13 b)), false) = r3339g y m d ((c : Int) - (offsetC [58] (43 :: (two13 a ++ ([58] ++ two13 b)), false)).1, (offsetC [58] (43 :: (two13 a ++ ([58] ++ two13 b)), false)).2) := by
    unfold r3339f; rw [skip_no (by decide)]
    rw [if_neg (fun h => Bool.noConfusion h), skip_no (by decide), if_neg (fun h => Bool.noConfusion h)]
  rw [e, off_yes ha hb]
  rfl
/-- A date as RFC 822 has it, ahead of its zone. -/
def d82 (k y m d c : Nat) : List UInt8 := weekL.getD k [] ++ (44 :: 32 :: (two13 d ++ (32 :: (monthsL.getD (m - 1) [] ++ (32 :: (four13 y ++ (32 :: (clock13 c ++ [32]))))))))
theorem d82_len {k m : Nat} (hk : k < 7) (h1 : 1 ≤ m) (h2 : m ≤ 12) (y d c : Nat) : (d82 k y m d c).length = 26 := by
  have e1 : (weekL.getD k []).length = 3 := by
    have : ∀ i < 7, (weekL.getD i []).length = 3 := by decide
    exact this k hk
  have e2 : (monthsL.getD (m - 1) []).length = 3 := by
    have : ∀ i < 12, (monthsL.getD i []).length = 3 := by decide
    exact this _ (by omega)
  have e3 : (two13 d).length = 2 := rfl
  have e4 : (four13 y).length = 4 := rfl
  have e5 : (clock13 c).length = 8 := rfl
  unfold d82
  simp only [List.length_append, List.length_cons, List.length_nil, e1, e2, e3, e4, e5]
theorem p82_eq (k y m d c : Nat) : p82 k y m d c = d82 k y m d c ++ [71, 77, 84] := by
  unfold p82 d82
  simp only [List.append_assoc, List.cons_append, List.nil_append]
theorem week_read {k : Nat} (hk : k < 7) (t : List UInt8) : wkF weekL (weekL.getD k [] ++ (44 :: 32 :: t)) = t := by
  match k, hk with
  | 0, _ => rfl
  | 1, _ => rfl
  | 2, _ => rfl
  | 3, _ => rfl
  | 4, _ => rfl
  | 5, _ => rfl
  | 6, _ => rfl
theorem month_read {m : Nat} (h1 : 1 ≤ m) (h2 : m ≤ 12) (t : List UInt8) (f : Bool) : monthC (monthsL.getD (m - 1) [] ++ t, f) = (m, (t, f)) := by
  match m, h1, h2 with
  | 1, _, _ => rfl
  | 2, _, _ => rfl
  | 3, _, _ => rfl
  | 4, _, _ => rfl
  | 5, _, _ => rfl
  | 6, _, _ => rfl
  | 7, _, _ => rfl
  | 8, _, _ => rfl
  | 9, _, _ => rfl
  | 10, _, _ => rfl
  | 11, _, _ => rfl
  | 12, _, _ => rfl
theorem read82 {k y m d c : Nat} (hk : k < 7) (hy : y ≤ 9999) (h1 : 1 ≤ m) (h2 : m ≤ 12) (hd : d < 100) (hc : c < 86400) (z : List UInt8) : r822C (d82 k y m d c ++ z) = r822g d m y ((c : Int), (z, false)) := by
  obtain ⟨s, k1, k2⟩ := clock_read hc (32 :: z) false
  have e : d82 k y m d c ++ z = weekL.getD k [] ++ (44 :: 32 :: (two13 d ++ (32 :: (monthsL.getD (m - 1) [] ++ (32 :: (four13 y ++ (32 :: (clock13 c ++ (32 :: z))))))))) := by
    unfold d82
    simp only [List.append_assoc, List.cons_append, List.nil_append]
  unfold r822C weekdayC
  rw [e, week_read hk]
  have e1 : ∀ t, dayC (two13 d ++ (32 :: t), false) = (d, (32 :: t, false)) := by
    intro t
    unfold dayC
    rw [if_neg (by show ¬ aheadL (two13 d ++ (32 :: t)) = 1; rw [ahead_two hd]; omega), num_two hd]
  rw [e1]
  unfold r822a
  rw [sign_yes, month_read h1 h2]
  unfold r822b
  rw [sign_yes]
  have e2 : ∀ t, yearC (four13 y ++ (32 :: t), false) = (y, (32 :: t, false)) := by
    intro t
    have ea : aheadL (32 :: t) = 0 := by rw [aheadL]; exact if_neg (by decide)
    unfold yearC
    rw [if_neg (by show ¬ aheadL (four13 y ++ (32 :: t)) = 2; rw [ahead_four hy, ea]; omega), num_four hy]
  rw [e2]
  unfold r822d
  rw [sign_yes, k1]
  unfold r822e
  rw [skip_no (by decide)]
  unfold r822f
  rw [if_neg (fun h => Bool.noConfusion h), k2]
  show r822g d m y (_, signC (32 :: z, false) [32]) = _
  rw [sign_yes, show c / 3600 * 3600 + c / 60 % 60 * 60 + c % 60 = c by omega]
theorem r822g_gmt (d m y : Nat) (c : Int) : r822g d m y (c, ([71, 77, 84], false)) = dateC ([], false) y m d c := by
  have e : zoneC ([71, 77, 84], false) = (0, ([], false)) := by decide
  unfold r822g
  rw [e]
  show dateC ([], false) y m d (c - 0) = _
  rw [Int.sub_zero]
theorem zoneNm_sign (t : List UInt8) : zoneNm (45 :: t) = none := by
  unfold zoneNm
  simp
theorem r822g_off {a b : Nat} (ha : a ≤ 23) (hb : b ≤ 59) (d m y : Nat) (c : Int) : r822g d m y (c, (45 :: (two13 a ++ two13 b), false)) = dateC ([], false) y m d (c + ((a * 3600 + b * 60 : Nat) : Int)) := by
  have e : zoneC (45 :: (two13 a ++ two13 b), false) = (-((a * 3600 + b * 60 : Nat) : Int), ([], false)) := by
    unfold zoneC
    show (match zoneNm (45 :: (two13 a ++ two13 b)) with | some z => (z * 3600, ([], false)) | none => offsetC [] (45 :: (two13 a ++ two13 b), false)) = _
    rw [zoneNm_sign]
    exact off_no ha hb []
  unfold r822g
  rw [e]
  show dateC ([], false) y m d (c - -((a * 3600 + b * 60 : Nat) : Int)) = _
  rw [Int.sub_neg]
theorem civN_in {N : Nat} (h : N ≤ 2932896) : (civN N).1 ≤ 9999 ∧ 1 ≤ (civN N).2.1 ∧ (civN N).2.1 ≤ 12 ∧ (civN N).2.2 < 100 := by
  have hc := civN_is h
  have h3 := (lenN_low (y := (civN N).1) hc.m1 hc.m2).2
  have h4 := hc.d2
  exact ⟨hc.y2, hc.m1, hc.m2, by omega⟩
theorem date_read {N : Nat} (h : N ≤ 2932896) {c : Int} (h0 : 0 ≤ (N : Int) * 86400 + c) (h9 : (N : Int) * 86400 + c ≤ 253402300799) : dateC ([], false) (civN N).1 (civN N).2.1 (civN N).2.2 c = ((N : Int) * 86400 + c, true) := by
  unfold dateC
  rw [(civN_is h).days]
  rw [if_neg]
  rintro (h | h | h | h | h)
  · cases h
  · exact h rfl
  · cases h
  · exact absurd h (by show ¬ (N : Int) * 86400 + c < 0; omega)
  · exact absurd h (by show ¬ 253402300799 < (N : Int) * 86400 + c; omega)
end Go.Proofs.YtahohmdbiiknoaaDoor

/- Layer 17, plain: a cleaned text is no longer; printed dates are plain, and are read. -/
namespace Go.Proofs.YtahohmdbiiknoaaDoor

theorem spT_short : ∀ (l : List UInt8) (a g : Bool) (n : Nat), (spT a g n l).length ≤ l.length + (if (a && g) = true then 1 else 0)
  | [], a, g, n => by rw [spT_nil]; simp
  | c :: t, a, g, n + 1 => by have := spT_short t a g n; rw [spT, List.length_cons]; omega
  | c :: t, a, g, 0 => by
    rw [spT]
    split
    · have := spT_short t true false 0
      simp only [List.length_append, List.length_cons]
      split <;> simp at this ⊢ <;> omega
    · have := spT_short t a true (blankN (c :: t) - 1)
      rw [List.length_cons]
      revert this
      cases a <;> cases g <;> simp <;> omega
theorem named_two {l x : List UInt8} (h : namedS l = some x) : 2 ≤ l.length := by
  match l with
  | [] => cases (show namedS [] = none by decide).symm.trans h
  | [c] =>
    exfalso
    unfold namedS at h
    rw [if_neg (by unfold ltL; simp), if_neg (by unfold gtL; simp), if_neg (by unfold ampL; simp), if_neg (by unfold quotL; simp), if_neg (by unfold aposL; simp)] at h
    have : charB (numI [c]) = false := by
      unfold numI
      rw [if_neg (by unfold Lib.hasPrefix; simp [List.isPrefixOf])]
      split
      · rfl
      · rfl
    rw [this] at h
    cases h
  | _ :: _ :: _ => simp
theorem entF_short (d : List UInt8) (hd : d ≠ []) : (entF d).1.length ≤ (entF d).2 + 1 ∧ (entF d).2 + 1 ≤ d.length := by
  refine ⟨?_, (entF_bd d hd).2⟩
  have h1 : (d.take 1).length ≤ 1 := by rw [List.length_take]; omega
  unfold entF
  split
  · rename_i hc
    cases hn : namedS ((d.take (Lib.indexByte d 59).toNat).drop 1) with
    | none => exact h1
    | some x =>
      have h2 := named_len hn
      have h3 := named_two hn
      rw [List.length_drop, List.length_take] at h3
      show x.length ≤ (Lib.indexByte d 59).toNat + 1
      omega
  · exact h1
theorem ent_short (l : List UInt8) : (entB l).length ≤ l.length := by
  have : ∀ (n : Nat) (l : List UInt8), l.length ≤ n → (entB l).length ≤ l.length := by
    intro n
    induction n with
    | zero => intro l h; cases l with
      | nil => simp [entB, walkT]
      | cons c t => simp at h
    | succ n ih =>
      intro l h
      by_cases h0 : l = []
      · subst h0; simp [entB, walkT]
      have hbd := entF_short l h0
      rw [ent_step l h0, List.length_append]
      have := ih (l.drop ((entF l).2 + 1)) (by rw [List.length_drop]; omega)
      rw [List.length_drop] at this
      omega
  exact this _ l (Nat.le_refl _)
/-- A cleaned text is no longer. -/
theorem clean_short (l : List UInt8) : (cleanB l).length ≤ l.length := by
  have h1 := strip_len l
  have h2 := ent_short (stripB l)
  have h3 := spT_short (entB (stripB l)) false false 0
  unfold cleanB spB
  simp only [Bool.false_and, Bool.false_eq_true, if_false, Nat.add_zero] at h3
  omega

/-- A sign that is no blank and no mark. -/
def inkB (c : UInt8) : Bool := decide (33 ≤ c.toNat) && decide (c.toNat ≤ 126) && (c != 60) && (c != 38)
theorem ink_bd {c : UInt8} (h : inkB c = true) : 33 ≤ c.toNat ∧ c.toNat ≤ 126 ∧ c ≠ 60 ∧ c ≠ 38 := by
  unfold inkB at h
  simp only [Bool.and_eq_true, decide_eq_true_eq, bne_iff_ne, ne_eq] at h
  exact ⟨h.1.1.1, h.1.1.2, h.1.2, h.2⟩
theorem nf_word : ∀ (w : List UInt8) (b : Bool) (t : List UInt8), w ≠ [] → w.all inkB = true → nfB b (w ++ t) = nfB true t
  | [], _, _, h, _ => absurd rfl h
  | c :: w, b, t, _, h => by
    rw [List.all_cons, Bool.and_eq_true] at h
    have hc := ink_bd h.1
    have h32 : c ≠ 32 := by rintro rfl; exact absurd hc.1 (by decide)
    have h0 : ∀ s : List UInt8, blankN (c :: s) = 0 := fun s => by
      have hb : bt (c :: s) 0 = (c.toNat : Int) := by unfold bt; rfl
      unfold blankN
      rw [hb, if_neg (by omega), if_neg (by omega)]
    rw [List.cons_append, nfB, if_neg (fun e => h32 e.2), h0, decide_eq_true rfl, Bool.true_and]
    cases w with
    | nil => rfl
    | cons d w => exact nf_word (d :: w) true t (by simp) h.2
/-- Words, a blank between. -/
def wordsT : List (List UInt8) → List UInt8
  | [] => []
  | [w] => w
  | w :: v :: r => w ++ 32 :: wordsT (v :: r)
theorem nf_words : ∀ (ws : List (List UInt8)), ws ≠ [] → (∀ w ∈ ws, w ≠ [] ∧ w.all inkB = true) → nfB false (wordsT ws) = true
  | [], h, _ => absurd rfl h
  | [w], _, h => by
    have := nf_word w false [] (h w (by simp)).1 (h w (by simp)).2
    rw [List.append_nil] at this
    rw [wordsT, this]; rfl
  | w :: v :: r, _, h => by
    rw [wordsT, nf_word w false _ (h w (by simp)).1 (h w (by simp)).2, nfB, if_pos ⟨rfl, rfl⟩]
    exact nf_words (v :: r) (by simp) fun x hx => h x (by simp [hx])
theorem no_words : ∀ (ws : List (List UInt8)) (x : UInt8), (x = 60 ∨ x = 38) → (∀ w ∈ ws, w.all inkB = true) → x ∉ wordsT ws
  | [], _, _, _ => by simp [wordsT]
  | [w], x, hx, h => by
    intro hm
    have := ink_bd (List.all_eq_true.1 (h w (by simp)) x hm)
    rcases hx with e | e
    · exact this.2.2.1 e
    · exact this.2.2.2 e
  | w :: v :: r, x, hx, h => by
    intro hm
    rw [wordsT, List.mem_append, List.mem_cons] at hm
    rcases hm with hm | hm | hm
    · have := ink_bd (List.all_eq_true.1 (h w (by simp)) x hm)
      rcases hx with e | e
      · exact this.2.2.1 e
      · exact this.2.2.2 e
    · subst hm; rcases hx with e | e <;> exact absurd e (by decide)
    · exact no_words (v :: r) x hx (fun y hy => h y (by simp [hy])) hm
theorem plain_words {ws : List (List UInt8)} (h0 : ws ≠ []) (h : ∀ w ∈ ws, w ≠ [] ∧ w.all inkB = true) : plainB (wordsT ws) = true := by
  unfold plainB
  rw [containsAny_two]
  have h1 := no_words ws 60 (Or.inl rfl) fun w hw => (h w hw).2
  have h2 := no_words ws 38 (Or.inr rfl) fun w hw => (h w hw).2
  have h3 := (spB_iff (wordsT ws)).2 (Or.inr (nf_words ws h0 h))
  simp [h1, h2, h3]
theorem ink_dig : ∀ k : Fin 10, inkB (dig k.1) = true := by decide
theorem ink_two {n : Nat} (h : n < 100) : two13 n ≠ [] ∧ (two13 n).all inkB = true := by
  refine ⟨by unfold two13; simp, ?_⟩
  have h1 := ink_dig ⟨n / 10, by omega⟩
  have h2 := ink_dig ⟨n % 10, by omega⟩
  unfold two13
  simp only [List.all_cons, List.all_nil, Bool.and_true, h1, h2]
theorem ink_four {n : Nat} (h : n ≤ 9999) : four13 n ≠ [] ∧ (four13 n).all inkB = true := by
  refine ⟨by unfold four13; simp, ?_⟩
  have h1 := ink_dig ⟨n / 1000, by omega⟩
  have h2 := ink_dig ⟨n / 100 % 10, by omega⟩
  have h3 := ink_dig ⟨n / 10 % 10, by omega⟩
  have h4 := ink_dig ⟨n % 10, by omega⟩
  unfold four13
  simp only [List.all_cons, List.all_nil, Bool.and_true, h1, h2, h3, h4]
theorem ink_clock {c : Nat} (h : c < 86400) : clock13 c ≠ [] ∧ (clock13 c).all inkB = true := by
  have h1 := (ink_two (n := c / 3600) (by omega)).2
  have h2 := (ink_two (n := c / 60 % 60) (by omega)).2
  have h3 := (ink_two (n := c % 60) (by omega)).2
  refine ⟨by unfold clock13; simp, ?_⟩
  unfold clock13
  simp only [List.all_append, h1, h2, h3, Bool.and_true, Bool.true_and]
  decide
theorem ink_week : ∀ k : Fin 7, (weekL.getD k.1 [] ++ [44]).all inkB = true := by decide
theorem ink_month : ∀ k : Fin 12, monthsL.getD k.1 [] ≠ [] ∧ (monthsL.getD k.1 []).all inkB = true := by decide
theorem in_words : ∀ (ws : List (List UInt8)), (∀ w ∈ ws, w.all inkB = true) → ∀ c ∈ wordsT ws, inkB c = true ∨ c = 32
  | [], _, _, hc => by simp [wordsT] at hc
  | [w], h, c, hc => Or.inl (List.all_eq_true.1 (h w (by simp)) c hc)
  | w :: v :: r, h, c, hc => by
    rw [wordsT, List.mem_append, List.mem_cons] at hc
    rcases hc with hc | hc | hc
    · exact Or.inl (List.all_eq_true.1 (h w (by simp)) c hc)
    · exact Or.inr hc
    · exact in_words (v :: r) (fun y hy => h y (by simp [hy])) c hc
/-- A printed date is words. -/
theorem print82_words {n : Int} (h0 : 0 ≤ n) (h9 : n ≤ 253402300799) : ∃ ws, print82 n = wordsT ws ∧ ws ≠ [] ∧ ∀ w ∈ ws, w ≠ [] ∧ w.all inkB = true := by
  obtain ⟨N, rfl⟩ := Int.eq_ofNat_of_zero_le h0
  have hN : N / 86400 ≤ 2932896 := by omega
  obtain ⟨c1, c2, c3, c4⟩ := civN_in hN
  unfold print82
  rw [if_neg (by omega)]
  simp only [Int.toNat_natCast]
  generalize hk : (N / 86400 + 3) % 7 = k
  have hk7 : k < 7 := by omega
  refine ⟨[weekL.getD k [] ++ [44], two13 (civN (N / 86400)).2.2, monthsL.getD ((civN (N / 86400)).2.1 - 1) [], four13 (civN (N / 86400)).1, clock13 (N % 86400), [71, 77, 84]], ?_, by simp, fun w hw => ?_⟩
  · unfold p82
    simp only [wordsT, List.append_assoc, List.cons_append, List.nil_append]
  · simp only [List.mem_cons, List.not_mem_nil, or_false] at hw
    rcases hw with rfl | rfl | rfl | rfl | rfl | rfl
    · exact ⟨by simp, ink_week ⟨k, hk7⟩⟩
    · exact ink_two c4
    · exact ink_month ⟨(civN (N / 86400)).2.1 - 1, by omega⟩
    · exact ink_four c1
    · exact ink_clock (by omega)
    · decide
theorem print39_words {n : Int} (h0 : 0 ≤ n) (h9 : n ≤ 253402300799) : ∃ ws, print39 n = wordsT ws ∧ ws ≠ [] ∧ ∀ w ∈ ws, w ≠ [] ∧ w.all inkB = true := by
  obtain ⟨N, rfl⟩ := Int.eq_ofNat_of_zero_le h0
  have hN : N / 86400 ≤ 2932896 := by omega
  obtain ⟨c1, c2, c3, c4⟩ := civN_in hN
  unfold print39
  rw [if_neg (by omega)]
  simp only [Int.toNat_natCast]
  refine ⟨[p39 (civN (N / 86400)).1 (civN (N / 86400)).2.1 (civN (N / 86400)).2.2 (N % 86400)], rfl, by simp, fun w hw => ?_⟩
  rw [List.mem_singleton] at hw
  subst hw
  have h1 := (ink_four c1).2
  have h2 := (ink_two (n := (civN (N / 86400)).2.1) (by omega)).2
  have h3 := (ink_two c4).2
  have h4 := (ink_clock (c := N % 86400) (by omega)).2
  refine ⟨by unfold p39; simp, ?_⟩
  unfold p39
  simp only [List.all_append, h1, h2, h3, h4, Bool.and_true, Bool.true_and]
  decide
/-- A printed date is plain, and is read as it was. -/
theorem print82_back {n : Int} (h0 : 0 ≤ n) (h9 : n ≤ 253402300799) : plainB (print82 n) = true ∧ r822C (print82 n) = (n, true) := by
  obtain ⟨ws, e, hw0, hw⟩ := print82_words h0 h9
  refine ⟨by rw [e]; exact plain_words hw0 hw, ?_⟩
  clear e hw0 hw
  obtain ⟨N, rfl⟩ := Int.eq_ofNat_of_zero_le h0
  have hN : N / 86400 ≤ 2932896 := by omega
  obtain ⟨c1, c2, c3, c4⟩ := civN_in hN
  unfold print82
  rw [if_neg (by omega)]
  simp only [Int.toNat_natCast]
  rw [p82_eq, read82 (Nat.mod_lt _ (by decide)) c1 c2 c3 c4 (by omega), r822g_gmt, date_read hN (by omega) (by omega)]
  congr 1
  omega
theorem print39_back {n : Int} (h0 : 0 ≤ n) (h9 : n ≤ 253402300799) : plainB (print39 n) = true ∧ r3339C (print39 n) = (n, true) := by
  obtain ⟨ws, e, hw0, hw⟩ := print39_words h0 h9
  refine ⟨by rw [e]; exact plain_words hw0 hw, ?_⟩
  clear e hw0 hw
  obtain ⟨N, rfl⟩ := Int.eq_ofNat_of_zero_le h0
  have hN : N / 86400 ≤ 2932896 := by omega
  obtain ⟨c1, c2, c3, c4⟩ := civN_in hN
  unfold print39
  rw [if_neg (by omega)]
  simp only [Int.toNat_natCast]
  rw [p39_eq, read39 c1 (by omega) c4 (by omega) _ (by decide), r3339f_z, date_read hN (by omega) (by omega)]
  congr 1
  omega
end Go.Proofs.YtahohmdbiiknoaaDoor

/- Layer 17, plain: what is read of printed documents. -/
namespace Go.Proofs.YtahohmdbiiknoaaDoor

/-- An entry's fields, as RSS and as Atom have them. -/
def rssF (x : It) : List Pf := [.el guidL x.guid, .el titleL x.title, .el linkL x.link, .el descL x.body] ++ if x.dated = true then [.el pubL (print82 x.date)] else []
def atomF (x : It) : List Pf := [.el idL x.guid, .el titleL x.title, .lk linkL hrefL x.link, .el sumL x.body] ++ if x.dated = true then [.el updL (print39 x.date)] else []
/-- An entry as it is read. -/
def cleanI (x : It) : It := ⟨cleanB x.guid, cleanB x.title, cleanB x.link, cleanB x.body, if x.dated = true then x.date else 0, x.dated⟩
/-- An entry that may be read back. -/
structure Fine (x : It) : Prop where
  name : cleanB x.guid ≠ []
  g : x.guid.length ≤ 256
  t : x.title.length ≤ 1024
  l : x.link.length ≤ 1024
  b : x.body.length ≤ 1024
  date : x.dated = true → 0 ≤ x.date ∧ x.date ≤ 253402300799
theorem rssF_ok (x : It) : ∀ f ∈ rssF x, f.ok = true := by
  intro f hf
  unfold rssF at hf
  rcases List.mem_append.1 hf with hf | hf
  · simp only [List.mem_cons, List.not_mem_nil, or_false] at hf
    rcases hf with rfl | rfl | rfl | rfl <;> first | (show nameB _ = true; decide) | (show (nameB linkL && nameB hrefL) = true; decide)
  · split at hf
    · rw [List.mem_singleton] at hf; subst hf; show nameB _ = true; decide
    · cases hf
theorem atomF_ok (x : It) : ∀ f ∈ atomF x, f.ok = true := by
  intro f hf
  unfold atomF at hf
  rcases List.mem_append.1 hf with hf | hf
  · simp only [List.mem_cons, List.not_mem_nil, or_false] at hf
    rcases hf with rfl | rfl | rfl | rfl <;> first | (show nameB _ = true; decide) | (show (nameB linkL && nameB hrefL) = true; decide)
  · split at hf
    · rw [List.mem_singleton] at hf; subst hf; show nameB _ = true; decide
    · cases hf
theorem fd_name {F : List Pf} (h : ∀ f ∈ F, f.ok = true) : ∀ f ∈ F.map Pf.fd, f.nm ≠ [] := by
  intro f hf
  obtain ⟨p, hp, rfl⟩ := List.mem_map.1 hf
  have hk := h p hp
  cases p with
  | el nm x => exact name_ne hk
  | lk nm an x =>
    have : (nameB nm && nameB an) = true := hk
    rw [Bool.and_eq_true] at this
    exact name_ne this.1
theorem short_fine {x : It} (h : Fine x) : shortB (cleanI x) 1024 = true := by
  rw [shortB_iff]
  have h1 := clean_short x.guid
  have h2 := clean_short x.title
  have h3 := clean_short x.link
  have h4 := clean_short x.body
  have := h.g
  have := h.t
  have := h.l
  have := h.b
  unfold cleanI
  simp only
  omega
/-- What one says of an entry of RSS. -/
theorem rss_one {x : It} (h : Fine x) {F : List UInt8 → Option (List UInt8)} (hF : ∀ nm, nm ≠ [] → F nm = (((rssF x).map Pf.fd).find? fun f => f.nm == nm).map fun f => cleanB f.txt) : itO F r822C 1024 = .it (cleanI x) := by
  have e1 : F guidL = some (cleanB x.guid) := hF guidL (by decide)
  have e2 : F titleL = some (cleanB x.title) := hF titleL (by decide)
  have e3 : F linkL = some (cleanB x.link) := hF linkL (by decide)
  have e4 : F descL = some (cleanB x.body) := hF descL (by decide)
  have e5 : F pubL = if x.dated = true then some (cleanB (print82 x.date)) else none := by
    rw [hF pubL (by decide)]
    unfold rssF
    cases x.dated <;> rfl
  have hone : oneB F r822C = cleanI x ∧ lateB F r822C = false := by
    unfold oneB lateB cleanI
    rw [e1, e2, e3, e4, e5]
    cases hd : x.dated with
    | false => exact ⟨rfl, rfl⟩
    | true =>
      obtain ⟨d1, d2⟩ := h.date hd
      obtain ⟨p1, p2⟩ := print82_back d1 d2
      simp only [if_true, clean_plain _ p1, p2]
      exact ⟨rfl, rfl⟩
  unfold itO
  rw [hone.1, hone.2, short_fine h, if_neg (by decide), if_neg]
  rintro (e | e)
  · exact h.name e
  · cases e
/-- What one says of an entry of Atom. -/
theorem atom_one {x : It} (h : Fine x) {F : List UInt8 → Option (List UInt8)} {L : Option (List UInt8)} (hF : ∀ nm, nm ≠ [] → F nm = (((atomF x).map Pf.fd).find? fun f => f.nm == nm).map fun f => cleanB f.txt) (hL : L = leadB ((((atomF x).map Pf.fd).filter fun f => f.nm == linkL).map Fd.ats)) :
    itA F L r3339C 1024 = if x.dated = true then .it (cleanI x) else .bad 7 := by
  have e1 : F idL = some (cleanB x.guid) := hF idL (by decide)
  have e2 : F titleL = some (cleanB x.title) := hF titleL (by decide)
  have e4 : F sumL = some (cleanB x.body) := hF sumL (by decide)
  have e3 : L = some (cleanB x.link) := by
    rw [hL]
    unfold atomF
    cases x.dated <;> rfl
  have e5 : F updL = if x.dated = true then some (cleanB (print39 x.date)) else none := by
    rw [hF updL (by decide)]
    unfold atomF
    cases x.dated <;> rfl
  have e6 : F pubdL = none := by
    rw [hF pubdL (by decide)]
    unfold atomF
    cases x.dated <;> rfl
  have hs := short_fine h
  cases hd : x.dated with
  | false =>
    have e0 : r3339C [] = (0, false) := by kernel_rfl
    have hone : oneA F L r3339C = cleanI x := by
      unfold oneA cleanI
      rw [e1, e2, e3, e4, e5, e6, hd]
      simp only [Bool.false_eq_true, if_false, orB, Option.getD_none, Option.getD_some, e0]
    unfold itA
    rw [hone, hs, if_neg (by decide), if_pos (Or.inr (by unfold cleanI; exact hd))]
    rfl
  | true =>
    obtain ⟨d1, d2⟩ := h.date hd
    obtain ⟨p1, p2⟩ := print39_back d1 d2
    have hone : oneA F L r3339C = cleanI x := by
      unfold oneA cleanI
      rw [e1, e2, e3, e4, e5, e6, hd]
      simp only [if_true, orB, Option.getD_some, clean_plain _ p1, p2]
    unfold itA
    rw [hone, hs, if_neg (by decide), if_neg]
    · rfl
    · rintro (e | e)
      · exact h.name e
      · unfold cleanI at e; rw [hd] at e; cases e
theorem rssN_tree {Fs : List (List Pf)} (h : ∀ F ∈ Fs, ∀ f ∈ F, f.ok = true) : TreeAt (rssN Fs) := (buildB_tree (rss_nodes h)).1
theorem atomN_tree {Fs : List (List Pf)} (h : ∀ F ∈ Fs, ∀ f ∈ F, f.ok = true) : TreeAt (atomN Fs) := (buildB_tree (atom_nodes h)).1
theorem rss_chan {Fs : List (List Pf)} : chanB (rssN Fs) = some 1 := by
  have hk : kidsB (rssN Fs) 0 = [1] := by
    rw [kidsB_F (by rw [place_iff]; refine ⟨by decide, ?_⟩; unfold rssN rssH; simp; omega)]
    unfold rssN
    rw [List.append_assoc, kidsF_app, kidsF_none 0 (blksN 1 itemL 4 (Fs.map fun F => F.map Pf.fd) ++ ([⟨[], [], [10], 1⟩] : List Nd)) _ (fun x hx => ?_)]
    · rfl
    · rcases List.mem_append.1 hx with hx | hx
      · rcases blksN_up 1 itemL _ _ x hx with e | ⟨e, _⟩ <;> omega
      · rw [List.mem_singleton] at hx; subst hx; decide
  have hn : namedB (rssN Fs) 0 chanL = [1] := by
    unfold namedB
    rw [if_neg (by decide), hk]
    rfl
  unfold chanB firstB
  rw [hn, if_neg]
  · rfl
  · rintro (e | e)
    · unfold rssN rssH at e; simp at e
    · exact e rfl
/-- What was written as RSS is read, each text cleaned. -/
theorem rss_back {l : List It} (h : ∀ x ∈ l, Fine x) (hl : l.length ≤ 64) : itsB (rssN (l.map rssF)) r822C 64 1024 = .its (l.map cleanI) := by
  have hok : ∀ F ∈ l.map rssF, ∀ f ∈ F, f.ok = true := fun F hF => by obtain ⟨x, _, rfl⟩ := List.mem_map.1 hF; exact rssF_ok x
  unfold itsB
  rw [rss_chan]
  simp only
  have hg := read_blks (L := rssN (l.map rssF)) (H := rssH) (E := [⟨[], [], [10], 1⟩]) (u := 1) (nme := itemL) (Fs := (l.map rssF).map fun F => F.map Pf.fd) rfl (rssN_tree hok) (by decide) (by decide) (by decide)
    (fun F hF => by obtain ⟨P, hP, rfl⟩ := List.mem_map.1 hF; exact fd_name (hok P hP)) (by decide) rfl rfl (fun i => itO (fieldB (rssN (l.map rssF)) i) r822C 1024)
    (fun F => itO (fun nm => (F.find? fun f => f.nm == nm).map fun f => cleanB f.txt) r822C 1024)
    (fun i F hF hs => by
      obtain ⟨P, hP, rfl⟩ := List.mem_map.1 hF
      obtain ⟨x, hx, rfl⟩ := List.mem_map.1 hP
      rw [rss_one (h x hx) hs.1, rss_one (h x hx) fun _ _ => rfl]) 64 (by simp; omega)
  rw [hg]
  have e : ∀ Z : List ItO, Z = (l.map cleanI).map .it → gatherB Z [] false = .its (l.map cleanI) := fun Z hZ => by rw [hZ, gatherB_its, List.nil_append]
  refine e _ ?_
  rw [List.map_map, List.map_map, List.map_map]
  exact List.map_congr_left fun x hx => rss_one (h x hx) fun _ _ => rfl
theorem gather_seven : ∀ (os : List ItO) (acc : List It) (bad : Bool), (∀ o ∈ os, o = .bad 7 ∨ ∃ x, o = .it x) → (bad = true ∨ ItO.bad 7 ∈ os) → gatherB os acc bad = .bad 7
  | [], acc, bad, _, hb => by
    rcases hb with e | e
    · subst e; rfl
    · cases e
  | o :: r, acc, bad, h, hb => by
    rcases h o (by simp) with e | ⟨x, e⟩
    · subst e
      rw [gatherB, if_neg (by decide)]
      exact gather_seven r acc true (fun y hy => h y (by simp [hy])) (Or.inl rfl)
    · subst e
      rw [gatherB]
      refine gather_seven r _ bad (fun y hy => h y (by simp [hy])) ?_
      rcases hb with e | e
      · exact Or.inl e
      · rcases List.mem_cons.1 e with e | e
        · cases e
        · exact Or.inr e
/-- What was written as Atom is read, if all has a date; else it is a wrong entry. -/
theorem atom_back {l : List It} (h : ∀ x ∈ l, Fine x) (hl : l.length ≤ 64) : itsA (atomN (l.map atomF)) r3339C 64 1024 = if (l.all fun x => x.dated) = true then .its (l.map cleanI) else .bad 7 := by
  have hok : ∀ F ∈ l.map atomF, ∀ f ∈ F, f.ok = true := fun F hF => by obtain ⟨x, _, rfl⟩ := List.mem_map.1 hF; exact atomF_ok x
  unfold itsA
  rw [if_neg (fun e => by
    rcases e with e | e
    · unfold atomN atomH at e; simp at e
    · exact e rfl)]
  have hg := read_blks (L := atomN (l.map atomF)) (H := atomH) (E := [⟨[], [], [10], 0⟩]) (u := 0) (nme := entryL) (Fs := (l.map atomF).map fun F => F.map Pf.fd) rfl (atomN_tree hok) (by decide) (by decide) (by decide)
    (fun F hF => by obtain ⟨P, hP, rfl⟩ := List.mem_map.1 hF; exact fd_name (hok P hP)) (by decide) rfl rfl (fun i => itA (fieldB (atomN (l.map atomF)) i) (linkB (atomN (l.map atomF)) i) r3339C 1024)
    (fun F => itA (fun nm => (F.find? fun f => f.nm == nm).map fun f => cleanB f.txt) (leadB ((F.filter fun f => f.nm == linkL).map Fd.ats)) r3339C 1024)
    (fun i F hF hs => by
      obtain ⟨P, hP, rfl⟩ := List.mem_map.1 hF
      obtain ⟨x, hx, rfl⟩ := List.mem_map.1 hP
      rw [atom_one (h x hx) hs.1 (by unfold linkB; rw [hs.2]), atom_one (h x hx) (fun _ _ => rfl) rfl]) 64 (by simp; omega)
  rw [hg]
  have e : ∀ Z : List ItO, Z = (l.map fun x => if x.dated = true then ItO.it (cleanI x) else .bad 7) → ∀ o, gatherB (l.map fun x => if x.dated = true then ItO.it (cleanI x) else .bad 7) [] false = o → gatherB Z [] false = o := fun Z hZ o ho => by rw [hZ, ho]
  refine e _ (by rw [List.map_map, List.map_map]; exact List.map_congr_left fun x hx => atom_one (h x hx) (fun _ _ => rfl) rfl) _ ?_
  by_cases ha : (l.all fun x => x.dated) = true
  · rw [if_pos ha]
    have e2 : (l.map fun x => if x.dated = true then ItO.it (cleanI x) else .bad 7) = (l.map cleanI).map .it := by
      rw [List.map_map]
      exact List.map_congr_left fun x hx => if_pos (List.all_eq_true.1 ha x hx)
    rw [e2, gatherB_its, List.nil_append]
  · rw [if_neg ha]
    refine gather_seven _ _ _ (fun o ho => ?_) (Or.inr ?_)
    · obtain ⟨x, _, rfl⟩ := List.mem_map.1 ho
      by_cases hd : x.dated = true
      · rw [if_pos hd]; exact Or.inr ⟨_, rfl⟩
      · rw [if_neg hd]; exact Or.inl rfl
    · have ha2 : ¬ ∀ x ∈ l, x.dated = true := fun e => ha (List.all_eq_true.2 e)
      have ⟨x, hx⟩ := Classical.not_forall.1 ha2
      have ⟨hx1, hx2⟩ := Classical.not_imp.1 hx
      exact List.mem_map.2 ⟨x, hx1, if_neg hx2⟩
end Go.Proofs.YtahohmdbiiknoaaDoor

/- Layer 17, plain: printed documents are runes that may stand in one. -/
namespace Go.Proofs.YtahohmdbiiknoaaDoor

/-- Is a text well encoded, of runes that may stand in a document? -/
def goodT (l : List UInt8) : Bool := val l && (dec l).all charB
theorem goodT_cut {l : List UInt8} (h : l ≠ []) : goodT l = ((cutS l).2.2 && charB (cutS l).1 && goodT (l.drop (cutN l))) := by
  unfold goodT
  rw [val_cons l h, dec_cons l h, List.all_cons]
  cases (cutS l).2.2 <;> cases charB (cutS l).1 <;> simp
theorem goodT_loop : ∀ l : List UInt8, goodT l = true → ∀ k, loopK goodF () l k = (none, (), k + l.length) := by
  refine list_ind ?_ ?_
  · intro _ k
    rw [loopK_stop k (show goodF () [] = .stop by unfold goodF; rw [if_pos rfl])]; rfl
  · intro l h ih hg k
    rw [goodT_cut h, Bool.and_eq_true, Bool.and_eq_true] at hg
    have hbd := cutN_bd l h
    have e : goodF () l = .go () (cutN l) := by
      unfold goodF
      rw [if_neg h, if_neg (by rw [hg.1.2]; decide), if_neg]
      rintro ⟨h1, h2⟩
      exact h2 ((good_iff l h).1 hg.1.1 h1)
    rw [loopK_go goodF_steps k e, ih hg.2, List.length_drop]
    congr 2
    omega
theorem goodT_N {l : List UInt8} (h : goodT l = true) : goodN l = l.length := by
  unfold goodN; rw [goodT_loop l h]; simp
theorem goodT_app {s t : List UInt8} (hs : goodT s = true) (ht : goodT t = true) : goodT (s ++ t) = true := by
  unfold goodT at *
  rw [Bool.and_eq_true] at *
  obtain ⟨h1, h2⟩ := dec_app t s hs.1
  rw [h1, h2, List.all_append, Bool.and_eq_true]
  exact ⟨ht.1, hs.2, ht.2⟩
/-- A byte that may stand for itself. -/
def ascB (c : UInt8) : Bool := decide (c.toNat < 128) && charB c.toNat
theorem goodT_asc : ∀ {l : List UInt8}, l.all ascB = true → goodT l = true
  | [], _ => by decide
  | c :: t, h => by
    rw [List.all_cons, Bool.and_eq_true] at h
    have hc : c.toNat < 128 ∧ charB c.toNat = true := by have := h.1; unfold ascB at this; simpa using this
    have hcut : cutS (c :: t) = ((c.toNat : Int), 1, true) := cutS_one (by simp) (by show (c.toNat : Int) < 128; omega)
    rw [goodT_cut (by simp)]
    unfold cutN
    rw [hcut, hc.2]
    simp only [Bool.true_and]
    exact goodT_asc h.2
theorem enc_high {r : Int} (hr : isR r = true) (h : 128 ≤ r) : escB (enc r) = enc r := by
  have key : ∀ b : Int, 128 ≤ b → b ≤ 255 → esc1 (u8 b) = [u8 b] := fun b h1 h2 => by
    have hb := u8_nat (n := b) (by omega) h2
    have hne : ∀ c : UInt8, c.toNat < 128 → u8 b ≠ c := fun c hc e => by rw [e] at hb; omega
    rcases esc1_ways (u8 b) with ⟨e, _⟩ | ⟨_, _, _⟩
    · exact e
    · unfold esc1
      rw [if_neg (hne 38 (by decide)), if_neg (hne 60 (by decide)), if_neg (hne 62 (by decide)), if_neg (hne 34 (by decide))]
  have hi := (isR_iff r).1 hr
  have he : enc r = (encR r).map u8 := by unfold enc encI; rw [if_pos hr]
  rw [he]
  rcases encR_ways r with ⟨c1, e⟩ | ⟨c1, c2, e⟩ | ⟨c1, c2, e⟩ | ⟨c1, e⟩
  · omega
  all_goals
    rw [e]
    unfold escB
    simp only [List.map_cons, List.map_nil, List.flatMap_cons, List.flatMap_nil]
    repeat rw [key _ (by omega) (by omega)]
    rfl
theorem goodT_esc : ∀ l : List UInt8, goodT l = true → goodT (escB l) = true := by
  refine list_ind (fun h => h) ?_
  intro l h ih hg
  rw [goodT_cut h, Bool.and_eq_true, Bool.and_eq_true] at hg
  obtain ⟨h1, h2⟩ := enc_cut l h hg.1.1
  have hsp : escB l = escB (l.take (cutN l)) ++ escB (l.drop (cutN l)) := by
    unfold escB
    rw [← List.flatMap_append, List.take_append_drop]
  rw [hsp]
  refine goodT_app ?_ (ih hg.2)
  rw [← h2]
  have hch := hg.1.2
  generalize (cutS l).1 = r at h1 h2 hch
  have hbd := charB_bd hch
  by_cases h128 : 128 ≤ r
  · rw [enc_high h1 h128]
    have hd := dec_enc [r]
    rw [show encAll [r] = enc r by rw [encAll_cons]; simp [encAll]] at hd
    have hfix : fixR r = r := by unfold fixR; rw [if_pos h1]
    unfold goodT
    rw [hd.1, hd.2]
    simp [hfix, hch]
  · have he : enc r = [u8 r] := by
      unfold enc encI
      rw [if_pos h1]
      rcases encR_ways r with ⟨c1, e⟩ | ⟨c1, c2, e⟩ | ⟨c1, c2, e⟩ | ⟨c1, e⟩
      · rw [e]; rfl
      all_goals omega
    have hn := u8_nat (n := r) (by omega) (by omega)
    rw [he]
    have hasc : ascB (u8 r) = true := by
      unfold ascB
      rw [hn, hch, decide_eq_true (by omega)]; rfl
    refine goodT_asc ?_
    have e : escB [u8 r] = esc1 (u8 r) := by unfold escB; simp
    rw [e]
    unfold esc1
    split
    · decide
    split
    · decide
    split
    · decide
    split
    · decide
    · rw [List.all_cons, hasc]; rfl
theorem goodT_words {l : List UInt8} (h : ∀ c ∈ l, inkB c = true ∨ c = 32) : goodT l = true := by
  refine goodT_asc (List.all_eq_true.2 fun c hc => ?_)
  rcases h c hc with e | e
  · have := ink_bd e
    unfold ascB charB
    rw [decide_eq_true (by omega), decide_eq_true (by omega)]; rfl
  · subst e; decide
/-- A field's texts may stand in a document. -/
def Pf.good : Pf → Prop
  | .el nm x => nm.all ascB = true ∧ goodT x = true
  | .lk nm an x => nm.all ascB = true ∧ an.all ascB = true ∧ goodT x = true
theorem goodT_cons {c : UInt8} {l : List UInt8} (hc : ascB c = true) (h : goodT l = true) : goodT (c :: l) = true := goodT_app (s := [c]) (goodT_asc (by rw [List.all_cons, hc]; rfl)) h
theorem goodT_field {f : Pf} (h : f.good) : goodT f.bytes = true := by
  cases f with
  | el nm x =>
    obtain ⟨h1, h2⟩ := h
    unfold Pf.bytes
    exact goodT_cons (by decide) (goodT_app (goodT_asc h1) (goodT_cons (by decide) (goodT_app (goodT_esc x h2) (goodT_cons (by decide) (goodT_cons (by decide) (goodT_app (goodT_asc h1) (by decide)))))))
  | lk nm an x =>
    obtain ⟨h1, h2, h3⟩ := h
    unfold Pf.bytes
    exact goodT_cons (by decide) (goodT_app (goodT_asc h1) (goodT_cons (by decide) (goodT_app (goodT_asc h2) (goodT_cons (by decide) (goodT_cons (by decide) (goodT_app (goodT_esc x h3) (by decide)))))))
theorem goodT_flat {α : Type} (f : α → List UInt8) : ∀ (l : List α), (∀ x ∈ l, goodT (f x) = true) → goodT (l.flatMap f) = true
  | [], _ => (show goodT [] = true by decide)
  | x :: r, h => by rw [List.flatMap_cons]; exact goodT_app (h x (by simp)) (goodT_flat f r fun y hy => h y (by simp [hy]))
theorem goodT_item {nme : List UInt8} (hn : nme.all ascB = true) {F : List Pf} (h : ∀ f ∈ F, f.good) : goodT (itemP nme F) = true := by
  unfold itemP
  exact goodT_cons (by decide) (goodT_app (goodT_asc hn) (goodT_cons (by decide) (goodT_app (goodT_flat _ F fun f hf => goodT_field (h f hf)) (goodT_cons (by decide) (goodT_cons (by decide) (goodT_app (goodT_asc hn) (by decide)))))))
theorem goodT_rss {Fs : List (List Pf)} (h : ∀ F ∈ Fs, ∀ f ∈ F, f.good) : goodT (rssD Fs) = true := by
  have e : rssD Fs = (headL ++ 10 :: 60 :: (rssL ++ 32 :: (verL ++ 61 :: 34 :: (escB twoL ++ 34 :: 62 :: 60 :: (chanL ++ 62 :: ((Pf.el titleL newsL).bytes ++ [10])))))) ++ (Fs.flatMap (itemP itemL) ++ 60 :: 47 :: (chanL ++ 62 :: 60 :: 47 :: (rssL ++ [62, 10]))) := by
    unfold rssD
    simp only [List.append_assoc, List.cons_append, List.nil_append]
  rw [e]
  exact goodT_app (goodT_asc (by decide)) (goodT_app (goodT_flat _ Fs fun F hF => goodT_item (by decide) (h F hF)) (goodT_asc (by decide)))
theorem goodT_atom {Fs : List (List Pf)} (h : ∀ F ∈ Fs, ∀ f ∈ F, f.good) : goodT (atomD Fs) = true := by
  have e : atomD Fs = (headL ++ 10 :: 60 :: (feedL ++ 32 :: (nsL ++ 61 :: 34 :: (escB w3L ++ 34 :: 62 :: ((Pf.el titleL newsL).bytes ++ [10]))))) ++ (Fs.flatMap (itemP entryL) ++ 60 :: 47 :: (feedL ++ [62, 10])) := by
    unfold atomD
    simp only [List.append_assoc, List.cons_append, List.nil_append]
  rw [e]
  exact goodT_app (goodT_asc (by decide)) (goodT_app (goodT_flat _ Fs fun F hF => goodT_item (by decide) (h F hF)) (goodT_asc (by decide)))
/-- An entry whose texts may stand in a document. -/
structure GoodI (x : It) : Prop where
  g : goodT x.guid = true
  t : goodT x.title = true
  l : goodT x.link = true
  b : goodT x.body = true
theorem rssF_good {x : It} (h : GoodI x) (hd : x.dated = true → 0 ≤ x.date ∧ x.date ≤ 253402300799) : ∀ f ∈ rssF x, f.good := by
  intro f hf
  unfold rssF at hf
  rcases List.mem_append.1 hf with hf | hf
  · simp only [List.mem_cons, List.not_mem_nil, or_false] at hf
    rcases hf with rfl | rfl | rfl | rfl
    · exact ⟨by decide, h.g⟩
    · exact ⟨by decide, h.t⟩
    · exact ⟨by decide, h.l⟩
    · exact ⟨by decide, h.b⟩
  · split at hf
    · rename_i e
      rw [List.mem_singleton] at hf
      subst hf
      obtain ⟨d1, d2⟩ := hd e
      obtain ⟨ws, e2, _, hw⟩ := print82_words d1 d2
      exact ⟨by decide, by rw [e2]; exact goodT_words (in_words ws fun w hw2 => (hw w hw2).2)⟩
    · cases hf
theorem atomF_good {x : It} (h : GoodI x) (hd : x.dated = true → 0 ≤ x.date ∧ x.date ≤ 253402300799) : ∀ f ∈ atomF x, f.good := by
  intro f hf
  unfold atomF at hf
  rcases List.mem_append.1 hf with hf | hf
  · simp only [List.mem_cons, List.not_mem_nil, or_false] at hf
    rcases hf with rfl | rfl | rfl | rfl
    · exact ⟨by decide, h.g⟩
    · exact ⟨by decide, h.t⟩
    · exact ⟨by decide, by decide, h.l⟩
    · exact ⟨by decide, h.b⟩
  · split at hf
    · rename_i e
      rw [List.mem_singleton] at hf
      subst hf
      obtain ⟨d1, d2⟩ := hd e
      obtain ⟨ws, e2, _, hw⟩ := print39_words d1 d2
      exact ⟨by decide, by rw [e2]; exact goodT_words (in_words ws fun w hw2 => (hw w hw2).2)⟩
    · cases hf
end Go.Proofs.YtahohmdbiiknoaaDoor
