/- The reference's Named. -/
import Derived.Test.YtahjopajnckbaaaD10d
namespace Go.Proofs.Ytahjopajnckbaaa
open Go.RowKit

theorem numK_charB (b : Int) (hb : b = 10 ∨ b = 16) (l : List UInt8) : numK b l = charB (numC b 0 l) ∧ (numK b l = true → numV b l = numC b 0 l) := by
  have h := numC_numR b hb l 0 (by omega)
  rw [show min (0 : Int) 1114112 = 0 from rfl] at h
  refine ⟨h.1.symm, fun hk => ?_⟩
  unfold numV; rw [h.2 hk]; rfl
/-- What a number stands for. -/
def numO (b : Int) (m : List UInt8) : Option (List UInt8) := if charB (numC b 0 m) = true then some (enc (numC b 0 m)) else none
/-- What the reference's Named makes of a number's rune. -/
theorem named_num {w w' : World} {b : Int} (hb : b = 10 ∨ b = 16) {m : List UInt8} {e : Ending} (he : e = .returned (.tuple #[.string ⟨(enc (numV b m)).toArray⟩, .bool (numK b m)])) (hbl : Below w.heap.size w w') :
    NamedPost w (numO b m) e w' := by
  unfold numO
  obtain ⟨h1, h2⟩ := numK_charB b hb m
  cases hc : charB (numC b 0 m)
  · rw [hc] at h1
    rw [h1] at he
    exact named_none _ rfl he hbl
  · rw [hc] at h1
    rw [h1, h2 h1] at he
    exact named_some _ rfl he hbl

set_option maxHeartbeats 1000000 in
theorem refnamed_other (l : List UInt8) (w : World) (hl : l.length ≤ 1000000) (ho : OtherN l) :
    Calls Try.prog 21 #[.string ⟨l.toArray⟩] w (NamedPost w (namedS l)) := by
  rw [other_named ho]
  obtain ⟨h1, h2, h3, h4, h5⟩ := ho
  unfold ltL at h1
  unfold gtL at h2
  unfold ampL at h3
  unfold quotL at h4
  unfold aposL at h5
  by_cases hx : Lib.hasPrefix l [35, 120] = true
  · obtain ⟨m, hlm⟩ : ∃ m, l = 35 :: 120 :: m := by
      match l, hx with
      | [], hx => simp [Lib.hasPrefix, List.isPrefixOf] at hx
      | [c], hx => simp [Lib.hasPrefix, List.isPrefixOf] at hx
      | c :: d :: m, hx => simp [Lib.hasPrefix, List.isPrefixOf] at hx; exact ⟨m, by rw [← hx.1, ← hx.2]⟩
    by_cases hm : m = []
    · subst hm
      subst hlm
      clear hx h1 h2 h3 h4 h5
      rw [show charB (numI [35, 120]) = false from rfl, if_neg (by decide)]
      have hk : numK 10 [120] = false := rfl
      go_enter Try.func21, Try.ntmps21
      go_wp2_with fail
      refine (refnumber_any 10 (Or.inl rfl) [120] _ (by decide)).mono ?_; rintro e w' ⟨rfl, rfl⟩; rw [hk]
      go_wp2_with fail
      refine (refbytes_any _ _).mono ?_; rintro e w' ⟨rfl, hb⟩
      go_wp2_with fail
      go_ret2
      exact named_none _ rfl rfl hb
    · have hlen := len_pos hm
      have hl2 : (2 : Int) < (l.length : Int) := by rw [hlm]; simp only [List.length_cons]; omega
      have ht : (l.take 2 == [35, 120]) = true := by rw [hlm]; simp
      have hd : l.drop 2 = m := by rw [hlm]; rfl
      have hml : m.length ≤ 1000000 := by rw [← hd, List.length_drop]; omega
      rw [show numI l = numC 16 0 m from by rw [hlm, numI_hex]]
      change Calls _ _ _ _ (NamedPost w (numO 16 m))
      replace hlm := Lib.hid hlm
      replace hm := Lib.hid hm
      clear hx
      go_enter Try.func21, Try.ntmps21
      go_wp2_with fail
      refine (refnumber_any 16 (Or.inr rfl) m _ hml).mono ?_; rintro e w' ⟨rfl, rfl⟩
      go_wp2_with fail
      refine (refbytes_any _ _).mono ?_; rintro e w' ⟨rfl, hb⟩
      go_wp2_with fail
      go_ret2
      exact named_num (Or.inr rfl) rfl hb
  have ht : (l.take 2 == [35, 120]) = false := by
    rw [beq_eq_false_iff_ne]
    intro e
    refine hx ?_
    match l, e with
    | [], e => simp at e
    | [c], e => simp at e
    | c :: d :: m, e => simp at e; simp [Lib.hasPrefix, List.isPrefixOf, e.1, e.2]
  by_cases h0 : l = []
  · subst h0
    clear hx h1 h2 h3 h4 h5 ht
    rw [show charB (numI []) = false from rfl, if_neg (by decide)]
    go_enter Try.func21, Try.ntmps21
    go_wp2_with fail
    go_ret2
    exact named_none [] rfl rfl (Below.refl _ _)
  have hlen := len_pos h0
  by_cases hb0 : bt l 0 = 35
  · obtain ⟨m, hlm⟩ : ∃ m, l = 35 :: m := by
      cases l with
      | nil => exact absurd rfl h0
      | cons c t => exact ⟨t, by rw [(bt_u8 c 35 t).1 hb0]⟩
    by_cases hm : m = []
    · subst hm
      subst hlm
      clear hx h1 h2 h3 h4 h5 ht h0 hb0 hlen
      rw [show charB (numI [35]) = false from rfl, if_neg (by decide)]
      go_enter Try.func21, Try.ntmps21
      go_wp2_with fail
      go_ret2
      exact named_none [] rfl rfl (Below.refl _ _)
    have hl1 : (1 : Int) < (l.length : Int) := by
      have := len_pos hm
      rw [hlm]; simp only [List.length_cons]; omega
    have hd : l.drop 1 = m := by rw [hlm]; rfl
    have hml : m.length ≤ 1000000 := by rw [← hd, List.length_drop]; omega
    have hni : numI l = numC 10 0 m := by
      rw [hlm]
      refine numI_dec m fun e => hx ?_
      cases m with
      | nil => exact absurd rfl hm
      | cons d t => rw [hlm, (bt_u8 d 120 t).1 e]; simp [Lib.hasPrefix, List.isPrefixOf]
    rw [hni]
    change Calls _ _ _ _ (NamedPost w (numO 10 m))
    clear hni hx
    replace hlm := Lib.hid hlm
    replace hm := Lib.hid hm
    replace h0 := Lib.hid h0
    by_cases hl2 : (2 : Int) < (l.length : Int)
    all_goals
      go_enter Try.func21, Try.ntmps21
      go_wp2_with fail
      refine (refnumber_any 10 (Or.inl rfl) m _ hml).mono ?_; rintro e w' ⟨rfl, rfl⟩
      go_wp2_with fail
      refine (refbytes_any _ _).mono ?_; rintro e w' ⟨rfl, hb⟩
      go_wp2_with fail
      go_ret2
      exact named_num (Or.inl rfl) rfl hb
  · have hni : numI l = -1 := by
      unfold numI
      have hp : Lib.hasPrefix l [35] = false := by
        cases l with
        | nil => rfl
        | cons c t =>
          have : (35 == c) = false := by
            rw [beq_eq_false_iff_ne]; intro e; exact hb0 ((bt_u8 c 35 t).2 e.symm)
          simp [Lib.hasPrefix, List.isPrefixOf, this]
      rw [if_neg hx, if_neg (by rw [hp]; decide)]
    rw [hni, show charB (-1) = false from rfl, if_neg (by decide)]
    have hb1 : (bt l 0 == 35) = false := by simpa using hb0
    clear hb0 hni hx
    replace h0 := Lib.hid h0
    by_cases hl2 : (2 : Int) < (l.length : Int) <;> by_cases hl1 : (1 : Int) < (l.length : Int)
    all_goals first | (exfalso; omega) | skip
    all_goals
      go_enter Try.func21, Try.ntmps21
      go_wp2_with fail
      go_ret2
      exact named_none [] rfl rfl (Below.refl _ _)

set_option maxHeartbeats 1000000 in
theorem refnamed_any (l : List UInt8) (w : World) (hl : l.length ≤ 1000000) :
    Calls Try.prog 21 #[.string ⟨l.toArray⟩] w (NamedPost w (namedS l)) := by
  rcases five_ways l with rfl | rfl | rfl | rfl | rfl | ho
  case inr.inr.inr.inr.inr => exact refnamed_other l w hl ho
  all_goals
    go_enter Try.func21, Try.ntmps21
    go_wp2_with fail
    go_ret2
    exact named_some _ rfl rfl (Below.refl _ _)
end Go.Proofs.Ytahjopajnckbaaa
