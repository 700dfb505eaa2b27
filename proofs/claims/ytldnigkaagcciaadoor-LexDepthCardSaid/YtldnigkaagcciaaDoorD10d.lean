/- Layer 10's walks of names: numbered, Named; the program's and the reference's. -/
import Derived.Test.YtldnigkaagcciaaDoorD10c
namespace Go.Proofs.YtldnigkaagcciaaDoor
open Go.RowKit

set_option maxHeartbeats 1000000 in
theorem numbered_any (l : List UInt8) (w : World) (hl : l.length ≤ 1000000) :
    Calls Tryd.prog 67 #[.string ⟨l.toArray⟩] w fun e w' => e = .returned (.int .i32 (numI l)) ∧ w = w' := by
  have c1 := fun W : World => cutPrefix_any l [35, 120] W
  have c2 := fun W : World => cutPrefix_any l [35] W
  unfold Lib.trimPrefix at c1 c2
  unfold numI
  cases h1 : Lib.hasPrefix l [35, 120]
  · rw [h1] at c1
    cases h2 : Lib.hasPrefix l [35]
    · rw [h2] at c2
      simp only [Bool.false_eq_true, if_false] at c1 c2 ⊢
      replace c1 := Lib.hid c1
      replace c2 := Lib.hid c2
      replace h1 := Lib.hid h1
      replace h2 := Lib.hid h2
      go_enter Tryd.func67, Tryd.ntmps67
      go_wp2_with fail
      refine (c1.out _).mono ?_; rintro e w' ⟨rfl, rfl⟩
      go_wp2_with fail
      refine (c2.out _).mono ?_; rintro e w' ⟨rfl, rfl⟩
      go_wp2_with fail
      go_ret
      exact ⟨rfl, rfl⟩
    · rw [h2] at c2
      simp only [Bool.false_eq_true, if_false, if_true, List.length_cons, List.length_nil, Nat.zero_add] at c1 c2 ⊢
      obtain ⟨m, hm⟩ : ∃ m, l.drop 1 = m := ⟨_, rfl⟩
      have hml : m.length ≤ 1000000 := by rw [← hm, List.length_drop]; omega
      rw [hm] at c2 ⊢
      clear hm
      replace c1 := Lib.hid c1
      replace c2 := Lib.hid c2
      replace h1 := Lib.hid h1
      replace h2 := Lib.hid h2
      go_enter Tryd.func67, Tryd.ntmps67
      go_wp2_with fail
      refine (c1.out _).mono ?_; rintro e w' ⟨rfl, rfl⟩
      go_wp2_with fail
      refine (c2.out _).mono ?_; rintro e w' ⟨rfl, rfl⟩
      go_wp2_with fail
      refine (number_any 10 (Or.inl rfl) m _ hml).mono ?_; rintro e w' ⟨rfl, rfl⟩
      go_wp2_with fail
      go_ret
      exact ⟨rfl, rfl⟩
  · rw [h1] at c1
    simp only [if_true, List.length_cons, List.length_nil, Nat.zero_add] at c1 ⊢
    obtain ⟨m, hm⟩ : ∃ m, l.drop (1 + 1) = m := ⟨_, rfl⟩
    have hml : m.length ≤ 1000000 := by rw [← hm, List.length_drop]; omega
    rw [hm] at c1
    rw [show l.drop 2 = m from hm]
    clear hm c2
    replace c1 := Lib.hid c1
    replace h1 := Lib.hid h1
    go_enter Tryd.func67, Tryd.ntmps67
    go_wp2_with fail
    refine (c1.out _).mono ?_; rintro e w' ⟨rfl, rfl⟩
    go_wp2_with fail
    refine (number_any 16 (Or.inr rfl) m _ hml).mono ?_; rintro e w' ⟨rfl, rfl⟩
    go_wp2_with fail
    go_ret
    exact ⟨rfl, rfl⟩

/-- What Named answers: the text, where there is one. -/
def NamedPost (w : World) (o : Option (List UInt8)) (e : Ending) (w' : World) : Prop :=
  ∃ t : List UInt8, e = .returned (.tuple #[.string ⟨t.toArray⟩, .bool o.isSome]) ∧ (∀ x, o = some x → t = x) ∧ Below w.heap.size w w'
theorem named_some {w w' : World} {o : Option (List UInt8)} {e : Ending} (t : List UInt8) (ho : o = some t) (he : e = .returned (.tuple #[.string ⟨t.toArray⟩, .bool true])) (hb : Below w.heap.size w w') : NamedPost w o e w' :=
  ⟨t, by rw [ho]; exact he, (fun x h => by rw [ho] at h; injection h), hb⟩
theorem named_none {w w' : World} {o : Option (List UInt8)} {e : Ending} (t : List UInt8) (ho : o = none) (he : e = .returned (.tuple #[.string ⟨t.toArray⟩, .bool false])) (hb : Below w.heap.size w w') : NamedPost w o e w' :=
  ⟨t, by rw [ho]; exact he, (fun x h => by rw [ho] at h; cases h), hb⟩
/-- None of the five. -/
def OtherN (l : List UInt8) : Prop := (l == ltL) = false ∧ (l == gtL) = false ∧ (l == ampL) = false ∧ (l == quotL) = false ∧ (l == aposL) = false
theorem other_named {l : List UInt8} (h : OtherN l) : namedS l = if charB (numI l) then some (enc (numI l)) else none := by
  obtain ⟨h1, h2, h3, h4, h5⟩ := h
  unfold namedS
  rw [if_neg (by simpa using h1), if_neg (by simpa using h2), if_neg (by simpa using h3), if_neg (by simpa using h4), if_neg (by simpa using h5)]

theorem five_ways (l : List UInt8) : l = ltL ∨ l = gtL ∨ l = ampL ∨ l = quotL ∨ l = aposL ∨ OtherN l := by
  by_cases h1 : l = ltL
  · exact Or.inl h1
  by_cases h2 : l = gtL
  · exact Or.inr (Or.inl h2)
  by_cases h3 : l = ampL
  · exact Or.inr (Or.inr (Or.inl h3))
  by_cases h4 : l = quotL
  · exact Or.inr (Or.inr (Or.inr (Or.inl h4)))
  by_cases h5 : l = aposL
  · exact Or.inr (Or.inr (Or.inr (Or.inr (Or.inl h5))))
  · exact Or.inr (Or.inr (Or.inr (Or.inr (Or.inr ⟨by simpa using h1, by simpa using h2, by simpa using h3, by simpa using h4, by simpa using h5⟩))))

set_option maxHeartbeats 1000000 in
theorem named_other (l : List UInt8) (w : World) (hl : l.length ≤ 1000000) (ho : OtherN l) :
    Calls Tryd.prog 63 #[.string ⟨l.toArray⟩] w (NamedPost w (namedS l)) := by
  rw [other_named ho]
  obtain ⟨h1, h2, h3, h4, h5⟩ := ho
  unfold ltL at h1
  unfold gtL at h2
  unfold ampL at h3
  unfold quotL at h4
  unfold aposL at h5
  cases hc : charB (numI l)
  · go_enter Tryd.func63, Tryd.ntmps63
    go_wp2_with fail
    refine (numbered_any l _ hl).mono ?_; rintro e w' ⟨rfl, rfl⟩
    go_wp2_with fail
    refine (char_any _ _).mono ?_; rintro e w' ⟨rfl, rfl⟩; rw [hc]
    go_wp2_with fail
    go_ret2
    exact named_none [] rfl rfl (Below.refl _ _)
  · go_enter Tryd.func63, Tryd.ntmps63
    go_wp2_with fail
    refine (numbered_any l _ hl).mono ?_; rintro e w' ⟨rfl, rfl⟩
    go_wp2_with fail
    refine (char_any _ _).mono ?_; rintro e w' ⟨rfl, rfl⟩; rw [hc]
    go_wp2_with fail
    refine (bytes_any _ _).mono ?_; rintro e w' ⟨rfl, hb⟩
    go_wp2_with fail
    go_ret2
    exact named_some _ rfl rfl hb
set_option maxHeartbeats 1000000 in
theorem named_any (l : List UInt8) (w : World) (hl : l.length ≤ 1000000) :
    Calls Tryd.prog 63 #[.string ⟨l.toArray⟩] w (NamedPost w (namedS l)) := by
  rcases five_ways l with rfl | rfl | rfl | rfl | rfl | ho
  case inr.inr.inr.inr.inr => exact named_other l w hl ho
  all_goals
    go_enter Tryd.func63, Tryd.ntmps63
    go_wp2_with fail
    go_ret2
    exact named_some _ rfl rfl (Below.refl _ _)
end Go.Proofs.YtldnigkaagcciaaDoor
