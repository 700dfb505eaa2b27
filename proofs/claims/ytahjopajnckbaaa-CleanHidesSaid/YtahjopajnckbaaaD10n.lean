/- Layer 10's laws: CleanSpace, CleanHides. -/
import Derived.Test.YtahjopajnckbaaaD10l
namespace Go.Proofs.Ytahjopajnckbaaa
open Go.RowKit

theorem spT_len : ∀ (l : List UInt8) (a g : Bool) (n : Nat), (spT a g n l).length ≤ 2 * l.length
  | [], a, g, n => by rw [spT_nil]; simp
  | c :: t, a, g, n + 1 => by have := spT_len t a g n; rw [spT, List.length_cons]; omega
  | c :: t, a, g, 0 => by
    rw [spT]
    split
    · have := spT_len t true false 0
      rw [List.length_append, List.length_cons, List.length_cons]
      split <;> simp <;> omega
    · have := spT_len t a true (blankN (c :: t) - 1)
      rw [List.length_cons]; omega
/-- Single blanks, each between two signs that are none. -/
def Single (x : List UInt8) : Prop := ∀ i, i < x.length → ¬ (9 ≤ bt x i ∧ bt x i ≤ 13) ∧ (bt x i = 32 → i ≠ 0 ∧ i + 1 < x.length ∧ bt x (i + 1) ≠ 32)
theorem sp_single (l : List UInt8) : Single (spB l) := by
  rcases spB_nf l with e | h
  · rw [e]; intro i hi; simp at hi
  · intro i hi
    have := nf_at _ _ h i hi
    refine ⟨this.1, fun e => ?_⟩
    obtain ⟨h1, h2, h3⟩ := this.2 e
    refine ⟨?_, h2, h3⟩
    rcases h1 with h1 | h1
    · cases h1
    · exact h1

set_option maxRecDepth 100000 in
set_option maxHeartbeats 1000000 in
theorem space10_law (l : List UInt8) (w : World) (hm : l.length ≤ maxLen) : Calls Try.prog 6 #[.string ⟨l.toArray⟩] w (LawPost w) := by
  unfold maxLen at hm
  by_cases hl : l.length ≤ 3000
  case neg =>
    go_enter Try.func6, Try.ntmps6
    go_wp2_with fail
    refine (awake10_any _).mono ?_; rintro e w0 ⟨rfl, h0⟩
    replace h0 := Lib.hid h0
    go_wp2_with fail
    go_ret
    exact ⟨rfl, h0.out⟩
  have hs := sp_single l
  have hxl : (spB l).length ≤ 2 * l.length := spT_len l false false 0
  have h2 := fun W : World => space_any (spB l) W (by omega)
  rw [spB_twice] at h2
  have h3 := fun W : World => space_any (32 :: 10 :: (l ++ [9, 32])) W (by simp; omega)
  rw [spB_ends] at h3
  have h1 := fun W : World => space_any l W (by omega)
  generalize spB l = x at hs hxl h1 h2 h3
  replace h1 := Lib.hid h1
  replace h2 := Lib.hid h2
  replace h3 := Lib.hid h3
  replace hs := Lib.hid hs
  go_enter Try.func6, Try.ntmps6
  go_wp2_with fail
  refine (h1.out _).mono ?_; rintro e w1 ⟨rfl, hb1⟩
  replace hb1 := Lib.hid hb1
  go_wp2_with fail
  go_loop [4] (fun i => ∃ k : Nat, i = .int .i64 k ∧ k ≤ x.length) (fun i => x.length - (intOf i).toNat)
  case atStart => exact ⟨0, rfl, Nat.zero_le _⟩
  case round =>
    obtain ⟨k, rfl, hk⟩ := hrel
    by_cases hlt : k < x.length
    · have hbk := bt_lt x k
      have hbk1 := bt_lt x (k + 1)
      obtain ⟨hn1, hn2⟩ := hs.out k hlt
      by_cases h32 : bt x k = 32
      · obtain ⟨q1, q2, q3⟩ := hn2 h32
        have b1 : ((k : Int) == 0) = false := by simp; omega
        have b2 : ((k : Int) == (x.length : Int) - 1) = false := by rw [beq_eq_false_iff_ne]; omega
        have b3 : (bt x (k + 1) == 32) = false := by simpa using q3
        clear hn1 hn2 q3
        go_wp2_with fail
        exact ⟨⟨k + 1, by go_num, by omega⟩, by simp [intOf]; omega⟩
      · have b32 : (bt x k == 32) = false := by simpa using h32
        clear h32 hn2
        by_cases h9 : 9 ≤ bt x k
        · have h13 : ¬ bt x k ≤ 13 := by omega
          clear hn1
          go_wp2_with fail
          exact ⟨⟨k + 1, by go_num, by omega⟩, by simp [intOf]; omega⟩
        · clear hn1
          go_wp2_with fail
          exact ⟨⟨k + 1, by go_num, by omega⟩, by simp [intOf]; omega⟩
    · have hke : ¬ ((k : Int) < x.length) := by omega
      go_wp2_with fail
      refine (awake10_any _).mono ?_; rintro e w2 ⟨rfl, hb2⟩
      have k2 := Lib.hid (hb1.out.andThen hb2)
      clear hb1 hb2
      go_wp2_with fail
      refine (h2.out _).mono ?_; rintro e w3 ⟨rfl, hb3⟩
      have k3 := Lib.hid (k2.out.andThen hb3)
      clear k2 hb3
      go_wp2_with fail
      refine (h3.out _).mono ?_; rintro e w4 ⟨rfl, hb4⟩
      have k4 := Lib.hid (k3.out.andThen hb4)
      clear k3 hb4
      go_wp2_with fail
      go_ret
      exact ⟨rfl, k4.out⟩

theorem hide_step (l : List UInt8) (k : Nat) (h : k < l.length) : (bt l k = 38 → hideB (l.take (k + 1)) = hideB (l.take k) ++ [38, 97, 109, 112, 59]) ∧ (bt l k = 60 → hideB (l.take (k + 1)) = hideB (l.take k) ++ [38, 108, 116, 59]) ∧
    (bt l k ≠ 38 → bt l k ≠ 60 → hideB (l.take (k + 1)) = hideB (l.take k) ++ (l.take (k + 1)).drop k) := by
  have hg := bt_get0 l k
  rw [hide_take l k h, take_drop1 l k h, drop_take1 l k h]
  refine ⟨fun e => ?_, fun e => ?_, fun e1 e2 => ?_⟩
  · have : l.getD k 0 = 38 := UInt8.toNat_inj.1 (by rw [hg] at e; show _ = 38; omega)
    rw [this]; rfl
  · have : l.getD k 0 = 60 := UInt8.toNat_inj.1 (by rw [hg] at e; show _ = 60; omega)
    rw [this]; rfl
  · unfold hide1
    rw [if_neg (fun e => e1 (by rw [hg, e]; rfl)), if_neg (fun e => e2 (by rw [hg, e]; rfl))]

set_option maxRecDepth 100000 in
set_option maxHeartbeats 1000000 in
theorem hides10_law (l : List UInt8) (w : World) (hm : l.length ≤ maxLen) : Calls Try.prog 7 #[.string ⟨l.toArray⟩] w (LawPost w) := by
  unfold maxLen at hm
  by_cases hl : l.length ≤ 1000
  case neg =>
    go_enter Try.func7, Try.ntmps7
    go_wp2_with fail
    refine (awake10_any _).mono ?_; rintro e w0 ⟨rfl, h0⟩
    replace h0 := Lib.hid h0
    go_wp2_with fail
    go_ret
    exact ⟨rfl, h0.out⟩
  go_enter Try.func7, Try.ntmps7
  go_wp2_with fail
  go_loop [3, 4] (fun s i => ∃ (k : Nat) (y : List UInt8), i = .int .i64 k ∧ s = .string ⟨y.toArray⟩ ∧ k ≤ l.length ∧ Hid (y = hideB (l.take k)) ∧ y.length ≤ 5000) (fun _ i => l.length - (intOf i).toNat)
  case atStart => exact ⟨0, [], rfl, rfl, Nat.zero_le _, rfl, by simp⟩
  case round =>
    obtain ⟨k, y, rfl, rfl, hk, hy, hyl⟩ := hrel
    by_cases hlt : k < l.length
    · obtain ⟨s1, s2, s3⟩ := hide_step l k hlt
      have hlen := hide_len (l.take (k + 1))
      rw [List.length_take] at hlen
      have h1 : ((l.take (k + 1)).drop k).length = 1 := by rw [take_drop1 l k hlt, drop_take1 l k hlt]; rfl
      rw [← hy.out] at s1 s2 s3
      by_cases h38 : bt l k = 38
      · have hq := s1 h38
        rw [hq] at hlen
        clear s1 s2 s3 hy
        replace hq := Lib.hid hq
        have hlen2 : (y ++ [38, 97, 109, 112, 59]).length ≤ 5000 := by omega
        clear hlen
        go_wp2_with fail
        exact ⟨⟨k + 1, _, by go_num, rfl, by omega, hq.out.symm, hlen2⟩, by simp [intOf]; omega⟩
      have b38 : (bt l k == 38) = false := by simpa using h38
      by_cases h60 : bt l k = 60
      · have hq := s2 h60
        rw [hq] at hlen
        clear s1 s2 s3 hy h38
        replace hq := Lib.hid hq
        have hlen2 : (y ++ [38, 108, 116, 59]).length ≤ 5000 := by omega
        clear hlen
        go_wp2_with fail
        exact ⟨⟨k + 1, _, by go_num, rfl, by omega, hq.out.symm, hlen2⟩, by simp [intOf]; omega⟩
      · have b60 : (bt l k == 60) = false := by simpa using h60
        have hq := s3 h38 h60
        rw [hq] at hlen
        clear s1 s2 s3 hy h38 h60
        replace hq := Lib.hid hq
        have hlen2 : (y ++ (l.take (k + 1)).drop k).length ≤ 5000 := by omega
        clear hlen
        go_wp2_with fail
        exact ⟨⟨k + 1, _, by go_num, rfl, by omega, hq.out.symm, hlen2⟩, by simp [intOf]; omega⟩
    · have hke : ¬ ((k : Int) < l.length) := by omega
      have hy2 := hy.out
      rw [List.take_of_length_le (by omega)] at hy2
      have e1 : entB y = l := by rw [hy2]; exact ent_hide l
      have e2 : stripB y = y := by rw [hy2]; exact stripB_id _ (hide_no l)
      have c1 := fun W : World => entities_any y W (by omega)
      have c2 := fun W : World => strip_any y W (by omega)
      rw [e1] at c1
      rw [e2] at c2
      clear e1 e2 hy2 hy
      replace c1 := Lib.hid c1
      replace c2 := Lib.hid c2
      go_wp2_with fail
      refine (awake10_any _).mono ?_; rintro e w1 ⟨rfl, hb1⟩
      replace hb1 := Lib.hid hb1
      go_wp2_with fail
      refine (c1.out _).mono ?_; rintro e w2 ⟨rfl, hb2⟩
      have k2 := Lib.hid (hb1.out.andThen hb2)
      clear hb1 hb2
      go_wp2_with fail
      refine (c2.out _).mono ?_; rintro e w3 ⟨rfl, hb3⟩
      have k3 := Lib.hid (k2.out.andThen hb3)
      clear k2 hb3
      go_wp2_with fail
      go_ret
      exact ⟨rfl, k3.out⟩
end Go.Proofs.Ytahjopajnckbaaa
