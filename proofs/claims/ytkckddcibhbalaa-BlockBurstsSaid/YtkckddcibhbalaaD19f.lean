/- The walk of the reference's read of layer 19. -/
import Derived.Test.YtkckddcibhbalaaD19e
namespace Go.Proofs.Ytkckddcibhbalaa
open Go.RowKit

/-- What is read of a block, as the reference has it. -/
def rrPost (w : World) (o : Option (Nat × List UInt8)) (e : Ending) (w' : World) : Prop :=
  e = .returned (match o with | none => .tuple #[.int .i64 0, .string ⟨#[]⟩] | some (k, t) => .tuple #[.int .i64 k, .string ⟨t.toArray⟩]) ∧ Below w.heap.size w w'
theorem okKind_not {k m : Nat} (h : okKind k m = false) : k < 1 ∨ 4 < k ∨ (1 ≤ k ∧ k ≤ 4 ∧ 54 < m) ∨ (k = 2 ∧ m ≤ 54 ∧ m ≠ 54) ∨ (k = 3 ∧ m ≤ 54 ∧ m ≠ 54) ∨ (k = 4 ∧ m = 0) := by
  by_cases h1 : k < 1
  · exact Or.inl h1
  by_cases h2 : 4 < k
  · exact Or.inr (Or.inl h2)
  by_cases h3 : 54 < m
  · exact Or.inr (Or.inr (Or.inl ⟨by omega, by omega, h3⟩))
  rcases (show k = 1 ∨ k = 2 ∨ k = 3 ∨ k = 4 by omega) with rfl | rfl | rfl | rfl <;> simp [okKind] at h <;> omega
theorem okKind_is {k m : Nat} (h : okKind k m = true) : m ≤ 54 ∧ (k = 1 ∨ (k = 2 ∧ m = 54) ∨ (k = 3 ∧ m = 54) ∨ (k = 4 ∧ m ≠ 0)) := by
  obtain ⟨h1, h2, h3⟩ := okKind_bd h
  refine ⟨h3, ?_⟩
  rcases (show k = 1 ∨ k = 2 ∨ k = 3 ∨ k = 4 by omega) with rfl | rfl | rfl | rfl <;> simp [okKind] at h <;> omega
set_option maxHeartbeats 1000000 in
theorem refread19_any (s : List UInt8) (n : Nat) (w : World) (_hs : s.length ≤ 1000000000) (hn : n ≤ 4294967295) :
    Calls Try.prog 25 #[.string ⟨s.toArray⟩, .int .i64 n] w (rrPost w (read19 s n)) := by
  unfold rrPost read19
  by_cases h1 : s.length ≠ 64
  · rw [if_pos h1]
    have g1 : ((s.length : Int) == 64) = false := by simp; omega
    go_enter Try.func25, Try.ntmps25
    go_wp2_with fail
    go_ret2
    exact ⟨rfl, Below.refl _ _⟩
  rw [if_neg h1]
  have hl : s.length = 64 := by omega
  clear h1
  have b0 : bt s 0 = ((s.getD 0 0).toNat : Int) := rfl
  have b1 : bt s 1 = ((s.getD 1 0).toNat : Int) := rfl
  have k0 := (s.getD 0 0).toNat_lt
  have k1 := (s.getD 1 0).toNat_lt
  generalize (s.getD 0 0).toNat = k at b0 k0 ⊢
  generalize (s.getD 1 0).toNat = m at b1 k1 ⊢
  have i0 : 0 < s.length := by omega
  have i1 : 1 < s.length := by omega
  have g1 : ((s.length : Int) == 64) = true := by simp; omega
  by_cases h2 : okKind k m = false
  · rw [if_pos h2]
    rcases okKind_not h2 with h | h | ⟨h, h3, h4⟩ | ⟨rfl, h3, h⟩ | ⟨rfl, h3, h⟩ | ⟨rfl, rfl⟩
    · have q1 : (k : Int) < 1 := by omega
      clear h2 h
      go_enter Try.func25, Try.ntmps25
      go_wp2_with fail
      go_quiet (fail)
      go_wp2_with fail
      go_ret2
      exact ⟨rfl, Drawn.below ⟨_, rfl⟩ _⟩
    · have q1 : ¬ (k : Int) < 1 := by omega
      have q2 : (4 : Int) < k := by omega
      clear h2 h
      go_enter Try.func25, Try.ntmps25
      go_wp2_with fail
      go_quiet (fail)
      go_wp2_with fail
      go_ret2
      exact ⟨rfl, Drawn.below ⟨_, rfl⟩ _⟩
    · have q1 : ¬ (k : Int) < 1 := by omega
      have q2 : ¬ (4 : Int) < k := by omega
      have q3 : (54 : Int) < m := by omega
      clear h2 h h3 h4
      go_enter Try.func25, Try.ntmps25
      go_wp2_with fail
      go_quiet (fail)
      go_wp2_with fail
      go_ret2
      exact ⟨rfl, Drawn.below ⟨_, rfl⟩ _⟩
    · have q3 : ¬ (54 : Int) < m := by omega
      have q4 : ¬ ((m : Int) = 54) := by omega
      clear h2 h h3
      go_enter Try.func25, Try.ntmps25
      go_wp2_with fail
      go_quiet (fail)
      go_wp2_with fail
      go_ret2
      exact ⟨rfl, Drawn.below ⟨_, rfl⟩ _⟩
    · have q3 : ¬ (54 : Int) < m := by omega
      have q4 : ¬ ((m : Int) = 54) := by omega
      clear h2 h h3
      go_enter Try.func25, Try.ntmps25
      go_wp2_with fail
      go_quiet (fail)
      go_wp2_with fail
      go_ret2
      exact ⟨rfl, Drawn.below ⟨_, rfl⟩ _⟩
    · clear h2
      go_enter Try.func25, Try.ntmps25
      go_wp2_with fail
      go_quiet (fail)
      go_wp2_with fail
      go_ret2
      exact ⟨rfl, Drawn.below ⟨_, rfl⟩ _⟩
  · replace h2 : okKind k m = true := by simpa using h2
    rw [if_neg (by rw [h2]; decide)]
    obtain ⟨hm54, hcs⟩ := okKind_is h2
    have hkb := okKind_bd h2
    have ht : ((s.take (6 + m)).drop 6).length ≤ 54 := by rw [List.length_drop, List.length_take]; omega
    have hm := fun W => refblock19_any k n ((s.take (6 + m)).drop 6) W (by omega) hn ht
    rw [show (s.drop 6).take m = (s.take (6 + m)).drop 6 by rw [List.drop_take, Nat.add_sub_cancel_left]]
    clear ht hkb
    have q3 : ¬ (54 : Int) < m := by omega
    by_cases he : s = blockB k ((s.take (6 + m)).drop 6) n
    · rw [if_pos he]
      rw [← he] at hm
      replace hm := Lib.hid hm
      clear he h2
      rcases hcs with rfl | ⟨rfl, rfl⟩ | ⟨rfl, rfl⟩ | ⟨rfl, h0⟩
      · go_enter Try.func25, Try.ntmps25
        go_wp2_with fail
        go_quiet (fail)
        go_wp2_with fail
        refine (hm.out _).mono ?_; rintro e w1 ⟨rfl, hb⟩
        replace hb := Lib.hid hb
        go_wp2_with fail
        go_quiet (fail)
        go_wp2_with fail
        go_ret2
        exact ⟨rfl, ((Drawn.below ⟨_, rfl⟩ _).andThen hb.out).andThen (Drawn.below ⟨_, rfl⟩ _)⟩
      · go_enter Try.func25, Try.ntmps25
        go_wp2_with fail
        go_quiet (fail)
        go_wp2_with fail
        refine (hm.out _).mono ?_; rintro e w1 ⟨rfl, hb⟩
        replace hb := Lib.hid hb
        go_wp2_with fail
        go_quiet (fail)
        go_wp2_with fail
        go_ret2
        exact ⟨rfl, ((Drawn.below ⟨_, rfl⟩ _).andThen hb.out).andThen (Drawn.below ⟨_, rfl⟩ _)⟩
      · go_enter Try.func25, Try.ntmps25
        go_wp2_with fail
        go_quiet (fail)
        go_wp2_with fail
        refine (hm.out _).mono ?_; rintro e w1 ⟨rfl, hb⟩
        replace hb := Lib.hid hb
        go_wp2_with fail
        go_quiet (fail)
        go_wp2_with fail
        go_ret2
        exact ⟨rfl, ((Drawn.below ⟨_, rfl⟩ _).andThen hb.out).andThen (Drawn.below ⟨_, rfl⟩ _)⟩
      · have q4 : ((m : Int) == 0) = false := by simpa using h0
        go_enter Try.func25, Try.ntmps25
        go_wp2_with fail
        go_quiet (fail)
        go_wp2_with fail
        refine (hm.out _).mono ?_; rintro e w1 ⟨rfl, hb⟩
        replace hb := Lib.hid hb
        go_wp2_with fail
        go_quiet (fail)
        go_wp2_with fail
        go_ret2
        exact ⟨rfl, ((Drawn.below ⟨_, rfl⟩ _).andThen hb.out).andThen (Drawn.below ⟨_, rfl⟩ _)⟩
    · rw [if_neg he]
      have hq : (s == blockB k ((s.take (6 + m)).drop 6) n) = false := by simpa using he
      generalize blockB k ((s.take (6 + m)).drop 6) n = b at hm hq
      replace hm := Lib.hid hm
      clear he h2
      rcases hcs with rfl | ⟨rfl, rfl⟩ | ⟨rfl, rfl⟩ | ⟨rfl, h0⟩
      · go_enter Try.func25, Try.ntmps25
        go_wp2_with fail
        go_quiet (fail)
        go_wp2_with fail
        refine (hm.out _).mono ?_; rintro e w1 ⟨rfl, hb⟩
        replace hb := Lib.hid hb
        go_wp2_with fail
        go_ret2
        exact ⟨rfl, (Drawn.below ⟨_, rfl⟩ _).andThen hb.out⟩
      · go_enter Try.func25, Try.ntmps25
        go_wp2_with fail
        go_quiet (fail)
        go_wp2_with fail
        refine (hm.out _).mono ?_; rintro e w1 ⟨rfl, hb⟩
        replace hb := Lib.hid hb
        go_wp2_with fail
        go_ret2
        exact ⟨rfl, (Drawn.below ⟨_, rfl⟩ _).andThen hb.out⟩
      · go_enter Try.func25, Try.ntmps25
        go_wp2_with fail
        go_quiet (fail)
        go_wp2_with fail
        refine (hm.out _).mono ?_; rintro e w1 ⟨rfl, hb⟩
        replace hb := Lib.hid hb
        go_wp2_with fail
        go_ret2
        exact ⟨rfl, (Drawn.below ⟨_, rfl⟩ _).andThen hb.out⟩
      · have q4 : ((m : Int) == 0) = false := by simpa using h0
        go_enter Try.func25, Try.ntmps25
        go_wp2_with fail
        go_quiet (fail)
        go_wp2_with fail
        refine (hm.out _).mono ?_; rintro e w1 ⟨rfl, hb⟩
        replace hb := Lib.hid hb
        go_wp2_with fail
        go_ret2
        exact ⟨rfl, (Drawn.below ⟨_, rfl⟩ _).andThen hb.out⟩
end Go.Proofs.Ytkckddcibhbalaa
