/- Layer 21, the reference: texts read. -/
import Derived.Test.YtpfcamebkcengaaR21b
namespace Go.Proofs.Ytpfcamebkcengaa
open Go.RowKit

set_option maxHeartbeats 4000000 in
set_option maxRecDepth 100000 in
theorem rreadText_any (l : List UInt8) (m : Int) (w : World) (hl : l.length ≤ 1000000000) :
    Calls Try.prog 15 #[.string ⟨l.toArray⟩, .int .i64 m] w (RiPost w (fun s : List UInt8 => Value.string ⟨s.toArray⟩) [] (readT21 l m)) := by
  have hi := rreadInt_any l w hl
  obtain ⟨ro, hro⟩ : ∃ ro, readT21 l m = ro := ⟨_, rfl⟩
  rw [hro]
  unfold readT21 at hro
  unfold RiPost valO resO at hi
  cases hz : readI21 l with
  | none =>
    rw [hz] at hi hro
    simp only [Option.map_none, Option.getD_none, Option.isSome_none] at hi
    replace hro := Lib.hid hro
    replace hi := Lib.hid hi
    replace hz := Lib.hid hz
    go_enter Try.func15, Try.ntmps15
    go_wp2_with fail
    refine hi.out.mono ?_
    rintro e w1 ⟨rfl, b1⟩
    replace b1 := Lib.hid b1
    go_wp2_with fail
    go_ret3
    rw [← hro.out]
    exact ⟨rfl, b1.out⟩
  | some p =>
    obtain ⟨n, t⟩ := p
    have htl : t.length ≤ 1000000000 := by
      have h1 := (int_read hz).1
      have h2 := congrArg List.length h1
      rw [List.length_append] at h2
      omega
    rw [hz] at hi hro
    simp only [Option.map_some, Option.getD_some, Option.isSome_some] at hi hro
    replace hi := Lib.hid hi
    replace hz := Lib.hid hz
    by_cases hbad : n < 0 ∨ (¬ n < 0 ∧ m < n) ∨ (¬ n < 0 ∧ ¬ m < n ∧ (t.length : Int) < n)
    · rw [if_pos (by omega)] at hro
      subst hro
      rcases hbad with h | ⟨h1, h⟩ | ⟨h1, h2, h⟩
      all_goals
        go_enter Try.func15, Try.ntmps15
        go_wp2_with fail
        refine hi.out.mono ?_
        rintro e w1 ⟨rfl, b1⟩
        replace b1 := Lib.hid b1
        go_wp2_with fail
        go_ret3
        exact ⟨rfl, b1.out⟩
    · rw [if_neg (by omega)] at hro
      subst hro
      obtain ⟨k, rfl⟩ := Int.eq_ofNat_of_zero_le (show 0 ≤ n by omega)
      have q1 : ¬ (k : Int) < 0 := by omega
      have q0 : (0 : Int) ≤ (k : Int) := by omega
      have q2 : ¬ m < (k : Int) := by omega
      have q3 : ¬ (t.length : Int) < (k : Int) := by omega
      have q3n : ¬ t.length < k := by omega
      have q4 : (k : Int) ≤ (t.length : Int) := by omega
      have q4n : k ≤ t.length := by omega
      clear hbad
      go_enter Try.func15, Try.ntmps15
      go_wp2_with fail
      refine hi.out.mono ?_
      rintro e w1 ⟨rfl, b1⟩
      replace b1 := Lib.hid b1
      go_wp2_with fail
      go_quiet (fail)
      go_wp2_with fail
      go_ret3
      exact ⟨rfl, b1.out.trans ((drawn_drewN _ _).below _)⟩
end Go.Proofs.Ytpfcamebkcengaa
