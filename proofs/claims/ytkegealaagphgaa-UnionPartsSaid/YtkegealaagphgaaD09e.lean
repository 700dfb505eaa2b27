/- Layer 9's Join, whatever it is given. -/
import Derived.Test.YtkegealaagphgaaD09c
import Derived.Test.YtkegealaagphgaaD09d
namespace Go.Proofs.Ytkegealaagphgaa
open Go.RowKit

theorem join9_eq {w : World} {X g n : Nat} {M : Nat → Nat} {a b : Int} {x : Nat} (h1 : Calls Try.prog 21 #[.pointer (some ⟨X, 0, none⟩), .int .i64 a] w fun e w' => e = .returned (.bool true) ∧ w = w')
    (h2 : Calls Try.prog 21 #[.pointer (some ⟨X, 0, none⟩), .int .i64 b] w fun e w' => e = .returned (.bool true) ∧ w = w')
    (hr : Calls Try.prog 22 #[.pointer (some ⟨X, 0, none⟩), .int .i64 a] w fun e w1 => e = .returned (.int .i64 x) ∧ Calls Try.prog 22 #[.pointer (some ⟨X, 0, none⟩), .int .i64 b] w1 fun e w2 => e = .returned (.int .i64 x) ∧ Hid (UfAt w2 X g n M ∧ Turned (fun b => b = g) w w2)) :
    Calls Try.prog 11 #[.pointer (some ⟨X, 0, none⟩), .int .i64 a, .int .i64 b] w (JoinPost9 w X g n M false) := by
  replace h1 := Lib.hid h1
  replace h2 := Lib.hid h2
  replace hr := Lib.hid hr
  go_enter Try.func11, Try.ntmps11
  go_wp2_with fail
  refine h1.out.mono ?_; rintro e w' ⟨rfl, rfl⟩
  go_wp2_with fail
  refine h2.out.mono ?_; rintro e w' ⟨rfl, rfl⟩
  go_wp2_with fail
  refine hr.out.mono ?_; rintro e w1 ⟨rfl, hr2⟩
  replace hr2 := Lib.hid hr2
  clear h1 h2 hr
  go_wp2_with fail
  refine hr2.out.mono ?_; rintro e w2 ⟨rfl, hQ⟩
  clear hr2
  go_wp2_with fail
  go_ret
  exact ⟨rfl, hQ.out⟩
theorem join9_any {w : World} {X g n : Nat} {M : Nat → Nat} (a b : Int) (h : UfAt w X g n M) : Calls Try.prog 11 #[.pointer (some ⟨X, 0, none⟩), .int .i64 a, .int .i64 b] w (JoinPost9 w X g n (joinI n M a b) (joinB9 n M a b)) := by
  have hl : LenC (.pointer (some ⟨X, 0, none⟩)) n w := len9_any X g n M w h
  unfold joinB9 joinI
  cases hab : inB n a && inB n b with
  | false =>
    refine (join9_no _ n a b w hl hab).mono ?_
    rintro e w' ⟨rfl, rfl⟩
    exact ⟨rfl, h, Turned.refl _ _⟩
  | true =>
    rw [Bool.and_eq_true] at hab
    have h1 := has9_any _ n a w hl
    have h2 := has9_any _ n b w hl
    rw [hab.1] at h1
    rw [hab.2] at h2
    obtain ⟨k, rfl, hk⟩ := inB_true.1 hab.1
    obtain ⟨m, rfl, hm⟩ := inB_true.1 hab.2
    clear hab hl
    obtain ⟨hn, hL, hX, hg, h⟩ := h
    rcases h with ⟨h0, _⟩ | ⟨h0, U, T, L, R, D, hi, hF⟩
    · omega
    rw [if_pos rfl, Bool.true_and, Int.toNat_natCast, Int.toNat_natCast]
    by_cases e : R k = R m
    · have eM := (hF.same_iff hk hm).1 e
      rw [joinM_same eM, show (!(M k == M m)) = false by simp [eM]]
      refine join9_eq (x := R k) h1 h2 ((root9_any X g n U T L M R D k w hi hF hk hn).mono ?_)
      rintro _ w1 ⟨U1, rfl, q1, q2, q3⟩
      refine ⟨rfl, (root9_any X g n U1 T L M R D m w1 q1 q2 hm hn).mono ?_⟩
      rintro _ w2 ⟨U2, rfl, q4, q5, q6⟩
      have hT := q3.trans q6 fun _ _ h => h
      have := hT.size
      exact ⟨by rw [e], ⟨hn, hL, by omega, by omega, Or.inr ⟨h0, U2, T, L, R, D, q4, q5⟩⟩, hT⟩
    · have eM : M k ≠ M m := fun h => e ((hF.same_iff hk hm).2 h)
      rw [show (!(M k == M m)) = true by simp [eM]]
      refine join9_yes (x := R k) (y := R m) (tx := T (R k)) (ty := T (R m)) (lx := M k) (ly := M m) h1 h2 ((root9_any X g n U T L M R D k w hi hF hk hn).mono ?_) (hF.rlt k hk) (hF.rlt m hm) e
      rintro _ w1 ⟨U1, rfl, q1, q2, q3⟩
      refine ⟨rfl, (root9_any X g n U1 T L M R D m w1 q1 q2 hm hn).mono ?_⟩
      rintro _ w2 ⟨U2, rfl, q4, q5, q6⟩
      exact ⟨rfl, roots9 q4 q5 (q3.trans q6 fun _ _ h => h) hn hk hm e⟩
end Go.Proofs.Ytkegealaagphgaa
