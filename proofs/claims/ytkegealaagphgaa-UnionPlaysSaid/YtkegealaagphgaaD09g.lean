/- The walks of layer 9's reference: Same, Least, Join, New. -/
import Derived.Test.YtkegealaagphgaaD09f
import Derived.Test.YtkegealaagphgaaNi
namespace Go.Proofs.Ytkegealaagphgaa
open Go.RowKit

section
variable {w : World} {Y h n : Nat} {O M : Nat → Nat}
theorem and_no9 {a b : Int} (h : (inB n a && inB n b) = false) : inB n a = false ∨ (inB n a = true ∧ inB n b = false) := by
  cases ha : inB n a
  · exact Or.inl rfl
  · rw [ha] at h; exact Or.inr ⟨rfl, by simpa using h⟩
theorem RfAt.is_all (hr : RfAt w Y h n M) (a : Int) : ∀ W, Drawn w W → Calls Try.prog 23 #[.pointer (some ⟨Y, 0, none⟩), .int .i64 a] W fun e w' => e = .returned (.bool (inB n a)) ∧ W = w' := fun _ hW => ris9_any a (hr.below (hW.below _))
theorem rsame9_any (a b : Int) (hr : RfAt w Y h n M) : Calls Try.prog 10 #[.pointer (some ⟨Y, 0, none⟩), .int .i64 a, .int .i64 b] w fun e w' => e = .returned (.bool (sameB n M a b)) ∧ Drawn w w' := by
  have h1 := hr.is_all a
  have h2 := hr.is_all b
  unfold sameB
  cases hab : inB n a && inB n b with
  | false =>
    rcases and_no9 hab with h0 | ⟨h0, h0'⟩
    · rw [h0] at h1
      clear hab h0 h2 hr
      replace h1 := Lib.hid h1
      go_enter Try.func10, Try.ntmps10
      go_wp2_with fail
      go_quiet (first | (go_at_call 23; with_reducible exact Calls.drawn_at (h1.out _ (drawn_drewN _ _))) | fail)
      go_wp2_with fail
      go_ret
      exact ⟨rfl, drawn_drewN _ _⟩
    · rw [h0] at h1
      rw [h0'] at h2
      clear hab h0 h0' hr
      replace h1 := Lib.hid h1
      replace h2 := Lib.hid h2
      go_enter Try.func10, Try.ntmps10
      go_wp2_with fail
      go_quiet (first | (go_at_call 23; with_reducible exact Calls.drawn_at (h1.out _ (drawn_drewN _ _))) | (go_at_call 23; with_reducible exact Calls.drawn_at (h2.out _ (drawn_drewN _ _))))
      go_wp2_with fail
      go_ret
      exact ⟨rfl, drawn_drewN _ _⟩
  | true =>
    rw [Bool.and_eq_true] at hab
    rw [hab.1] at h1
    rw [hab.2] at h2
    obtain ⟨k, rfl, hk⟩ := inB_true.1 hab.1
    obtain ⟨m, rfl, hm⟩ := inB_true.1 hab.2
    clear hab
    obtain ⟨hn, hL, hX, hg, hr⟩ := hr
    rcases hr with ⟨h0, _⟩ | ⟨h0, c, O, hi, hA⟩
    · omega
    rw [Bool.true_and, Int.toNat_natCast, Int.toNat_natCast]
    have c0 := hi.c0
    have ck := hi.row.at hk
    have cm := hi.row.at hm
    have hsm : (M k == M m) = ((O k : Int) == (O m : Int)) := by
      by_cases e : O k = O m
      · rw [e, beq_self_eq_true, beq_iff_eq]; exact (hA k m hk hm).1 e
      · rw [beq_eq_false_iff_ne.2 (show (O k : Int) ≠ O m by omega), beq_eq_false_iff_ne]; exact fun e2 => e ((hA k m hk hm).2 e2)
    rw [hsm]
    clear hsm hi hA
    generalize (O k : Int) = x at ck ⊢
    generalize (O m : Int) = y at cm ⊢
    have k0 : (0 : Int) ≤ k := by omega
    have k1 : (k : Int) < n := by omega
    have m0 : (0 : Int) ≤ m := by omega
    have m1 : (m : Int) < n := by omega
    replace h1 := Lib.hid h1
    replace h2 := Lib.hid h2
    go_enter Try.func10, Try.ntmps10
    go_wp2_with fail
    go_quiet (first | (go_at_call 23; with_reducible exact Calls.drawn_at (h1.out _ (drawn_drewN _ _))) | (go_at_call 23; with_reducible exact Calls.drawn_at (h2.out _ (drawn_drewN _ _))))
    go_wp2_with fail
    go_ret
    exact ⟨rfl, drawn_drewN _ _⟩
set_option maxHeartbeats 1000000 in
theorem rleast9_any (a : Int) (hr : RfAt w Y h n M) : Calls Try.prog 14 #[.pointer (some ⟨Y, 0, none⟩), .int .i64 a] w fun e w' => e = .returned (.int .i64 (leastI n M a)) ∧ Drawn w w' := by
  have h1 := ris9_any a hr
  unfold leastI
  cases hab : inB n a with
  | false =>
    rw [hab] at h1
    clear hab hr
    replace h1 := Lib.hid h1
    rw [if_neg (by simp)]
    go_enter Try.func14, Try.ntmps14
    go_wp2_with fail
    refine h1.out.mono ?_; rintro e w' ⟨rfl, rfl⟩
    go_wp2_with fail
    go_ret
    exact ⟨rfl, Drawn.refl _⟩
  | true =>
    rw [hab] at h1
    obtain ⟨m, rfl, hm⟩ := inB_true.1 hab
    clear hab
    obtain ⟨hn, hL, hX, hg, hr⟩ := hr
    rcases hr with ⟨h0, _⟩ | ⟨h0, c, O, hi, hA⟩
    · omega
    rw [if_pos rfl, Int.toNat_natCast]
    have c0 := hi.c0
    have cm := hi.row.at hm
    have hc := Lib.hid (fun k (hk : k < n) => hi.row.at hk)
    obtain ⟨f1, f2⟩ := hA.first hL hm
    have hle := hL.le m hm
    replace h1 := Lib.hid h1
    clear hi hA hL
    generalize hl : M m = l at f1 f2 hle ⊢
    clear hl
    have f1' := Lib.hid f1
    have f2' := Lib.hid f2
    clear f1 f2
    have m0 : (0 : Int) ≤ m := by omega
    have m1 : (m : Int) < n := by omega
    go_enter Try.func14, Try.ntmps14
    go_wp2_with fail
    refine h1.out.mono ?_; rintro e w' ⟨rfl, rfl⟩
    go_wp2_with fail
    go_loopw [5] (fun i wr => ∃ k : Nat, i = .int .i64 k ∧ k ≤ l ∧ Hid (Drawn w wr)) (fun i _ => l + 1 - (intOf i).toNat)
    case atStart => exact ⟨0, rfl, Nat.zero_le _, Drawn.refl _⟩
    case round =>
      obtain ⟨k, rfl, hk, hd⟩ := hrel
      obtain ⟨N, rfl⟩ := hd.out
      by_cases hkm : k < m
      · have ck := hc.out k (by omega)
        have k0 : (0 : Int) ≤ k := by omega
        have k1 : (k : Int) < n := by omega
        by_cases e : O k = O m
        · have hkl : k = l := by have := f2'.out k (by omega) e; omega
          subst hkl
          rw [e] at ck
          have hee : ((O m : Int) == O m) = true := by simp
          go_wp2_with fail
          go_quiet (fail)
          go_wp2_with fail
          go_ret
          exact ⟨rfl, ⟨N + nq, by simp⟩⟩
        · have hne : ((O k : Int) == O m) = false := by rw [beq_eq_false_iff_ne]; omega
          have hkl : k < l := by
            rcases Nat.lt_or_eq_of_le hk with h' | h'
            · exact h'
            · subst h'; exact absurd f1'.out e
          go_wp2_with fail
          go_quiet (fail)
          go_wp2_with fail
          exact ⟨⟨k + 1, by go_num, hkl, ⟨N + nq, by simp⟩⟩, by simp [intOf]; omega⟩
      · obtain rfl : k = m := by omega
        obtain rfl : k = l := by omega
        go_wp2_with fail
        go_ret
        exact ⟨rfl, hd.out⟩
end
end Go.Proofs.Ytkegealaagphgaa
