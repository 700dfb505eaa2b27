/- The walks of layer 9's Same, Least, New. -/
import Derived.Test.YtkegealaagphgaaD09a
import Derived.Deep.RegionWith
namespace Go.Proofs.Ytkegealaagphgaa
open Go.RowKit

section
variable {w : World} {X g n : Nat} {M : Nat → Nat}
theorem and_false9 {a b : Int} (h : (inB n a && inB n b) = false) : inB n a = false ∨ (inB n a = true ∧ inB n b = false) := by
  cases ha : inB n a
  · exact Or.inl rfl
  · rw [ha] at h; exact Or.inr ⟨rfl, by simpa using h⟩
theorem same9_no (p : Value) (n : Nat) (a b : Int) (w : World) (hl : LenC p n w) (h : (inB n a && inB n b) = false) :
    Calls Try.prog 9 #[p, .int .i64 a, .int .i64 b] w fun e w' => e = .returned (.bool false) ∧ w = w' := by
  have h1 := has9_any p n a w hl
  have h2 := has9_any p n b w hl
  rcases and_false9 h with h | ⟨h, h'⟩
  · rw [h] at h1
    clear h h2 hl
    replace h1 := Lib.hid h1
    go_enter Try.func9, Try.ntmps9
    go_wp2_with fail
    refine h1.out.mono ?_; rintro e w' ⟨rfl, rfl⟩
    go_wp2_with fail
    go_ret
    exact ⟨rfl, rfl⟩
  · rw [h] at h1
    rw [h'] at h2
    clear h h' hl
    replace h1 := Lib.hid h1
    replace h2 := Lib.hid h2
    go_enter Try.func9, Try.ntmps9
    go_wp2_with fail
    refine h1.out.mono ?_; rintro e w' ⟨rfl, rfl⟩
    go_wp2_with fail
    refine h2.out.mono ?_; rintro e w' ⟨rfl, rfl⟩
    go_wp2_with fail
    go_ret
    exact ⟨rfl, rfl⟩
theorem least9_no (p : Value) (n : Nat) (a : Int) (w : World) (hl : LenC p n w) (h : inB n a = false) :
    Calls Try.prog 13 #[p, .int .i64 a] w fun e w' => e = .returned (.int .i64 (-1)) ∧ w = w' := by
  have h1 := has9_any p n a w hl
  rw [h] at h1
  clear h hl
  replace h1 := Lib.hid h1
  go_enter Try.func13, Try.ntmps13
  go_wp2_with fail
  refine h1.out.mono ?_; rintro e w' ⟨rfl, rfl⟩
  go_wp2_with fail
  go_ret
  exact ⟨rfl, rfl⟩

/-- What a question comes to: its answer; the sets are as they were. -/
def AskPost (w : World) (X g n : Nat) (M : Nat → Nat) (v : Value) (e : Ending) (w' : World) : Prop := e = .returned v ∧ UfAt w' X g n M ∧ Turned (fun b => b = g) w w'
theorem same9_any (a b : Int) (h : UfAt w X g n M) : Calls Try.prog 9 #[.pointer (some ⟨X, 0, none⟩), .int .i64 a, .int .i64 b] w (AskPost w X g n M (.bool (sameB n M a b))) := by
  have hl : LenC (.pointer (some ⟨X, 0, none⟩)) n w := len9_any X g n M w h
  unfold sameB
  cases hab : inB n a && inB n b with
  | false =>
    refine (same9_no _ n a b w hl hab).mono ?_
    rintro e w' ⟨rfl, rfl⟩
    exact ⟨rfl, h, Turned.refl _ _⟩
  | true =>
    rw [Bool.and_eq_true] at hab
    have h1 := has9_any _ n a w hl
    have h2 := has9_any _ n b w hl
    rw [hab.1] at h1
    rw [hab.2] at h2
    obtain ⟨k, rfl, hk⟩ := inB_true.1 hab.1
    obtain ⟨m, rfl, hm⟩ := inB_true.1 hab.2
    clear hab hl
    obtain ⟨hn, hL, hX, hg, h⟩ := h
    rcases h with ⟨h0, _⟩ | ⟨h0, U, T, L, R, D, hi, hF⟩
    · omega
    rw [Bool.true_and, Int.toNat_natCast, Int.toNat_natCast]
    have hsm : (M k == M m) = decide ((R k : Int) = R m) := by
      by_cases e : R k = R m
      · rw [decide_eq_true (by omega), beq_iff_eq]; exact (hF.same_iff hk hm).1 e
      · rw [decide_eq_false (by omega), beq_eq_false_iff_ne]; exact fun e2 => e (hF.same k m hk hm e2)
    rw [hsm]
    clear hsm
    have r1 := Lib.hid (root9_any X g n U T L M R D k w hi hF hk hn)
    have r2 : Hid (∀ W U, ForIn W X g n U T L → Fo n U L M R D → Calls Try.prog 22 #[.pointer (some ⟨X, 0, none⟩), .int .i64 m] W (RootPost W X g n T L M R D (R m))) := fun W U q1 q2 => root9_any X g n U T L M R D m W q1 q2 hm hn
    have hfin : Hid (∀ W, ∀ U, ForIn W X g n U T L → Fo n U L M R D → Turned (fun b => b = g) w W → UfAt W X g n M ∧ Turned (fun b => b = g) w W) := fun W U q1 q2 q3 => by
      have := q3.size
      exact ⟨⟨hn, hL, by omega, by omega, Or.inr ⟨h0, U, T, L, R, D, q1, q2⟩⟩, q3⟩
    clear hi hF hL h0
    replace h1 := Lib.hid h1
    replace h2 := Lib.hid h2
    generalize R k = x at r1
    generalize R m = y at r2
    by_cases hxy : x = y
    · subst hxy
      rw [decide_eq_true rfl]
      go_enter Try.func9, Try.ntmps9
      go_wp2_with fail
      refine h1.out.mono ?_; rintro e w' ⟨rfl, rfl⟩
      go_wp2_with fail
      refine h2.out.mono ?_; rintro e w' ⟨rfl, rfl⟩
      go_wp2_with fail
      refine r1.out.mono ?_; rintro e w1 ⟨U1, rfl, q1, q2, q3⟩
      replace q3 := Lib.hid q3
      have r3 := Lib.hid (r2.out w1 U1 q1 q2)
      clear q1 q2
      go_wp2_with fail
      refine r3.out.mono ?_; rintro e w2 ⟨U2, rfl, q4, q5, q6⟩
      replace q6 := Lib.hid (hfin.out w2 U2 q4 q5 (q3.out.trans q6 fun _ _ h => h))
      clear q4 q5
      go_wp2_with fail
      go_ret
      exact ⟨rfl, q6.out⟩
    · have hne : ((x : Int) == y) = false := by rw [beq_eq_false_iff_ne]; omega
      rw [decide_eq_false (by omega)]
      clear hxy
      go_enter Try.func9, Try.ntmps9
      go_wp2_with fail
      refine h1.out.mono ?_; rintro e w' ⟨rfl, rfl⟩
      go_wp2_with fail
      refine h2.out.mono ?_; rintro e w' ⟨rfl, rfl⟩
      go_wp2_with fail
      refine r1.out.mono ?_; rintro e w1 ⟨U1, rfl, q1, q2, q3⟩
      replace q3 := Lib.hid q3
      have r3 := Lib.hid (r2.out w1 U1 q1 q2)
      clear q1 q2
      go_wp2_with fail
      refine r3.out.mono ?_; rintro e w2 ⟨U2, rfl, q4, q5, q6⟩
      replace q6 := Lib.hid (hfin.out w2 U2 q4 q5 (q3.out.trans q6 fun _ _ h => h))
      clear q4 q5
      go_wp2_with fail
      go_ret
      exact ⟨rfl, q6.out⟩
/-- What Least asks of root. -/
def RootL (w : World) (X g n : Nat) (M : Nat → Nat) (r l : Nat) (e : Ending) (w' : World) : Prop :=
  e = .returned (.int .i64 r) ∧ (w'.cell? ⟨X, 0, none⟩ = some (.slice (some ⟨g, 0, none⟩) n n) ∧ w'.cell? ⟨g, r * 3 + 2, none⟩ = some (.int .i64 l)) ∧ Hid (UfAt w' X g n M ∧ Turned (fun b => b = g) w w')
theorem least9_any (a : Int) (h : UfAt w X g n M) : Calls Try.prog 13 #[.pointer (some ⟨X, 0, none⟩), .int .i64 a] w (AskPost w X g n M (.int .i64 (leastI n M a))) := by
  have hl : LenC (.pointer (some ⟨X, 0, none⟩)) n w := len9_any X g n M w h
  unfold leastI
  cases hab : inB n a with
  | false =>
    refine (least9_no _ n a w hl hab).mono ?_
    rintro e w' ⟨rfl, rfl⟩
    exact ⟨by simp, h, Turned.refl _ _⟩
  | true =>
    have h1 := has9_any _ n a w hl
    rw [hab] at h1
    obtain ⟨k, rfl, hk⟩ := inB_true.1 hab
    clear hab hl
    obtain ⟨hn, hL, hX, hg, h⟩ := h
    rcases h with ⟨h0, _⟩ | ⟨h0, U, T, L, R, D, hi, hF⟩
    · omega
    rw [if_pos rfl, Int.toNat_natCast]
    have hr : Hid (∀ W, Drawn w W → Calls Try.prog 22 #[.pointer (some ⟨X, 0, none⟩), .int .i64 k] W (RootL w X g n M (R k) (M k))) := by
      intro W hW
      have hT : Turned (fun b => b = g) w W := Turned.of_below (hW.below _)
      have hiW : ForIn W X g n U T L := hi.turned (Turned.of_below (S := fun _ => False) (hW.below _)) (fun h => h) fun h => h
      refine (root9_any X g n U T L M R D k W hiW hF hk hn).mono ?_
      rintro e w' ⟨U1, rfl, q1, q2, q3⟩
      have hT2 := hT.trans q3 fun _ _ h => h
      have := hT2.size
      refine ⟨rfl, ⟨q1.c0, ?_⟩, ⟨hn, hL, by omega, by omega, Or.inr ⟨h0, U1, T, L, R, D, q1, q2⟩⟩, hT2⟩
      rw [(q1.row.at (hF.rlt k hk)).2.2, hF.least k hk]
    have c0 := hi.c0
    have hrl := hF.rlt k hk
    clear hi hF hL h0
    replace h1 := Lib.hid h1
    generalize R k = r at hr hrl
    generalize M k = l at hr
    have r0 : (0 : Int) ≤ r := by omega
    have r1 : (r : Int) < n := by omega
    go_enter Try.func13, Try.ntmps13
    go_wp2_with fail
    refine h1.out.mono ?_; rintro e w' ⟨rfl, rfl⟩
    go_wp2_with fail
    go_region_with (go_at_call 22; ((with_reducible refine (hr.out _ (drawn_drew _)).mono ?_); rintro e w' ⟨rfl, ⟨hS1, hS2⟩, hQ⟩))
    all_goals
      go_wp2_with fail
      go_ret
      exact ⟨rfl, hQ.out⟩
end
theorem run_make_nodes (x : Int) (n : Nat) (hx : x = n) (hn : n ≤ 1048576) (w : World) :
    (Instr.makeSlice 39 (.int .i64 x) (.int .i64 x)).run Try.prog w = .ok (.slice (some ⟨w.heap.size, 0, none⟩) n n) (w.alloc (.cells (List.replicate (n * 3) (.int .i64 0)).toArray 43)) := by
  subst hx
  have hi : (Try.prog.info? 43).map (fun i => (i.zero, i.size, i.bytes)) = some (some (.agg #[.int .i64 0, .int .i64 0, .int .i64 0]), 3, 24) := by kernel_rfl
  obtain ⟨i0, hi, hz0, hz1, hz2⟩ := info_parts hi
  have hr := run_make (P := Try.prog) w 39 43 i0 _ Try.underlying39 hi hz0 .i64 .i64 n n (by omega) (by omega) (by rw [hz2]; omega) (by omega)
  rw [hz1, Int.toNat_natCast] at hr
  rw [hr]
  have e : (madeCells (Value.agg #[.int .i64 0, .int .i64 0, .int .i64 0]).cells (n * 3)) = (List.replicate (n * 3) (.int .i64 0)).toArray := by
    apply Array.ext
    · rw [size_madeCells]; simp
    · intro i h1 h2
      have hm : ∀ j, j < 3 → (Value.agg #[.int .i64 0, .int .i64 0, .int .i64 0]).cells[j]! = .int .i64 0 := fun j hj => by
        match j, hj with
        | 0, _ => rfl
        | 1, _ => rfl
        | 2, _ => rfl
      have h3 := hm (i % 3) (Nat.mod_lt _ (by decide))
      have hs : (Value.agg #[.int .i64 0, .int .i64 0, .int .i64 0]).cells.size = 3 := rfl
      simpa [madeCells, hs] using h3
  rw [e]
end Go.Proofs.Ytkegealaagphgaa
