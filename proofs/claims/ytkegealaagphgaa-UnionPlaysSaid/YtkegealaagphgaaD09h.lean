/- The walk of layer 9's reference: Join. -/
import Derived.Test.YtkegealaagphgaaD09g
namespace Go.Proofs.Ytkegealaagphgaa
open Go.RowKit

theorem Alike.congr {n : Nat} {O O' M : Nat → Nat} (h : Alike n O M) (e : ∀ i, i < n → O' i = O i) : Alike n O' M := fun i j hi hj => by rw [e i hi, e j hj]; exact h i j hi hj
def midO (O : Nat → Nat) (x y k : Nat) : Nat → Nat := fun i => if i < k then relab O x y i else O i
theorem midO_zero (O : Nat → Nat) (x y : Nat) : midO O x y 0 = O := by funext i; unfold midO; rw [if_neg (by omega)]
theorem midO_at (O : Nat → Nat) (x y k : Nat) : midO O x y k k = O k := if_neg (by omega)
theorem midO_yes {O : Nat → Nat} {x y k : Nat} (h : O k = x) : updN (midO O x y k) k y = midO O x y (k + 1) := by
  funext i
  unfold updN midO
  by_cases e : i = k
  · subst e; rw [if_pos rfl, if_pos (by omega)]; unfold relab; rw [if_pos h]
  · rw [if_neg e]
    by_cases h1 : i < k
    · rw [if_pos h1, if_pos (by omega)]
    · rw [if_neg h1, if_neg (by omega)]
theorem midO_no {O : Nat → Nat} {x y k : Nat} (h : O k ≠ x) : midO O x y k = midO O x y (k + 1) := by
  funext i
  unfold midO
  by_cases e : i = k
  · subst e; rw [if_neg (by omega), if_pos (by omega)]; unfold relab; rw [if_neg h]
  · by_cases h1 : i < k
    · rw [if_pos h1, if_pos (by omega)]
    · rw [if_neg h1, if_neg (by omega)]
section
variable {w : World} {Y h n : Nat} {O M : Nat → Nat}
def RJoinPost9 (w : World) (Y h n : Nat) (M : Nat → Nat) (v : Bool) (e : Ending) (w' : World) : Prop := e = .returned (.bool v) ∧ RfAt w' Y h n M ∧ Turned (fun b => b = h) w w'
theorem RfAt.drawn (hr : RfAt w Y h n M) {w' : World} (hd : Drawn w w') : RfAt w' Y h n M ∧ Turned (fun b => b = h) w w' := ⟨hr.below (hd.below _), Turned.of_below (hd.below _)⟩
set_option maxHeartbeats 1000000 in
theorem rjoin9_any (a b : Int) (hr : RfAt w Y h n M) : Calls Try.prog 12 #[.pointer (some ⟨Y, 0, none⟩), .int .i64 a, .int .i64 b] w (RJoinPost9 w Y h n (joinI n M a b) (joinB9 n M a b)) := by
  have h1 := hr.is_all a
  have h2 := hr.is_all b
  have hstay : Hid (∀ w', Drawn w w' → RJoinPost9 w Y h n M false (.returned (.bool false)) w') := fun w' hd => ⟨rfl, hr.drawn hd⟩
  unfold joinB9 joinI
  cases hab : inB n a && inB n b with
  | false =>
    rw [if_neg (by simp), Bool.false_and]
    rcases and_no9 hab with h0 | ⟨h0, h0'⟩
    · rw [h0] at h1
      clear hab h0 h2 hr
      replace h1 := Lib.hid h1
      go_enter Try.func12, Try.ntmps12
      go_wp2_with fail
      go_quiet (first | (go_at_call 23; with_reducible exact Calls.drawn_at (h1.out _ (drawn_drewN _ _))) | fail)
      go_wp2_with fail
      go_ret
      exact hstay.out _ (drawn_drewN _ _)
    · rw [h0] at h1
      rw [h0'] at h2
      clear hab h0 h0' hr
      replace h1 := Lib.hid h1
      replace h2 := Lib.hid h2
      go_enter Try.func12, Try.ntmps12
      go_wp2_with fail
      go_quiet (first | (go_at_call 23; with_reducible exact Calls.drawn_at (h1.out _ (drawn_drewN _ _))) | (go_at_call 23; with_reducible exact Calls.drawn_at (h2.out _ (drawn_drewN _ _))))
      go_wp2_with fail
      go_ret
      exact hstay.out _ (drawn_drewN _ _)
  | true =>
    rw [Bool.and_eq_true] at hab
    rw [hab.1] at h1
    rw [hab.2] at h2
    obtain ⟨k, rfl, hk⟩ := inB_true.1 hab.1
    obtain ⟨m, rfl, hm⟩ := inB_true.1 hab.2
    clear hab
    obtain ⟨hn, hL, hX, hg, hr⟩ := hr
    rcases hr with ⟨h0, _⟩ | ⟨h0, c, O, hi, hA⟩
    · omega
    rw [if_pos rfl, Bool.true_and, Int.toNat_natCast, Int.toNat_natCast]
    have c0 := hi.c0
    have ck := hi.row.at hk
    have cm := hi.row.at hm
    have k0 : (0 : Int) ≤ k := by omega
    have k1 : (k : Int) < n := by omega
    have m0 : (0 : Int) ≤ m := by omega
    have m1 : (m : Int) < n := by omega
    replace h1 := Lib.hid h1
    replace h2 := Lib.hid h2
    by_cases e : O k = O m
    · have eM := (hA k m hk hm).1 e
      rw [joinM_same eM, show (!(M k == M m)) = false by simp [eM]]
      rw [e] at ck
      clear hi hA hL e eM
      have hee : ((O m : Int) == O m) = true := by simp
      go_enter Try.func12, Try.ntmps12
      go_wp2_with fail
      go_quiet (first | (go_at_call 23; with_reducible exact Calls.drawn_at (h1.out _ (drawn_drewN _ _))) | (go_at_call 23; with_reducible exact Calls.drawn_at (h2.out _ (drawn_drewN _ _))))
      go_wp2_with fail
      go_ret
      exact hstay.out _ (drawn_drewN _ _)
    · have eM : M k ≠ M m := fun h => e ((hA k m hk hm).2 h)
      rw [show (!(M k == M m)) = true by simp [eM]]
      have hne : ((O k : Int) == O m) = false := by rw [beq_eq_false_iff_ne]; omega
      have hst : Hid (∀ w', Drawn w w' → RefIn w' Y h n c (midO O (O k) (O m) 0) ∧ Turned (fun b => b = h) w w') := fun w' hd => by
        rw [midO_zero]
        have hT : Turned (fun _ => False) w w' := Turned.of_below (hd.below _)
        exact ⟨hi.turned hT (fun h => h) fun h => h, hT.mono fun _ _ h => h.elim⟩
      have hfin : Hid (∀ w', RefIn w' Y h n c (midO O (O k) (O m) n) → Turned (fun b => b = h) w w' → RJoinPost9 w Y h n (joinM M k m) true (.returned (.bool true)) w') := fun w' q1 q2 => by
        have hYl := q1.cells.lt
        have hhl := q1.row.lt
        exact ⟨rfl, ⟨hn, hL.join hk hm, hYl, hhl, Or.inr ⟨h0, c, _, q1, (hA.join hk hm).congr fun i hi => if_pos hi⟩⟩, q2⟩
      clear hi hA hL e eM hstay
      generalize hx : O k = x at ck hne hst hfin
      generalize hy : O m = y at cm hne hst hfin
      clear hx hy
      go_enter Try.func12, Try.ntmps12
      go_wp2_with fail
      go_quiet (first | (go_at_call 23; with_reducible exact Calls.drawn_at (h1.out _ (drawn_drewN _ _))) | (go_at_call 23; with_reducible exact Calls.drawn_at (h2.out _ (drawn_drewN _ _))))
      obtain ⟨n1, rfl⟩ : ∃ n1, n1 = nq := ⟨_, rfl⟩
      go_wp2_with fail
      go_quiet (fail)
      replace hst := Lib.hid (hst.out ((w.drewN n1).drewN nq) (Drawn.trans ⟨n1, rfl⟩ ⟨nq, rfl⟩))
      clear h1 h2 c0 ck cm
      go_wp2_with fail
      go_loopw [9] (fun i wr => ∃ j : Nat, i = .int .i64 j ∧ j ≤ n ∧ Hid (RefIn wr Y h n c (midO O x y j) ∧ Turned (fun b => b = h) w wr)) (fun i _ => n - (intOf i).toNat)
      case atStart => exact ⟨0, rfl, Nat.zero_le _, hst.out⟩
      case round =>
        clear hst
        obtain ⟨j, rfl, hj, hR⟩ := hrel
        have c0 := hR.out.1.c0
        by_cases hlt : j < n
        · have cj := hR.out.1.row.at hlt
          rw [midO_at] at cj
          have fj := hR.out.1.row.soft j
          have j0 : (0 : Int) ≤ j := by omega
          have j1 : (j : Int) < n := by omega
          by_cases e : O j = x
          · have hR2 := Lib.hid (And.intro (hR.out.1.set hlt y) (hR.out.2.trans (turned_setCell wr ⟨h, j, none⟩ (.int .i64 y)) fun _ _ e => e))
            rw [midO_yes e] at hR2
            rw [e] at cj
            have hee : ((x : Int) == x) = true := by simp
            clear hR
            go_wp2_with fail
            exact ⟨⟨j + 1, by go_num, hlt, hR2.out⟩, by simp [intOf]; omega⟩
          · have hee : ((O j : Int) == x) = false := by rw [beq_eq_false_iff_ne]; omega
            have hR2 := Lib.hid hR.out
            rw [midO_no e] at hR2
            clear hR
            go_wp2_with fail
            exact ⟨⟨j + 1, by go_num, hlt, hR2.out⟩, by simp [intOf]; omega⟩
        · obtain rfl : j = n := by omega
          have hke : ¬ ((j : Int) < j) := by omega
          have hQ := Lib.hid (hfin.out _ hR.out.1 hR.out.2)
          clear hR
          go_wp2_with fail
          go_ret
          exact hQ.out
end
end Go.Proofs.Ytkegealaagphgaa
