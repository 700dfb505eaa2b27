/- Layer 13, the reference: Print822. -/
import Derived.Test.YtjkppdjgacnfbaaDoorD13s
namespace Go.Proofs.YtjkppdjgacnfbaaDoor
open Go.RowKit

/-- Nothing old has turned. -/
def BA (w0 w : World) : Prop := Below w0.heap.size w0 w
theorem BA.drew {w0 w : World} (h : Hid (BA w0 w)) : Hid (BA w0 w.drew) := Below.andThen (show Below w0.heap.size w0 w from h.out) ((drawn_drew w).below _)
theorem BA.fin {w0 w : World} (h : Hid (BA w0 w)) : Below w0.heap.size w0 w := h.out
theorem BA.call {w0 w : World} {f : FuncId} {a : Array Value} {t : List UInt8} (h : Hid (BA w0 w)) (hc : Calls Tryd.prog f a w (StrB w t)) : Calls Tryd.prog f a w fun e w' => e = .returned (.string ⟨t.toArray⟩) ∧ Hid (BA w0 w') :=
  hc.mono fun _ _ hh => ⟨hh.1, Below.andThen (show Below w0.heap.size w0 w from h.out) hh.2⟩

set_option maxHeartbeats 1000000 in
theorem print82r_any (n : Int) (w : World) (h0 : -9223372036854775808 ≤ n) (h1 : n ≤ 9223372036854775807) : Calls Tryd.prog 17 #[.int .i64 n] w (StrB w (print82 n)) := by
  have hcv := fun W : World => refcivil13_any (n.tdiv 86400) W
  by_cases c : n < 0 ∨ 253402300799 < n
  · rw [print82_no c]
    rcases c with c | c
    · by_cases c2 : n.tdiv 86400 < 0
      · rw [civB_no (Or.inl c2)] at hcv
        unfold civV at hcv
        simp only at hcv
        clear c2
        go_enter Tryd.func17, Tryd.ntmps17
        go_wp2_with fail
        refine (hcv _).mono ?_; rintro e w1 ⟨rfl, rfl⟩
        go_wp2_with fail
        go_ret
        exact ⟨rfl, Below.refl _ _⟩
      · have h4 : n.tdiv 86400 = -((-n) / 86400) := by rw [← Int.tdiv_eq_ediv_of_nonneg (by omega), Int.neg_tdiv, Int.neg_neg]
        have e0 : n.tdiv 86400 = 0 := by omega
        rw [e0, show (0 : Int) = ((0 : Nat) : Int) from rfl, civB_yes (by omega)] at hcv
        unfold civV at hcv
        simp only at hcv
        clear h4 c2
        generalize civN 0 = K at *
        go_enter Tryd.func17, Tryd.ntmps17
        go_wp2_with fail
        refine (hcv _).mono ?_; rintro e w1 ⟨rfl, rfl⟩
        go_wp2_with fail
        go_ret
        exact ⟨rfl, Below.refl _ _⟩
    · have c2 : 2932896 < n.tdiv 86400 := by rw [Int.tdiv_eq_ediv_of_nonneg (by omega)]; omega
      rw [civB_no (Or.inr c2), Int.tdiv_eq_ediv_of_nonneg (by omega)] at hcv
      unfold civV at hcv
      simp only at hcv
      clear c2
      go_enter Tryd.func17, Tryd.ntmps17
      go_wp2_with fail
      refine (hcv _).mono ?_; rintro e w1 ⟨rfl, rfl⟩
      go_wp2_with fail
      go_ret
      exact ⟨rfl, Below.refl _ _⟩
  · obtain ⟨N, y, m, d, k, s, rfl, hN, hc, hk, hs, _, hp⟩ := sec_form c
    rw [hp]
    unfold p82
    clear hp c
    have g1 : ¬ ((N : Int) < 0) := by omega
    have g2 : ¬ ((253402300799 : Int) < (N : Int)) := by omega
    have g3 : ¬ (253402300799 < N) := by omega
    have e1 : ((N : Int).tdiv 86400) = ((N / 86400 : Nat) : Int) := by rw [Int.tdiv_eq_ediv_of_nonneg (by omega)]; omega
    rw [e1, civB_yes hc.le, hc.civ] at hcv
    unfold civV at hcv
    simp only at hcv
    have e2 : ((N : Int).tmod 86400) = (s : Int) := by rw [Int.tmod_eq_emod_of_nonneg (by omega)]; omega
    have e3 : N % 86400 = s := hs.symm
    have e5 : ((((N / 86400 : Nat) : Int) + 3).tmod 7) = (k : Int) := by rw [Int.tmod_eq_emod_of_nonneg (by omega)]; omega
    have e6 : (N / 86400 + 3) % 7 = k := hk.symm
    have e7 : ((((N / 86400 : Nat) : Int) + 3) % 7) = (k : Int) := by omega
    have hk7 : k < 7 := by omega
    have hl31 := lenN_low (y := y) hc.m1 hc.m2
    have hb : N / 86400 ≤ 2932896 := by omega
    have h1 := Lib.hid (fun W : World => two13r_any y 4 (by have := hc.y2; omega) (by omega) W)
    rw [twoR_four hc.y2] at h1
    have h3 := Lib.hid (fun W : World => two13r_any d 2 (by have := hc.d2; omega) (by omega) W)
    rw [twoR_two (by have := hc.d2; omega)] at h3
    have h4 := Lib.hid (fun W : World => time13r_any s (by omega) W)
    have hy2 := hc.y2
    have hd2 : d ≤ 31 := by have := hc.d2; omega
    obtain ⟨j, hmj⟩ : ∃ j, m = j + 1 := ⟨m - 1, by have := hc.m1; omega⟩
    have hj : j < 12 := by have := hc.m2; omega
    rw [show m - 1 = j by omega]
    have w1 : IntKind.i64.wrap (3 * (k : Int)) = 3 * (k : Int) := IntWalk.i64_in _ (by omega)
    have w2 : IntKind.i64.wrap (3 * (k : Int) + 3) = 3 * (k : Int) + 3 := IntWalk.i64_in _ (by omega)
    have w3 : IntKind.i64.wrap (3 * (m : Int)) = 3 * (m : Int) := IntWalk.i64_in _ (by omega)
    have w4 : IntKind.i64.wrap (3 * (m : Int) - 3) = 3 * (m : Int) - 3 := IntWalk.i64_in _ (by omega)
    have s1 : ∀ W : World, (Instr.slice 9 (.string ⟨#[77, 111, 110, 84, 117, 101, 87, 101, 100, 84, 104, 117, 70, 114, 105, 83, 97, 116, 83, 117, 110]⟩) (some (.int .i64 (3 * (k : Int)))) (some (.int .i64 (3 * (k : Int) + 3))) none).run Tryd.prog W = .ok (.string ⟨(weekL.getD k []).toArray⟩) W := fun W => by
      have hf := flat3 week_three k hk7
      rw [show (ByteArray.mk #[77, 111, 110, 84, 117, 101, 87, 101, 100, 84, 104, 117, 70, 114, 105, 83, 97, 116, 83, 117, 110]) = ⟨weekL.flatten.toArray⟩ from rfl, run_slice_string W 9 ⟨weekL.flatten.toArray⟩ .i64 .i64 _ _ Tryd.underlying9 (by omega) (by omega) (by show _ ≤ ((21 : Nat) : Int); omega), show (3 * (k : Int)).toNat = 3 * k by omega, show (3 * (k : Int) + 3).toNat = 3 * k + 3 by omega, ba_extract, hf]
    have s2 : ∀ W : World, (Instr.slice 9 (.string ⟨#[74, 97, 110, 70, 101, 98, 77, 97, 114, 65, 112, 114, 77, 97, 121, 74, 117, 110, 74, 117, 108, 65, 117, 103, 83, 101, 112, 79, 99, 116, 78, 111, 118, 68, 101, 99]⟩) (some (.int .i64 (3 * (m : Int) - 3))) (some (.int .i64 (3 * (m : Int)))) none).run Tryd.prog W = .ok (.string ⟨(monthsL.getD j []).toArray⟩) W := fun W => by
      have hf := flat3 months_three j hj
      rw [show (ByteArray.mk #[74, 97, 110, 70, 101, 98, 77, 97, 114, 65, 112, 114, 77, 97, 121, 74, 117, 110, 74, 117, 108, 65, 117, 103, 83, 101, 112, 79, 99, 116, 78, 111, 118, 68, 101, 99]) = ⟨monthsL.flatten.toArray⟩ from rfl, run_slice_string W 9 ⟨monthsL.flatten.toArray⟩ .i64 .i64 _ _ Tryd.underlying9 (by omega) (by omega) (by show _ ≤ ((36 : Nat) : Int); omega), show (3 * (m : Int) - 3).toNat = 3 * j by omega, show (3 * (m : Int)).toNat = 3 * j + 3 by omega, ba_extract, hf]
    have l0 := week_len k hk7
    have l5 := months_len j hj
    have hm2 := hc.m2
    clear hs hc hk hmj
    generalize N / 86400 = Q at *
    have l1 : (four13 y).length = 4 := rfl
    have l3 : (two13 d).length = 2 := rfl
    have l4 : (clock13 s).length = 8 := rfl
    have hs2 : s < 86400 := by omega
    generalize four13 y = TA at *
    generalize two13 d = TC at *
    generalize clock13 s = TD at *
    generalize weekL.getD k [] = WD at *
    generalize monthsL.getD j [] = MD at *
    have hA : Hid (BA w w) := Below.refl _ _
    have c1 : Hid (∀ W, Hid (BA w W) → Calls Tryd.prog 52 #[.int .i64 y, .int .i64 4] W fun e w' => e = .returned (.string ⟨TA.toArray⟩) ∧ Hid (BA w w')) := fun W hW => BA.call hW (h1.out W)
    have c3 : Hid (∀ W, Hid (BA w W) → Calls Tryd.prog 52 #[.int .i64 d, .int .i64 2] W fun e w' => e = .returned (.string ⟨TC.toArray⟩) ∧ Hid (BA w w')) := fun W hW => BA.call hW (h3.out W)
    have c4 := Lib.hid (fun W (hW : Hid (BA w W)) => BA.call hW (h4.out W))
    clear h1 h3 h4
    go_enter Tryd.func17, Tryd.ntmps17
    go_wp2_with fail
    refine (hcv _).mono ?_; rintro e w1 ⟨rfl, rfl⟩
    go_wp2_with fail
    go_region_held3 (fun _ => True) (first | trivial)
      (first
        | (go_at_call 52; ((with_reducible refine (c3.out _ (by first | assumption | exact BA.drew (by assumption))).mono ?_); rintro e w' ⟨rfl, hA3⟩))
        | (go_at_call 52; ((with_reducible refine (c1.out _ (by first | assumption | exact BA.drew (by assumption))).mono ?_); rintro e w' ⟨rfl, hA2⟩))
        | (go_at_call 53; ((with_reducible refine (c4.out _ (by first | assumption | exact BA.drew (by assumption))).mono ?_); rintro e w' ⟨rfl, hA4⟩)))
    all_goals go_wp2_with fail
    all_goals go_ret
    all_goals exact ⟨ret_str (by simp), BA.fin (by first | assumption | exact BA.drew (by assumption))⟩
end Go.Proofs.YtjkppdjgacnfbaaDoor
