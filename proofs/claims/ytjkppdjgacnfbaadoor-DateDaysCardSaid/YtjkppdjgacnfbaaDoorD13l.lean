/- Layer 13: Print822. -/
import Derived.Deep.RegionHeld3
import Derived.IntWalk
import Derived.Test.YtjkppdjgacnfbaaDoorD13k
namespace Go.Proofs.YtjkppdjgacnfbaaDoor
open Go.RowKit

/-- What the region keeps: the names, and that nothing old has turned. -/
def At13 (w0 w : World) : Prop := Env13 w ∧ Below w0.heap.size w0 w
theorem At13.mon {w0 w : World} (h : Hid (At13 w0 w)) (k : Nat) (hk : k < 12) : w.cell? ⟨0, k, none⟩ = some (.string ⟨(monthsL.getD k []).toArray⟩) := by
  have := h.out.1.mon k (.string ⟨(monthsL.getD k []).toArray⟩) (by
    have hk : k < monthsL.length := hk
    simp [List.getD, hk, strV])
  rwa [Nat.zero_add] at this
theorem At13.wk {w0 w : World} (h : At13 w0 w) (k : Nat) (hk : k < 7) : w.cell? ⟨1, k, none⟩ = some (.string ⟨(weekL.getD k []).toArray⟩) := by
  have := h.1.wk k (.string ⟨(weekL.getD k []).toArray⟩) (by
    have hk : k < weekL.length := hk
    simp [List.getD, hk, strV])
  rwa [Nat.zero_add] at this
theorem At13.next {w0 w w' : World} (h : At13 w0 w) (hb : Below w.heap.size w w') : At13 w0 w' := ⟨h.1.below hb, h.2.andThen hb⟩
theorem At13.drew {w0 w : World} (h : Hid (At13 w0 w)) : Hid (At13 w0 w.drew) := h.out.next ((drawn_drew w).below _)
theorem At13.fin {w0 w : World} (h : Hid (At13 w0 w)) : Below w0.heap.size w0 w := h.out.2
theorem At13.itoa {w0 w : World} (h : Hid (At13 w0 w)) (y : Nat) (h1 : 1000 ≤ y) (h2 : y ≤ 9999) : Calls Tryd.prog 50 #[.int .i64 y] w fun e w' => e = .returned (.string ⟨(four13 y).toArray⟩) ∧ Hid (At13 w0 w') := by
  have := itoa_any (y : Int) (by omega) (by omega) w h.out.1.pow
  rw [four_itoa h1 h2] at this
  exact this.mono fun e w' hh => ⟨hh.1, h.out.next hh.2⟩

set_option maxHeartbeats 1000000 in
theorem print82_any (n : Int) (w : World) (hE : Env13 w) : Calls Tryd.prog 16 #[.int .i64 n] w (StrB w (print82 n)) := by
  by_cases c : n < 0 ∨ 253402300799 < n
  · rw [print82_no c]
    rcases c with c | c
    · go_enter Tryd.func16, Tryd.ntmps16
      go_wp2_with fail
      go_ret
      exact ⟨rfl, Below.refl _ _⟩
    · have c1 : ¬ n < 0 := by omega
      go_enter Tryd.func16, Tryd.ntmps16
      go_wp2_with fail
      go_ret
      exact ⟨rfl, Below.refl _ _⟩
  · obtain ⟨N, y, m, d, k, s, rfl, hN, hc, hk, hs, _, hp⟩ := sec_form c
    rw [hp]
    unfold p82
    clear hp c
    have g1 : ¬ ((N : Int) < 0) := by omega
    have g2 : ¬ ((253402300799 : Int) < (N : Int)) := by omega
    have g3 : ¬ (253402300799 < N) := by omega
    have hcv := fun W : World => civil13_any ((N / 86400 : Nat) : Int) W
    rw [civB_yes hc.le, hc.civ] at hcv
    unfold civV at hcv
    simp only at hcv
    have e1 : ((N : Int).tdiv 86400) = ((N / 86400 : Nat) : Int) := by rw [Int.tdiv_eq_ediv_of_nonneg (by omega)]; omega
    have e2 : ((N : Int).tmod 86400) = (s : Int) := by rw [Int.tmod_eq_emod_of_nonneg (by omega)]; omega
    have e3 : N % 86400 = s := hs.symm
    have e5 : ((((N / 86400 : Nat) : Int) + 3).tmod 7) = (k : Int) := by rw [Int.tmod_eq_emod_of_nonneg (by omega)]; omega
    have e6 : (N / 86400 + 3) % 7 = k := hk.symm
    have e7 : ((((N / 86400 : Nat) : Int) + 3) % 7) = (k : Int) := by omega
    have hk7 : k < 7 := by omega
    have hl31 := lenN_low (y := y) hc.m1 hc.m2
    have hb : N / 86400 ≤ 2932896 := by omega
    have hA : Hid (At13 w w) := ⟨hE, Below.refl _ _⟩
    have hI := Lib.hid (fun W (hW : Hid (At13 w W)) => At13.itoa hW y (by have := hc.y1; omega) hc.y2)
    have h2 := fun W : World => two13_any d (by have := hc.d2; omega) W
    have h4 := fun W : World => clock13_any s (by omega) W
    have ck := hA.out.wk k hk7
    obtain ⟨j, hmj⟩ : ∃ j, m = j + 1 := ⟨m - 1, by have := hc.m1; omega⟩
    have hj : j < 12 := by have := hc.m2; omega
    have hM := Lib.hid (fun W (hW : Hid (At13 w W)) => At13.mon hW j hj)
    rw [show m - 1 = j by omega]
    have w1 : IntKind.i64.wrap ((m : Int) - 1) = (j : Int) := by rw [show ((m : Int) - 1) = (j : Int) by omega]; exact IntWalk.i64_in _ (by omega)
    have w2 : (0 : Int) ≤ (j : Int) := by omega
    have w3 : (j : Int) < 12 := by omega
    have hy2 := hc.y2
    have hd2 : d ≤ 31 := by have := hc.d2; omega
    have l0 := week_len k hk7
    have l5 := months_len j hj
    clear hs hc hk hmj
    generalize N / 86400 = Q at *
    have l1 : (four13 y).length = 4 := rfl
    have l3 : (two13 d).length = 2 := rfl
    have l4 : (clock13 s).length = 8 := rfl
    have cm := hM.out w hA
    have hs2 : s < 86400 := by omega
    generalize four13 y = TA at *
    generalize two13 d = TC at *
    generalize clock13 s = TD at *
    generalize weekL.getD k [] = WD at *
    generalize monthsL.getD j [] = MD at *
    clear hE
    go_enter Tryd.func16, Tryd.ntmps16
    go_wp2_with fail
    refine (hcv _).mono ?_; rintro e w1 ⟨rfl, rfl⟩
    go_wp2_with fail
    go_region_held3 (fun W => W.cell? ⟨0, j, none⟩ = some (.string ⟨MD.toArray⟩)) (first | exact hM.out _ (by assumption) | exact hM.out _ (At13.drew (by assumption)))
      (first
        | (go_at_call 49; refine (h2 _).mono ?_; rintro e w' ⟨rfl, rfl⟩)
        | (go_at_call 50; refine (hI.out _ (by first | assumption | exact At13.drew (by assumption))).mono ?_; rintro e w' ⟨rfl, hA2⟩)
        | (go_at_call 51; refine (h4 _).mono ?_; rintro e w' ⟨rfl, rfl⟩))
    all_goals go_wp2_with fail
    all_goals go_ret
    all_goals exact ⟨ret_str (by simp), At13.fin (by first | assumption | exact At13.drew (by assumption))⟩
end Go.Proofs.YtjkppdjgacnfbaaDoor
