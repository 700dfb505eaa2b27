/- Layer 13: a day's number. -/
import Derived.Test.YtjkppdjgacnfbaaDoorD13b
namespace Go.Proofs.YtjkppdjgacnfbaaDoor
open Go.RowKit

theorem vi64 {a b : Int} (h : a = b) : Value.int .i64 a = .int .i64 b := by rw [h]
theorem ret_ib {a b : Int} {p q : Bool} (h : a = b) (h2 : p = q) : Ending.returned (.tuple #[.int .i64 a, .bool p]) = .returned (.tuple #[.int .i64 b, .bool q]) := by rw [h, h2]
theorem daysB_no {y m d : Int} (h : y < 1970 ∨ 9999 < y ∨ d < 1 ∨ lenI y m < d) : daysB y m d = (0, false) := by unfold daysB; rw [if_pos h]
theorem daysB_yes {y m d : Int} (h : ¬ (y < 1970 ∨ 9999 < y ∨ d < 1 ∨ lenI y m < d)) : ∃ Y M D : Nat, y = Y ∧ m = M ∧ d = D ∧ 1970 ≤ Y ∧ Y ≤ 9999 ∧ 1 ≤ M ∧ M ≤ 12 ∧ 1 ≤ D ∧ D ≤ lenN Y M ∧ D ≤ 31 ∧ daysB y m d = (((nyN Y + mdN Y M + D - 1 : Nat) : Int), true) := by
  have hm := lenI_pos (y := y) (m := m) (by omega)
  have hb := lenI_bd y m
  obtain ⟨Y, rfl⟩ : ∃ Y : Nat, y = Y := ⟨y.toNat, by omega⟩
  obtain ⟨M, rfl⟩ : ∃ M : Nat, m = M := ⟨m.toNat, by omega⟩
  obtain ⟨D, rfl⟩ : ∃ D : Nat, d = D := ⟨d.toNat, by omega⟩
  have hl := lenN_int Y M
  refine ⟨Y, M, D, rfl, rfl, rfl, by omega, by omega, by omega, by omega, by omega, by omega, by omega, ?_⟩
  unfold daysB
  rw [if_neg h]
  simp only [Int.toNat_natCast, Prod.mk.injEq, and_true]
  omega
theorem day_bd {Y M : Nat} (h0 : 1970 ≤ Y) (h1 : Y ≤ 9999) (h2 : M ≤ 12) : nyN Y + mdN Y M ≤ 2932896 := by
  have h3 := mdN_le Y h2
  have h4 := nyN_lt (y := Y) (z := 10000) h0 (by omega)
  rw [nyN_last] at h4
  by_cases h5 : M = 0
  · subst h5; have := yrN_bd Y; show nyN Y + 0 ≤ _; omega
  · have := lenN_low (y := Y) (m := M) (by omega) h2; omega

set_option maxHeartbeats 400000 in
theorem days13_any (y m d : Int) (h0 : -9223372036854775808 ≤ y) (h1 : y ≤ 9223372036854775807) (w : World) :
    Calls Tryd.prog 20 #[.int .i64 y, .int .i64 m, .int .i64 d] w fun e w' => e = .returned (.tuple #[.int .i64 (daysB y m d).1, .bool (daysB y m d).2]) ∧ w = w' := by
  by_cases c : y < 1970 ∨ 9999 < y ∨ d < 1 ∨ lenI y m < d
  · rw [daysB_no c]
    have hc := length13_any y m h0 h1 w
    by_cases c1 : y < 1970
    · clear c hc
      go_enter Tryd.func20, Tryd.ntmps20
      go_wp2_with fail
      go_ret2
      exact ⟨rfl, rfl⟩
    by_cases c2 : 9999 < y
    · clear c hc
      go_enter Tryd.func20, Tryd.ntmps20
      go_wp2_with fail
      go_ret2
      exact ⟨rfl, rfl⟩
    by_cases c3 : d < 1
    · clear c hc
      go_enter Tryd.func20, Tryd.ntmps20
      go_wp2_with fail
      go_ret2
      exact ⟨rfl, rfl⟩
    have c4 : lenI y m < d := by omega
    clear c
    generalize lenI y m = L at hc c4
    go_enter Tryd.func20, Tryd.ntmps20
    go_wp2_with fail
    refine hc.mono ?_; rintro e w1 ⟨rfl, rfl⟩
    go_wp2_with fail
    go_ret2
    exact ⟨rfl, rfl⟩
  · obtain ⟨Y, M, D, rfl, rfl, rfl, y1, y2, m1, m2, d1, d2, d3, he⟩ := daysB_yes c
    rw [he]
    clear he c h0 h1
    have hbd := Lib.hid (fun k (hk : k ≤ 12) => day_bd (M := k) y1 y2 hk)
    have hc := length13_any Y M (by omega) (by omega) w
    rw [← lenN_int] at hc
    have hn := newYear13_any Y y1 (by omega) w
    have hl := Lib.hid (fun (k : Nat) (W : World) => length13_any Y k (by omega) (by omega) W)
    have g1 : ¬ ((Y : Int) < 1970) := by omega
    have g2 : ¬ ((9999 : Int) < Y) := by omega
    have g3 : ¬ ((D : Int) < 1) := by omega
    have g4 : ¬ ((lenN Y M : Nat) < (D : Int)) := by omega
    have hx : nyN Y ≤ 2932896 := by have := hbd.out 0 (by omega); rwa [show mdN Y 0 = 0 from rfl, Nat.add_zero] at this
    have hX := Lib.hid (show nyN Y = nyN Y from rfl)
    generalize lenN Y M = L at hc g4 d2
    have g5 : ¬ L < D := by omega
    generalize hXe : nyN Y = X at hn hx
    replace hXe := Lib.hid hXe
    clear hX
    have hs0 := Lib.hid (show X + D - 1 + 1 = X + mdN Y 1 + D by rw [mdN_one]; omega)
    go_enter Tryd.func20, Tryd.ntmps20
    go_wp2_with fail
    refine hc.mono ?_; rintro e w1 ⟨rfl, rfl⟩
    go_wp2_with fail
    refine hn.mono ?_; rintro e w1 ⟨rfl, rfl⟩
    go_wp2_with fail
    clear hc hn
    go_loopw [8, 9] (fun n a wr => ∃ k z : Nat, 1 ≤ k ∧ k ≤ M ∧ z ≤ 3000000 ∧ n = .int .i64 z ∧ a = .int .i64 k ∧ Hid (z + 1 = X + mdN Y k + D) ∧ Hid (w = wr)) (fun _ a _ => M - (intOf a).toNat)
    case atStart => exact ⟨1, X + D - 1, Nat.le_refl _, m1, by omega, vi64 (by omega), rfl, hs0, rfl⟩
    case round =>
      obtain ⟨k, z, hk1, hk, hz, rfl, rfl, hzz, hwr⟩ := hrel
      by_cases hlt : k < M
      · have hcl := hl.out k wr
        rw [← lenN_int] at hcl
        have hl31 := (lenN_low (y := Y) (m := k) (by omega) (by omega)).2
        have hz2 := Lib.hid (show z + lenN Y k + 1 = X + mdN Y (k + 1) + D by show _ = X + (mdN Y k + lenN Y k) + D; have := hzz.out; omega)
        have hz3 : z + lenN Y k ≤ 3000000 := by have := hbd.out (k + 1) (by omega); have := hz2.out; rw [hXe.out] at *; omega
        have hlt1 : (k : Int) < M := by omega
        generalize lenN Y k = L2 at *
        go_wp2_with fail
        refine hcl.mono ?_; rintro e w1 ⟨rfl, rfl⟩
        go_wp2_with fail
        exact ⟨⟨k + 1, z + L2, by omega, by omega, hz3, vi64 (by omega), vi64 (by omega), hz2, hwr⟩, by simp [intOf]; omega⟩
      · have hke : ¬ ((k : Int) < M) := by omega
        have he := Lib.hid (show z = X + mdN Y M + D - 1 by rw [show M = k by omega]; have := hzz.out; omega)
        go_wp2_with fail
        go_ret2
        exact ⟨ret_ib (by rw [he.out]) rfl, hwr.out⟩

set_option maxHeartbeats 400000 in
theorem refdays13_any (y m d : Int) (h0 : -9223372036854775808 ≤ y) (h1 : y ≤ 9223372036854775807) (w : World) :
    Calls Tryd.prog 21 #[.int .i64 y, .int .i64 m, .int .i64 d] w fun e w' => e = .returned (.tuple #[.int .i64 (daysB y m d).1, .bool (daysB y m d).2]) ∧ w = w' := by
  by_cases c : y < 1970 ∨ 9999 < y ∨ d < 1 ∨ lenI y m < d
  · rw [daysB_no c]
    have hc := reflength13_any y m h0 h1 w
    by_cases c1 : y < 1970
    · clear c hc
      go_enter Tryd.func21, Tryd.ntmps21
      go_wp2_with fail
      go_ret2
      exact ⟨rfl, rfl⟩
    by_cases c2 : 9999 < y
    · clear c hc
      go_enter Tryd.func21, Tryd.ntmps21
      go_wp2_with fail
      go_ret2
      exact ⟨rfl, rfl⟩
    by_cases c3 : d < 1
    · clear c hc
      go_enter Tryd.func21, Tryd.ntmps21
      go_wp2_with fail
      go_ret2
      exact ⟨rfl, rfl⟩
    have c4 : lenI y m < d := by omega
    clear c
    generalize lenI y m = L at hc c4
    go_enter Tryd.func21, Tryd.ntmps21
    go_wp2_with fail
    refine hc.mono ?_; rintro e w1 ⟨rfl, rfl⟩
    go_wp2_with fail
    go_ret2
    exact ⟨rfl, rfl⟩
  · obtain ⟨Y, M, D, rfl, rfl, rfl, y1, y2, m1, m2, d1, d2, d3, he⟩ := daysB_yes c
    rw [he]
    clear he c h0 h1
    have hbd := Lib.hid (fun k (hk : k ≤ 12) => day_bd (M := k) y1 y2 hk)
    have hc := reflength13_any Y M (by omega) (by omega) w
    rw [← lenN_int] at hc
    have hl := Lib.hid (fun (k : Nat) (W : World) => reflength13_any Y k (by omega) (by omega) W)
    have hlp := Lib.hid (fun (k : Nat) (hk : k ≤ 10000) (W : World) => refleap13_any k (by omega) (by omega) W)
    have g1 : ¬ ((Y : Int) < 1970) := by omega
    have g2 : ¬ ((9999 : Int) < Y) := by omega
    have g3 : ¬ ((D : Int) < 1) := by omega
    have g4 : ¬ ((lenN Y M : Nat) < (D : Int)) := by omega
    generalize lenN Y M = L at hc g4 d2
    have g5 : ¬ L < D := by omega
    have hs0 := Lib.hid (show D - 1 + 1 = nyN 1970 + D by rw [nyN_first]; omega)
    go_enter Tryd.func21, Tryd.ntmps21
    go_wp2_with fail
    refine hc.mono ?_; rintro e w1 ⟨rfl, rfl⟩
    go_wp2_with fail
    clear hc
    go_loopw [8, 9] (fun n a wr => ∃ k z : Nat, 1970 ≤ k ∧ k ≤ Y ∧ z ≤ 3000000 ∧ n = .int .i64 z ∧ a = .int .i64 k ∧ Hid (z + 1 = nyN k + D) ∧ Hid (w = wr)) (fun _ a _ => Y - (intOf a).toNat)
    case atStart => exact ⟨1970, D - 1, Nat.le_refl _, y1, by omega, vi64 (by omega), rfl, hs0, rfl⟩
    case round =>
      obtain ⟨k, z, hk1, hk, hz, rfl, rfl, hzz, hwr⟩ := hrel
      by_cases hlt : k < Y
      · have hcl := hlp.out k (by omega) wr
        have hz2 : z + yrN k + 1 = nyN (k + 1) + D := by rw [nyN_next hk1]; have := hzz.out; omega
        have hz3 : z + yrN k ≤ 3000000 := by
          have h5 := nyN_lt (y := k) (z := 10000) hk1 (by omega)
          rw [nyN_last] at h5
          have := hzz.out; omega
        unfold yrN at hz2 hz3
        have hlt1 : (k : Int) < Y := by omega
        cases hlb : leapI k
        · rw [hlb] at hz2 hz3 hcl
          simp only [Bool.false_eq_true, if_false] at hz2 hz3
          replace hz2 := Lib.hid hz2
          go_wp2_with fail
          refine hcl.mono ?_; rintro e w1 ⟨rfl, rfl⟩
          go_wp2_with fail
          exact ⟨⟨k + 1, z + 365, by omega, by omega, hz3, vi64 (by omega), vi64 (by omega), hz2, hwr⟩, by simp [intOf]; omega⟩
        · rw [hlb] at hz2 hz3 hcl
          simp only [if_true] at hz2 hz3
          replace hz2 := Lib.hid hz2
          go_wp2_with fail
          refine hcl.mono ?_; rintro e w1 ⟨rfl, rfl⟩
          go_wp2_with fail
          exact ⟨⟨k + 1, z + 366, by omega, by omega, hz3, vi64 (by omega), vi64 (by omega), hz2, hwr⟩, by simp [intOf]; omega⟩
      · have hke : ¬ ((k : Int) < Y) := by omega
        have hs := Lib.hid (show z + 1 = nyN Y + mdN Y 1 + D by
          have e0 := mdN_one Y
          have hk2 : Y = k := by omega
          have h5 := hzz.out
          rw [← hk2] at h5
          generalize nyN Y = a at *
          generalize mdN Y 1 = b at *
          omega)
        clear hzz
        go_wp2_with fail
        obtain ⟨wo, hwo⟩ : ∃ wo : World, wr = wo := ⟨_, rfl⟩
        rw [hwo] at hwr
        rw [hwo]
        clear hwo
        go_loopw [8, 10] (fun n a wr => ∃ k z : Nat, 1 ≤ k ∧ k ≤ M ∧ z ≤ 3000000 ∧ n = .int .i64 z ∧ a = .int .i64 k ∧ Hid (z + 1 = nyN Y + mdN Y k + D) ∧ Hid (w = wr)) (fun _ a _ => M - (intOf a).toNat)
        case atStart => exact ⟨1, z, Nat.le_refl _, m1, hz, rfl, rfl, hs, hwr⟩
        case round =>
          clear hs hwr
          obtain ⟨j, x, hj1, hj, hx, rfl, rfl, hxx, hwr⟩ := hrel
          by_cases hjt : j < M
          · have hcl := hl.out j wr
            rw [← lenN_int] at hcl
            have hl31 := (lenN_low (y := Y) (m := j) (by omega) (by omega)).2
            have hz2 := Lib.hid (show x + lenN Y j + 1 = nyN Y + mdN Y (j + 1) + D by show _ = nyN Y + (mdN Y j + lenN Y j) + D; have := hxx.out; omega)
            have hz3 : x + lenN Y j ≤ 3000000 := by have := hbd.out (j + 1) (by omega); have := hz2.out; omega
            have hlt1 : (j : Int) < M := by omega
            generalize lenN Y j = L2 at *
            go_wp2_with fail
            refine hcl.mono ?_; rintro e w1 ⟨rfl, rfl⟩
            go_wp2_with fail
            exact ⟨⟨j + 1, x + L2, by omega, by omega, hz3, vi64 (by omega), vi64 (by omega), hz2, hwr⟩, by simp [intOf]; omega⟩
          · have hje : ¬ ((j : Int) < M) := by omega
            have he := Lib.hid (show x = nyN Y + mdN Y M + D - 1 by rw [show M = j by omega]; have := hxx.out; omega)
            go_wp2_with fail
            go_ret2
            exact ⟨ret_ib (by rw [he.out]) rfl, hwr.out⟩
end Go.Proofs.YtjkppdjgacnfbaaDoor
