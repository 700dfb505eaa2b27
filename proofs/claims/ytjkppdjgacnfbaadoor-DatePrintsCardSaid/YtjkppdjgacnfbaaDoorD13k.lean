/- Layer 13: numbers in digits; what is written of a date: plain; two, clockText, Print3339. -/
import Derived.Test.YtjkppdjgacnfbaaDoorIt
import Derived.Test.YtjkppdjgacnfbaaDoorD13i
import Derived.Test.YtjkppdjgacnfbaaDoorD13d
namespace Go.Proofs.YtjkppdjgacnfbaaDoor
open Go.RowKit

/-- A digit. -/
def dig (k : Nat) : UInt8 := UInt8.ofNat (48 + k)
def two13 (n : Nat) : List UInt8 := [dig (n / 10), dig (n % 10)]
def four13 (n : Nat) : List UInt8 := [dig (n / 1000), dig (n / 100 % 10), dig (n / 10 % 10), dig (n % 10)]
theorem two_small {n : Nat} (h : n < 10) : 48 :: Lib.decDigits n = two13 n := by
  rw [Lib.decDigits_one h, two13, show n / 10 = 0 by omega, show n % 10 = n by omega]; rfl
theorem two_big {n : Nat} (h1 : ¬ n < 10) (h2 : n < 100) : Lib.decDigits n = two13 n := by
  rw [Lib.decDigits_two h1 h2]; rfl
theorem four_dec {n : Nat} (h1 : 1000 ≤ n) (h2 : n ≤ 9999) : Lib.decDigits n = four13 n := by
  rw [Lib.decDigits, dif_neg (by omega), Lib.decDigits, dif_neg (by omega), Lib.decDigits_two (by omega) (by omega), four13]
  simp only [Nat.div_div_eq_div_mul, List.cons_append, List.nil_append]
  rfl
theorem four_itoa {n : Nat} (h1 : 1000 ≤ n) (h2 : n ≤ 9999) : Lib.itoa (n : Int) = four13 n := by
  rw [Lib.itoa_nonneg, four_dec h1 h2]
/-- Hours, minutes, seconds. -/
def clock13 (n : Nat) : List UInt8 := two13 (n / 3600) ++ [58] ++ two13 (n / 60 % 60) ++ [58] ++ two13 (n % 60)
/-- A date of RFC 3339, of one that is a date. -/
def p39 (y m d c : Nat) : List UInt8 := four13 y ++ [45] ++ two13 m ++ [45] ++ two13 d ++ [84] ++ clock13 c ++ [90]
def p82 (k y m d c : Nat) : List UInt8 := weekL.getD k [] ++ [44, 32] ++ two13 d ++ [32] ++ monthsL.getD (m - 1) [] ++ [32] ++ four13 y ++ [32] ++ clock13 c ++ [32, 71, 77, 84]
def print39 (n : Int) : List UInt8 := if n < 0 ∨ 253402300799 < n then [] else p39 (civN (n.toNat / 86400)).1 (civN (n.toNat / 86400)).2.1 (civN (n.toNat / 86400)).2.2 (n.toNat % 86400)
def print82 (n : Int) : List UInt8 := if n < 0 ∨ 253402300799 < n then [] else p82 ((n.toNat / 86400 + 3) % 7) (civN (n.toNat / 86400)).1 (civN (n.toNat / 86400)).2.1 (civN (n.toNat / 86400)).2.2 (n.toNat % 86400)

theorem two13_any (n : Nat) (hn : n < 100) (w : World) : Calls Tryd.prog 49 #[.int .i64 n] w fun e w' => e = .returned (.string ⟨(two13 n).toArray⟩) ∧ w = w' := by
  have hc := fun W : World => itoa_small n hn W
  by_cases h : n < 10
  · rw [← two_small h]
    have hl : (Lib.decDigits n).length = 1 := by rw [Lib.decDigits_one h]; rfl
    generalize Lib.decDigits n = D at *
    have h1 : (n : Int) < 10 := by omega
    go_enter Tryd.func49, Tryd.ntmps49
    go_wp2_with fail
    refine (hc _).mono ?_; rintro e w1 ⟨rfl, rfl⟩
    go_wp2_with fail
    go_ret
    exact ⟨ret_str (by simp), rfl⟩
  · rw [← two_big h hn]
    generalize Lib.decDigits n = D at *
    have h1 : ¬ ((n : Int) < 10) := by omega
    go_enter Tryd.func49, Tryd.ntmps49
    go_wp2_with fail
    refine (hc _).mono ?_; rintro e w1 ⟨rfl, rfl⟩
    go_wp2_with fail
    go_ret
    exact ⟨rfl, rfl⟩

theorem clock13_any (n : Nat) (hn : n < 86400) (w : World) : Calls Tryd.prog 51 #[.int .i64 n] w fun e w' => e = .returned (.string ⟨(clock13 n).toArray⟩) ∧ w = w' := by
  have h1 := fun W : World => two13_any (n / 3600) (by omega) W
  have h2 := fun W : World => two13_any (n / 60 % 60) (by omega) W
  have h3 := fun W : World => two13_any (n % 60) (by omega) W
  have e1 : ((n : Int).tdiv 3600) = ((n / 3600 : Nat) : Int) := by rw [Int.tdiv_eq_ediv_of_nonneg (by omega)]; omega
  have e2 : (((n : Int).tmod 3600).tdiv 60) = ((n / 60 % 60 : Nat) : Int) := by rw [Int.tmod_eq_emod_of_nonneg (by omega), Int.tdiv_eq_ediv_of_nonneg (by omega)]; omega
  have e3 : ((n : Int).tmod 60) = ((n % 60 : Nat) : Int) := by rw [Int.tmod_eq_emod_of_nonneg (by omega)]; omega
  have e4 : ((n % 3600 / 60 : Nat)) = (n / 60 % 60 : Nat) := by omega
  have e5 : (((n : Int) % 3600) / 60) = ((n / 60 % 60 : Nat) : Int) := by omega
  unfold clock13
  have b1 : n / 3600 ≤ 23 := by omega
  have b2 : n / 60 % 60 ≤ 59 := by omega
  have b3 : n % 60 ≤ 59 := by omega
  generalize n / 3600 = A at *
  generalize n / 60 % 60 = B at *
  generalize n % 60 = C at *
  have l1 : (two13 A).length = 2 := rfl
  have l2 : (two13 B).length = 2 := rfl
  have l3 : (two13 C).length = 2 := rfl
  generalize two13 A = TA at *
  generalize two13 B = TB at *
  generalize two13 C = TC at *
  go_enter Tryd.func51, Tryd.ntmps51
  go_wp2_with fail
  refine (h1 _).mono ?_; rintro e w1 ⟨rfl, rfl⟩
  go_wp2_with fail
  refine (h2 _).mono ?_; rintro e w1 ⟨rfl, rfl⟩
  go_wp2_with fail
  refine (h3 _).mono ?_; rintro e w1 ⟨rfl, rfl⟩
  go_wp2_with fail
  go_ret
  exact ⟨ret_str (by simp), rfl⟩

/-- A text, and nothing old has turned. -/
def StrB (w : World) (l : List UInt8) (e : Ending) (w' : World) : Prop := e = .returned (.string ⟨l.toArray⟩) ∧ Below w.heap.size w w'
theorem print39_no {n : Int} (h : n < 0 ∨ 253402300799 < n) : print39 n = [] := by unfold print39; rw [if_pos h]
theorem print82_no {n : Int} (h : n < 0 ∨ 253402300799 < n) : print82 n = [] := by unfold print82; rw [if_pos h]
/-- What a second is. -/
theorem sec_form {n : Int} (h : ¬ (n < 0 ∨ 253402300799 < n)) : ∃ (N y m d k c : Nat), n = N ∧ N ≤ 253402300799 ∧ IsCiv (N / 86400) y m d ∧ k = (N / 86400 + 3) % 7 ∧ c = N % 86400 ∧ print39 n = p39 y m d c ∧ print82 n = p82 k y m d c := by
  obtain ⟨N, rfl⟩ : ∃ N : Nat, n = N := ⟨n.toNat, by omega⟩
  have hc := civN_is (N := N / 86400) (by omega)
  refine ⟨N, _, _, _, _, _, rfl, by omega, hc, rfl, rfl, ?_, ?_⟩
  · unfold print39; rw [if_neg h, Int.toNat_natCast]
  · unfold print82; rw [if_neg h, Int.toNat_natCast]

set_option maxHeartbeats 400000 in
theorem print39_any (n : Int) (w : World) (hE : Env13 w) : Calls Tryd.prog 18 #[.int .i64 n] w (StrB w (print39 n)) := by
  by_cases c : n < 0 ∨ 253402300799 < n
  · rw [print39_no c]
    rcases c with c | c
    · go_enter Tryd.func18, Tryd.ntmps18
      go_wp2_with fail
      go_ret
      exact ⟨rfl, Below.refl _ _⟩
    · have c1 : ¬ n < 0 := by omega
      go_enter Tryd.func18, Tryd.ntmps18
      go_wp2_with fail
      go_ret
      exact ⟨rfl, Below.refl _ _⟩
  · obtain ⟨N, y, m, d, k, s, rfl, hN, hc, _, hs, hp, _⟩ := sec_form c
    rw [hp]
    unfold p39
    clear hp c
    have g1 : ¬ ((N : Int) < 0) := by omega
    have g2 : ¬ ((253402300799 : Int) < (N : Int)) := by omega
    have g3 : ¬ (253402300799 < N) := by omega
    have hcv := fun W : World => civil13_any ((N / 86400 : Nat) : Int) W
    rw [civB_yes hc.le, hc.civ] at hcv
    unfold civV at hcv
    simp only at hcv
    have e1 : ((N : Int).tdiv 86400) = ((N / 86400 : Nat) : Int) := by rw [Int.tdiv_eq_ediv_of_nonneg (by omega)]; omega
    have e2 : ((N : Int).tmod 86400) = (s : Int) := by rw [Int.tmod_eq_emod_of_nonneg (by omega)]; omega
    have e3 : N % 86400 = s := hs.symm
    have hl31 := lenN_low (y := y) hc.m1 hc.m2
    have hb : N / 86400 ≤ 2932896 := by omega
    have h1 := fun W (hW : Env13 W) => itoa_any (y : Int) (by have := hc.y2; omega) (by have := hc.y2; omega) W hW.pow
    rw [four_itoa (by have := hc.y1; omega) hc.y2] at h1
    have h2 := fun W : World => two13_any m (by have := hc.m2; omega) W
    have h3 := fun W : World => two13_any d (by have := hc.d2; omega) W
    have h4 := fun W : World => clock13_any s (by omega) W
    have hy2 := hc.y2
    have hm2 := hc.m2
    have hd2 : d ≤ 31 := by have := hc.d2; omega
    clear hs hc
    generalize N / 86400 = Q at *
    have l1 : (four13 y).length = 4 := rfl
    have l2 : (two13 m).length = 2 := rfl
    have l3 : (two13 d).length = 2 := rfl
    have l4 : (clock13 s).length = 8 := rfl
    generalize four13 y = TA at *
    generalize two13 m = TB at *
    generalize two13 d = TC at *
    generalize clock13 s = TD at *
    replace hE := Lib.hid hE
    replace h1 := Lib.hid h1
    go_enter Tryd.func18, Tryd.ntmps18
    go_wp2_with fail
    refine (hcv _).mono ?_; rintro e w1 ⟨rfl, rfl⟩
    go_wp2_with fail
    refine (h1.out _ hE.out).mono ?_; rintro e w1 ⟨rfl, hbl⟩
    replace hbl := Lib.hid hbl
    go_wp2_with fail
    refine (h2 _).mono ?_; rintro e w2 ⟨rfl, rfl⟩
    go_wp2_with fail
    refine (h3 _).mono ?_; rintro e w2 ⟨rfl, rfl⟩
    go_wp2_with fail
    refine (h4 _).mono ?_; rintro e w2 ⟨rfl, rfl⟩
    go_wp2_with fail
    go_ret
    exact ⟨ret_str (by simp), hbl.out⟩
end Go.Proofs.YtjkppdjgacnfbaaDoor
