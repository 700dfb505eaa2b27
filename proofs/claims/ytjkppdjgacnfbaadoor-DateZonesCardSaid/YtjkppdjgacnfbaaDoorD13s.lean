/- Layer 13, the reference: two, time, Print3339, Print822. -/
import Derived.Test.YtjkppdjgacnfbaaDoorCv
import Derived.Test.YtjkppdjgacnfbaaDoorD13l
import Derived.Test.YtjkppdjgacnfbaaDoorD13m
namespace Go.Proofs.YtjkppdjgacnfbaaDoor
open Go.RowKit

def twoR : Nat → Nat → List UInt8
  | 0, _ => []
  | k + 1, n => twoR k (n / 10) ++ [dig (n % 10)]
theorem twoR_two {n : Nat} (h : n < 100) : twoR 2 n = two13 n := by
  simp only [twoR, two13, List.nil_append, List.cons_append]
  rw [show n / 10 % 10 = n / 10 by omega]
theorem twoR_four {n : Nat} (h : n ≤ 9999) : twoR 4 n = four13 n := by
  simp only [twoR, four13, List.nil_append, List.cons_append, Nat.div_div_eq_div_mul]
  rw [show n / (10 * 10 * 10) % 10 = n / 1000 by omega]
theorem twoR_len (k n : Nat) : (twoR k n).length = k := by
  induction k generalizing n with
  | zero => rfl
  | succ k ih => rw [twoR, List.length_append, ih]; rfl
theorem u8_dig (r : Nat) : u8 (48 + (r : Int)) = dig r := by
  unfold u8 dig
  rw [show (48 + (r : Int)).toNat = 48 + r by omega]

set_option maxHeartbeats 400000 in
theorem two13r_any (n k : Nat) (hn : n ≤ 9999) (hk : k ≤ 4) (w : World) : Calls Tryd.prog 52 #[.int .i64 n, .int .i64 k] w (StrB w (twoR k n)) := by
  have hc1 := fun (w : World) (a : Int) => run_str_new (P := Tryd.prog) w 34 9 5 5 Tryd.underlying34 Tryd.underlying5 Tryd.underlying9 [a] 1 1 rfl
  simp only [List.map_cons, List.map_nil] at hc1
  go_enter Tryd.func52, Tryd.ntmps52
  go_wp2_with fail
  go_loopw [0, 5, 6] (fun a s i wr => ∃ (m j : Nat) (t : List UInt8), a = .int .i64 m ∧ s = .string ⟨t.toArray⟩ ∧ i = .int .i64 j ∧ m ≤ 9999 ∧ j ≤ k ∧ t.length ≤ j ∧ Hid (twoR k n = twoR (k - j) m ++ t) ∧ Hid (Below w.heap.size w wr)) (fun _ _ i _ => k - (intOf i).toNat)
  case atStart => exact ⟨n, 0, [], rfl, rfl, rfl, hn, Nat.zero_le _, Nat.le_refl _, by rw [Nat.sub_zero, List.append_nil]; rfl, Below.refl _ _⟩
  case round =>
    obtain ⟨m, j, t, rfl, rfl, rfl, hm, hj, ht, he, hb⟩ := hrel
    by_cases hlt : j < k
    · have hlt1 : (j : Int) < k := by omega
      have e1 : ((m : Int).tmod 10) = ((m % 10 : Nat) : Int) := by rw [Int.tmod_eq_emod_of_nonneg (by omega)]; omega
      have e2 : ((m : Int).tdiv 10) = ((m / 10 : Nat) : Int) := by rw [Int.tdiv_eq_ediv_of_nonneg (by omega)]; omega
      have hr : m % 10 < 10 := by omega
      have hq : m / 10 ≤ 9999 := by omega
      have he2 := Lib.hid (show twoR k n = twoR (k - (j + 1)) (m / 10) ++ (dig (m % 10) :: t) by
        rw [he.out, show k - j = k - (j + 1) + 1 by omega, twoR, List.append_assoc]; rfl)
      generalize m % 10 = r at *
      generalize m / 10 = q at *
      have hu := u8_dig r
      have hb2 := Lib.hid (hb.out.alloc hb.out.size (.cells #[.int .u8 (48 + (r : Int))] 5))
      clear hb he hm
      go_wp2_with fail
      exact ⟨⟨q, j + 1, dig r :: t, by first | rfl | exact vi64 (by omega), by rw [← hu], vi64 (by omega), hq, by omega, by rw [List.length_cons]; omega, he2, hb2⟩, by simp [intOf]; omega⟩
    · have hlt1 : ¬ ((j : Int) < k) := by omega
      have he2 := Lib.hid (show t = twoR k n by rw [he.out, show k - j = 0 by omega]; rfl)
      go_wp2_with fail
      go_ret
      exact ⟨ret_str he2.out, hb.out⟩

theorem time13r_any (n : Nat) (hn : n < 86400) (w : World) : Calls Tryd.prog 53 #[.int .i64 n] w (StrB w (clock13 n)) := by
  have h1 := Lib.hid (fun W : World => two13r_any (n / 3600) 2 (by omega) (by omega) W)
  have h2 := Lib.hid (fun W : World => two13r_any (n / 60 % 60) 2 (by omega) (by omega) W)
  have h3 := Lib.hid (fun W : World => two13r_any (n % 60) 2 (by omega) (by omega) W)
  rw [twoR_two (by omega)] at h1 h2 h3
  have e1 : ((n : Int).tdiv 3600) = ((n / 3600 : Nat) : Int) := by rw [Int.tdiv_eq_ediv_of_nonneg (by omega)]; omega
  have e2 : (((n : Int).tdiv 60).tmod 60) = ((n / 60 % 60 : Nat) : Int) := by rw [Int.tdiv_eq_ediv_of_nonneg (by omega), Int.tmod_eq_emod_of_nonneg (by omega)]; omega
  have e3 : ((n : Int).tmod 60) = ((n % 60 : Nat) : Int) := by rw [Int.tmod_eq_emod_of_nonneg (by omega)]; omega
  have e5 : (((n : Int) / 60) % 60) = ((n / 60 % 60 : Nat) : Int) := by omega
  unfold clock13
  have b1 : n / 3600 ≤ 23 := by omega
  have b2 : n / 60 % 60 ≤ 59 := by omega
  have b3 : n % 60 ≤ 59 := by omega
  generalize n / 3600 = A at *
  generalize n / 60 % 60 = B at *
  generalize n % 60 = C at *
  have l1 : (two13 A).length = 2 := rfl
  have l2 : (two13 B).length = 2 := rfl
  have l3 : (two13 C).length = 2 := rfl
  generalize two13 A = TA at *
  generalize two13 B = TB at *
  generalize two13 C = TC at *
  go_enter Tryd.func53, Tryd.ntmps53
  go_wp2_with fail
  refine (h1.out _).mono ?_; rintro e w1 ⟨rfl, k1⟩
  replace k1 := Lib.hid k1
  go_wp2_with fail
  refine (h2.out _).mono ?_; rintro e w2 ⟨rfl, k2⟩
  replace k1 := Lib.hid (k1.out.andThen k2)
  clear k2
  go_wp2_with fail
  refine (h3.out _).mono ?_; rintro e w3 ⟨rfl, k2⟩
  replace k1 := Lib.hid (k1.out.andThen k2)
  clear k2
  go_wp2_with fail
  go_ret
  exact ⟨ret_str (by simp), k1.out⟩

set_option maxHeartbeats 400000 in
theorem print39r_any (n : Int) (w : World) (h0 : -9223372036854775808 ≤ n) (h1 : n ≤ 9223372036854775807) : Calls Tryd.prog 19 #[.int .i64 n] w (StrB w (print39 n)) := by
  have hcv := fun W : World => refcivil13_any (n.tdiv 86400) W
  by_cases c : n < 0 ∨ 253402300799 < n
  · rw [print39_no c]
    rcases c with c | c
    · by_cases c2 : n.tdiv 86400 < 0
      · rw [civB_no (Or.inl c2)] at hcv
        unfold civV at hcv
        simp only at hcv
        clear c2
        go_enter Tryd.func19, Tryd.ntmps19
        go_wp2_with fail
        refine (hcv _).mono ?_; rintro e w1 ⟨rfl, rfl⟩
        go_wp2_with fail
        go_ret
        exact ⟨rfl, Below.refl _ _⟩
      · have h4 : n.tdiv 86400 = -((-n) / 86400) := by rw [← Int.tdiv_eq_ediv_of_nonneg (by omega), Int.neg_tdiv, Int.neg_neg]
        have e0 : n.tdiv 86400 = 0 := by omega
        rw [e0, show (0 : Int) = ((0 : Nat) : Int) from rfl, civB_yes (by omega)] at hcv
        unfold civV at hcv
        simp only at hcv
        clear h4 c2
        generalize civN 0 = K at *
        go_enter Tryd.func19, Tryd.ntmps19
        go_wp2_with fail
        refine (hcv _).mono ?_; rintro e w1 ⟨rfl, rfl⟩
        go_wp2_with fail
        go_ret
        exact ⟨rfl, Below.refl _ _⟩
    · have c2 : 2932896 < n.tdiv 86400 := by rw [Int.tdiv_eq_ediv_of_nonneg (by omega)]; omega
      rw [civB_no (Or.inr c2), Int.tdiv_eq_ediv_of_nonneg (by omega)] at hcv
      unfold civV at hcv
      simp only at hcv
      clear c2
      go_enter Tryd.func19, Tryd.ntmps19
      go_wp2_with fail
      refine (hcv _).mono ?_; rintro e w1 ⟨rfl, rfl⟩
      go_wp2_with fail
      go_ret
      exact ⟨rfl, Below.refl _ _⟩
  · obtain ⟨N, y, m, d, k, s, rfl, hN, hc, _, hs, hp, _⟩ := sec_form c
    rw [hp]
    unfold p39
    clear hp c
    have g1 : ¬ ((N : Int) < 0) := by omega
    have g2 : ¬ ((253402300799 : Int) < (N : Int)) := by omega
    have g3 : ¬ (253402300799 < N) := by omega
    have e1 : ((N : Int).tdiv 86400) = ((N / 86400 : Nat) : Int) := by rw [Int.tdiv_eq_ediv_of_nonneg (by omega)]; omega
    rw [e1, civB_yes hc.le, hc.civ] at hcv
    unfold civV at hcv
    simp only at hcv
    have e2 : ((N : Int).tmod 86400) = (s : Int) := by rw [Int.tmod_eq_emod_of_nonneg (by omega)]; omega
    have e3 : N % 86400 = s := hs.symm
    have hl31 := lenN_low (y := y) hc.m1 hc.m2
    have hb : N / 86400 ≤ 2932896 := by omega
    have h1 := Lib.hid (fun W : World => two13r_any y 4 (by have := hc.y2; omega) (by omega) W)
    rw [twoR_four hc.y2] at h1
    have h2 := Lib.hid (fun W : World => two13r_any m 2 (by have := hc.m2; omega) (by omega) W)
    rw [twoR_two (by have := hc.m2; omega)] at h2
    have h3 := Lib.hid (fun W : World => two13r_any d 2 (by have := hc.d2; omega) (by omega) W)
    rw [twoR_two (by have := hc.d2; omega)] at h3
    have h4 := Lib.hid (fun W : World => time13r_any s (by omega) W)
    have hy2 := hc.y2
    have hm2 := hc.m2
    have hd2 : d ≤ 31 := by have := hc.d2; omega
    clear hs hc
    generalize N / 86400 = Q at *
    have l1 : (four13 y).length = 4 := rfl
    have l2 : (two13 m).length = 2 := rfl
    have l3 : (two13 d).length = 2 := rfl
    have l4 : (clock13 s).length = 8 := rfl
    generalize four13 y = TA at *
    generalize two13 m = TB at *
    generalize two13 d = TC at *
    generalize clock13 s = TD at *
    go_enter Tryd.func19, Tryd.ntmps19
    go_wp2_with fail
    refine (hcv _).mono ?_; rintro e w1 ⟨rfl, rfl⟩
    go_wp2_with fail
    refine (h1.out _).mono ?_; rintro e w1 ⟨rfl, k1⟩
    replace k1 := Lib.hid k1
    go_wp2_with fail
    refine (h2.out _).mono ?_; rintro e w2 ⟨rfl, k2⟩
    replace k1 := Lib.hid (k1.out.andThen k2)
    clear k2
    go_wp2_with fail
    refine (h3.out _).mono ?_; rintro e w2 ⟨rfl, k2⟩
    replace k1 := Lib.hid (k1.out.andThen k2)
    clear k2
    go_wp2_with fail
    refine (h4.out _).mono ?_; rintro e w2 ⟨rfl, k2⟩
    replace k1 := Lib.hid (k1.out.andThen k2)
    clear k2
    go_wp2_with fail
    go_ret
    exact ⟨ret_str (by simp), k1.out⟩
end Go.Proofs.YtjkppdjgacnfbaaDoor
