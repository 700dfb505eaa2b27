/- Layer 13, the reference: digits, sign, names, Month, year, whole; plain and walked. -/
import Derived.OwnWalk
import Derived.Test.YtahohmdbiiknoaaDoorBR12
import Derived.Test.YtahohmdbiiknoaaDoorBR15
import Derived.Test.YtahohmdbiiknoaaDoorBR11
import Derived.Test.YtahohmdbiiknoaaDoorBR01
import Derived.ProofKit
import Derived.OpenShut
import Derived.LaidMore
import Derived.Stop.Joined
import Derived.Deep.Slices
import Derived.SevenTiedAt
import Derived.Lib.LaidTab
import Derived.Test.YtahohmdbiiknoaaDoorBR05
namespace Go.Proofs.YtahohmdbiiknoaaDoor
open Go.RowKit

def digR (k : Nat) (l : List UInt8) : Nat × List UInt8 × Bool := if aheadL l < k then (0, [], false) else (valN 0 (l.take k), l.drop k, true)
theorem digR_bd (k : Nat) (l : List UInt8) : (digR k l).1 < 10 ^ k := by
  unfold digR
  split
  · exact Nat.pow_pos (by omega)
  · exact valN_bd (by omega)
theorem digR_len (k : Nat) (l : List UInt8) : (digR k l).2.1.length ≤ l.length := by unfold digR; split <;> simp
def sgR (l p : List UInt8) : List UInt8 × Bool := if Lib.hasPrefix l p then (l.drop p.length, true) else ([], false)
theorem sgR_len (l p : List UInt8) : (sgR l p).1.length ≤ l.length := by unfold sgR; split <;> simp
theorem sgR_yes {l p : List UInt8} (_h : p.length ≤ l.length) (h2 : (l.take p.length == p) = true) : sgR l p = (l.drop p.length, true) := by
  unfold sgR
  rw [if_pos]
  unfold Lib.hasPrefix
  rw [List.isPrefixOf_iff_prefix]
  rw [beq_iff_eq] at h2
  exact ⟨l.drop p.length, by have := List.take_append_drop p.length l; rw [h2] at this; exact this⟩
theorem sgR_no {l p : List UInt8} (h2 : (l.take p.length == p) = false) : sgR l p = ([], false) := by
  unfold sgR
  rw [if_neg]
  unfold Lib.hasPrefix
  rw [List.isPrefixOf_iff_prefix]
  rintro ⟨t, rfl⟩
  simp at h2
theorem sgR_short {l p : List UInt8} (h : l.length < p.length) : sgR l p = ([], false) := by
  refine sgR_no ?_
  rw [beq_eq_false_iff_ne]
  intro e
  have := congrArg List.length e
  rw [List.length_take] at this
  omega
def yerR (l : List UInt8) : Nat × List UInt8 × Bool :=
  if (digR 4 l).2.2 then ((digR 4 l).1, (digR 4 l).2.1, true)
  else (if (digR 2 l).1 < 50 then 2000 + (digR 2 l).1 else 1900 + (digR 2 l).1, (digR 2 l).2.1, (digR 2 l).2.2)
def wholeR (y m d : Nat) (sec zone : Int) : Int × Bool :=
  (86400 * (daysB y m d).1 + sec - zone, (daysB y m d).2 && decide (0 ≤ 86400 * (daysB y m d).1 + sec - zone) && decide (86400 * (daysB y m d).1 + sec - zone ≤ 253402300799))
/-- A number, what is left, and whether it is one. -/
def trV (o : Nat × List UInt8 × Bool) : Value := .tuple #[.int .i64 o.1, .string ⟨o.2.1.toArray⟩, .bool o.2.2]
theorem ret_tr {o : Nat × List UInt8 × Bool} {a : Int} {l : List UInt8} {b : Bool} {x : Nat} (h : o = (x, l, b)) (hx : a = x) : Ending.returned (.tuple #[.int .i64 a, .string ⟨l.toArray⟩, .bool b]) = .returned (trV o) := by rw [h, hx]; rfl

theorem ret_sb {o : List UInt8 × Bool} {l : List UInt8} {b : Bool} (h : o = (l, b)) : Ending.returned (.tuple #[.string ⟨l.toArray⟩, .bool b]) = .returned (.tuple #[.string ⟨o.1.toArray⟩, .bool o.2]) := by rw [h]
theorem flat3 {L : List (List UInt8)} (h : ∀ n ∈ L, n.length = 3) (k : Nat) (hk : k < L.length) : (L.flatten.take (3 * k + 3)).drop (3 * k) = L.getD k [] := by
  induction L generalizing k with
  | nil => simp at hk
  | cons n t ih =>
    have hn := h n (by simp)
    cases k with
    | zero => simp [hn]
    | succ k =>
      have := ih (fun m hm => h m (by simp [hm])) k (by simpa using hk)
      rw [List.getD_cons_succ, ← this, List.flatten_cons, List.take_append, List.drop_append, hn]
      rw [show 3 * (k + 1) + 3 - 3 = 3 * k + 3 by omega, show 3 * (k + 1) - (List.take (3 * (k + 1) + 3) n).length = 3 * k by rw [List.length_take]; omega]
      rw [List.drop_eq_nil_of_le (by rw [List.length_take]; omega)]
      rfl
theorem flat_len13 {L : List (List UInt8)} (h : ∀ n ∈ L, n.length = 3) : L.flatten.length = 3 * L.length := by
  induction L with
  | nil => rfl
  | cons n t ih => rw [List.flatten_cons, List.length_append, h n (by simp), ih (fun m hm => h m (by simp [hm])), List.length_cons]; omega
end Go.Proofs.YtahohmdbiiknoaaDoor

/- Layer 13, the reference: two, time, Print3339, Print822. -/
namespace Go.Proofs.YtahohmdbiiknoaaDoor
open Go.RowKit

def twoR : Nat → Nat → List UInt8
  | 0, _ => []
  | k + 1, n => twoR k (n / 10) ++ [dig (n % 10)]
theorem twoR_two {n : Nat} (h : n < 100) : twoR 2 n = two13 n := by
  simp only [twoR, two13, List.nil_append, List.cons_append]
  rw [show n / 10 % 10 = n / 10 by omega]
theorem twoR_four {n : Nat} (h : n ≤ 9999) : twoR 4 n = four13 n := by
  simp only [twoR, four13, List.nil_append, List.cons_append, Nat.div_div_eq_div_mul]
  rw [show n / (10 * 10 * 10) % 10 = n / 1000 by omega]
theorem twoR_len (k n : Nat) : (twoR k n).length = k := by
  induction k generalizing n with
  | zero => rfl
  | succ k ih => rw [twoR, List.length_append, ih]; rfl
theorem u8_dig (r : Nat) : u8 (48 + (r : Int)) = dig r := by
  unfold u8 dig
  rw [show (48 + (r : Int)).toNat = 48 + r by omega]

set_option maxHeartbeats 400000 in
theorem two13r_any (n k : Nat) (hn : n ≤ 9999) (hk : k ≤ 4) (w : World) : Calls Tryd.prog 25 #[.int .i64 n, .int .i64 k] w (StrB w (twoR k n)) := by
  have hc1 := fun (w : World) (a : Int) => run_str_new (P := Tryd.prog) w 31 9 5 5 Tryd.underlying31 Tryd.underlying5 Tryd.underlying9 [a] 1 1 rfl
  simp only [List.map_cons, List.map_nil] at hc1
  go_enter Tryd.func25, Tryd.ntmps25
  go_wp2_with fail
  go_loopw [0, 5, 6] (fun a s i wr => ∃ (m j : Nat) (t : List UInt8), a = .int .i64 m ∧ s = .string ⟨t.toArray⟩ ∧ i = .int .i64 j ∧ m ≤ 9999 ∧ j ≤ k ∧ t.length ≤ j ∧ Hid (twoR k n = twoR (k - j) m ++ t) ∧ Hid (Below w.heap.size w wr)) (fun _ _ i _ => k - (intOf i).toNat)
  case atStart => exact ⟨n, 0, [], rfl, rfl, rfl, hn, Nat.zero_le _, Nat.le_refl _, by rw [Nat.sub_zero, List.append_nil]; rfl, Below.refl _ _⟩
  case round =>
    obtain ⟨m, j, t, rfl, rfl, rfl, hm, hj, ht, he, hb⟩ := hrel
    by_cases hlt : j < k
    · have hlt1 : (j : Int) < k := by omega
      have e1 : ((m : Int).tmod 10) = ((m % 10 : Nat) : Int) := by rw [Int.tmod_eq_emod_of_nonneg (by omega)]; omega
      have e2 : ((m : Int).tdiv 10) = ((m / 10 : Nat) : Int) := by rw [Int.tdiv_eq_ediv_of_nonneg (by omega)]; omega
      have hr : m % 10 < 10 := by omega
      have hq : m / 10 ≤ 9999 := by omega
      have he2 := Lib.hid (show twoR k n = twoR (k - (j + 1)) (m / 10) ++ (dig (m % 10) :: t) by
        rw [he.out, show k - j = k - (j + 1) + 1 by omega, twoR, List.append_assoc]; rfl)
      generalize m % 10 = r at *
      generalize m / 10 = q at *
      have hu := u8_dig r
      have hb2 := Lib.hid (hb.out.alloc hb.out.size (.cells #[.int .u8 (48 + (r : Int))] 5))
      clear hb he hm
      go_wp2_with fail
      exact ⟨⟨q, j + 1, dig r :: t, by first | rfl | exact vi64 (by omega), by rw [← hu], vi64 (by omega), hq, by omega, by rw [List.length_cons]; omega, he2, hb2⟩, by simp [intOf]; omega⟩
    · have hlt1 : ¬ ((j : Int) < k) := by omega
      have he2 := Lib.hid (show t = twoR k n by rw [he.out, show k - j = 0 by omega]; rfl)
      go_wp2_with fail
      go_ret
      exact ⟨ret_str he2.out, hb.out⟩

theorem time13r_any (n : Nat) (hn : n < 86400) (w : World) : Calls Tryd.prog 26 #[.int .i64 n] w (StrB w (clock13 n)) := by
  have h1 := Lib.hid (fun W : World => two13r_any (n / 3600) 2 (by omega) (by omega) W)
  have h2 := Lib.hid (fun W : World => two13r_any (n / 60 % 60) 2 (by omega) (by omega) W)
  have h3 := Lib.hid (fun W : World => two13r_any (n % 60) 2 (by omega) (by omega) W)
  rw [twoR_two (by omega)] at h1 h2 h3
  have e1 : ((n : Int).tdiv 3600) = ((n / 3600 : Nat) : Int) := by rw [Int.tdiv_eq_ediv_of_nonneg (by omega)]; omega
  have e2 : (((n : Int).tdiv 60).tmod 60) = ((n / 60 % 60 : Nat) : Int) := by rw [Int.tdiv_eq_ediv_of_nonneg (by omega), Int.tmod_eq_emod_of_nonneg (by omega)]; omega
  have e3 : ((n : Int).tmod 60) = ((n % 60 : Nat) : Int) := by rw [Int.tmod_eq_emod_of_nonneg (by omega)]; omega
  have e5 : (((n : Int) / 60) % 60) = ((n / 60 % 60 : Nat) : Int) := by omega
  unfold clock13
  have b1 : n / 3600 ≤ 23 := by omega
  have b2 : n / 60 % 60 ≤ 59 := by omega
  have b3 : n % 60 ≤ 59 := by omega
  generalize n / 3600 = A at *
  generalize n / 60 % 60 = B at *
  generalize n % 60 = C at *
  have l1 : (two13 A).length = 2 := rfl
  have l2 : (two13 B).length = 2 := rfl
  have l3 : (two13 C).length = 2 := rfl
  generalize two13 A = TA at *
  generalize two13 B = TB at *
  generalize two13 C = TC at *
  go_enter Tryd.func26, Tryd.ntmps26
  go_wp2_with fail
  refine (h1.out _).mono ?_; rintro e w1 ⟨rfl, k1⟩
  replace k1 := Lib.hid k1
  go_wp2_with fail
  refine (h2.out _).mono ?_; rintro e w2 ⟨rfl, k2⟩
  replace k1 := Lib.hid (k1.out.andThen k2)
  clear k2
  go_wp2_with fail
  refine (h3.out _).mono ?_; rintro e w3 ⟨rfl, k2⟩
  replace k1 := Lib.hid (k1.out.andThen k2)
  clear k2
  go_wp2_with fail
  go_ret
  exact ⟨ret_str (by simp), k1.out⟩

set_option maxHeartbeats 400000 in
theorem print39r_any (n : Int) (w : World) (h0 : -9223372036854775808 ≤ n) (h1 : n ≤ 9223372036854775807) : Calls Tryd.prog 18 #[.int .i64 n] w (StrB w (print39 n)) := by
  have hcv := fun W : World => refcivil13_any (n.tdiv 86400) W
  by_cases c : n < 0 ∨ 253402300799 < n
  · rw [print39_no c]
    rcases c with c | c
    · by_cases c2 : n.tdiv 86400 < 0
      · rw [civB_no (Or.inl c2)] at hcv
        unfold civV at hcv
        simp only at hcv
        clear c2
        go_enter Tryd.func18, Tryd.ntmps18
        go_wp2_with fail
        refine (hcv _).mono ?_; rintro e w1 ⟨rfl, rfl⟩
        go_wp2_with fail
        go_ret
        exact ⟨rfl, Below.refl _ _⟩
      · have h4 : n.tdiv 86400 = -((-n) / 86400) := by rw [← Int.tdiv_eq_ediv_of_nonneg (by omega), Int.neg_tdiv, Int.neg_neg]
        have e0 : n.tdiv 86400 = 0 := by omega
        rw [e0, show (0 : Int) = ((0 : Nat) : Int) from rfl, civB_yes (by omega)] at hcv
        unfold civV at hcv
        simp only at hcv
        clear h4 c2
        generalize civN 0 = K at *
        go_enter Tryd.func18, Tryd.ntmps18
        go_wp2_with fail
        refine (hcv _).mono ?_; rintro e w1 ⟨rfl, rfl⟩
        go_wp2_with fail
        go_ret
        exact ⟨rfl, Below.refl _ _⟩
    · have c2 : 2932896 < n.tdiv 86400 := by rw [Int.tdiv_eq_ediv_of_nonneg (by omega)]; omega
      rw [civB_no (Or.inr c2), Int.tdiv_eq_ediv_of_nonneg (by omega)] at hcv
      unfold civV at hcv
      simp only at hcv
      clear c2
      go_enter Tryd.func18, Tryd.ntmps18
      go_wp2_with fail
      refine (hcv _).mono ?_; rintro e w1 ⟨rfl, rfl⟩
      go_wp2_with fail
      go_ret
      exact ⟨rfl, Below.refl _ _⟩
  · obtain ⟨N, y, m, d, k, s, rfl, hN, hc, _, hs, hp, _⟩ := sec_form c
    rw [hp]
    unfold p39
    clear hp c
    have g1 : ¬ ((N : Int) < 0) := by omega
    have g2 : ¬ ((253402300799 : Int) < (N : Int)) := by omega
    have g3 : ¬ (253402300799 < N) := by omega
    have e1 : ((N : Int).tdiv 86400) = ((N / 86400 : Nat) : Int) := by rw [Int.tdiv_eq_ediv_of_nonneg (by omega)]; omega
    rw [e1, civB_yes hc.le, hc.civ] at hcv
    unfold civV at hcv
    simp only at hcv
    have e2 : ((N : Int).tmod 86400) = (s : Int) := by rw [Int.tmod_eq_emod_of_nonneg (by omega)]; omega
    have e3 : N % 86400 = s := hs.symm
    have hl31 := lenN_low (y := y) hc.m1 hc.m2
    have hb : N / 86400 ≤ 2932896 := by omega
    have h1 := Lib.hid (fun W : World => two13r_any y 4 (by have := hc.y2; omega) (by omega) W)
    rw [twoR_four hc.y2] at h1
    have h2 := Lib.hid (fun W : World => two13r_any m 2 (by have := hc.m2; omega) (by omega) W)
    rw [twoR_two (by have := hc.m2; omega)] at h2
    have h3 := Lib.hid (fun W : World => two13r_any d 2 (by have := hc.d2; omega) (by omega) W)
    rw [twoR_two (by have := hc.d2; omega)] at h3
    have h4 := Lib.hid (fun W : World => time13r_any s (by omega) W)
    have hy2 := hc.y2
    have hm2 := hc.m2
    have hd2 : d ≤ 31 := by have := hc.d2; omega
    clear hs hc
    generalize N / 86400 = Q at *
    have l1 : (four13 y).length = 4 := rfl
    have l2 : (two13 m).length = 2 := rfl
    have l3 : (two13 d).length = 2 := rfl
    have l4 : (clock13 s).length = 8 := rfl
    generalize four13 y = TA at *
    generalize two13 m = TB at *
    generalize two13 d = TC at *
    generalize clock13 s = TD at *
    go_enter Tryd.func18, Tryd.ntmps18
    go_wp2_with fail
    refine (hcv _).mono ?_; rintro e w1 ⟨rfl, rfl⟩
    go_wp2_with fail
    refine (h1.out _).mono ?_; rintro e w1 ⟨rfl, k1⟩
    replace k1 := Lib.hid k1
    go_wp2_with fail
    refine (h2.out _).mono ?_; rintro e w2 ⟨rfl, k2⟩
    replace k1 := Lib.hid (k1.out.andThen k2)
    clear k2
    go_wp2_with fail
    refine (h3.out _).mono ?_; rintro e w2 ⟨rfl, k2⟩
    replace k1 := Lib.hid (k1.out.andThen k2)
    clear k2
    go_wp2_with fail
    refine (h4.out _).mono ?_; rintro e w2 ⟨rfl, k2⟩
    replace k1 := Lib.hid (k1.out.andThen k2)
    clear k2
    go_wp2_with fail
    go_ret
    exact ⟨ret_str (by simp), k1.out⟩
end Go.Proofs.YtahohmdbiiknoaaDoor

/- Layer 13, the reference: Print822. -/
namespace Go.Proofs.YtahohmdbiiknoaaDoor
open Go.RowKit

/-- Nothing old has turned. -/
def BA (w0 w : World) : Prop := Below w0.heap.size w0 w
theorem BA.drew {w0 w : World} (h : Hid (BA w0 w)) : Hid (BA w0 w.drew) := Below.andThen (show Below w0.heap.size w0 w from h.out) ((drawn_drew w).below _)
theorem BA.fin {w0 w : World} (h : Hid (BA w0 w)) : Below w0.heap.size w0 w := h.out
theorem BA.call {w0 w : World} {f : FuncId} {a : Array Value} {t : List UInt8} (h : Hid (BA w0 w)) (hc : Calls Tryd.prog f a w (StrB w t)) : Calls Tryd.prog f a w fun e w' => e = .returned (.string ⟨t.toArray⟩) ∧ Hid (BA w0 w') :=
  hc.mono fun _ _ hh => ⟨hh.1, Below.andThen (show Below w0.heap.size w0 w from h.out) hh.2⟩

set_option maxHeartbeats 1000000 in
theorem print82r_any (n : Int) (w : World) (h0 : -9223372036854775808 ≤ n) (h1 : n ≤ 9223372036854775807) : Calls Tryd.prog 16 #[.int .i64 n] w (StrB w (print82 n)) := by
  have hcv := fun W : World => refcivil13_any (n.tdiv 86400) W
  by_cases c : n < 0 ∨ 253402300799 < n
  · rw [print82_no c]
    rcases c with c | c
    · by_cases c2 : n.tdiv 86400 < 0
      · rw [civB_no (Or.inl c2)] at hcv
        unfold civV at hcv
        simp only at hcv
        clear c2
        go_enter Tryd.func16, Tryd.ntmps16
        go_wp2_with fail
        refine (hcv _).mono ?_; rintro e w1 ⟨rfl, rfl⟩
        go_wp2_with fail
        go_ret
        exact ⟨rfl, Below.refl _ _⟩
      · have h4 : n.tdiv 86400 = -((-n) / 86400) := by rw [← Int.tdiv_eq_ediv_of_nonneg (by omega), Int.neg_tdiv, Int.neg_neg]
        have e0 : n.tdiv 86400 = 0 := by omega
        rw [e0, show (0 : Int) = ((0 : Nat) : Int) from rfl, civB_yes (by omega)] at hcv
        unfold civV at hcv
        simp only at hcv
        clear h4 c2
        generalize civN 0 = K at *
        go_enter Tryd.func16, Tryd.ntmps16
        go_wp2_with fail
        refine (hcv _).mono ?_; rintro e w1 ⟨rfl, rfl⟩
        go_wp2_with fail
        go_ret
        exact ⟨rfl, Below.refl _ _⟩
    · have c2 : 2932896 < n.tdiv 86400 := by rw [Int.tdiv_eq_ediv_of_nonneg (by omega)]; omega
      rw [civB_no (Or.inr c2), Int.tdiv_eq_ediv_of_nonneg (by omega)] at hcv
      unfold civV at hcv
      simp only at hcv
      clear c2
      go_enter Tryd.func16, Tryd.ntmps16
      go_wp2_with fail
      refine (hcv _).mono ?_; rintro e w1 ⟨rfl, rfl⟩
      go_wp2_with fail
      go_ret
      exact ⟨rfl, Below.refl _ _⟩
  · obtain ⟨N, y, m, d, k, s, rfl, hN, hc, hk, hs, _, hp⟩ := sec_form c
    rw [hp]
    unfold p82
    clear hp c
    have g1 : ¬ ((N : Int) < 0) := by omega
    have g2 : ¬ ((253402300799 : Int) < (N : Int)) := by omega
    have g3 : ¬ (253402300799 < N) := by omega
    have e1 : ((N : Int).tdiv 86400) = ((N / 86400 : Nat) : Int) := by rw [Int.tdiv_eq_ediv_of_nonneg (by omega)]; omega
    rw [e1, civB_yes hc.le, hc.civ] at hcv
    unfold civV at hcv
    simp only at hcv
    have e2 : ((N : Int).tmod 86400) = (s : Int) := by rw [Int.tmod_eq_emod_of_nonneg (by omega)]; omega
    have e3 : N % 86400 = s := hs.symm
    have e5 : ((((N / 86400 : Nat) : Int) + 3).tmod 7) = (k : Int) := by rw [Int.tmod_eq_emod_of_nonneg (by omega)]; omega
    have e6 : (N / 86400 + 3) % 7 = k := hk.symm
    have e7 : ((((N / 86400 : Nat) : Int) + 3) % 7) = (k : Int) := by omega
    have hk7 : k < 7 := by omega
    have hl31 := lenN_low (y := y) hc.m1 hc.m2
    have hb : N / 86400 ≤ 2932896 := by omega
    have h1 := Lib.hid (fun W : World => two13r_any y 4 (by have := hc.y2; omega) (by omega) W)
    rw [twoR_four hc.y2] at h1
    have h3 := Lib.hid (fun W : World => two13r_any d 2 (by have := hc.d2; omega) (by omega) W)
    rw [twoR_two (by have := hc.d2; omega)] at h3
    have h4 := Lib.hid (fun W : World => time13r_any s (by omega) W)
    have hy2 := hc.y2
    have hd2 : d ≤ 31 := by have := hc.d2; omega
    obtain ⟨j, hmj⟩ : ∃ j, m = j + 1 := ⟨m - 1, by have := hc.m1; omega⟩
    have hj : j < 12 := by have := hc.m2; omega
    rw [show m - 1 = j by omega]
    have w1 : IntKind.i64.wrap (3 * (k : Int)) = 3 * (k : Int) := IntWalk.i64_in _ (by omega)
    have w2 : IntKind.i64.wrap (3 * (k : Int) + 3) = 3 * (k : Int) + 3 := IntWalk.i64_in _ (by omega)
    have w3 : IntKind.i64.wrap (3 * (m : Int)) = 3 * (m : Int) := IntWalk.i64_in _ (by omega)
    have w4 : IntKind.i64.wrap (3 * (m : Int) - 3) = 3 * (m : Int) - 3 := IntWalk.i64_in _ (by omega)
    have s1 : ∀ W : World, (Instr.slice 9 (.string ⟨#[77, 111, 110, 84, 117, 101, 87, 101, 100, 84, 104, 117, 70, 114, 105, 83, 97, 116, 83, 117, 110]⟩) (some (.int .i64 (3 * (k : Int)))) (some (.int .i64 (3 * (k : Int) + 3))) none).run Tryd.prog W = .ok (.string ⟨(weekL.getD k []).toArray⟩) W := fun W => by
      have hf := flat3 week_three k hk7
      rw [show (ByteArray.mk #[77, 111, 110, 84, 117, 101, 87, 101, 100, 84, 104, 117, 70, 114, 105, 83, 97, 116, 83, 117, 110]) = ⟨weekL.flatten.toArray⟩ from rfl, run_slice_string W 9 ⟨weekL.flatten.toArray⟩ .i64 .i64 _ _ Tryd.underlying9 (by omega) (by omega) (by show _ ≤ ((21 : Nat) : Int); omega), show (3 * (k : Int)).toNat = 3 * k by omega, show (3 * (k : Int) + 3).toNat = 3 * k + 3 by omega, ba_extract, hf]
    have s2 : ∀ W : World, (Instr.slice 9 (.string ⟨#[74, 97, 110, 70, 101, 98, 77, 97, 114, 65, 112, 114, 77, 97, 121, 74, 117, 110, 74, 117, 108, 65, 117, 103, 83, 101, 112, 79, 99, 116, 78, 111, 118, 68, 101, 99]⟩) (some (.int .i64 (3 * (m : Int) - 3))) (some (.int .i64 (3 * (m : Int)))) none).run Tryd.prog W = .ok (.string ⟨(monthsL.getD j []).toArray⟩) W := fun W => by
      have hf := flat3 months_three j hj
      rw [show (ByteArray.mk #[74, 97, 110, 70, 101, 98, 77, 97, 114, 65, 112, 114, 77, 97, 121, 74, 117, 110, 74, 117, 108, 65, 117, 103, 83, 101, 112, 79, 99, 116, 78, 111, 118, 68, 101, 99]) = ⟨monthsL.flatten.toArray⟩ from rfl, run_slice_string W 9 ⟨monthsL.flatten.toArray⟩ .i64 .i64 _ _ Tryd.underlying9 (by omega) (by omega) (by show _ ≤ ((36 : Nat) : Int); omega), show (3 * (m : Int) - 3).toNat = 3 * j by omega, show (3 * (m : Int)).toNat = 3 * j + 3 by omega, ba_extract, hf]
    have l0 := week_len k hk7
    have l5 := months_len j hj
    have hm2 := hc.m2
    clear hs hc hk hmj
    generalize N / 86400 = Q at *
    have l1 : (four13 y).length = 4 := rfl
    have l3 : (two13 d).length = 2 := rfl
    have l4 : (clock13 s).length = 8 := rfl
    have hs2 : s < 86400 := by omega
    generalize four13 y = TA at *
    generalize two13 d = TC at *
    generalize clock13 s = TD at *
    generalize weekL.getD k [] = WD at *
    generalize monthsL.getD j [] = MD at *
    have hA : Hid (BA w w) := Below.refl _ _
    have c1 : Hid (∀ W, Hid (BA w W) → Calls Tryd.prog 25 #[.int .i64 y, .int .i64 4] W fun e w' => e = .returned (.string ⟨TA.toArray⟩) ∧ Hid (BA w w')) := fun W hW => BA.call hW (h1.out W)
    have c3 : Hid (∀ W, Hid (BA w W) → Calls Tryd.prog 25 #[.int .i64 d, .int .i64 2] W fun e w' => e = .returned (.string ⟨TC.toArray⟩) ∧ Hid (BA w w')) := fun W hW => BA.call hW (h3.out W)
    have c4 := Lib.hid (fun W (hW : Hid (BA w W)) => BA.call hW (h4.out W))
    clear h1 h3 h4
    go_enter Tryd.func16, Tryd.ntmps16
    go_wp2_with fail
    refine (hcv _).mono ?_; rintro e w1 ⟨rfl, rfl⟩
    go_wp2_with fail
    go_region_held3 (fun _ => True) (first | trivial)
      (first
        | (go_at_call 25; ((with_reducible refine (c3.out _ (by first | assumption | exact BA.drew (by assumption))).mono ?_); rintro e w' ⟨rfl, hA3⟩))
        | (go_at_call 25; ((with_reducible refine (c1.out _ (by first | assumption | exact BA.drew (by assumption))).mono ?_); rintro e w' ⟨rfl, hA2⟩))
        | (go_at_call 26; ((with_reducible refine (c4.out _ (by first | assumption | exact BA.drew (by assumption))).mono ?_); rintro e w' ⟨rfl, hA4⟩)))
    all_goals go_wp2_with fail
    all_goals go_ret
    all_goals exact ⟨ret_str (by simp), BA.fin (by first | assumption | exact BA.drew (by assumption))⟩
end Go.Proofs.YtahohmdbiiknoaaDoor

/- From a law's walk to its row: the plain words, for every law of plain data that answers true and leaves what was there alone. -/
namespace Go.Proofs.YtahohmdbiiknoaaDoor
open Go.ChangeShapes Go.WideShapes Go.ChangeAt Go.RowKit

theorem own : ownKnob Tryd.prog.godebug = none := by kernel_rfl
theorem laidOut : laidOutB Tryd.prog = true := by kernel_rfl

section
variable {H : Type} {enc : TypeId × Value → H} {P : Program}

/-- What was read reads as it did, where nothing old has turned. -/
theorem trodAll_below (hl : laidOutB P = true) {W W' : World} (hb : Below W.heap.size W W') : ∀ (ts : List TypeId), (∀ t ∈ ts, P.readableRec t = true ∧ t < P.types.size) → ∀ (vs : List Value) (ds : List (DataW H)) (ps : List MemPlace),
    (∀ x ∈ ps, x.block < W.heap.size) → DataW.TrodAll enc P W 0 (fun _ => true) true ts vs ds ps → DataW.TrodAll enc P W' 0 (fun b => decide (b < W.heap.size)) true ts vs ds ps
  | [], _, vs, ds, ps, _, h => by
    obtain ⟨rfl, rfl, rfl⟩ := trodAll_nil h
    exact trodAll_mk0
  | t :: ts, hr, vs, ds, ps, hlt, h => by
    obtain ⟨v, vs', d, ds', p, q, rfl, rfl, rfl, h1, h2⟩ := trodAll_cons h
    have hrt := hr t (List.mem_cons_self ..)
    exact trodAll_cons_mk (Below.trod hl hrt.1 hrt.2 h1 hb fun x hx => hlt x (List.mem_append_left _ hx))
      (trodAll_below hl hb ts (fun t ht => hr t (List.mem_cons_of_mem _ ht)) vs' ds' q (fun x hx => hlt x (List.mem_append_right _ hx)) h2)

/-- A law's post: true, the arguments as they were. -/
theorem law_post {f : Func} {s : ChangeSpec} {W W' : World} {args : Array Value} {ds gs : List (DataW H)} {before : List MemPlace} {T : TypeId} (hl : laidOutB P = true)
    (hW : DataW.Whole enc P f.params.toList s.vars false W args.toList ds gs before) (hT : f.resultTypes = #[T]) (hu : P.underlying T = some .bool)
    (hr : ∀ t ∈ f.params.toList, P.readableRec t = true ∧ t < P.types.size) (hv : s.vars = []) (h1 : (s.fn H (ds ++ gs)).results = [.lit (.bool true)]) (h2 : (s.fn H (ds ++ gs)).args = ds) (h3 : (s.fn H (ds ++ gs)).vars = [])
    (hb : Below W.heap.size W W') : s.post enc P f false true false false W args (.bool true) W' := by
  have hlt := hW.lt
  obtain ⟨p, q, hA, hV, rfl, hfz, hnd⟩ := id hW
  rw [hv] at hV
  obtain ⟨rfl, rfl⟩ := trodVars_none hV
  refine ⟨ds, [], p ++ [], [], p, [], hW, ?_, ?_, ?_, hb.frame _, fun h => by cases h⟩
  · rw [h1, hT]; exact trodAll_mk1 (t := T) (v := .bool true) (shut_bool hu true)
  · rw [h2]; exact trodAll_below hl hb _ hr _ _ _ (fun x hx => hlt x (List.mem_append_left _ hx)) hA
  · rw [h3, hv]; rfl

/-- A string argument, as a list of bytes. -/
theorem open_text {r : Reach} {b0 base : Nat} {sp : Nat → Bool} {held : Bool} {w : World} {t : TypeId} {v : Value} {d : DataW H} {ps : List MemPlace} (ht : P.underlying t = some .string) (hval : Value.okWide P w r b0 t v) (hd : DataW.Trod enc P w base sp held t v d ps) :
    ∃ l : List UInt8, v = .string ⟨l.toArray⟩ ∧ l.length ≤ maxLen := by
  obtain ⟨s, rfl, _, _, hs⟩ := Go.ChangeMaps.open_string ht hval hd
  exact ⟨s.data.toList, rfl, hs⟩

/-- A slice of integers that came in. -/
theorem open_intSl {r : Reach} {b0 : Nat} {w : World} {t e : TypeId} {k : IntKind} {v : Value} {d : DataW H} {ps : List MemPlace} (ht : P.underlying t = some (.slice e)) (he : P.underlying e = some (.int k)) (hc : P.cellsOf e = 1)
    (hval : Value.okWide P w r b0 t v) (hd : DataW.Trod enc P w 0 (fun _ => true) true t v d ps) (hlt : ∀ x ∈ ps, x.block < w.heap.size) :
    ∃ xs : List Int, IntSl k w v xs ∧ SlBelow w.heap.size v ∧ xs.length ≤ maxLen ∧ ∀ n ∈ xs, (Lit.int k n).wf = true := by
  obtain ⟨a0, len, cap, rfl⟩ := okWide_slice ht hval
  obtain ⟨fuel, hf⟩ := hd
  rcases open_ints ht he hc hf with ⟨hcs, _⟩ | ⟨a, len', cap', zs, hcs, _, hl, hm, hz, hx, hcell, hwz⟩
  · simp [Value.cells] at hcs
    obtain ⟨rfl, rfl, rfl⟩ := hcs
    exact ⟨[], Or.inl ⟨rfl, _, _, rfl⟩, fun a n c h => by simp at h, Nat.zero_le _, by simp⟩
  · simp [Value.cells] at hcs
    obtain ⟨rfl, rfl, rfl⟩ := hcs
    simp only [if_true] at hz
    simp only [Prod.mk.injEq] at hx
    obtain ⟨rfl, rfl⟩ := hx
    have hblk : 0 < len → a.spot = none ∧ a.block < w.heap.size := by
      intro h0
      have hc0 := hcell 0 (by omega)
      have hs : a.spot = none := by simpa [Addr.add] using World.cell?_spot hc0
      have := World.block_lt_of_cell? w _ hc0
      refine ⟨hs, ?_⟩
      obtain ⟨b, off, spot⟩ := a
      simp at hs
      subst hs
      simpa [Addr.add] using this
    refine ⟨zs.take len, ?_, ?_, ?_, fun n hn => hwz n (List.mem_of_mem_take hn)⟩
    · by_cases h0 : len = 0
      · subst h0; exact Or.inl ⟨rfl, _, _, rfl⟩
      · obtain ⟨b, off, spot⟩ := a
        have hs := (hblk (by omega)).1
        simp at hs
        subst hs
        have hlen : (zs.take len).length = len := by rw [List.length_take]; omega
        refine Or.inr ⟨b, off, cap, by rw [hlen], fun j hj => ?_⟩
        have hj' : j < len := by omega
        have := hcell j (by omega)
        rw [add_plain] at this
        rw [this]
        simp [List.getD, hj']
    · intro a' n c h h0
      simp at h
      obtain ⟨rfl, rfl, rfl⟩ := h
      exact (hblk h0).2
    · rw [List.length_take]; omega
end
end Go.Proofs.YtahohmdbiiknoaaDoor

/- From a row's listed variables to what the walks ask: each listed variable by its name, wherever it stands on the list. -/
namespace Go.Proofs.YtahohmdbiiknoaaDoor
open Go.ChangeShapes Go.WideShapes Go.ChangeAt Go.RowKit

section
variable {P : Program}

theorem laidVars_mem : ∀ (l : List (String × DataW Unit)) (W : World) (ps : List MemPlace), DataW.LaidVars P W l ps → ∀ n d, (n, d) ∈ l →
    ∃ g t cs fuel p, P.globalNamed n = some g ∧ (P.globals[g]?).map (·.type) = some t ∧ W.var? P n = some cs ∧ DataW.trod (fun _ => ()) P W 0 (fun _ => true) false fuel t cs.toList = some (d, p)
  | [], _, _, _, n, d, hm => by simp at hm
  | (n0, d0) :: r, W, ps, h, n, d, hm => by
    obtain ⟨g, t, cs, fuel, p, q, h1, h2, h3, h4, h5, _⟩ := h
    rcases List.mem_cons.1 hm with hm | hm
    · injection hm with e1 e2
      subst e1 e2
      exact ⟨g, t, cs, fuel, p, h1, h2, h3, h4⟩
    · exact laidVars_mem r W q h5 n d hm

/-- A listed variable of one cell: its cell, and what it reads as. -/
theorem laid_one {l : List (String × DataW Unit)} {W : World} (h : laidMet P l W) {n : String} {d : DataW Unit} (hm : (n, d) ∈ l) {g t : Nat} (hg : P.globalNamed n = some g) (ht : (P.globals[g]?).map (·.type) = some t) :
    ∃ cs fuel p, W.var? P n = some cs ∧ DataW.trod (fun _ => ()) P W 0 (fun _ => true) false fuel t cs.toList = some (d, p) := by
  obtain ⟨ps, hl, _⟩ := h
  obtain ⟨g', t', cs, fuel, p, h1, h2, h3, h4⟩ := laidVars_mem l W ps hl n d hm
  obtain rfl := Option.some.inj (hg.symm.trans h1)
  obtain rfl := Option.some.inj (ht.symm.trans h2)
  exact ⟨cs, fuel, p, h3, h4⟩
theorem laid_cell {W : World} {n : String} {g : Nat} {cs : Array Value} {v : Value} (hg : P.globalNamed n = some g) (hv : W.var? P n = some cs) (hc : cs.toList = [v]) : W.cell? ⟨g, 0, none⟩ = some v := by
  have := World.var?_cell hg hv 0
  rw [Array.eq_one_of_toList hc] at this
  simpa using this
end
end Go.Proofs.YtahohmdbiiknoaaDoor

/- An array of texts that a row lists: its cells. -/
namespace Go.Proofs.YtahohmdbiiknoaaDoor
open Go.ChangeShapes Go.WideShapes Go.ChangeAt Go.RowKit

/-- Texts as a row lists them: an array. -/
def strD {H : Type} (L : List (List UInt8)) : DataW H := .agg (L.map fun s => .lit (.string s))
theorem cells_of_strs {H : Type} {enc : TypeId × Value → H} {P : Program} {w : World} {base : Nat} {sp : Nat → Bool} {held : Bool} {fuel : Nat} {t e : TypeId} {n : Nat} {cs : List Value} {L : List (List UInt8)} {p : List MemPlace}
    (ht : P.underlying t = some (.array n e)) (he : P.underlying e = some .string) (hce : P.cellsOf e = 1) (hct : P.cellsOf t = n)
    (h : DataW.trod enc P w base sp held fuel t cs = some (strD L, p)) : cs = L.map strV := by
  cases fuel with
  | zero => simp [DataW.trod] at h
  | succ fuel =>
    simp only [DataW.trod, ht, hce, hct, Nat.mul_one] at h
    split at h
    · obtain ⟨xs, hm, hx⟩ := Option.map_eq_some_iff.1 h
      have hxs : xs.map (·.1) = L.map fun s => (DataW.lit (.string s) : DataW H) := by
        have := congrArg Prod.fst hx
        simpa [strD] using this
      have hxl : xs.length = n := by simpa using Lib.mapM_length hm
      have hzl : L.length = n := by
        have := congrArg List.length hxs
        simp at this
        omega
      apply List.ext_getElem?
      intro i
      by_cases hi : i < n
      · obtain ⟨b, hb, hf⟩ := Lib.mapM_at hm i i (by simp [hi])
        obtain ⟨s, hc, rfl, _⟩ := DataW.trod_string he hf
        have h1 : cs[i]? = some (.string s) := by
          have := congrArg (·[0]?) hc
          simpa [List.getElem?_take, List.getElem?_drop] using this
        have h2 : (xs.map (·.1))[i]? = some (DataW.lit (.string s.data.toList) : DataW H) := by simp [hb]
        rw [hxs] at h2
        simp only [List.getElem?_map, Option.map_eq_some_iff, DataW.lit.injEq, Lit.string.injEq] at h2
        obtain ⟨z, hz, ez⟩ := h2
        subst ez
        rw [h1, List.getElem?_map, hz]
        rfl
      · rw [List.getElem?_eq_none (by omega), List.getElem?_eq_none (by simp; omega)]
    · cases h
/-- A listed array of texts lies in memory. -/
theorem range_of_laid {P : Program} {l : List (String × DataW Unit)} {W : World} (h : laidMet P l W) {nm : String} {L : List (List UInt8)} (hm : (nm, strD L) ∈ l) {g t e n : Nat} (hg : P.globalNamed nm = some g) (ht : (P.globals[g]?).map (·.type) = some t)
    (hu : P.underlying t = some (.array n e)) (he : P.underlying e = some .string) (hce : P.cellsOf e = 1) (hct : P.cellsOf t = n) : W.rangeAt g 0 (L.map strV) := by
  obtain ⟨cs, fuel, p, hv, hd⟩ := laid_one h hm hg ht
  have hc := cells_of_strs hu he hce hct hd
  intro j v hj
  have := World.var?_cell hg hv j
  rw [Nat.zero_add, this, ← hj, ← hc]
  simp
/-- A listed array of integers is a table. -/
theorem tab_of_laid13 {P : Program} {l : List (String × DataW Unit)} {W : World} (h : laidMet P l W) {nm : String} {k : IntKind} {zs : List Int} (hm : (nm, Lib.tabData k zs) ∈ l) {g t e n : Nat} (hg : P.globalNamed nm = some g) (ht : (P.globals[g]?).map (·.type) = some t)
    (hu : P.underlying t = some (.array n e)) (he : P.underlying e = some (.int k)) (hce : P.cellsOf e = 1) (hct : P.cellsOf t = n) : Lib.TabIs P W nm k zs := by
  obtain ⟨cs, fuel, p, hv, hd⟩ := laid_one h hm hg ht
  unfold Lib.TabIs
  rw [hv, ← Lib.cells_of_tab hu he hce hct hd]
end Go.Proofs.YtahohmdbiiknoaaDoor
