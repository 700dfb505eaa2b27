/- Layer 13: DateBack, DateOrder, DateZones. -/
import Derived.Test.YtjkppdjgacnfbaaDoorD13y
namespace Go.Proofs.YtjkppdjgacnfbaaDoor
open Go.RowKit

theorem date_is {Q y m d : Nat} (h : IsCiv Q y m d) {c : Int} (h0 : 0 ≤ (Q : Int) * 86400 + c) (h9 : (Q : Int) * 86400 + c ≤ 253402300799) : dateC ([], false) y m d c = ((Q : Int) * 86400 + c, true) := by
  have := date_read h.le h0 h9
  rwa [h.civ] at this
/-- What is written of seconds, and how it is read, with any zone. -/
theorem sec_read {n : Int} (h : ¬ (n < 0 ∨ 253402300799 < n)) : ∃ (D E : List UInt8) (y m d c : Nat), print39 n = D ++ [90] ∧ D.length = 19 ∧ print82 n = E ++ [71, 77, 84] ∧ E.length = 26 ∧
    (∀ z, Lib.hasPrefix z [46] = false → r3339C (D ++ z) = r3339f y m d c (z, false)) ∧ (∀ z, r822C (E ++ z) = r822g d m y ((c : Int), (z, false))) ∧
    ∀ x : Int, 0 ≤ n + x → n + x ≤ 253402300799 → dateC ([], false) y m d ((c : Int) + x) = (n + x, true) := by
  obtain ⟨N, y, m, d, k, c, rfl, hN, hc, hk, hcc, h39, h82⟩ := sec_form h
  have hl := (lenN_low (y := y) hc.m1 hc.m2).2
  have hd := hc.d2
  refine ⟨d39 y m d c, d82 k y m d c, y, m, d, c, by rw [h39, p39_eq], d39_len _ _ _ _, by rw [h82, p82_eq], d82_len (by omega) hc.m1 hc.m2 _ _ _, fun z hz => read39 hc.y2 (by have := hc.m2; omega) (by omega) (by omega) z hz, fun z => read82 (by omega) hc.y2 hc.m1 hc.m2 (by omega) (by omega) z, fun x h0 h1 => ?_⟩
  have e : ((N / 86400 : Nat) : Int) * 86400 + ((c : Int) + x) = (N : Int) + x := by omega
  rw [date_is hc (by rw [e]; exact h0) (by rw [e]; exact h1), e]
theorem back_read {n : Int} (h : ¬ (n < 0 ∨ 253402300799 < n)) : ∃ s t : List UInt8, print82 n = s ∧ print39 n = t ∧ s.length ≤ 1000000 ∧ t.length ≤ 1000000 ∧ r822C s = (n, true) ∧ r3339C t = (n, true) := by
  obtain ⟨D, E, y, m, d, c, e1, l1, e2, l2, h1, h2, h3⟩ := sec_read h
  have h4 := h3 0 (by omega) (by omega)
  rw [Int.add_zero, Int.add_zero] at h4
  refine ⟨_, _, e2, e1, by rw [List.length_append, l2]; decide, by rw [List.length_append, l1]; decide, ?_, ?_⟩
  · rw [h2, r822g_gmt, h4]
  · rw [h1 _ rfl, r3339f_z, h4]
theorem zone_read {n : Int} (h0 : 86400 ≤ n) (h1 : n ≤ 253402214399) {A M : Nat} (hA : A ≤ 23) (hM : M ≤ 59) : ∃ D E : List UInt8, print39 n = D ++ [90] ∧ D.length = 19 ∧ print82 n = E ++ [71, 77, 84] ∧ E.length = 26 ∧
    r3339C (D ++ (43 :: (two13 A ++ ([58] ++ two13 M)))) = (n - 3600 * (A : Int) - 60 * (M : Int), true) ∧ r822C (E ++ (45 :: (two13 A ++ two13 M))) = (n + 3600 * (A : Int) + 60 * (M : Int), true) := by
  obtain ⟨D, E, y, m, d, c, e1, l1, e2, l2, k1, k2, k3⟩ := sec_read (n := n) (by omega)
  refine ⟨D, E, e1, l1, e2, l2, ?_, ?_⟩
  · have e := k3 (-((A * 3600 + M * 60 : Nat) : Int)) (by omega) (by omega)
    rw [← Int.sub_eq_add_neg] at e
    rw [k1 _ rfl, r3339f_off hA hM, e]
    exact congrArg (fun x => (x, true)) (by omega)
  · have e := k3 ((A * 3600 + M * 60 : Nat) : Int) (by omega) (by omega)
    rw [k2, r822g_off hA hM, e]
    exact congrArg (fun x => (x, true)) (by omega)

set_option maxHeartbeats 1000000 in
theorem back13_law (n : Int) (w : World) (hE : Env13 w) : Calls Tryd.prog 6 #[.int .i64 n] w (LawPost w) := by
  have hA := At13.start hE
  clear hE
  have c1 := Lib.hid (fun W (hW : Hid (At13 w W)) => awake13_at hW)
  by_cases h : n < 0 ∨ 253402300799 < n
  · have c2 := Lib.hid (fun W (hW : Hid (At13 w W)) => p82_at hW (print82_no h))
    have c3 := Lib.hid (fun W (hW : Hid (At13 w W)) => p39_at hW (print39_no h))
    by_cases h0 : n < 0
    · clear h
      go_enter Tryd.func6, Tryd.ntmps6
      go_wp2_with fail
      refine (c1.out _ hA).mono ?_; rintro e w1 ⟨rfl, h1⟩
      go_wp2_with fail
      refine (c2.out _ h1).mono ?_; rintro e w2 ⟨rfl, h2⟩
      go_wp2_with fail
      refine (c3.out _ h2).mono ?_; rintro e w3 ⟨rfl, h3⟩
      go_wp2_with fail
      go_ret
      exact ⟨rfl, h3.out.2⟩
    · have h9 : (253402300799 : Int) < n := by omega
      clear h
      go_enter Tryd.func6, Tryd.ntmps6
      go_wp2_with fail
      refine (c1.out _ hA).mono ?_; rintro e w1 ⟨rfl, h1⟩
      go_wp2_with fail
      refine (c2.out _ h1).mono ?_; rintro e w2 ⟨rfl, h2⟩
      go_wp2_with fail
      refine (c3.out _ h2).mono ?_; rintro e w3 ⟨rfl, h3⟩
      go_wp2_with fail
      go_ret
      exact ⟨rfl, h3.out.2⟩
  · obtain ⟨s, t, e1, e2, l1, l2, e3, e4⟩ := back_read h
    have c2 := Lib.hid (fun W (hW : Hid (At13 w W)) => p82_at hW e1)
    have c3 := Lib.hid (fun W (hW : Hid (At13 w W)) => p39_at hW e2)
    have c4 := Lib.hid (fun W (hW : Hid (At13 w W)) => c822_at hW l1 e3)
    have c5 := Lib.hid (fun W (hW : Hid (At13 w W)) => c339_at hW l2 e4)
    have h0 : ¬ n < 0 := by omega
    have h9 : ¬ (253402300799 : Int) < n := by omega
    clear h e1 e2 e3 e4
    go_enter Tryd.func6, Tryd.ntmps6
    go_wp2_with fail
    refine (c2.out _ hA).mono ?_; rintro e w1 ⟨rfl, h1⟩
    go_wp2_with fail
    refine (c4.out _ h1).mono ?_; rintro e w2 ⟨rfl, h2⟩
    go_wp2_with fail
    refine (c3.out _ h2).mono ?_; rintro e w3 ⟨rfl, h3⟩
    go_wp2_with fail
    refine (c5.out _ h3).mono ?_; rintro e w4 ⟨rfl, h4⟩
    go_wp2_with fail
    refine (c1.out _ h4).mono ?_; rintro e w5 ⟨rfl, h5⟩
    go_wp2_with fail
    go_ret
    exact ⟨rfl, h5.out.2⟩

theorem days_zero : daysB 0 0 0 = (0, false) := rfl
set_option maxHeartbeats 1000000 in
theorem order13_law (n : Int) (w : World) (hE : Env13 w) : Calls Tryd.prog 7 #[.int .i64 n] w (LawPost w) := by
  have hA := At13.start hE
  clear hE
  have c1 := Lib.hid (fun W (hW : Hid (At13 w W)) => awake13_at hW)
  have c2 := fun W => civil13_any n W
  by_cases h : n < 0 ∨ 2932896 < n
  · rw [civB_no h] at c2
    unfold civV at c2
    simp only at c2
    have c3 := fun W => days13_any 0 0 0 (by omega) (by omega) W
    rw [days_zero] at c3
    simp only at c3
    replace c2 := Lib.hid c2
    replace c3 := Lib.hid c3
    by_cases h0 : n < 0
    · clear h
      go_enter Tryd.func7, Tryd.ntmps7
      go_wp2_with fail
      refine (c2.out _).mono ?_; rintro e w1 ⟨rfl, rfl⟩
      go_wp2_with fail
      refine (c3.out _).mono ?_; rintro e w1 ⟨rfl, rfl⟩
      go_wp2_with fail
      refine (c1.out _ hA).mono ?_; rintro e w1 ⟨rfl, h1⟩
      go_wp2_with fail
      go_ret
      exact ⟨rfl, h1.out.2⟩
    · have h9 : (2932896 : Int) < n := by omega
      clear h
      go_enter Tryd.func7, Tryd.ntmps7
      go_wp2_with fail
      refine (c2.out _).mono ?_; rintro e w1 ⟨rfl, rfl⟩
      go_wp2_with fail
      refine (c3.out _).mono ?_; rintro e w1 ⟨rfl, rfl⟩
      go_wp2_with fail
      refine (c1.out _ hA).mono ?_; rintro e w1 ⟨rfl, h1⟩
      go_wp2_with fail
      go_ret
      exact ⟨rfl, h1.out.2⟩
  · obtain ⟨N, rfl⟩ : ∃ N : Nat, n = N := ⟨n.toNat, by omega⟩
    have hN : N ≤ 2932896 := by omega
    rw [civB_yes hN] at c2
    have hc := civN_is hN
    obtain ⟨y, m, d, hq⟩ : ∃ y m d, civN N = (y, m, d) := ⟨_, _, _, rfl⟩
    rw [hq] at c2 hc
    unfold civV at c2
    simp only at c2 hc
    have c3 := fun W => days13_any y m d (by omega) (by have := hc.y2; omega) W
    rw [hc.days] at c3
    simp only at c3
    have hl31 := lenN_low (y := y) hc.m1 hc.m2
    have hli := lenN_int y m
    have hd31 : d ≤ 31 := by have := hc.d2; omega
    have hd1 := hc.d1
    have hm12 := hc.m2
    have hm1 := hc.m1
    have hy9 := hc.y2
    have c4 := fun W => length13_any y m (by omega) (by omega) W
    rw [← hli] at c4
    replace c3 := Lib.hid c3
    have c5 := fun W => civil13_any (((N + 1 : Nat)) : Int) W
    by_cases hlast : N = 2932896
    · subst hlast
      clear c5 c4 h hc hq hli hl31 hN
      replace c2 := Lib.hid c2
      go_enter Tryd.func7, Tryd.ntmps7
      go_wp2_with fail
      refine (c2.out _).mono ?_; rintro e w1 ⟨rfl, rfl⟩
      go_wp2_with fail
      refine (c3.out _).mono ?_; rintro e w1 ⟨rfl, rfl⟩
      go_wp2_with fail
      refine (c1.out _ hA).mono ?_; rintro e w1 ⟨rfl, h1⟩
      go_wp2_with fail
      go_ret
      exact ⟨rfl, h1.out.2⟩
    · rw [civB_yes (by omega)] at c5
      have hnext := hc.next (by omega)
      have g0 : ((N : Int) == 2932896) = false := by rw [beq_eq_false_iff_ne]; omega
      have g1 : ¬ ((N : Int) = 2932896) := by omega
      have e1 : (((N + 1 : Nat)) : Int) = (N : Int) + 1 := by omega
      rw [e1] at c5
      have hmm : ((m : Int) + 1 == (m : Int)) = false := by rw [beq_eq_false_iff_ne]; omega
      have hmm2 : ¬ ((m : Int) + 1 = (m : Int)) := by omega
      have hyy : ((y : Int) + 1 == (y : Int)) = false := by rw [beq_eq_false_iff_ne]; omega
      have hyy2 : ¬ ((y : Int) + 1 = (y : Int)) := by omega
      replace c2 := Lib.hid c2
      clear hq hli hl31 h hlast
      generalize lenN y m = L at *
      rcases hnext with ⟨hlt, hnx⟩ | ⟨hlt, h12, hnx⟩ | ⟨hlt, h12, hnx⟩
      · rw [hnx] at c5
        unfold civV at c5
        simp only at c5
        rw [show (((d + 1 : Nat)) : Int) = (d : Int) + 1 by omega] at c5
        replace c5 := Lib.hid c5
        clear hnx hc c4 hlt
        go_enter Tryd.func7, Tryd.ntmps7
        go_wp2_with fail
        refine (c2.out _).mono ?_; rintro e w1 ⟨rfl, rfl⟩
        go_wp2_with fail
        refine (c3.out _).mono ?_; rintro e w1 ⟨rfl, rfl⟩
        go_wp2_with fail
        refine (c5.out _).mono ?_; rintro e w1 ⟨rfl, rfl⟩
        go_wp2_with fail
        refine (c1.out _ hA).mono ?_; rintro e w1 ⟨rfl, h1⟩
        go_wp2_with fail
        go_ret
        exact ⟨rfl, h1.out.2⟩
      · rw [hnx] at c5
        unfold civV at c5
        simp only at c5
        rw [show (((m + 1 : Nat)) : Int) = (m : Int) + 1 by omega] at c5
        subst hlt
        replace c4 := Lib.hid c4
        replace c5 := Lib.hid c5
        clear hnx hc h12
        go_enter Tryd.func7, Tryd.ntmps7
        go_wp2_with fail
        refine (c2.out _).mono ?_; rintro e w1 ⟨rfl, rfl⟩
        go_wp2_with fail
        refine (c3.out _).mono ?_; rintro e w1 ⟨rfl, rfl⟩
        go_wp2_with fail
        refine (c5.out _).mono ?_; rintro e w1 ⟨rfl, rfl⟩
        go_wp2_with fail
        refine (c4.out _).mono ?_; rintro e w1 ⟨rfl, rfl⟩
        go_wp2_with fail
        refine (c1.out _ hA).mono ?_; rintro e w1 ⟨rfl, h1⟩
        go_wp2_with fail
        go_ret
        exact ⟨rfl, h1.out.2⟩
      · rw [hnx] at c5
        unfold civV at c5
        simp only at c5
        rw [show (((y + 1 : Nat)) : Int) = (y : Int) + 1 by omega] at c5
        subst hlt h12
        replace c4 := Lib.hid c4
        replace c5 := Lib.hid c5
        clear hnx hc
        go_enter Tryd.func7, Tryd.ntmps7
        go_wp2_with fail
        refine (c2.out _).mono ?_; rintro e w1 ⟨rfl, rfl⟩
        go_wp2_with fail
        refine (c3.out _).mono ?_; rintro e w1 ⟨rfl, rfl⟩
        go_wp2_with fail
        refine (c5.out _).mono ?_; rintro e w1 ⟨rfl, rfl⟩
        go_wp2_with fail
        refine (c4.out _).mono ?_; rintro e w1 ⟨rfl, rfl⟩
        go_wp2_with fail
        refine (c1.out _ hA).mono ?_; rintro e w1 ⟨rfl, h1⟩
        go_wp2_with fail
        go_ret
        exact ⟨rfl, h1.out.2⟩

theorem conv_two (A : Nat) (W : World) : (convert 34 9 (.slice (some ⟨W.heap.size, 0, none⟩) 2 2)).run Tryd.prog (W.alloc (.cells #[.int .u8 (48 + ((A / 10 : Nat) : Int)), .int .u8 (48 + ((A % 10 : Nat) : Int))] 5)) =
    .ok (.string ⟨(two13 A).toArray⟩) (W.alloc (.cells #[.int .u8 (48 + ((A / 10 : Nat) : Int)), .int .u8 (48 + ((A % 10 : Nat) : Int))] 5)) := by
  have := run_str_new (P := Tryd.prog) W 34 9 5 5 Tryd.underlying34 Tryd.underlying5 Tryd.underlying9 [48 + ((A / 10 : Nat) : Int), 48 + ((A % 10 : Nat) : Int)] 2 2 rfl
  simp only [List.map_cons, List.map_nil, u8_dig] at this
  exact this
theorem At13.alloc {w0 w : World} (h : Hid (At13 w0 w)) (o : Obj) : Hid (At13 w0 (w.alloc o)) := h.out.next ((Below.refl _ _).alloc (Nat.le_refl _) o)
theorem c339_eq {w0 w : World} (h : Hid (At13 w0 w)) {k : List UInt8} (hl : k.length ≤ 1000000) {a : Int} {b : Bool} (q : r3339C k = (a, b)) (l : List UInt8) (e : l = k) :
    Calls Tryd.prog 12 #[.string ⟨l.toArray⟩] w fun e w' => e = .returned (.tuple #[.int .i64 a, .bool b]) ∧ Hid (At13 w0 w') := by
  subst e; exact c339_at h hl q
theorem c822_eq {w0 w : World} (h : Hid (At13 w0 w)) {k : List UInt8} (hl : k.length ≤ 1000000) {a : Int} {b : Bool} (q : r822C k = (a, b)) (l : List UInt8) (e : l = k) :
    Calls Tryd.prog 10 #[.string ⟨l.toArray⟩] w fun e w' => e = .returned (.tuple #[.int .i64 a, .bool b]) ∧ Hid (At13 w0 w') := by
  subst e; exact c822_at h hl q
theorem take_front (D z : List UInt8) {k : Nat} (h : D.length = k) : (D ++ z).take k = D := by subst h; exact List.take_left

set_option maxHeartbeats 1000000 in
theorem zones13_law (n a b : Int) (w : World) (ha : (Lit.int .u8 a).wf = true) (hb : (Lit.int .u8 b).wf = true) (hE : Env13 w) : Calls Tryd.prog 8 #[.int .i64 n, .int .u8 a, .int .u8 b] w (LawPost w) := by
  have hA := At13.start hE
  clear hE
  obtain ⟨a0, a1⟩ := bd_u8 ha
  obtain ⟨b0, b1⟩ := bd_u8 hb
  clear ha hb
  have c1 := Lib.hid (fun W (hW : Hid (At13 w W)) => awake13_at hW)
  by_cases h0 : n < 86400
  · go_enter Tryd.func8, Tryd.ntmps8
    go_wp2_with fail
    refine (c1.out _ hA).mono ?_; rintro e w1 ⟨rfl, h1⟩
    go_wp2_with fail
    go_ret
    exact ⟨rfl, h1.out.2⟩
  by_cases h9 : (253402214399 : Int) < n
  · go_enter Tryd.func8, Tryd.ntmps8
    go_wp2_with fail
    refine (c1.out _ hA).mono ?_; rintro e w1 ⟨rfl, h1⟩
    go_wp2_with fail
    go_ret
    exact ⟨rfl, h1.out.2⟩
  have n0 : 86400 ≤ n := by omega
  have n9 : n ≤ 253402214399 := by omega
  obtain ⟨A, hA24⟩ : ∃ A : Nat, a % 24 = A := ⟨(a % 24).toNat, by omega⟩
  obtain ⟨M, hM60⟩ : ∃ M : Nat, b % 60 = M := ⟨(b % 60).toNat, by omega⟩
  have t1 : a.tmod 24 = A := by rw [Int.tmod_eq_emod_of_nonneg a0]; exact hA24
  have t2 : b.tmod 60 = M := by rw [Int.tmod_eq_emod_of_nonneg b0]; exact hM60
  have lA : A ≤ 23 := by omega
  have lM : M ≤ 59 := by omega
  obtain ⟨D, E, e1, l1, e2, l2, k1, k2⟩ := zone_read n0 n9 lA lM
  have f1 := take_front D [90] l1
  have f2 := take_front E [71, 77, 84] l2
  have g1 : (D ++ [90]).length = 20 := by rw [List.length_append, l1]; rfl
  have g2 : (E ++ [71, 77, 84]).length = 29 := by rw [List.length_append, l2]; rfl
  have c2 := Lib.hid (fun W (hW : Hid (At13 w W)) => p39_at hW e1)
  have c3 := Lib.hid (fun W (hW : Hid (At13 w W)) => p82_at hW e2)
  have v1 := conv_two A w
  have v2 := conv_two M (w.alloc (.cells #[.int .u8 (48 + ((A / 10 : Nat) : Int)), .int .u8 (48 + ((A % 10 : Nat) : Int))] 5))
  rw [show (w.alloc (.cells #[.int .u8 (48 + ((A / 10 : Nat) : Int)), .int .u8 (48 + ((A % 10 : Nat) : Int))] 5)).heap.size = w.heap.size + 1 by simp] at v2
  have m1 : (two13 A).length = 2 := rfl
  have m2 : (two13 M).length = 2 := rfl
  have c4 := Lib.hid (fun W (hW : Hid (At13 w W)) => c339_eq hW (by simp [l1, m1, m2]) k1)
  have c5 := Lib.hid (fun W (hW : Hid (At13 w W)) => c822_eq hW (by simp [l2, m1, m2]) k2)
  have q1 : (A : Int).tdiv 10 = ((A / 10 : Nat) : Int) := by rw [Int.tdiv_eq_ediv_of_nonneg (by omega)]; omega
  have q2 : (A : Int).tmod 10 = ((A % 10 : Nat) : Int) := by rw [Int.tmod_eq_emod_of_nonneg (by omega)]; omega
  have q3 : (M : Int).tdiv 10 = ((M / 10 : Nat) : Int) := by rw [Int.tdiv_eq_ediv_of_nonneg (by omega)]; omega
  have q4 : (M : Int).tmod 10 = ((M % 10 : Nat) : Int) := by rw [Int.tmod_eq_emod_of_nonneg (by omega)]; omega
  have r1 : A / 10 ≤ 9 := by omega
  have r2 : A % 10 ≤ 9 := by omega
  have r3 : M / 10 ≤ 9 := by omega
  have r4 : M % 10 ≤ 9 := by omega
  clear k1 k2 e1 e2
  generalize A / 10 = x1 at *
  generalize A % 10 = x2 at *
  generalize M / 10 = x3 at *
  generalize M % 10 = x4 at *
  generalize two13 A = TA at *
  generalize two13 M = TM at *
  generalize D ++ [90] = DD at *
  generalize E ++ [71, 77, 84] = EE at *
  go_enter Tryd.func8, Tryd.ntmps8
  go_wp2_with fail
  refine (c2.out _ (At13.alloc (At13.alloc hA _) _)).mono ?_; rintro e w1 ⟨rfl, h1⟩
  go_wp2_with fail
  refine (c3.out _ h1).mono ?_; rintro e w2 ⟨rfl, h2⟩
  go_wp2_with fail
  refine (c4.out _ h2 _ (by simp)).mono ?_; rintro e w3 ⟨rfl, h3⟩
  go_wp2_with fail
  refine (c5.out _ h3 _ (by simp)).mono ?_; rintro e w4 ⟨rfl, h4⟩
  go_wp2_with fail
  refine (c1.out _ h4).mono ?_; rintro e w5 ⟨rfl, h5⟩
  go_wp2_with fail
  go_ret
  exact ⟨rfl, h5.out.2⟩
end Go.Proofs.YtjkppdjgacnfbaaDoor
