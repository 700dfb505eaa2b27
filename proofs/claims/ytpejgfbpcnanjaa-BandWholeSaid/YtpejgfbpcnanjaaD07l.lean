/- The walks of layer 7's laws. -/
import Derived.Test.YtpejgfbpcnanjaaD06a
import Derived.Test.YtpejgfbpcnanjaaD07b
namespace Go.Proofs.Ytpejgfbpcnanjaa
open Go.RowKit

theorem U64s.rd {w : World} {B : Nat} {v : Value} {xs : List Int} (h : U64s w B v xs) : RdSl .u64 w v xs := ⟨h.sl, h.low⟩
/-- A call that only computes and draws, met within a region that draws. -/
theorem Calls.drawn_on {P : Program} {f : FuncId} {args : Array Value} {w : World} {n : Nat} {v : Value} (h : ∀ W, Calls P f args W fun e w' => e = .returned v ∧ Drawn W w') :
    Calls P f args (w.drewN n) fun e w' => e = .returned v ∧ ∃ m, w' = w.drewN m :=
  (h _).mono fun _ _ hh => ⟨hh.1, by obtain ⟨m, rfl⟩ := hh.2; exact ⟨n + m, by simp⟩⟩

theorem band_ex0 : bandsB 18374686479671623681 3 = [1, 0, 0, 65280] := by decide +kernel
theorem band_ex1 : widB 4 0 = 13 := by decide +kernel
theorem band_ex2 : widB 4 4 = 12 := by decide +kernel
theorem band_ex3 : begB 4 4 = 52 := by decide +kernel
theorem band_ex4 : bandB 7 0 0 = 7 := by decide +kernel
theorem band_ex5 : mayB 16 = false := by decide +kernel

set_option maxHeartbeats 400000 in
theorem awake7_any (w : World) : Calls Try.prog 9 #[] w (LawPost w) := by
  have c0 := Lib.hid (bands_any 18374686479671623681 3 w (by omega) (by omega))
  have c1 := fun W => width_any 4 0 W
  have c2 := fun W => width_any 4 4 W
  have c3 := fun W => start_any 4 4 W
  have c4 := fun W => band_any 7 0 0 W (by omega) (by omega)
  have c5 := fun W => check_any 16 W
  rw [band_ex1] at c1
  rw [band_ex2] at c2
  rw [band_ex3] at c3
  rw [band_ex4] at c4
  rw [band_ex5] at c5
  replace c1 := Lib.hid c1
  replace c2 := Lib.hid c2
  replace c3 := Lib.hid c3
  replace c4 := Lib.hid c4
  replace c5 := Lib.hid c5
  go_enter Try.func9, Try.ntmps9
  go_wp2_with fail
  refine c0.out.mono ?_; rintro e w1 ⟨v1, rfl, ho, hb⟩
  rw [band_ex0] at ho
  obtain ⟨b, off, c, rfl, hcell⟩ := ho.sl.some (by simp)
  have g0 := hcell 0 (by simp)
  have g3 := hcell 3 (by simp)
  simp only [Nat.add_zero, List.getD_cons_zero, List.getD_cons_succ] at g0 g3
  replace hb := Lib.hid hb
  clear ho hcell
  go_wp2_with fail
  refine (c1.out _).mono ?_; rintro e w2 ⟨rfl, hd⟩
  replace hb := Lib.hid (hb.out.trans (hd.below _)); clear hd
  go_wp2_with fail
  refine (c2.out _).mono ?_; rintro e w3 ⟨rfl, hd⟩
  replace hb := Lib.hid (hb.out.trans (hd.below _)); clear hd
  go_wp2_with fail
  refine (c3.out _).mono ?_; rintro e w4 ⟨rfl, hd⟩
  replace hb := Lib.hid (hb.out.trans (hd.below _)); clear hd
  go_wp2_with fail
  refine (c4.out _).mono ?_; rintro e w5 ⟨rfl, hd⟩
  replace hb := Lib.hid (hb.out.trans (hd.below _)); clear hd
  go_wp2_with fail
  refine (c5.out _).mono ?_; rintro e w6 ⟨rfl, rfl⟩
  go_wp2_with fail
  go_ret
  exact ⟨rfl, hb.out⟩

/-- What is near shares a band. -/
theorem share_near (a b d : Int) (a0 : 0 ≤ a) (a1 : a ≤ 18446744073709551615) (b0 : 0 ≤ b) (b1 : b ≤ 18446744073709551615) (hm : mayB d = true) (hd : ¬ d < distB a b) : shareB a b d = true := by
  obtain ⟨n, rfl, hn⟩ := may_form hm
  unfold shareB
  rw [hm, Bool.true_and]
  rcases h : shTo a.toNat b.toNat n (n + 1) with _ | _
  · have h1 := apart_le hn (n + 1) (Nat.le_refl _) h
    rw [st_all n hn] at h1
    rw [distB_nat a b a0 a1 b0 b1] at hd
    omega
  · exact h

set_option maxHeartbeats 400000 in
theorem shares07_law (a b d : Int) (w : World) (ha : (Lit.int .u64 a).wf = true) (hb : (Lit.int .u64 b).wf = true) : Calls Try.prog 4 #[.int .u64 a, .int .u64 b, .int .i64 d] w (LawPost w) := by
  obtain ⟨a0, a1⟩ := bd_u64 ha
  obtain ⟨b0, b1⟩ := bd_u64 hb
  clear ha hb
  have c1 := Lib.hid (shared_any a b d w a0 a1 b0 b1)
  have c2 := fun W => refshared_any a b d W a0 a1 b0 b1
  have c3 := fun W => check_any d W
  have c4 := fun W => refdist_any a b W a0 a1 b0 b1
  have hs := share_near a b d a0 a1 b0 b1
  generalize shareB a b d = x at c1 c2 hs
  generalize mayB d = m at c3 hs
  generalize distB a b = y at c4 hs
  replace c2 := Lib.hid c2
  replace c3 := Lib.hid c3
  replace c4 := Lib.hid c4
  replace hs := Lib.hid hs
  cases m
  case false =>
    cases x
    all_goals
      clear hs c4
      go_enter Try.func4, Try.ntmps4
      go_wp2_with fail
      refine c1.out.mono ?_; rintro e w1 ⟨rfl, hd⟩
      replace hd := Lib.hid hd
      go_wp2_with fail
      refine (awake7_any w1).mono ?_; rintro e w2 ⟨rfl, hb⟩
      have hb2 := Lib.hid ((hd.out.below _).andThen hb); clear hb hd
      go_wp2_with fail
      refine (c2.out _).mono ?_; rintro e w3 ⟨rfl, rfl⟩
      go_wp2_with fail
      refine (c3.out _).mono ?_; rintro e w3 ⟨rfl, rfl⟩
      go_wp2_with fail
      go_ret
      exact ⟨rfl, hb2.out⟩
  case true =>
    by_cases hgt : d < y
    · clear hs
      cases x
      all_goals
        go_enter Try.func4, Try.ntmps4
        go_wp2_with fail
        refine c1.out.mono ?_; rintro e w1 ⟨rfl, hd⟩
        replace hd := Lib.hid hd
        go_wp2_with fail
        refine (awake7_any w1).mono ?_; rintro e w2 ⟨rfl, hb⟩
        have hb2 := Lib.hid ((hd.out.below _).andThen hb); clear hb hd
        go_wp2_with fail
        refine (c2.out _).mono ?_; rintro e w3 ⟨rfl, rfl⟩
        go_wp2_with fail
        refine (c3.out _).mono ?_; rintro e w3 ⟨rfl, rfl⟩
        go_wp2_with fail
        refine (c4.out _).mono ?_; rintro e w3 ⟨rfl, rfl⟩
        go_wp2_with fail
        go_ret
        exact ⟨rfl, hb2.out⟩
    · obtain rfl := hs.out rfl hgt
      clear hs
      go_enter Try.func4, Try.ntmps4
      go_wp2_with fail
      refine c1.out.mono ?_; rintro e w1 ⟨rfl, hd⟩
      replace hd := Lib.hid hd
      go_wp2_with fail
      refine (awake7_any w1).mono ?_; rintro e w2 ⟨rfl, hb⟩
      have hb2 := Lib.hid ((hd.out.below _).andThen hb); clear hb hd
      go_wp2_with fail
      refine (c2.out _).mono ?_; rintro e w3 ⟨rfl, rfl⟩
      go_wp2_with fail
      refine (c3.out _).mono ?_; rintro e w3 ⟨rfl, rfl⟩
      go_wp2_with fail
      refine (c4.out _).mono ?_; rintro e w3 ⟨rfl, rfl⟩
      go_wp2_with fail
      go_ret
      exact ⟨rfl, hb2.out⟩

set_option maxHeartbeats 1000000 in
theorem cuts07_law (s d i : Int) (w : World) (hs : (Lit.int .u64 s).wf = true) : Calls Try.prog 3 #[.int .u64 s, .int .i64 d, .int .i64 i] w (LawPost w) := by
  obtain ⟨s0, s1⟩ := bd_u64 hs
  clear hs
  have c0 := Lib.hid (bands_any s d w s0 s1)
  have c0' := fun W => refbands_any s d W s0 s1
  have c1 := fun W => check_any d W
  have c1' := fun W => refcheck_any d W
  have c2 := fun W => width_any d i W
  have c2' := fun W => refwidth_any d i W
  have c3 := fun W => start_any d i W
  have c3' := fun W => refstart_any d i W
  have c4 := fun W => band_any s d i W s0 s1
  have c4' := fun W => refband_any s d i W s0 s1
  have hml := bandsB_lenle s d
  unfold BandsPost at c0 c0'
  generalize bandsB s d = ys at c0 c0' hml
  generalize mayB d = m at c1 c1'
  generalize widB d i = x at c2 c2'
  generalize begB d i = y at c3 c3'
  generalize bandB s d i = z at c4 c4'
  replace c0' := Lib.hid c0'
  replace c1 := Lib.hid c1
  replace c1' := Lib.hid c1'
  replace c2 := Lib.hid c2
  replace c2' := Lib.hid c2'
  replace c3 := Lib.hid c3
  replace c3' := Lib.hid c3'
  replace c4 := Lib.hid c4
  replace c4' := Lib.hid c4'
  go_enter Try.func3, Try.ntmps3
  go_wp2_with fail
  refine c0.out.mono ?_; rintro e w1 ⟨v1, rfl, ho1, hb1⟩
  replace ho1 := Lib.hid ho1.rd
  replace hb1 := Lib.hid hb1
  go_wp2_with fail
  refine (c0'.out _).mono ?_; rintro e w2 ⟨v2, rfl, ho2, hb2⟩
  replace ho1 := Lib.hid (ho1.out.next hb2)
  replace ho2 := Lib.hid ho2.rd
  replace hb1 := Lib.hid (hb1.out.andThen hb2)
  clear hb2
  obtain ⟨a1, c1x, rfl⟩ := ho1.out.sl.form
  obtain ⟨a2, c2x, rfl⟩ := ho2.out.sl.form
  go_wp2_with fail
  refine (awake7_any _).mono ?_; rintro e w3 ⟨rfl, hb3⟩
  replace ho1 := Lib.hid (ho1.out.next hb3)
  replace ho2 := Lib.hid (ho2.out.next hb3)
  replace hb1 := Lib.hid (hb1.out.andThen hb3)
  clear hb3
  go_wp2_with fail
  refine (c1.out _).mono ?_; rintro e w4 ⟨rfl, rfl⟩
  go_wp2_with fail
  refine (c1'.out _).mono ?_; rintro e w4 ⟨rfl, rfl⟩
  go_wp2_with fail
  refine (c2.out _).mono ?_; rintro e w4 ⟨rfl, hd⟩
  replace ho1 := Lib.hid (ho1.out.next (hd.below _))
  replace ho2 := Lib.hid (ho2.out.next (hd.below _))
  replace hb1 := Lib.hid (hb1.out.andThen (hd.below _))
  clear hd
  go_wp2_with fail
  refine (c2'.out _).mono ?_; rintro e w5 ⟨rfl, rfl⟩
  go_wp2_with fail
  refine (c3.out _).mono ?_; rintro e w5 ⟨rfl, hd⟩
  replace ho1 := Lib.hid (ho1.out.next (hd.below _))
  replace ho2 := Lib.hid (ho2.out.next (hd.below _))
  replace hb1 := Lib.hid (hb1.out.andThen (hd.below _))
  clear hd
  go_wp2_with fail
  refine (c3'.out _).mono ?_; rintro e w6 ⟨rfl, rfl⟩
  go_wp2_with fail
  refine (c4.out _).mono ?_; rintro e w6 ⟨rfl, hd⟩
  replace ho1 := Lib.hid (ho1.out.next (hd.below _))
  replace ho2 := Lib.hid (ho2.out.next (hd.below _))
  replace hb1 := Lib.hid (hb1.out.andThen (hd.below _))
  clear hd
  go_wp2_with fail
  refine (c4'.out _).mono ?_; rintro e w7 ⟨rfl, rfl⟩
  clear c0 c0' c1 c1' c2 c2' c3 c3' c4 c4'
  go_wp2_with fail
  go_loopw [9] (fun i wr => ∃ k : Nat, i = .int .i64 k ∧ k ≤ ys.length ∧ Hid (RdSl .u64 wr (.slice a1 ys.length c1x) ys ∧ RdSl .u64 wr (.slice a2 ys.length c2x) ys ∧ Below w.heap.size w wr)) (fun i _ => ys.length - (intOf i).toNat)
  case atStart => exact ⟨0, rfl, Nat.zero_le _, ho1.out, ho2.out, hb1.out⟩
  case round =>
    clear ho1 ho2 hb1
    obtain ⟨k, rfl, hk, hr⟩ := hrel
    by_cases hlt : k < ys.length
    · have hne : ys ≠ [] := by intro e; subst e; simp at hlt
      obtain ⟨b1, o1, c1', e1, h1⟩ := hr.out.1.sl.some hne
      injection e1 with e1 e1a e1b
      clear e1a
      subst e1 e1b
      obtain ⟨b2, o2, c2', e2, h2⟩ := hr.out.2.1.sl.some hne
      injection e2 with e2 e2a e2b
      clear e2a
      subst e2 e2b
      have g1 := h1 k hlt
      have g2 := h2 k hlt
      generalize ys.getD k 0 = y at g1 g2
      clear h1 h2 hne
      have k0 : (0 : Int) ≤ k := by omega
      have k1 : (k : Int) < ys.length := by omega
      go_wp2_with fail
      go_quiet (fail)
      go_wp2_with fail
      have hd : ∀ n, Below wr.heap.size wr (wr.drewN n) := fun n => Drawn.below ⟨n, rfl⟩ _
      exact ⟨⟨k + 1, by go_num, by omega, hr.out.1.next (hd _), hr.out.2.1.next (hd _), hr.out.2.2.andThen (hd _)⟩, by simp [intOf]; omega⟩
    · have hke : ¬ ((k : Int) < ys.length) := by omega
      go_wp2_with fail
      go_ret
      exact ⟨rfl, hr.out.2.2⟩

theorem st_lt {n k : Nat} (hn : n < 16) (hk : k ≤ n) : stN n k < 64 := by have := st_le hn hk; have := wd_pos hn hk; omega
theorem st_bd {n k : Nat} (hn : n < 16) (hk : k ≤ n + 1) : stN n k ≤ 64 := by
  rcases Nat.lt_or_ge n k with h | h
  · rw [show k = n + 1 by omega, st_all n hn]; omega
  · have := st_le hn h; omega

set_option maxHeartbeats 1000000 in
theorem apart07_law (s d : Int) (w : World) (hs : (Lit.int .u64 s).wf = true) (hd : (Lit.int .u8 d).wf = true) : Calls Try.prog 6 #[.int .u64 s, .int .u8 d] w (LawPost w) := by
  obtain ⟨s0, s1⟩ := bd_u64 hs
  obtain ⟨d0, d1⟩ := bd_u8 hd
  clear hs hd
  obtain ⟨n, hN⟩ : ∃ n : Nat, d % 16 = (n : Int) := ⟨(d % 16).toNat, by omega⟩
  have hn : n < 16 := by omega
  go_enter Try.func6, Try.ntmps6
  go_wp2_with fail
  rw [hN]
  go_loopw [6, 7] (fun t i wr => ∃ k : Nat, k ≤ n + 1 ∧ i = .int .i64 k ∧ t = .int .u64 ((s.toNat ^^^ markN n k : Nat) : Int) ∧ Hid (w = wr)) (fun _ i _ => n + 1 - (intOf i).toNat)
  case atStart => exact ⟨0, by omega, rfl, by show _ = Value.int .u64 ((s.toNat ^^^ 0 : Nat) : Int); rw [Nat.xor_zero, Int.toNat_of_nonneg s0], rfl⟩
  case round =>
    obtain ⟨k, hk, rfl, rfl, hw⟩ := hrel
    by_cases hlt : k < n + 1
    · have hp := fun W => refstart_any n k W
      rw [begB_nat hn (by omega)] at hp
      have hp6 := st_lt hn (show k ≤ n by omega)
      have hm := mark_facts n hn k (by omega) (by omega)
      have hx : bits .xor .u64 ((s.toNat ^^^ markN n k : Nat) : Int) (2 ^ stN n k) = ((s.toNat ^^^ markN n (k + 1) : Nat) : Int) := by
        have h2 := pow_lt _ hp6
        have h4 : ((2 : Int) ^ stN n k) = ((2 ^ stN n k : Nat) : Int) := by simp
        have h5 : markN n k < 2 ^ 64 := by
          have := hm.2.1
          have e : markN n (k + 1) = markN n k + 2 ^ stN n k := rfl
          omega
        have h6 : s.toNat ^^^ markN n k < 2 ^ 64 := Nat.xor_lt_two_pow (by omega) h5
        rw [h4, bits_xor_u64_nat _ _ (by omega) (by omega), Nat.xor_assoc, hm.1]
      have hwb := wrap_bit _ hp6
      clear hm
      generalize stN n k = p at hp hp6 hx hwb
      generalize s.toNat ^^^ markN n k = x at hx ⊢
      generalize hX : s.toNat ^^^ markN n (k + 1) = x' at hx ⊢
      replace hX := Lib.hid hX
      replace hp := Lib.hid hp
      have hlt' : (k : Int) ≤ (n : Int) := by omega
      have hlt2 : k ≤ n := by omega
      go_wp2_with fail
      refine (hp.out _).mono ?_; rintro e w1 ⟨rfl, rfl⟩
      go_wp2_with fail
      exact ⟨⟨k + 1, by omega, by go_num, by rw [hX.out], hw⟩, by simp [intOf]; omega⟩
    · have hke : ¬ ((k : Int) ≤ (n : Int)) := by omega
      have hke2 : ¬ (k ≤ n) := by omega
      obtain rfl : k = n + 1 := by omega
      have hM : s.toNat ^^^ markN n (n + 1) < 2 ^ 64 := Nat.xor_lt_two_pow (by omega) (mark_facts n hn n hn (Nat.le_refl _)).2.1
      have c1 := fun W => shared_any s ((s.toNat ^^^ markN n (n + 1) : Nat) : Int) n W s0 s1 (by omega) (by omega)
      have c2 := fun W => shared_any s s n W s0 s1 s0 s1
      have c3 := fun W => refdist_any s ((s.toNat ^^^ markN n (n + 1) : Nat) : Int) W s0 s1 (by omega) (by omega)
      rw [show shareB s ((s.toNat ^^^ markN n (n + 1) : Nat) : Int) n = false by unfold shareB; rw [may_nat hn, Bool.true_and]; exact mark_apart hn (n + 1) (Nat.le_refl _)] at c1
      rw [show shareB s s n = true by unfold shareB; rw [may_nat hn, Bool.true_and]; exact shTo_yes (Nat.lt_succ_self _) rfl] at c2
      rw [show distB s ((s.toNat ^^^ markN n (n + 1) : Nat) : Int) = (n : Int) + 1 by rw [distB_nat _ _ s0 s1 (by omega) (by omega), Int.toNat_natCast, ← Nat.xor_assoc, Nat.xor_self, Nat.zero_xor, mark_wt n hn]; rfl] at c3
      generalize s.toNat ^^^ markN n (n + 1) = x at c1 c3 ⊢
      replace c1 := Lib.hid c1
      replace c2 := Lib.hid c2
      replace c3 := Lib.hid c3
      clear hM
      go_wp2_with fail
      refine (awake7_any _).mono ?_; rintro e w2 ⟨rfl, hb⟩
      replace hb := Lib.hid (show Below w.heap.size w w2 by rw [hw.out]; exact hb)
      go_wp2_with fail
      refine (c1.out _).mono ?_; rintro e w3 ⟨rfl, hd⟩
      replace hb := Lib.hid (hb.out.trans (hd.below _)); clear hd
      go_wp2_with fail
      refine (c2.out _).mono ?_; rintro e w3 ⟨rfl, hd⟩
      replace hb := Lib.hid (hb.out.trans (hd.below _)); clear hd
      go_wp2_with fail
      refine (c3.out _).mono ?_; rintro e w3 ⟨rfl, rfl⟩
      go_wp2_with fail
      go_ret
      exact ⟨rfl, hb.out⟩

theorem wd_even {n k : Nat} (hn : n < 16) (hk : k ≤ n) : 64 / (n + 1) ≤ wdN n k ∧ wdN n k ≤ 64 / (n + 1) + 1 := (cut_facts n hn k (by omega) hk).2.2.2

set_option maxHeartbeats 1000000 in
set_option maxRecDepth 100000 in
theorem whole07_law (s d : Int) (w : World) (hs : (Lit.int .u64 s).wf = true) (hd : (Lit.int .u8 d).wf = true) : Calls Try.prog 5 #[.int .u64 s, .int .u8 d] w (LawPost w) := by
  obtain ⟨s0, s1⟩ := bd_u64 hs
  obtain ⟨d0, d1⟩ := bd_u8 hd
  clear hs hd
  obtain ⟨n, hN⟩ : ∃ n : Nat, d % 16 = (n : Int) := ⟨(d % 16).toNat, by omega⟩
  have hn : n < 16 := by omega
  have c0 := Lib.hid (bands_any s n w s0 s1)
  have hlen := bandsB_len s hn
  go_enter Try.func5, Try.ntmps5
  go_wp2_with fail
  rw [hN]
  refine c0.out.mono ?_; rintro e w1 ⟨v1, rfl, ho1, hb1⟩
  obtain ⟨a1, c1, rfl⟩ := own_form ho1
  rw [hlen] at ho1 ⊢
  replace ho1 := Lib.hid ho1.rd
  replace hb1 := Lib.hid hb1
  clear c0
  go_wp2_with fail
  go_loopw [7, 8, 9] (fun t b i wr => ∃ k : Nat, k ≤ n + 1 ∧ i = .int .i64 k ∧ b = .int .i64 (stN n k : Nat) ∧ t = .int .u64 ((s.toNat % 2 ^ stN n k : Nat) : Int) ∧ Hid (RdSl .u64 wr (.slice a1 (n + 1) c1) (bandsB s n) ∧ Below w.heap.size w wr)) (fun _ _ i _ => n + 1 - (intOf i).toNat)
  case atStart => exact ⟨0, by omega, rfl, by rw [st_zero]; rfl, by rw [st_zero, Nat.pow_zero, Nat.mod_one]; rfl, ho1.out, hb1.out⟩
  case round =>
    clear ho1 hb1
    obtain ⟨k, hk, rfl, rfl, rfl, hr⟩ := hrel
    by_cases hlt : k < n + 1
    · have hkn : k ≤ n := by omega
      have hp := fun W => start_any n k W
      have hwd := fun W => width_any n k W
      rw [begB_nat hn hkn] at hp
      rw [widB_nat hn hkn] at hwd
      have hp6 := st_lt hn hkn
      have hor := @whole_or s.toNat n k hn hkn
      have hpl := @part_lt s.toNat n k hn hkn
      have hll := @low_lt s.toNat n k hn hk
      have hst := @st_next n k hn hkn
      have hev := @wd_even n k hn hkn
      have hle := @st_le n k hn hkn
      have hxl := bdN_lt s.toNat n k
      have hx64 : 2 ^ wdN n k ≤ 2 ^ 64 := Nat.pow_le_pow_right (by decide) (by omega)
      have hne : bandsB s n ≠ [] := by intro e; rw [e] at hlen; simp at hlen
      obtain ⟨b1, o1, c1', e1, h1⟩ := hr.out.1.sl.some hne
      rw [hlen] at e1 h1
      injection e1 with e1 e1a e1b
      clear e1a
      subst e1 e1b
      have g1 := h1 k hlt
      rw [bandsB_get s hn hkn] at g1
      clear h1 hne
      have hq : ((64 : Int).tdiv (n + 1)) = ((64 / (n + 1) : Nat) : Int) := by rw [Int.tdiv_eq_ediv_of_nonneg (by omega)]; simp
      have hq1 : 64 / (n + 1) ≤ 64 := Nat.div_le_self _ _
      generalize hX : s.toNat % 2 ^ stN n (k + 1) = x' at hor
      generalize s.toNat % 2 ^ stN n k = y at hor hll ⊢
      generalize bdN s.toNat n k = x at hor hpl g1 hxl
      generalize hP : stN n (k + 1) = p' at hst
      generalize stN n k = p at hp hp6 hor hpl hst hle ⊢
      generalize wdN n k = q at hwd hst hev hle hxl hx64
      generalize 64 / (n + 1) = l at hev hq hq1
      obtain ⟨hl0, hl1⟩ := hev
      have hsh : IntKind.wrap .u64 ((x : Int) * 2 ^ p) = ((x * 2 ^ p : Nat) : Int) := by
        have h4 : ((x : Int) * 2 ^ p) = ((x * 2 ^ p : Nat) : Int) := by simp
        rw [h4, wrap_u64]; omega
      have hob : bits .or .u64 (y : Int) ((x * 2 ^ p : Nat) : Int) = (x' : Int) := by rw [bits_or_u64_nat _ _ hll hpl, hor]
      clear hor hpl hll hxl hx64
      generalize x * 2 ^ p = z at hsh hob
      replace hX := Lib.hid hX
      replace hP := Lib.hid hP
      have k0 : (0 : Int) ≤ k := by omega
      have k1 : (k : Int) < (n : Int) + 1 := by omega
      have hc1 : decide ((q : Int) < (l : Int)) = false := decide_eq_false (by omega)
      have hc2 : decide ((l : Int) + 1 < (q : Int)) = false := decide_eq_false (by omega)
      have hc3 : decide (q < l) = false := decide_eq_false (by omega)
      have hc4 : decide (l + 1 < q) = false := decide_eq_false (by omega)
      have hst' : p + q = p' := hst.symm
      clear hst
      have hw1 : IntKind.i64.wrap ((n : Int) + 1) = (n : Int) + 1 := by rw [IntKind.wrap_i64]; omega
      have hw2 : IntKind.i64.wrap ((l : Int) + 1) = (l : Int) + 1 := by rw [IntKind.wrap_i64]; omega
      go_wp2_with fail
      go_quiet (first | (go_at_call 14; exact Calls.drawn_on hp) | (go_at_call 12; exact Calls.drawn_on hwd))
      go_wp2_with fail
      refine (hwd _).mono ?_; rintro e w2 ⟨rfl, hd2⟩
      have hd := Lib.hid (Drawn.trans ⟨nq, rfl⟩ hd2)
      clear hd2
      go_wp2_with fail
      exact ⟨⟨k + 1, by omega, by go_num, by rw [hP.out, ← hst']; simp, by rw [hX.out], hr.out.1.next (hd.out.below _), hr.out.2.trans (hd.out.below _)⟩, by simp [intOf]; omega⟩
    · have hke : ¬ ((k : Int) < (n : Int) + 1) := by omega
      have hke2 : ¬ (k < n + 1) := by omega
      obtain rfl : k = n + 1 := by omega
      rw [st_all n hn, Nat.mod_eq_of_lt (show s.toNat < 2 ^ 64 by omega), Int.toNat_of_nonneg s0]
      go_wp2_with fail
      refine (awake7_any _).mono ?_; rintro e w2 ⟨rfl, hb⟩
      replace hb := Lib.hid (hr.out.2.andThen hb)
      go_wp2_with fail
      go_ret
      exact ⟨rfl, hb.out⟩
end Go.Proofs.Ytpejgfbpcnanjaa
