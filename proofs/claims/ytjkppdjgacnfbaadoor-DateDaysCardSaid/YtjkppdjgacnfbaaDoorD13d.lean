/- Layer 13: the day of a number. -/
import Derived.Test.YtjkppdjgacnfbaaDoorD13c
namespace Go.Proofs.YtjkppdjgacnfbaaDoor
open Go.RowKit

theorem results_tmp4 {fn : Func} {t u v x : Tmp} (h : fn.results = #[.tmp t, .tmp u, .tmp v, .tmp x]) (tmps : Array Value) (P : Program) (w : World) :
    (results fn tmps).run P w = .ok (.tuple #[tmps.getD t undef, tmps.getD u undef, tmps.getD v undef, tmps.getD x undef]) w := by
  simp [results, h]
/-- A year, a month and a day, and whether they are. -/
def civV (o : Int × Int × Int × Bool) : Value := .tuple #[.int .i64 o.1, .int .i64 o.2.1, .int .i64 o.2.2.1, .bool o.2.2.2]
theorem civB_no {n : Int} (h : n < 0 ∨ 2932896 < n) : civB n = (0, 0, 0, false) := by unfold civB; rw [if_pos h]
theorem civB_yes {N : Nat} (h : N ≤ 2932896) : civB N = (((civN N).1 : Int), ((civN N).2.1 : Int), ((civN N).2.2 : Int), true) := by
  unfold civB
  rw [if_neg (by omega), Int.toNat_natCast]
theorem ret_civ {N y m d : Nat} (h : IsCiv N y m d) {a b c : Int} (ha : a = y) (hb : b = m) (hc : c = d) : Ending.returned (.tuple #[.int .i64 a, .int .i64 b, .int .i64 c, .bool true]) = .returned (civV (civB N)) := by
  rw [civB_yes h.le, h.civ, ha, hb, hc]; rfl
theorem civ_y {N y : Nat} (h : nyN y ≤ N) (hN : N ≤ 2932896) : y ≤ 9999 := by
  rcases Nat.lt_or_ge 9999 y with h1 | h1
  · have h2 := nyN_mono (y := 10000) (k := y - 10000) (by omega)
    rw [nyN_last, show 10000 + (y - 10000) = y by omega] at h2
    generalize nyN y = a at *
    omega
  · exact h1
theorem civ_m {y m d z : Nat} (h : mdN y m + d = z) (hz : z < yrN y) : m ≤ 12 := by
  rcases Nat.lt_or_ge 12 m with h1 | h1
  · have h2 := mdN_mono y (m := 13) (k := m) (by omega)
    rw [mdN_thirteen] at h2
    generalize mdN y m = a at *
    omega
  · exact h1
theorem start_le (N : Nat) : nyN (1970 + N / 366) ≤ N := by
  have h1 := nyN_top (y := 1970) (k := N / 366) (Nat.le_refl _)
  rw [nyN_first] at h1
  generalize nyN (1970 + N / 366) = a at *
  omega

set_option maxHeartbeats 400000 in
theorem civil13_any (n : Int) (w : World) : Calls Tryd.prog 22 #[.int .i64 n] w fun e w' => e = .returned (civV (civB n)) ∧ w = w' := by
  by_cases c : n < 0 ∨ 2932896 < n
  · rw [civB_no c]
    rcases c with c | c
    · go_enter Tryd.func22, Tryd.ntmps22
      go_wp2_with fail
      (try simp only [Exit.inBlock, Exit.then]); refine bodyPost_ret (results_tmp4 rfl _ _ _) rfl ?_
      exact ⟨rfl, rfl⟩
    · have c1 : ¬ n < 0 := by omega
      go_enter Tryd.func22, Tryd.ntmps22
      go_wp2_with fail
      (try simp only [Exit.inBlock, Exit.then]); refine bodyPost_ret (results_tmp4 rfl _ _ _) rfl ?_
      exact ⟨rfl, rfl⟩
  · obtain ⟨N, rfl⟩ : ∃ N : Nat, n = N := ⟨n.toNat, by omega⟩
    have hN : N ≤ 2932896 := by omega
    have hq : ((N : Int).tdiv 366) = ((N / 366 : Nat) : Int) := by rw [Int.tdiv_eq_ediv_of_nonneg (by omega)]; omega
    have hs := start_le N
    have hqb : N / 366 ≤ 8014 := by omega
    generalize N / 366 = q at *
    have g1 : ¬ ((N : Int) < 0) := by omega
    have g2 : ¬ ((2932896 : Int) < (N : Int)) := by omega
    have g3 : ¬ 2932896 < N := by omega
    have hy := Lib.hid (fun (y : Nat) (h0 : 1970 ≤ y) (h1 : y ≤ 10000) (W : World) => newYear13_any y h0 h1 W)
    have hl := Lib.hid (fun (y m : Nat) (h1 : y ≤ 10000) (W : World) => length13_any (y : Int) (m : Int) (by omega) (by omega) W)
    replace hs := Lib.hid hs
    clear c
    go_enter Tryd.func22, Tryd.ntmps22
    go_wp2_with fail
    go_loopw [6] (fun a wr => ∃ y : Nat, 1970 ≤ y ∧ y ≤ 9999 ∧ a = .int .i64 y ∧ Hid (nyN y ≤ N) ∧ Hid (w = wr)) (fun a _ => 10000 - (intOf a).toNat)
    case atStart => exact ⟨1970 + q, by omega, by omega, vi64 (by omega), hs, rfl⟩
    case round =>
      clear hs
      obtain ⟨y, hy0, hy1, rfl, hle, hwr⟩ := hrel
      have hcy := hy.out (y + 1) (by omega) (by omega) wr
      rw [show ((y + 1 : Nat) : Int) = (y : Int) + 1 by omega] at hcy
      by_cases hlt : nyN (y + 1) ≤ N
      · have hy2 := civ_y hlt hN
        have hle2 := Lib.hid hlt
        generalize nyN (y + 1) = A at hcy hlt
        go_wp2_with fail
        refine hcy.mono ?_; rintro e w1 ⟨rfl, rfl⟩
        go_wp2_with fail
        exact ⟨⟨y + 1, by omega, hy2, vi64 (by omega), hle2, hwr⟩, by simp [intOf]; omega⟩
      · have hcy0 := hy.out y hy0 (by omega) wr
        have hd0 := Lib.hid (show N - nyN y < yrN y by
          have h5 := nyN_next hy0
          have h6 := hle.out
          generalize nyN y = a at *
          generalize yrN y = b at *
          generalize nyN (y + 1) = c at *
          omega)
        have hlt1 : ¬ (((nyN (y + 1) : Nat) : Int) ≤ (N : Int)) := by omega
        have hX := hle.out
        have hdb : N - nyN y ≤ 366 := by
          have h5 := hd0.out
          have h6 := (yrN_bd y).2
          generalize nyN y = a at *
          generalize yrN y = b at *
          omega
        have hX2 := Lib.hid (fun m d (h1 : mdN y m + d = N - nyN y) (h2 : 1 ≤ m) (h3 : d < lenN y m) => (⟨hy0, hy1, h2, civ_m h1 hd0.out, by omega, by omega, by have := hle.out; generalize nyN y = a at *; generalize mdN y m = b at *; omega⟩ : IsCiv N y m (d + 1)))
        generalize nyN (y + 1) = A at hcy hlt hlt1
        generalize nyN y = B at hcy0 hX hd0 hdb hX2 hle
        clear hle
        go_wp2_with fail
        refine hcy.mono ?_; rintro e w1 ⟨rfl, rfl⟩
        go_wp2_with fail
        refine hcy0.mono ?_; rintro e w1 ⟨rfl, rfl⟩
        go_wp2_with fail
        clear hcy hcy0
        obtain ⟨wo, hwo⟩ : ∃ wo : World, wr = wo := ⟨_, rfl⟩
        rw [hwo] at hwr
        rw [hwo]
        clear hwo
        have hst := Lib.hid (show mdN y 1 + (N - B) = N - B by rw [mdN_one, Nat.zero_add])
        go_loopw [7, 8] (fun a b wr => ∃ m d : Nat, 1 ≤ m ∧ m ≤ 12 ∧ d ≤ 366 ∧ a = .int .i64 m ∧ b = .int .i64 d ∧ Hid (mdN y m + d = N - B) ∧ Hid (w = wr)) (fun a _ _ => 13 - (intOf a).toNat)
        case atStart => exact ⟨1, N - B, Nat.le_refl _, by omega, hdb, rfl, vi64 (by omega), hst, hwr⟩
        case round =>
          clear hst hwr
          obtain ⟨m, d, hm1, hm2, hd, rfl, rfl, he, hwr⟩ := hrel
          have hcl := hl.out y m (by omega) wr
          rw [← lenN_int] at hcl
          have hl31 := (lenN_low (y := y) (m := m) hm1 hm2).2
          by_cases hlt2 : lenN y m ≤ d
          · have he2 := Lib.hid (show mdN y (m + 1) + (d - lenN y m) = N - B by show mdN y m + lenN y m + (d - lenN y m) = _; rw [← he.out]; generalize mdN y m = a at *; omega)
            have hm3 := civ_m he2.out hd0.out
            generalize lenN y m = L at *
            go_wp2_with fail
            refine hcl.mono ?_; rintro e w1 ⟨rfl, rfl⟩
            go_wp2_with fail
            refine hcl.mono ?_; rintro e w1 ⟨rfl, rfl⟩
            go_wp2_with fail
            exact ⟨⟨m + 1, d - L, by omega, hm3, by omega, vi64 (by omega), vi64 (by omega), he2, hwr⟩, by simp [intOf]; omega⟩
          · have hi := hX2.out m d he.out hm1 (by omega)
            have hlt3 : ¬ (((lenN y m : Nat) : Int) ≤ (d : Int)) := by omega
            generalize lenN y m = L at *
            replace hi := Lib.hid hi
            go_wp2_with fail
            refine hcl.mono ?_; rintro e w1 ⟨rfl, rfl⟩
            go_wp2_with fail
            (try simp only [Exit.inBlock, Exit.then]); refine bodyPost_ret (results_tmp4 rfl _ _ _) rfl ?_
            exact ⟨ret_civ hi.out rfl rfl (by omega), hwr.out⟩

set_option maxHeartbeats 400000 in
theorem refcivil13_any (n : Int) (w : World) : Calls Tryd.prog 23 #[.int .i64 n] w fun e w' => e = .returned (civV (civB n)) ∧ w = w' := by
  by_cases c : n < 0 ∨ 2932896 < n
  · rw [civB_no c]
    rcases c with c | c
    · go_enter Tryd.func23, Tryd.ntmps23
      go_wp2_with fail
      (try simp only [Exit.inBlock, Exit.then]); refine bodyPost_ret (results_tmp4 rfl _ _ _) rfl ?_
      exact ⟨rfl, rfl⟩
    · have c1 : ¬ n < 0 := by omega
      go_enter Tryd.func23, Tryd.ntmps23
      go_wp2_with fail
      (try simp only [Exit.inBlock, Exit.then]); refine bodyPost_ret (results_tmp4 rfl _ _ _) rfl ?_
      exact ⟨rfl, rfl⟩
  · obtain ⟨N, rfl⟩ : ∃ N : Nat, n = N := ⟨n.toNat, by omega⟩
    have hN : N ≤ 2932896 := by omega
    have g1 : ¬ ((N : Int) < 0) := by omega
    have g2 : ¬ ((2932896 : Int) < (N : Int)) := by omega
    have g3 : ¬ 2932896 < N := by omega
    have hp := Lib.hid (fun (y : Nat) (h1 : y ≤ 10000) (W : World) => refleap13_any (y : Int) (by omega) (by omega) W)
    have hl := Lib.hid (fun (y m : Nat) (h1 : y ≤ 10000) (W : World) => reflength13_any (y : Int) (m : Int) (by omega) (by omega) W)
    have hst0 := Lib.hid (show nyN 1970 + N = N by rw [nyN_first, Nat.zero_add])
    clear c
    go_enter Tryd.func23, Tryd.ntmps23
    go_wp2_with fail
    go_loopw [0, 6] (fun b a wr => ∃ y k : Nat, 1970 ≤ y ∧ y ≤ 9999 ∧ k ≤ 2932896 ∧ a = .int .i64 y ∧ b = .int .i64 k ∧ Hid (nyN y + k = N) ∧ Hid (w = wr)) (fun _ a _ => 10000 - (intOf a).toNat)
    case atStart => exact ⟨1970, N, by omega, by omega, hN, rfl, rfl, hst0, rfl⟩
    case round =>
      clear hst0
      obtain ⟨y, k, hy0, hy1, hk, rfl, rfl, hle, hwr⟩ := hrel
      have hcl := hp.out y (by omega) wr
      by_cases hlt : yrN y ≤ k
      · have he2 : nyN (y + 1) + (k - yrN y) = N := by
          have h5 := nyN_next hy0
          have h6 := hle.out
          generalize nyN y = a at *
          generalize yrN y = b at *
          generalize nyN (y + 1) = c at *
          omega
        have hy2 := civ_y (y := y + 1) (N := N) (by generalize nyN (y + 1) = c at *; omega) hN
        unfold yrN at hlt he2
        cases hlb : leapI y
        · rw [hlb] at hlt he2 hcl
          simp only [Bool.false_eq_true, if_false] at hlt he2
          replace he2 := Lib.hid he2
          by_cases h366 : 366 ≤ k
          · have k1 : (366 : Int) ≤ (k : Int) := by omega
            go_wp2_with fail
            refine hcl.mono ?_; rintro e w1 ⟨rfl, rfl⟩
            go_wp2_with fail
            exact ⟨⟨y + 1, k - 365, by omega, hy2, by omega, vi64 (by omega), vi64 (by omega), he2, hwr⟩, by simp [intOf]; omega⟩
          · obtain rfl : k = 365 := by omega
            go_wp2_with fail
            refine hcl.mono ?_; rintro e w1 ⟨rfl, rfl⟩
            go_wp2_with fail
            refine hcl.mono ?_; rintro e w1 ⟨rfl, rfl⟩
            go_wp2_with fail
            exact ⟨⟨y + 1, 0, by omega, hy2, by omega, vi64 (by omega), vi64 (by omega), he2, hwr⟩, by simp [intOf]; omega⟩
        · rw [hlb] at hlt he2 hcl
          simp only [if_true] at hlt he2
          replace he2 := Lib.hid he2
          have k1 : (366 : Int) ≤ (k : Int) := by omega
          go_wp2_with fail
          refine hcl.mono ?_; rintro e w1 ⟨rfl, rfl⟩
          go_wp2_with fail
          exact ⟨⟨y + 1, k - 366, by omega, hy2, by omega, vi64 (by omega), vi64 (by omega), he2, hwr⟩, by simp [intOf]; omega⟩
      · have hX2 := Lib.hid (fun m d (h1 : mdN y m + d = k) (h2 : 1 ≤ m) (h3 : d < lenN y m) => (⟨hy0, hy1, h2, civ_m h1 (by omega), by omega, by omega, by have := hle.out; generalize nyN y = a at *; generalize mdN y m = b at *; omega⟩ : IsCiv N y m (d + 1)))
        have hd0 := Lib.hid (show k < yrN y by omega)
        have hdb : k ≤ 365 := by have := (yrN_bd y).2; omega
        have hst := Lib.hid (show mdN y 1 + k = k by rw [mdN_one, Nat.zero_add])
        have k1 : ¬ ((366 : Int) ≤ (k : Int)) := by omega
        have k2 : ¬ 366 ≤ k := by omega
        unfold yrN at hlt
        clear hle
        have hgo : (k = 365 ∧ leapI y = true) ∨ k < 365 := by
          cases hlb : leapI y
          · rw [hlb] at hlt; simp only [Bool.false_eq_true, if_false] at hlt; right; omega
          · by_cases h : k = 365
            · exact Or.inl ⟨h, rfl⟩
            · right; omega
        clear hlt
        by_cases h365 : k = 365
        · have hlb : leapI y = true := by
            rcases hgo with h | h
            · exact h.2
            · omega
          rw [hlb] at hcl
          clear hgo hlb
          have j1 : ((k : Int) == 365) = true := by rw [beq_iff_eq]; omega
          go_wp2_with fail
          refine hcl.mono ?_; rintro e w1 ⟨rfl, rfl⟩
          go_wp2_with fail
          obtain ⟨wo, hwo⟩ : ∃ wo : World, wr = wo := ⟨_, rfl⟩
          rw [hwo] at hwr
          rw [hwo]
          clear hwo
          go_loopw [0, 7] (fun b a wr => ∃ m d : Nat, 1 ≤ m ∧ m ≤ 12 ∧ d ≤ 366 ∧ a = .int .i64 m ∧ b = .int .i64 d ∧ Hid (mdN y m + d = k) ∧ Hid (w = wr)) (fun _ a _ => 13 - (intOf a).toNat)
          case atStart => exact ⟨1, k, Nat.le_refl _, by omega, by omega, rfl, vi64 (by omega), hst, hwr⟩
          case round =>
            clear hst hwr
            obtain ⟨m, d, hm1, hm2, hd, rfl, rfl, he, hwr⟩ := hrel
            have hcl := hl.out y m (by omega) wr
            rw [← lenN_int] at hcl
            have hl31 := (lenN_low (y := y) (m := m) hm1 hm2).2
            by_cases hlt2 : lenN y m ≤ d
            · have he2 := Lib.hid (show mdN y (m + 1) + (d - lenN y m) = k by show mdN y m + lenN y m + (d - lenN y m) = _; rw [← he.out]; generalize mdN y m = a at *; omega)
              have hm3 := civ_m he2.out hd0.out
              generalize lenN y m = L at *
              go_wp2_with fail
              refine hcl.mono ?_; rintro e w1 ⟨rfl, rfl⟩
              go_wp2_with fail
              refine hcl.mono ?_; rintro e w1 ⟨rfl, rfl⟩
              go_wp2_with fail
              exact ⟨⟨m + 1, d - L, by omega, hm3, by omega, vi64 (by omega), vi64 (by omega), he2, hwr⟩, by simp [intOf]; omega⟩
            · have hi := hX2.out m d he.out hm1 (by omega)
              have hlt3 : ¬ (((lenN y m : Nat) : Int) ≤ (d : Int)) := by omega
              generalize lenN y m = L at *
              replace hi := Lib.hid hi
              go_wp2_with fail
              refine hcl.mono ?_; rintro e w1 ⟨rfl, rfl⟩
              go_wp2_with fail
              (try simp only [Exit.inBlock, Exit.then]); refine bodyPost_ret (results_tmp4 rfl _ _ _) rfl ?_
              exact ⟨ret_civ hi.out rfl rfl (by omega), hwr.out⟩
        · have j1 : ((k : Int) == 365) = false := by rw [beq_eq_false_iff_ne]; omega
          have j2 : (k == 365) = false := by rw [beq_eq_false_iff_ne]; omega
          clear hgo hcl
          go_wp2_with fail
          obtain ⟨wo, hwo⟩ : ∃ wo : World, wr = wo := ⟨_, rfl⟩
          rw [hwo] at hwr
          rw [hwo]
          clear hwo
          go_loopw [0, 7] (fun b a wr => ∃ m d : Nat, 1 ≤ m ∧ m ≤ 12 ∧ d ≤ 366 ∧ a = .int .i64 m ∧ b = .int .i64 d ∧ Hid (mdN y m + d = k) ∧ Hid (w = wr)) (fun _ a _ => 13 - (intOf a).toNat)
          case atStart => exact ⟨1, k, Nat.le_refl _, by omega, by omega, rfl, vi64 (by omega), hst, hwr⟩
          case round =>
            clear hst hwr
            obtain ⟨m, d, hm1, hm2, hd, rfl, rfl, he, hwr⟩ := hrel
            have hcl := hl.out y m (by omega) wr
            rw [← lenN_int] at hcl
            have hl31 := (lenN_low (y := y) (m := m) hm1 hm2).2
            by_cases hlt2 : lenN y m ≤ d
            · have he2 := Lib.hid (show mdN y (m + 1) + (d - lenN y m) = k by show mdN y m + lenN y m + (d - lenN y m) = _; rw [← he.out]; generalize mdN y m = a at *; omega)
              have hm3 := civ_m he2.out hd0.out
              generalize lenN y m = L at *
              go_wp2_with fail
              refine hcl.mono ?_; rintro e w1 ⟨rfl, rfl⟩
              go_wp2_with fail
              refine hcl.mono ?_; rintro e w1 ⟨rfl, rfl⟩
              go_wp2_with fail
              exact ⟨⟨m + 1, d - L, by omega, hm3, by omega, vi64 (by omega), vi64 (by omega), he2, hwr⟩, by simp [intOf]; omega⟩
            · have hi := hX2.out m d he.out hm1 (by omega)
              have hlt3 : ¬ (((lenN y m : Nat) : Int) ≤ (d : Int)) := by omega
              generalize lenN y m = L at *
              replace hi := Lib.hid hi
              go_wp2_with fail
              refine hcl.mono ?_; rintro e w1 ⟨rfl, rfl⟩
              go_wp2_with fail
              (try simp only [Exit.inBlock, Exit.then]); refine bodyPost_ret (results_tmp4 rfl _ _ _) rfl ?_
              exact ⟨ret_civ hi.out rfl rfl (by omega), hwr.out⟩
end Go.Proofs.YtjkppdjgacnfbaaDoor
