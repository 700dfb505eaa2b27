/- Layer 13: the day of a number. -/
import Derived.Test.YtahohmdbiiknoaaGreatDoorBR17
import Derived.Test.YtahohmdbiiknoaaGreatDoorBR15
import Derived.Test.YtahohmdbiiknoaaGreatDoorBR14
import Derived.Deep.RegionHeld3
import Derived.IntWalk
namespace Go.Proofs.YtahohmdbiiknoaaGreatDoor
open Go.RowKit

theorem results_tmp4 {fn : Func} {t u v x : Tmp} (h : fn.results = #[.tmp t, .tmp u, .tmp v, .tmp x]) (tmps : Array Value) (P : Program) (w : World) :
    (results fn tmps).run P w = .ok (.tuple #[tmps.getD t undef, tmps.getD u undef, tmps.getD v undef, tmps.getD x undef]) w := by
  simp [results, h]
/-- A year, a month and a day, and whether they are. -/
def civV (o : Int × Int × Int × Bool) : Value := .tuple #[.int .i64 o.1, .int .i64 o.2.1, .int .i64 o.2.2.1, .bool o.2.2.2]
theorem civB_no {n : Int} (h : n < 0 ∨ 2932896 < n) : civB n = (0, 0, 0, false) := by unfold civB; rw [if_pos h]
theorem civB_yes {N : Nat} (h : N ≤ 2932896) : civB N = (((civN N).1 : Int), ((civN N).2.1 : Int), ((civN N).2.2 : Int), true) := by
  unfold civB
  rw [if_neg (by omega), Int.toNat_natCast]
theorem ret_civ {N y m d : Nat} (h : IsCiv N y m d) {a b c : Int} (ha : a = y) (hb : b = m) (hc : c = d) : Ending.returned (.tuple #[.int .i64 a, .int .i64 b, .int .i64 c, .bool true]) = .returned (civV (civB N)) := by
  rw [civB_yes h.le, h.civ, ha, hb, hc]; rfl
theorem civ_y {N y : Nat} (h : nyN y ≤ N) (hN : N ≤ 2932896) : y ≤ 9999 := by
  rcases Nat.lt_or_ge 9999 y with h1 | h1
  · have h2 := nyN_mono (y := 10000) (k := y - 10000) (by omega)
    rw [nyN_last, show 10000 + (y - 10000) = y by omega] at h2
    generalize nyN y = a at *
    omega
  · exact h1
theorem civ_m {y m d z : Nat} (h : mdN y m + d = z) (hz : z < yrN y) : m ≤ 12 := by
  rcases Nat.lt_or_ge 12 m with h1 | h1
  · have h2 := mdN_mono y (m := 13) (k := m) (by omega)
    rw [mdN_thirteen] at h2
    generalize mdN y m = a at *
    omega
  · exact h1
theorem start_le (N : Nat) : nyN (1970 + N / 366) ≤ N := by
  have h1 := nyN_top (y := 1970) (k := N / 366) (Nat.le_refl _)
  rw [nyN_first] at h1
  generalize nyN (1970 + N / 366) = a at *
  omega

set_option maxHeartbeats 400000 in
theorem civil13_any (n : Int) (w : World) : Calls Tryz.prog 60 #[.int .i64 n] w fun e w' => e = .returned (civV (civB n)) ∧ w = w' := by
  by_cases c : n < 0 ∨ 2932896 < n
  · rw [civB_no c]
    rcases c with c | c
    · go_enter Tryz.func60, Tryz.ntmps60
      go_wp2_with fail
      (try simp only [Exit.inBlock, Exit.then]); refine bodyPost_ret (results_tmp4 rfl _ _ _) rfl ?_
      exact ⟨rfl, rfl⟩
    · have c1 : ¬ n < 0 := by omega
      go_enter Tryz.func60, Tryz.ntmps60
      go_wp2_with fail
      (try simp only [Exit.inBlock, Exit.then]); refine bodyPost_ret (results_tmp4 rfl _ _ _) rfl ?_
      exact ⟨rfl, rfl⟩
  · obtain ⟨N, rfl⟩ : ∃ N : Nat, n = N := ⟨n.toNat, by omega⟩
    have hN : N ≤ 2932896 := by omega
    have hq : ((N : Int).tdiv 366) = ((N / 366 : Nat) : Int) := by rw [Int.tdiv_eq_ediv_of_nonneg (by omega)]; omega
    have hs := start_le N
    have hqb : N / 366 ≤ 8014 := by omega
    generalize N / 366 = q at *
    have g1 : ¬ ((N : Int) < 0) := by omega
    have g2 : ¬ ((2932896 : Int) < (N : Int)) := by omega
    have g3 : ¬ 2932896 < N := by omega
    have hy := Lib.hid (fun (y : Nat) (h0 : 1970 ≤ y) (h1 : y ≤ 10000) (W : World) => newYear13_any y h0 h1 W)
    have hl := Lib.hid (fun (y m : Nat) (h1 : y ≤ 10000) (W : World) => length13_any (y : Int) (m : Int) (by omega) (by omega) W)
    replace hs := Lib.hid hs
    clear c
    go_enter Tryz.func60, Tryz.ntmps60
    go_wp2_with fail
    go_loopw [6] (fun a wr => ∃ y : Nat, 1970 ≤ y ∧ y ≤ 9999 ∧ a = .int .i64 y ∧ Hid (nyN y ≤ N) ∧ Hid (w = wr)) (fun a _ => 10000 - (intOf a).toNat)
    case atStart => exact ⟨1970 + q, by omega, by omega, vi64 (by omega), hs, rfl⟩
    case round =>
      clear hs
      obtain ⟨y, hy0, hy1, rfl, hle, hwr⟩ := hrel
      have hcy := hy.out (y + 1) (by omega) (by omega) wr
      rw [show ((y + 1 : Nat) : Int) = (y : Int) + 1 by omega] at hcy
      by_cases hlt : nyN (y + 1) ≤ N
      · have hy2 := civ_y hlt hN
        have hle2 := Lib.hid hlt
        generalize nyN (y + 1) = A at hcy hlt
        go_wp2_with fail
        refine hcy.mono ?_; rintro e w1 ⟨rfl, rfl⟩
        go_wp2_with fail
        exact ⟨⟨y + 1, by omega, hy2, vi64 (by omega), hle2, hwr⟩, by simp [intOf]; omega⟩
      · have hcy0 := hy.out y hy0 (by omega) wr
        have hd0 := Lib.hid (show N - nyN y < yrN y by
          have h5 := nyN_next hy0
          have h6 := hle.out
          generalize nyN y = a at *
          generalize yrN y = b at *
          generalize nyN (y + 1) = c at *
          omega)
        have hlt1 : ¬ (((nyN (y + 1) : Nat) : Int) ≤ (N : Int)) := by omega
        have hX := hle.out
        have hdb : N - nyN y ≤ 366 := by
          have h5 := hd0.out
          have h6 := (yrN_bd y).2
          generalize nyN y = a at *
          generalize yrN y = b at *
          omega
        have hX2 := Lib.hid (fun m d (h1 : mdN y m + d = N - nyN y) (h2 : 1 ≤ m) (h3 : d < lenN y m) => (⟨hy0, hy1, h2, civ_m h1 hd0.out, by omega, by omega, by have := hle.out; generalize nyN y = a at *; generalize mdN y m = b at *; omega⟩ : IsCiv N y m (d + 1)))
        generalize nyN (y + 1) = A at hcy hlt hlt1
        generalize nyN y = B at hcy0 hX hd0 hdb hX2 hle
        clear hle
        go_wp2_with fail
        refine hcy.mono ?_; rintro e w1 ⟨rfl, rfl⟩
        go_wp2_with fail
        refine hcy0.mono ?_; rintro e w1 ⟨rfl, rfl⟩
        go_wp2_with fail
        clear hcy hcy0
        obtain ⟨wo, hwo⟩ : ∃ wo : World, wr = wo := ⟨_, rfl⟩
        rw [hwo] at hwr
        rw [hwo]
        clear hwo
        have hst := Lib.hid (show mdN y 1 + (N - B) = N - B by rw [mdN_one, Nat.zero_add])
        go_loopw [7, 8] (fun a b wr => ∃ m d : Nat, 1 ≤ m ∧ m ≤ 12 ∧ d ≤ 366 ∧ a = .int .i64 m ∧ b = .int .i64 d ∧ Hid (mdN y m + d = N - B) ∧ Hid (w = wr)) (fun a _ _ => 13 - (intOf a).toNat)
        case atStart => exact ⟨1, N - B, Nat.le_refl _, by omega, hdb, rfl, vi64 (by omega), hst, hwr⟩
        case round =>
          clear hst hwr
          obtain ⟨m, d, hm1, hm2, hd, rfl, rfl, he, hwr⟩ := hrel
          have hcl := hl.out y m (by omega) wr
          rw [← lenN_int] at hcl
          have hl31 := (lenN_low (y := y) (m := m) hm1 hm2).2
          by_cases hlt2 : lenN y m ≤ d
          · have he2 := Lib.hid (show mdN y (m + 1) + (d - lenN y m) = N - B by show mdN y m + lenN y m + (d - lenN y m) = _; rw [← he.out]; generalize mdN y m = a at *; omega)
            have hm3 := civ_m he2.out hd0.out
            generalize lenN y m = L at *
            go_wp2_with fail
            refine hcl.mono ?_; rintro e w1 ⟨rfl, rfl⟩
            go_wp2_with fail
            refine hcl.mono ?_; rintro e w1 ⟨rfl, rfl⟩
            go_wp2_with fail
            exact ⟨⟨m + 1, d - L, by omega, hm3, by omega, vi64 (by omega), vi64 (by omega), he2, hwr⟩, by simp [intOf]; omega⟩
          · have hi := hX2.out m d he.out hm1 (by omega)
            have hlt3 : ¬ (((lenN y m : Nat) : Int) ≤ (d : Int)) := by omega
            generalize lenN y m = L at *
            replace hi := Lib.hid hi
            go_wp2_with fail
            refine hcl.mono ?_; rintro e w1 ⟨rfl, rfl⟩
            go_wp2_with fail
            (try simp only [Exit.inBlock, Exit.then]); refine bodyPost_ret (results_tmp4 rfl _ _ _) rfl ?_
            exact ⟨ret_civ hi.out rfl rfl (by omega), hwr.out⟩

end Go.Proofs.YtahohmdbiiknoaaGreatDoor

/- Layer 13: numbers in digits; what is written of a date: plain; two, clockText, Print3339. -/
namespace Go.Proofs.YtahohmdbiiknoaaGreatDoor
open Go.RowKit

theorem two_small {n : Nat} (h : n < 10) : 48 :: Lib.decDigits n = two13 n := by
  rw [Lib.decDigits_one h, two13, show n / 10 = 0 by omega, show n % 10 = n by omega]; rfl
theorem two_big {n : Nat} (h1 : ¬ n < 10) (h2 : n < 100) : Lib.decDigits n = two13 n := by
  rw [Lib.decDigits_two h1 h2]; rfl
theorem four_dec {n : Nat} (h1 : 1000 ≤ n) (h2 : n ≤ 9999) : Lib.decDigits n = four13 n := by
  rw [Lib.decDigits, dif_neg (by omega), Lib.decDigits, dif_neg (by omega), Lib.decDigits_two (by omega) (by omega), four13]
  simp only [Nat.div_div_eq_div_mul, List.cons_append, List.nil_append]
  rfl
theorem four_itoa {n : Nat} (h1 : 1000 ≤ n) (h2 : n ≤ 9999) : Lib.itoa (n : Int) = four13 n := by
  rw [Lib.itoa_nonneg, four_dec h1 h2]
theorem two13_any (n : Nat) (hn : n < 100) (w : World) : Calls Tryz.prog 61 #[.int .i64 n] w fun e w' => e = .returned (.string ⟨(two13 n).toArray⟩) ∧ w = w' := by
  have hc := fun W : World => itoa_small n hn W
  by_cases h : n < 10
  · rw [← two_small h]
    have hl : (Lib.decDigits n).length = 1 := by rw [Lib.decDigits_one h]; rfl
    generalize Lib.decDigits n = D at *
    have h1 : (n : Int) < 10 := by omega
    go_enter Tryz.func61, Tryz.ntmps61
    go_wp2_with fail
    refine (hc _).mono ?_; rintro e w1 ⟨rfl, rfl⟩
    go_wp2_with fail
    go_ret
    exact ⟨ret_str (by simp), rfl⟩
  · rw [← two_big h hn]
    generalize Lib.decDigits n = D at *
    have h1 : ¬ ((n : Int) < 10) := by omega
    go_enter Tryz.func61, Tryz.ntmps61
    go_wp2_with fail
    refine (hc _).mono ?_; rintro e w1 ⟨rfl, rfl⟩
    go_wp2_with fail
    go_ret
    exact ⟨rfl, rfl⟩

theorem clock13_any (n : Nat) (hn : n < 86400) (w : World) : Calls Tryz.prog 63 #[.int .i64 n] w fun e w' => e = .returned (.string ⟨(clock13 n).toArray⟩) ∧ w = w' := by
  have h1 := fun W : World => two13_any (n / 3600) (by omega) W
  have h2 := fun W : World => two13_any (n / 60 % 60) (by omega) W
  have h3 := fun W : World => two13_any (n % 60) (by omega) W
  have e1 : ((n : Int).tdiv 3600) = ((n / 3600 : Nat) : Int) := by rw [Int.tdiv_eq_ediv_of_nonneg (by omega)]; omega
  have e2 : (((n : Int).tmod 3600).tdiv 60) = ((n / 60 % 60 : Nat) : Int) := by rw [Int.tmod_eq_emod_of_nonneg (by omega), Int.tdiv_eq_ediv_of_nonneg (by omega)]; omega
  have e3 : ((n : Int).tmod 60) = ((n % 60 : Nat) : Int) := by rw [Int.tmod_eq_emod_of_nonneg (by omega)]; omega
  have e4 : ((n % 3600 / 60 : Nat)) = (n / 60 % 60 : Nat) := by omega
  have e5 : (((n : Int) % 3600) / 60) = ((n / 60 % 60 : Nat) : Int) := by omega
  unfold clock13
  have b1 : n / 3600 ≤ 23 := by omega
  have b2 : n / 60 % 60 ≤ 59 := by omega
  have b3 : n % 60 ≤ 59 := by omega
  generalize n / 3600 = A at *
  generalize n / 60 % 60 = B at *
  generalize n % 60 = C at *
  have l1 : (two13 A).length = 2 := rfl
  have l2 : (two13 B).length = 2 := rfl
  have l3 : (two13 C).length = 2 := rfl
  generalize two13 A = TA at *
  generalize two13 B = TB at *
  generalize two13 C = TC at *
  go_enter Tryz.func63, Tryz.ntmps63
  go_wp2_with fail
  refine (h1 _).mono ?_; rintro e w1 ⟨rfl, rfl⟩
  go_wp2_with fail
  refine (h2 _).mono ?_; rintro e w1 ⟨rfl, rfl⟩
  go_wp2_with fail
  refine (h3 _).mono ?_; rintro e w1 ⟨rfl, rfl⟩
  go_wp2_with fail
  go_ret
  exact ⟨ret_str (by simp), rfl⟩

/-- A text, and nothing old has turned. -/
def StrB (w : World) (l : List UInt8) (e : Ending) (w' : World) : Prop := e = .returned (.string ⟨l.toArray⟩) ∧ Below w.heap.size w w'
theorem print39_no {n : Int} (h : n < 0 ∨ 253402300799 < n) : print39 n = [] := by unfold print39; rw [if_pos h]
theorem print82_no {n : Int} (h : n < 0 ∨ 253402300799 < n) : print82 n = [] := by unfold print82; rw [if_pos h]
/-- What a second is. -/
theorem sec_form {n : Int} (h : ¬ (n < 0 ∨ 253402300799 < n)) : ∃ (N y m d k c : Nat), n = N ∧ N ≤ 253402300799 ∧ IsCiv (N / 86400) y m d ∧ k = (N / 86400 + 3) % 7 ∧ c = N % 86400 ∧ print39 n = p39 y m d c ∧ print82 n = p82 k y m d c := by
  obtain ⟨N, rfl⟩ : ∃ N : Nat, n = N := ⟨n.toNat, by omega⟩
  have hc := civN_is (N := N / 86400) (by omega)
  refine ⟨N, _, _, _, _, _, rfl, by omega, hc, rfl, rfl, ?_, ?_⟩
  · unfold print39; rw [if_neg h, Int.toNat_natCast]
  · unfold print82; rw [if_neg h, Int.toNat_natCast]

set_option maxHeartbeats 400000 in
theorem print39_any (n : Int) (w : World) (hE : Env13 w) : Calls Tryz.prog 44 #[.int .i64 n] w (StrB w (print39 n)) := by
  by_cases c : n < 0 ∨ 253402300799 < n
  · rw [print39_no c]
    rcases c with c | c
    · go_enter Tryz.func44, Tryz.ntmps44
      go_wp2_with fail
      go_ret
      exact ⟨rfl, Below.refl _ _⟩
    · have c1 : ¬ n < 0 := by omega
      go_enter Tryz.func44, Tryz.ntmps44
      go_wp2_with fail
      go_ret
      exact ⟨rfl, Below.refl _ _⟩
  · obtain ⟨N, y, m, d, k, s, rfl, hN, hc, _, hs, hp, _⟩ := sec_form c
    rw [hp]
    unfold p39
    clear hp c
    have g1 : ¬ ((N : Int) < 0) := by omega
    have g2 : ¬ ((253402300799 : Int) < (N : Int)) := by omega
    have g3 : ¬ (253402300799 < N) := by omega
    have hcv := fun W : World => civil13_any ((N / 86400 : Nat) : Int) W
    rw [civB_yes hc.le, hc.civ] at hcv
    unfold civV at hcv
    simp only at hcv
    have e1 : ((N : Int).tdiv 86400) = ((N / 86400 : Nat) : Int) := by rw [Int.tdiv_eq_ediv_of_nonneg (by omega)]; omega
    have e2 : ((N : Int).tmod 86400) = (s : Int) := by rw [Int.tmod_eq_emod_of_nonneg (by omega)]; omega
    have e3 : N % 86400 = s := hs.symm
    have hl31 := lenN_low (y := y) hc.m1 hc.m2
    have hb : N / 86400 ≤ 2932896 := by omega
    have h1 := fun W (hW : Env13 W) => itoa_any (y : Int) (by have := hc.y2; omega) (by have := hc.y2; omega) W hW.pow
    rw [four_itoa (by have := hc.y1; omega) hc.y2] at h1
    have h2 := fun W : World => two13_any m (by have := hc.m2; omega) W
    have h3 := fun W : World => two13_any d (by have := hc.d2; omega) W
    have h4 := fun W : World => clock13_any s (by omega) W
    have hy2 := hc.y2
    have hm2 := hc.m2
    have hd2 : d ≤ 31 := by have := hc.d2; omega
    clear hs hc
    generalize N / 86400 = Q at *
    have l1 : (four13 y).length = 4 := rfl
    have l2 : (two13 m).length = 2 := rfl
    have l3 : (two13 d).length = 2 := rfl
    have l4 : (clock13 s).length = 8 := rfl
    generalize four13 y = TA at *
    generalize two13 m = TB at *
    generalize two13 d = TC at *
    generalize clock13 s = TD at *
    replace hE := Lib.hid hE
    replace h1 := Lib.hid h1
    go_enter Tryz.func44, Tryz.ntmps44
    go_wp2_with fail
    refine (hcv _).mono ?_; rintro e w1 ⟨rfl, rfl⟩
    go_wp2_with fail
    refine (h1.out _ hE.out).mono ?_; rintro e w1 ⟨rfl, hbl⟩
    replace hbl := Lib.hid hbl
    go_wp2_with fail
    refine (h2 _).mono ?_; rintro e w2 ⟨rfl, rfl⟩
    go_wp2_with fail
    refine (h3 _).mono ?_; rintro e w2 ⟨rfl, rfl⟩
    go_wp2_with fail
    refine (h4 _).mono ?_; rintro e w2 ⟨rfl, rfl⟩
    go_wp2_with fail
    go_ret
    exact ⟨ret_str (by simp), hbl.out⟩
end Go.Proofs.YtahohmdbiiknoaaGreatDoor

/- Layer 14: entries in memory, one by one. -/
namespace Go.Proofs.YtahohmdbiiknoaaGreatDoor
open Go.RowKit

theorem cellsI_at : ∀ (l : List It) (j : Nat) (h : j < l.length), (cellsI l)[j * 6]? = some (strV (l[j]'h).guid) ∧ (cellsI l)[j * 6 + 1]? = some (strV (l[j]'h).title) ∧ (cellsI l)[j * 6 + 2]? = some (strV (l[j]'h).link) ∧ (cellsI l)[j * 6 + 3]? = some (strV (l[j]'h).body) ∧ (cellsI l)[j * 6 + 4]? = some (.int .i64 (l[j]'h).date) ∧ (cellsI l)[j * 6 + 5]? = some (.bool (l[j]'h).dated)
  | [], j, h => by simp at h
  | x :: t, 0, _ => ⟨rfl, rfl, rfl, rfl, rfl, rfl⟩
  | x :: t, j + 1, h => by
    have := cellsI_at t j (by simpa using h)
    have e : cellsI (x :: t) = strV x.guid :: strV x.title :: strV x.link :: strV x.body :: .int .i64 x.date :: .bool x.dated :: cellsI t := rfl
    have e1 : ∀ i, (cellsI (x :: t))[(j + 1) * 6 + i]? = (cellsI t)[j * 6 + i]? := fun i => by
      rw [e, show (j + 1) * 6 + i = (j * 6 + i) + 1 + 1 + 1 + 1 + 1 + 1 by omega]; simp only [List.getElem?_cons_succ]
    have e0 := e1 0
    rw [Nat.add_zero, Nat.add_zero] at e0
    rw [e0, e1, e1, e1, e1, e1]
    simpa using this
/-- An entry in memory. -/
structure ItAt (w : World) (b o : Nat) (x : It) : Prop where
  c0 : w.cell? ⟨b, o, none⟩ = some (strV x.guid)
  c1 : w.cell? ⟨b, o + 1, none⟩ = some (strV x.title)
  c2 : w.cell? ⟨b, o + 2, none⟩ = some (strV x.link)
  c3 : w.cell? ⟨b, o + 3, none⟩ = some (strV x.body)
  c4 : w.cell? ⟨b, o + 4, none⟩ = some (.int .i64 x.date)
  c5 : w.cell? ⟨b, o + 5, none⟩ = some (.bool x.dated)
theorem OwnI.at {w : World} {B : Nat} {v : Value} {l : List It} (h : OwnI w B v l) {j : Nat} (hj : j < l.length) : ∃ g cap, v = .slice (some ⟨g, 0, none⟩) l.length cap ∧ l.length ≤ cap ∧ v.ownBlock = some g ∧ ItAt w g (j * 6) (l[j]'hj) := by
  have hcg := fun g hv => World.ownsRow.cells h (g := g) hv
  rcases h.2 with ⟨_, hn⟩ | ⟨g, cap, cur, hv, _, _, hcap, _⟩
  · omega
  · have hob : v.ownBlock = some g := by rw [hv]; rfl
    obtain ⟨e0, e1, e2, e3, e4, e5⟩ := cellsI_at l j hj
    have hadd : ∀ i, (⟨g, 0, none⟩ : Addr).add i = ⟨g, i, none⟩ := fun i => by unfold Addr.add; split <;> simp_all
    have h0 := hcg g hob _ _ e0
    have h1 := hcg g hob _ _ e1
    have h2 := hcg g hob _ _ e2
    have h3 := hcg g hob _ _ e3
    have h4 := hcg g hob _ _ e4
    have h5 := hcg g hob _ _ e5
    rw [hadd] at h0 h1 h2 h3 h4 h5
    exact ⟨g, cap, hv, hcap, hob, h0, h1, h2, h3, h4, h5⟩
theorem OwnI.all {w : World} {B : Nat} {v : Value} {l : List It} (h : OwnI w B v l) : ∃ a c, v = .slice a l.length c ∧ l.length ≤ c ∧ ∀ j (hj : j < l.length), ∃ g, a = some ⟨g, 0, none⟩ ∧ ItAt w g (j * 6) (l[j]'hj) := by
  obtain ⟨a, c, rfl, hc⟩ := own_cap h
  refine ⟨a, c, rfl, hc, fun j hj => ?_⟩
  obtain ⟨g, cap, hv, _, _, hat⟩ := h.at hj
  injection hv with e _ _
  exact ⟨g, e, hat⟩
theorem ItAt.drawn {w : World} {b o : Nat} {x : It} (h : ItAt w b o x) (n : Nat) : ItAt (w.drewN n) b o x := ⟨by simpa using h.c0, by simpa using h.c1, by simpa using h.c2, by simpa using h.c3, by simpa using h.c4, by simpa using h.c5⟩
theorem ItAt.next {w w' : World} {b o : Nat} {x : It} (h : ItAt w b o x) (hb : Below w.heap.size w w') : ItAt w' b o x := by
  have hlt := World.block_lt_of_cell? w ⟨b, o, none⟩ h.c0
  have hc : ∀ k, w'.cell? ⟨b, k, none⟩ = w.cell? ⟨b, k, none⟩ := fun k => hb.cell (p := ⟨b, k, none⟩) hlt
  exact ⟨(hc _).trans h.c0, (hc _).trans h.c1, (hc _).trans h.c2, (hc _).trans h.c3, (hc _).trans h.c4, (hc _).trans h.c5⟩
end Go.Proofs.YtahohmdbiiknoaaGreatDoor

/- Layer 13: Print822. -/
namespace Go.Proofs.YtahohmdbiiknoaaGreatDoor
open Go.RowKit

/-- What the region keeps: the names, and that nothing old has turned. -/
def At13 (w0 w : World) : Prop := Env13 w ∧ Below w0.heap.size w0 w
theorem At13.mon {w0 w : World} (h : Hid (At13 w0 w)) (k : Nat) (hk : k < 12) : w.cell? ⟨1, k, none⟩ = some (.string ⟨(monthsL.getD k []).toArray⟩) := by
  have := h.out.1.mon k (.string ⟨(monthsL.getD k []).toArray⟩) (by
    have hk : k < monthsL.length := hk
    simp [List.getD, hk, strV])
  rwa [Nat.zero_add] at this
theorem At13.wk {w0 w : World} (h : At13 w0 w) (k : Nat) (hk : k < 7) : w.cell? ⟨0, k, none⟩ = some (.string ⟨(weekL.getD k []).toArray⟩) := by
  have := h.1.wk k (.string ⟨(weekL.getD k []).toArray⟩) (by
    have hk : k < weekL.length := hk
    simp [List.getD, hk, strV])
  rwa [Nat.zero_add] at this
theorem At13.next {w0 w w' : World} (h : At13 w0 w) (hb : Below w.heap.size w w') : At13 w0 w' := ⟨h.1.below hb, h.2.andThen hb⟩
theorem At13.drew {w0 w : World} (h : Hid (At13 w0 w)) : Hid (At13 w0 w.drew) := h.out.next ((drawn_drew w).below _)
theorem At13.fin {w0 w : World} (h : Hid (At13 w0 w)) : Below w0.heap.size w0 w := h.out.2
theorem At13.itoa {w0 w : World} (h : Hid (At13 w0 w)) (y : Nat) (h1 : 1000 ≤ y) (h2 : y ≤ 9999) : Calls Tryz.prog 62 #[.int .i64 y] w fun e w' => e = .returned (.string ⟨(four13 y).toArray⟩) ∧ Hid (At13 w0 w') := by
  have := itoa_any (y : Int) (by omega) (by omega) w h.out.1.pow
  rw [four_itoa h1 h2] at this
  exact this.mono fun e w' hh => ⟨hh.1, h.out.next hh.2⟩

set_option maxHeartbeats 1000000 in
theorem print82_any (n : Int) (w : World) (hE : Env13 w) : Calls Tryz.prog 43 #[.int .i64 n] w (StrB w (print82 n)) := by
  by_cases c : n < 0 ∨ 253402300799 < n
  · rw [print82_no c]
    rcases c with c | c
    · go_enter Tryz.func43, Tryz.ntmps43
      go_wp2_with fail
      go_ret
      exact ⟨rfl, Below.refl _ _⟩
    · have c1 : ¬ n < 0 := by omega
      go_enter Tryz.func43, Tryz.ntmps43
      go_wp2_with fail
      go_ret
      exact ⟨rfl, Below.refl _ _⟩
  · obtain ⟨N, y, m, d, k, s, rfl, hN, hc, hk, hs, _, hp⟩ := sec_form c
    rw [hp]
    unfold p82
    clear hp c
    have g1 : ¬ ((N : Int) < 0) := by omega
    have g2 : ¬ ((253402300799 : Int) < (N : Int)) := by omega
    have g3 : ¬ (253402300799 < N) := by omega
    have hcv := fun W : World => civil13_any ((N / 86400 : Nat) : Int) W
    rw [civB_yes hc.le, hc.civ] at hcv
    unfold civV at hcv
    simp only at hcv
    have e1 : ((N : Int).tdiv 86400) = ((N / 86400 : Nat) : Int) := by rw [Int.tdiv_eq_ediv_of_nonneg (by omega)]; omega
    have e2 : ((N : Int).tmod 86400) = (s : Int) := by rw [Int.tmod_eq_emod_of_nonneg (by omega)]; omega
    have e3 : N % 86400 = s := hs.symm
    have e5 : ((((N / 86400 : Nat) : Int) + 3).tmod 7) = (k : Int) := by rw [Int.tmod_eq_emod_of_nonneg (by omega)]; omega
    have e6 : (N / 86400 + 3) % 7 = k := hk.symm
    have e7 : ((((N / 86400 : Nat) : Int) + 3) % 7) = (k : Int) := by omega
    have hk7 : k < 7 := by omega
    have hl31 := lenN_low (y := y) hc.m1 hc.m2
    have hb : N / 86400 ≤ 2932896 := by omega
    have hA : Hid (At13 w w) := ⟨hE, Below.refl _ _⟩
    have hI := Lib.hid (fun W (hW : Hid (At13 w W)) => At13.itoa hW y (by have := hc.y1; omega) hc.y2)
    have h2 := fun W : World => two13_any d (by have := hc.d2; omega) W
    have h4 := fun W : World => clock13_any s (by omega) W
    have ck := hA.out.wk k hk7
    obtain ⟨j, hmj⟩ : ∃ j, m = j + 1 := ⟨m - 1, by have := hc.m1; omega⟩
    have hj : j < 12 := by have := hc.m2; omega
    have hM := Lib.hid (fun W (hW : Hid (At13 w W)) => At13.mon hW j hj)
    rw [show m - 1 = j by omega]
    have w1 : IntKind.i64.wrap ((m : Int) - 1) = (j : Int) := by rw [show ((m : Int) - 1) = (j : Int) by omega]; exact IntWalk.i64_in _ (by omega)
    have w2 : (0 : Int) ≤ (j : Int) := by omega
    have w3 : (j : Int) < 12 := by omega
    have hy2 := hc.y2
    have hd2 : d ≤ 31 := by have := hc.d2; omega
    have l0 := week_len k hk7
    have l5 := months_len j hj
    clear hs hc hk hmj
    generalize N / 86400 = Q at *
    have l1 : (four13 y).length = 4 := rfl
    have l3 : (two13 d).length = 2 := rfl
    have l4 : (clock13 s).length = 8 := rfl
    have cm := hM.out w hA
    have hs2 : s < 86400 := by omega
    generalize four13 y = TA at *
    generalize two13 d = TC at *
    generalize clock13 s = TD at *
    generalize weekL.getD k [] = WD at *
    generalize monthsL.getD j [] = MD at *
    clear hE
    go_enter Tryz.func43, Tryz.ntmps43
    go_wp2_with fail
    refine (hcv _).mono ?_; rintro e w1 ⟨rfl, rfl⟩
    go_wp2_with fail
    go_region_held3 (fun W => W.cell? ⟨1, j, none⟩ = some (.string ⟨MD.toArray⟩)) (first | exact hM.out _ (by assumption) | exact hM.out _ (At13.drew (by assumption)))
      (first
        | (go_at_call 61; refine (h2 _).mono ?_; rintro e w' ⟨rfl, rfl⟩)
        | (go_at_call 62; refine (hI.out _ (by first | assumption | exact At13.drew (by assumption))).mono ?_; rintro e w' ⟨rfl, hA2⟩)
        | (go_at_call 63; refine (h4 _).mono ?_; rintro e w' ⟨rfl, rfl⟩))
    all_goals go_wp2_with fail
    all_goals go_ret
    all_goals exact ⟨ret_str (by simp), At13.fin (by first | assumption | exact At13.drew (by assumption))⟩
end Go.Proofs.YtahohmdbiiknoaaGreatDoor
