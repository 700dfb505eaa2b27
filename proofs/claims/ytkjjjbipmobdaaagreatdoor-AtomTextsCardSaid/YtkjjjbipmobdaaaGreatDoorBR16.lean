/- Layer 13, the reference: digits, sign, names, Month, year, whole; plain and walked. -/
import Derived.OwnWalk
import Derived.Test.YtkjjjbipmobdaaaGreatDoorBR15
namespace Go.Proofs.YtkjjjbipmobdaaaGreatDoor
open Go.RowKit

def digR (k : Nat) (l : List UInt8) : Nat × List UInt8 × Bool := if aheadL l < k then (0, [], false) else (valN 0 (l.take k), l.drop k, true)
theorem digR_bd (k : Nat) (l : List UInt8) : (digR k l).1 < 10 ^ k := by
  unfold digR
  split
  · exact Nat.pow_pos (by omega)
  · exact valN_bd (by omega)
theorem digR_len (k : Nat) (l : List UInt8) : (digR k l).2.1.length ≤ l.length := by unfold digR; split <;> simp
def sgR (l p : List UInt8) : List UInt8 × Bool := if Lib.hasPrefix l p then (l.drop p.length, true) else ([], false)
theorem sgR_len (l p : List UInt8) : (sgR l p).1.length ≤ l.length := by unfold sgR; split <;> simp
theorem sgR_yes {l p : List UInt8} (_h : p.length ≤ l.length) (h2 : (l.take p.length == p) = true) : sgR l p = (l.drop p.length, true) := by
  unfold sgR
  rw [if_pos]
  unfold Lib.hasPrefix
  rw [List.isPrefixOf_iff_prefix]
  rw [beq_iff_eq] at h2
  exact ⟨l.drop p.length, by have := List.take_append_drop p.length l; rw [h2] at this; exact this⟩
theorem sgR_no {l p : List UInt8} (h2 : (l.take p.length == p) = false) : sgR l p = ([], false) := by
  unfold sgR
  rw [if_neg]
  unfold Lib.hasPrefix
  rw [List.isPrefixOf_iff_prefix]
  rintro ⟨t, rfl⟩
  simp at h2
theorem sgR_short {l p : List UInt8} (h : l.length < p.length) : sgR l p = ([], false) := by
  refine sgR_no ?_
  rw [beq_eq_false_iff_ne]
  intro e
  have := congrArg List.length e
  rw [List.length_take] at this
  omega
def yerR (l : List UInt8) : Nat × List UInt8 × Bool :=
  if (digR 4 l).2.2 then ((digR 4 l).1, (digR 4 l).2.1, true)
  else (if (digR 2 l).1 < 50 then 2000 + (digR 2 l).1 else 1900 + (digR 2 l).1, (digR 2 l).2.1, (digR 2 l).2.2)
def wholeR (y m d : Nat) (sec zone : Int) : Int × Bool :=
  (86400 * (daysB y m d).1 + sec - zone, (daysB y m d).2 && decide (0 ≤ 86400 * (daysB y m d).1 + sec - zone) && decide (86400 * (daysB y m d).1 + sec - zone ≤ 253402300799))
/-- A number, what is left, and whether it is one. -/
def trV (o : Nat × List UInt8 × Bool) : Value := .tuple #[.int .i64 o.1, .string ⟨o.2.1.toArray⟩, .bool o.2.2]
theorem ret_tr {o : Nat × List UInt8 × Bool} {a : Int} {l : List UInt8} {b : Bool} {x : Nat} (h : o = (x, l, b)) (hx : a = x) : Ending.returned (.tuple #[.int .i64 a, .string ⟨l.toArray⟩, .bool b]) = .returned (trV o) := by rw [h, hx]; rfl

set_option maxHeartbeats 400000 in
theorem digits13r_any (n : Nat) (l : List UInt8) (w : World) (hl : l.length ≤ 100000000) (hn : n ≤ 4) :
    Calls Tryz.prog 91 #[.string ⟨l.toArray⟩, .int .i64 n] w fun e w' => e = .returned (trV (digR n l)) ∧ Drawn w w' := by
  have hle := aheadL_le l
  by_cases hs : l.length < n
  · have ho := Lib.hid (show digR n l = (0, [], false) by unfold digR; rw [if_pos (by omega)])
    have hs1 : (l.length : Int) < n := by omega
    generalize digR n l = o at *
    clear hle
    go_enter Tryz.func91, Tryz.ntmps91
    go_wp2_with fail
    go_ret3
    exact ⟨ret_tr ho.out rfl, Drawn.refl _⟩
  have hs1 : ¬ ((l.length : Int) < n) := by omega
  have hbd := Lib.hid (fun k (hk : k ≤ aheadL l) => valN_bd (l := l) (k := k) hk)
  have hno := Lib.hid (fun k (hk : aheadL l = k) (hkn : k < n) => (show digR n l = (0, [], false) by unfold digR; rw [if_pos (by omega)]))
  have hyes := Lib.hid (fun (hk : n ≤ aheadL l) => (show digR n l = (valN 0 (l.take n), l.drop n, true) by unfold digR; rw [if_neg (by omega)]))
  generalize digR n l = o at *
  clear hle
  go_enter Tryz.func91, Tryz.ntmps91
  go_wp2_with fail
  go_loopw [7, 8] (fun z i wr => ∃ k x : Nat, k ≤ n ∧ x ≤ 9999 ∧ z = .int .i64 x ∧ i = .int .i64 k ∧ Hid (x = valN 0 (l.take k)) ∧ Hid (aheadL l = k + aheadL (l.drop k)) ∧ Hid (w = wr)) (fun _ i _ => n - (intOf i).toNat)
  case atStart => exact ⟨0, 0, Nat.zero_le _, by omega, rfl, rfl, by rw [List.take_zero]; rfl, by rw [List.drop_zero, Nat.zero_add]; rfl, rfl⟩
  case round =>
    obtain ⟨k, x, hkn, hx, rfl, rfl, he, ha, hwr⟩ := hrel
    by_cases hlt : k < n
    · have hkl : k < l.length := by omega
      have hkl1 : (k : Int) < l.length := by omega
      have hlt1 : (k : Int) < n := by omega
      have hat := aheadL_at hkl
      have hb := bt_lt l k
      by_cases h1 : 48 ≤ bt l k
      · by_cases h2 : bt l k ≤ 57
        · rw [if_pos ⟨h1, h2⟩] at hat
          have ha2 := Lib.hid (show aheadL l = (k + 1) + aheadL (l.drop (k + 1)) by have := ha.out; omega)
          have hv := valN_next hkl h1
          have hb2 : valN 0 (l.take (k + 1)) ≤ 9999 := by
            have h3 := hbd.out (k + 1) (by have := ha2.out; omega)
            have h4 : 10 ^ (k + 1) ≤ 10 ^ 4 := Nat.pow_le_pow_right (by decide) (by omega)
            generalize valN 0 (l.take (k + 1)) = a at *
            generalize 10 ^ (k + 1) = b at *
            omega
          rw [← he.out] at hv
          have hx2 := Lib.hid hv
          replace hat := Lib.hid hat
          clear hv
          go_wp2_with fail
          exact ⟨⟨k + 1, valN 0 (l.take (k + 1)), by omega, hb2, vi64 (by rw [hx2.out]; omega), vi64 (by omega), rfl, ha2, hwr⟩, by simp [intOf]; omega⟩
        · rw [if_neg (fun h => h2 h.2)] at hat
          have ho := Lib.hid (hno.out k (by have := ha.out; omega) hlt)
          replace hat := Lib.hid hat
          go_wp2_with fail
          go_ret3
          exact ⟨ret_tr ho.out rfl, by rw [hwr.out]; exact Drawn.refl _⟩
      · rw [if_neg (fun h => h1 h.1)] at hat
        have ho := Lib.hid (hno.out k (by have := ha.out; omega) hlt)
        replace hat := Lib.hid hat
        go_wp2_with fail
        go_ret3
        exact ⟨ret_tr ho.out rfl, by rw [hwr.out]; exact Drawn.refl _⟩
    · have hlt1 : ¬ ((k : Int) < n) := by omega
      have ho := Lib.hid (hyes.out (by have := ha.out; omega))
      have hx2 := Lib.hid (show x = valN 0 (l.take n) by rw [he.out, show k = n by omega])
      have j1 : (n : Int) ≤ (l.length : Int) := by omega
      have j2 : (0 : Int) ≤ (n : Int) := by omega
      obtain rfl := hwr.out
      go_wp2_with fail
      go_quiet (fail)
      go_wp2_with fail
      go_ret3
      exact ⟨ret_tr ho.out (by rw [hx2.out]), ⟨_, rfl⟩⟩

theorem ret_sb {o : List UInt8 × Bool} {l : List UInt8} {b : Bool} (h : o = (l, b)) : Ending.returned (.tuple #[.string ⟨l.toArray⟩, .bool b]) = .returned (.tuple #[.string ⟨o.1.toArray⟩, .bool o.2]) := by rw [h]
theorem sign13r_any (l p : List UInt8) (w : World) (_hl : l.length ≤ 100000000) (_hp : p.length ≤ 10) :
    Calls Tryz.prog 92 #[.string ⟨l.toArray⟩, .string ⟨p.toArray⟩] w fun e w' => e = .returned (.tuple #[.string ⟨(sgR l p).1.toArray⟩, .bool (sgR l p).2]) ∧ w = w' := by
  by_cases hs : l.length < p.length
  · have ho := Lib.hid (sgR_short hs)
    generalize sgR l p = o at *
    have hs1 : (l.length : Int) < p.length := by omega
    go_enter Tryz.func92, Tryz.ntmps92
    go_wp2_with fail
    go_ret2
    exact ⟨ret_sb ho.out, rfl⟩
  have hs1 : ¬ ((l.length : Int) < p.length) := by omega
  have hs2 : (p.length : Int) ≤ l.length := by omega
  cases hb : (l.take p.length == p)
  · have ho := Lib.hid (sgR_no hb)
    generalize sgR l p = o at *
    go_enter Tryz.func92, Tryz.ntmps92
    go_wp2_with fail
    go_ret2
    exact ⟨ret_sb ho.out, rfl⟩
  · have ho := Lib.hid (sgR_yes (by omega) hb)
    generalize sgR l p = o at *
    go_enter Tryz.func92, Tryz.ntmps92
    go_wp2_with fail
    go_ret2
    exact ⟨ret_sb ho.out, rfl⟩

theorem flat3 {L : List (List UInt8)} (h : ∀ n ∈ L, n.length = 3) (k : Nat) (hk : k < L.length) : (L.flatten.take (3 * k + 3)).drop (3 * k) = L.getD k [] := by
  induction L generalizing k with
  | nil => simp at hk
  | cons n t ih =>
    have hn := h n (by simp)
    cases k with
    | zero => simp [hn]
    | succ k =>
      have := ih (fun m hm => h m (by simp [hm])) k (by simpa using hk)
      rw [List.getD_cons_succ, ← this, List.flatten_cons, List.take_append, List.drop_append, hn]
      rw [show 3 * (k + 1) + 3 - 3 = 3 * k + 3 by omega, show 3 * (k + 1) - (List.take (3 * (k + 1) + 3) n).length = 3 * k by rw [List.length_take]; omega]
      rw [List.drop_eq_nil_of_le (by rw [List.length_take]; omega)]
      rfl
theorem flat_len13 {L : List (List UInt8)} (h : ∀ n ∈ L, n.length = 3) : L.flatten.length = 3 * L.length := by
  induction L with
  | nil => rfl
  | cons n t ih => rw [List.flatten_cons, List.length_append, h n (by simp), ih (fun m hm => h m (by simp [hm])), List.length_cons]; omega
set_option maxHeartbeats 400000 in
theorem names13r_any (L : List (List UInt8)) (hL : ∀ n ∈ L, n.length = 3) (hLn : L.length ≤ 100) (l : List UInt8) (w : World) :
    Calls Tryz.prog 118 #[.string ⟨L.flatten.toArray⟩, .string ⟨l.toArray⟩] w fun e w' => e = .returned (.int .i64 (mIx 0 L l : Nat)) ∧ w = w' := by
  have hfl := flat_len13 hL
  have hf := Lib.hid (fun k hk => flat3 hL k hk)
  generalize L.flatten = A at *
  have hAl : A.length ≤ 300 := by omega
  replace hfl := Lib.hid hfl
  replace hL := Lib.hid hL
  go_enter Tryz.func118, Tryz.ntmps118
  go_wp2_with fail
  go_loopw [5] (fun i wr => ∃ k : Nat, k ≤ L.length ∧ i = .int .i64 k ∧ Hid (mIx 0 L l = mIx k (L.drop k) l) ∧ Hid (w = wr)) (fun i _ => L.length - (intOf i).toNat)
  case atStart => exact ⟨0, Nat.zero_le _, rfl, by rw [List.drop_zero]; rfl, rfl⟩
  case round =>
    obtain ⟨k, hk, rfl, he, hwr⟩ := hrel
    by_cases hlt : k < L.length
    · have hk1 : 3 * (k : Int) + 3 ≤ A.length := by have := hfl.out; omega
      have hk2 : 3 * k + 3 ≤ A.length := by have := hfl.out; omega
      have hsl := hf.out k hlt
      have hwd := drop_get L [] k hlt
      rw [hwd] at he
      clear hwd
      generalize L.getD k [] = n at *
      rw [mIx_cons] at he
      have hix : ∀ W : World, (Instr.slice 9 (.string ⟨A.toArray⟩) (some (.int .i64 (3 * (k : Int)))) (some (.int .i64 (3 * (k : Int) + 3))) none).run Tryz.prog W = .ok (.string ⟨n.toArray⟩) W := fun W => by
        rw [run_slice_string W 9 ⟨A.toArray⟩ .i64 .i64 _ _ Tryz.underlying9 (by omega) (by omega) (by show _ ≤ ((A.length : Nat) : Int); omega), show (3 * (k : Int)).toNat = 3 * k by omega, show (3 * (k : Int) + 3).toNat = 3 * k + 3 by omega, ba_extract, hsl]
      replace hsl := Lib.hid hsl
      cases hb : (n == l)
      · have he2 := he.out
        rw [hb] at he2
        simp only [Bool.false_eq_true, if_false] at he2
        replace he2 := Lib.hid he2
        clear he
        go_wp2_with fail
        exact ⟨⟨k + 1, by omega, vi64 (by omega), he2, hwr⟩, by simp [intOf]; omega⟩
      · have he2 := he.out
        rw [hb] at he2
        simp only [if_true] at he2
        replace he2 := Lib.hid he2
        clear he
        go_wp2_with fail
        go_ret
        exact ⟨ret_int (by rw [he2.out]; omega), hwr.out⟩
    · have he2 := Lib.hid (show mIx 0 L l = 0 by rw [he.out, List.drop_eq_nil_of_le (by omega)]; rfl)
      have hk1 : ¬ (3 * (k : Int) + 3 ≤ A.length) := by have := hfl.out; omega
      have hk2 : ¬ (3 * k + 3 ≤ A.length) := by have := hfl.out; omega
      clear he
      go_wp2_with fail
      go_ret
      exact ⟨ret_int (by rw [he2.out]; rfl), hwr.out⟩
theorem months_three : ∀ n ∈ monthsL, n.length = 3 := by decide
theorem week_three : ∀ n ∈ weekL, n.length = 3 := by decide
theorem rmonthr_any (l : List UInt8) (w : World) : Calls Tryz.prog 119 #[.string ⟨l.toArray⟩] w fun e w' => e = .returned (.int .i64 (monIx l : Nat)) ∧ w = w' := by
  have hc := names13r_any monthsL months_three (by decide) l w
  unfold monIx
  go_enter Tryz.func119, Tryz.ntmps119
  go_wp2_with fail
  refine hc.mono ?_; rintro e w1 ⟨rfl, rfl⟩
  go_wp2_with fail
  go_ret
  exact ⟨rfl, rfl⟩

theorem year13r_any (l : List UInt8) (w : World) (hl : l.length ≤ 100000000) : Calls Tryz.prog 120 #[.string ⟨l.toArray⟩] w fun e w' => e = .returned (trV (yerR l)) ∧ Drawn w w' := by
  have h4 := Lib.hid (fun W : World => digits13r_any 4 l W hl (by omega))
  have h2 := Lib.hid (fun W : World => digits13r_any 2 l W hl (by omega))
  have b4 := digR_bd 4 l
  have b2 := digR_bd 2 l
  unfold yerR
  generalize digR 4 l = p at *
  generalize digR 2 l = q at *
  obtain ⟨x, t, a⟩ := p
  obtain ⟨y, u, b⟩ := q
  unfold trV at h2 h4 ⊢
  simp only at b2 b4 h2 h4 ⊢
  cases a
  · simp only [Bool.false_eq_true, if_false]
    by_cases hy : y < 50
    · have hy1 : (y : Int) < 50 := by omega
      rw [if_pos hy]
      go_enter Tryz.func120, Tryz.ntmps120
      go_wp2_with fail
      refine (h4.out _).mono ?_; rintro e w1 ⟨rfl, d1⟩
      replace d1 := Lib.hid d1
      go_wp2_with fail
      refine (h2.out _).mono ?_; rintro e w2 ⟨rfl, d2⟩
      replace d2 := Lib.hid d2
      go_wp2_with fail
      go_ret3
      exact ⟨ret_tr (o := (2000 + y, u, b)) rfl (by omega), d1.out.trans d2.out⟩
    · have hy1 : ¬ ((y : Int) < 50) := by omega
      rw [if_neg hy]
      go_enter Tryz.func120, Tryz.ntmps120
      go_wp2_with fail
      refine (h4.out _).mono ?_; rintro e w1 ⟨rfl, d1⟩
      replace d1 := Lib.hid d1
      go_wp2_with fail
      refine (h2.out _).mono ?_; rintro e w2 ⟨rfl, d2⟩
      replace d2 := Lib.hid d2
      go_wp2_with fail
      go_ret3
      exact ⟨ret_tr (o := (1900 + y, u, b)) rfl (by omega), d1.out.trans d2.out⟩
  · simp only [if_true]
    go_enter Tryz.func120, Tryz.ntmps120
    go_wp2_with fail
    refine (h4.out _).mono ?_; rintro e w1 ⟨rfl, d1⟩
    replace d1 := Lib.hid d1
    go_wp2_with fail
    go_ret3
    exact ⟨rfl, d1.out⟩

theorem whole13r_any (y m d : Nat) (s z : Int) (w : World) (hy : y ≤ 1000000) (hs0 : 0 ≤ s) (hs1 : s ≤ 1000000) (hz0 : -1000000 ≤ z) (hz1 : z ≤ 1000000) :
    Calls Tryz.prog 95 #[.int .i64 y, .int .i64 m, .int .i64 d, .int .i64 s, .int .i64 z] w fun e w' => e = .returned (.tuple #[.int .i64 (wholeR y m d s z).1, .bool (wholeR y m d s z).2]) ∧ w = w' := by
  have hd := refdays13_any y m d (by omega) (by omega) w
  have hb := daysB_bd y m d
  unfold wholeR
  generalize daysB y m d = D at *
  obtain ⟨x, t⟩ := D
  simp only at hd hb ⊢
  obtain ⟨hb0, hb1⟩ := hb
  cases t
  · go_enter Tryz.func95, Tryz.ntmps95
    go_wp2_with fail
    refine hd.mono ?_; rintro e w1 ⟨rfl, rfl⟩
    go_wp2_with fail
    go_ret2
    exact ⟨ret_ib rfl (by simp), rfl⟩
  · by_cases n0 : 0 ≤ 86400 * x + s - z
    · by_cases n1 : 86400 * x + s - z ≤ 253402300799
      · go_enter Tryz.func95, Tryz.ntmps95
        go_wp2_with fail
        refine hd.mono ?_; rintro e w1 ⟨rfl, rfl⟩
        go_wp2_with fail
        go_ret2
        exact ⟨ret_ib rfl (by rw [decide_eq_true n0, decide_eq_true n1]; rfl), rfl⟩
      · go_enter Tryz.func95, Tryz.ntmps95
        go_wp2_with fail
        refine hd.mono ?_; rintro e w1 ⟨rfl, rfl⟩
        go_wp2_with fail
        go_ret2
        exact ⟨ret_ib rfl (by simp <;> omega), rfl⟩
    · go_enter Tryz.func95, Tryz.ntmps95
      go_wp2_with fail
      refine hd.mono ?_; rintro e w1 ⟨rfl, rfl⟩
      go_wp2_with fail
      go_ret2
      exact ⟨ret_ib rfl (by simp <;> omega), rfl⟩
end Go.Proofs.YtkjjjbipmobdaaaGreatDoor

/- Layer 13, the reference: clock, offset, zone. -/
namespace Go.Proofs.YtkjjjbipmobdaaaGreatDoor
open Go.RowKit

/-- Behind hours and minutes. -/
def clk2 (x : Nat) (u : List UInt8) (short : Bool) (t : List UInt8 × Bool) : Nat × List UInt8 × Bool :=
  if t.2 then (x + (digR 2 t.1).1, (digR 2 t.1).2.1, (digR 2 t.1).2.2 && decide ((digR 2 t.1).1 ≤ 59)) else (x, u, short)
def clk1 (h m : Nat × List UInt8 × Bool) (b : Bool) (short : Bool) : Nat × List UInt8 × Bool :=
  if h.2.2 && b && m.2.2 && decide (h.1 ≤ 23) && decide (m.1 ≤ 59) then clk2 (3600 * h.1 + 60 * m.1) m.2.1 short (sgR m.2.1 [58]) else (0, [], false)
def clkR (l : List UInt8) (short : Bool) : Nat × List UInt8 × Bool := clk1 (digR 2 l) (digR 2 (sgR (digR 2 l).2.1 [58]).1) (sgR (digR 2 l).2.1 [58]).2 short

theorem ret_tr3 {o : Nat × List UInt8 × Bool} {a : Int} {l : List UInt8} {b b' : Bool} {x : Nat} (h : o = (x, l, b)) (hx : a = x) (hb : b' = b) : Ending.returned (.tuple #[.int .i64 a, .string ⟨l.toArray⟩, .bool b']) = .returned (trV o) := by rw [h, hx, hb]; rfl

set_option maxHeartbeats 1000000 in
theorem clock13r_any (l : List UInt8) (short : Bool) (w : World) (hl : l.length ≤ 100000000) : Calls Tryz.prog 93 #[.string ⟨l.toArray⟩, .bool short] w fun e w' => e = .returned (trV (clkR l short)) ∧ Drawn w w' := by
  obtain ⟨o, ho⟩ : ∃ o, clkR l short = o := ⟨_, rfl⟩
  rw [ho]
  unfold clkR at ho
  have hH := Lib.hid (fun W : World => digits13r_any 2 l W hl (by omega))
  have bH := digR_bd 2 l
  have l1 := Nat.le_trans (digR_len 2 l) hl
  generalize digR 2 l = q at *
  obtain ⟨h, s1, a⟩ := q
  unfold trV at hH
  simp only at hH bH l1 ho
  have hB := Lib.hid (fun W : World => sign13r_any s1 [58] W l1 (by decide))
  have l2 := Nat.le_trans (sgR_len s1 [58]) l1
  generalize sgR s1 [58] = q at *
  obtain ⟨s2, b⟩ := q
  simp only at hB l2 ho
  have hM := Lib.hid (fun W : World => digits13r_any 2 s2 W l2 (by omega))
  have bM := digR_bd 2 s2
  have l3 := Nat.le_trans (digR_len 2 s2) l2
  generalize digR 2 s2 = q at *
  obtain ⟨m, s3, c⟩ := q
  unfold trV at hM
  simp only at hM bM l3 ho
  unfold clk1 at ho
  simp only at ho
  have hT := Lib.hid (fun W : World => sign13r_any s3 [58] W l3 (by decide))
  have l4 := Nat.le_trans (sgR_len s3 [58]) l3
  generalize sgR s3 [58] = q at *
  obtain ⟨s4, d⟩ := q
  simp only at hT l4
  unfold clk2 at ho
  simp only at ho
  have hX := Lib.hid (fun W : World => digits13r_any 2 s4 W l4 (by omega))
  have bX := digR_bd 2 s4
  generalize digR 2 s4 = q at *
  obtain ⟨x, s5, f⟩ := q
  unfold trV at hX
  simp only at hX bX ho
  replace ho := Lib.hid ho
  go_enter Tryz.func93, Tryz.ntmps93
  go_wp2_with fail
  refine (hH.out _).mono ?_; rintro e w1 ⟨rfl, d1⟩
  replace d1 := Lib.hid d1
  go_wp2_with fail
  refine (hB.out _).mono ?_; rintro e w2 ⟨rfl, rfl⟩
  go_wp2_with fail
  refine (hM.out _).mono ?_; rintro e w3 ⟨rfl, d3⟩
  replace d3 := Lib.hid (d1.out.trans d3)
  clear d1
  cases a
  · go_wp2_with fail
    go_ret3
    exact ⟨ret_tr (show o = (0, [], false) from ho.out.symm) rfl, d3.out⟩
  cases b
  · go_wp2_with fail
    go_ret3
    exact ⟨ret_tr (show o = (0, [], false) from ho.out.symm) rfl, d3.out⟩
  cases c
  · go_wp2_with fail
    go_ret3
    exact ⟨ret_tr (show o = (0, [], false) from ho.out.symm) rfl, d3.out⟩
  by_cases h23 : 23 < h
  · have h23' : (23 : Int) < h := by omega
    have ho2 := ho.out
    rw [decide_eq_false (show ¬ h ≤ 23 by omega)] at ho2
    replace ho2 := Lib.hid ho2
    clear ho
    go_wp2_with fail
    go_ret3
    exact ⟨ret_tr (show o = (0, [], false) from ho2.out.symm) rfl, d3.out⟩
  have h23' : ¬ ((23 : Int) < h) := by omega
  by_cases m59 : 59 < m
  · have m59' : (59 : Int) < m := by omega
    have ho2 := ho.out
    rw [decide_eq_false (show ¬ m ≤ 59 by omega), Bool.and_false] at ho2
    replace ho2 := Lib.hid ho2
    clear ho
    go_wp2_with fail
    go_ret3
    exact ⟨ret_tr (show o = (0, [], false) from ho2.out.symm) rfl, d3.out⟩
  have m59' : ¬ ((59 : Int) < m) := by omega
  have ho2 := ho.out
  rw [decide_eq_true (show h ≤ 23 by omega), decide_eq_true (show m ≤ 59 by omega)] at ho2
  simp only [Bool.and_self, if_true] at ho2
  replace ho2 := Lib.hid ho2
  clear ho
  go_wp2_with fail
  refine (hT.out _).mono ?_; rintro e w4 ⟨rfl, rfl⟩
  cases d
  · go_wp2_with fail
    go_ret3
    exact ⟨ret_tr (show o = (3600 * h + 60 * m, s3, short) from ho2.out.symm) (by omega), d3.out⟩
  · go_wp2_with fail
    refine (hX.out _).mono ?_; rintro e w5 ⟨rfl, d5⟩
    replace d5 := Lib.hid (d3.out.trans d5)
    clear d3
    cases f
    · go_wp2_with fail
      go_ret3
      exact ⟨ret_tr (show o = (3600 * h + 60 * m + x, s5, false) from ho2.out.symm) (by omega), d5.out⟩
    · go_wp2_with fail
      go_ret3
      exact ⟨ret_tr3 (show o = (3600 * h + 60 * m + x, s5, true && decide (x ≤ 59)) from ho2.out.symm) (by omega) (by rw [Bool.true_and, Bool.eq_iff_iff, decide_eq_true_eq, decide_eq_true_eq]; omega), d5.out⟩

/-- Whether all that a zone asks stands there. -/
def offK (h m : Nat × List UInt8 × Bool) (b : Bool) : Bool := h.2.2 && b && m.2.2 && m.2.1.isEmpty && decide (h.1 ≤ 23) && decide (m.1 ≤ 59)
def off1 (neg : Bool) (h m : Nat × List UInt8 × Bool) (b : Bool) : Int × Bool := (if neg then -((3600 * h.1 + 60 * m.1 : Nat) : Int) else ((3600 * h.1 + 60 * m.1 : Nat) : Int), offK h m b)
def offR (l p : List UInt8) : Int × Bool :=
  if l.isEmpty || (decide (bt l 0 ≠ 43) && decide (bt l 0 ≠ 45)) then (0, false)
  else off1 (decide (bt l 0 = 45)) (digR 2 (l.drop 1)) (digR 2 (sgR (digR 2 (l.drop 1)).2.1 p).1) (sgR (digR 2 (l.drop 1)).2.1 p).2
theorem ret_ob2 {o : Int × Bool} {a z : Int} {b : Bool} (h : o = (z, b)) (hz : a = z) : Ending.returned (.tuple #[.int .i64 a, .bool b]) = .returned (.tuple #[.int .i64 o.1, .bool o.2]) := by rw [h, hz]

theorem ret_ob3 {o : Int × Bool} {a z : Int} {b b' : Bool} (h : o = (z, b)) (hz : a = z) (hb : b' = b) : Ending.returned (.tuple #[.int .i64 a, .bool b']) = .returned (.tuple #[.int .i64 o.1, .bool o.2]) := by rw [h, hz, hb]

set_option maxHeartbeats 2000000 in
theorem offset13r_any (l p : List UInt8) (w : World) (hl : l.length ≤ 100000000) (hp : p.length ≤ 10) : Calls Tryz.prog 94 #[.string ⟨l.toArray⟩, .string ⟨p.toArray⟩] w fun e w' => e = .returned (.tuple #[.int .i64 (offR l p).1, .bool (offR l p).2]) ∧ Drawn w w' := by
  obtain ⟨o, ho⟩ : ∃ o, offR l p = o := ⟨_, rfl⟩
  rw [ho]
  unfold offR at ho
  by_cases hne : l = []
  · subst hne
    have ho2 := Lib.hid (show o = (0, false) from ho.symm)
    clear ho
    go_enter Tryz.func94, Tryz.ntmps94
    go_wp2_with fail
    go_ret2
    exact ⟨ret_ob2 ho2.out rfl, Drawn.refl _⟩
  have hem : l.isEmpty = false := by cases l; exact absurd rfl hne; rfl
  have hlen : 0 < l.length := List.length_pos_iff.2 hne
  have hlen1 : (0 : Int) < l.length := by omega
  have hlen2 : (1 : Int) ≤ l.length := by omega
  have hb0 := bt_lt l 0
  rw [hem, Bool.false_or, List.drop_one] at ho
  have hH := Lib.hid (fun W : World => digits13r_any 2 l.tail W (by rw [List.length_tail]; omega) (by omega))
  have bH := digR_bd 2 l.tail
  have l1 : (digR 2 l.tail).2.1.length ≤ 100000000 := Nat.le_trans (digR_len 2 l.tail) (by rw [List.length_tail]; omega)
  generalize digR 2 l.tail = q at *
  obtain ⟨h, s1, a⟩ := q
  unfold trV at hH
  simp only at hH bH l1 ho
  have hB := Lib.hid (fun W : World => sign13r_any s1 p W l1 hp)
  have l2 := Nat.le_trans (sgR_len s1 p) l1
  generalize sgR s1 p = q at *
  obtain ⟨s2, b⟩ := q
  simp only at hB l2 ho
  have hM := Lib.hid (fun W : World => digits13r_any 2 s2 W l2 (by omega))
  have bM := digR_bd 2 s2
  generalize digR 2 s2 = q at *
  obtain ⟨m, s3, c⟩ := q
  unfold trV at hM
  simp only at hM bM ho
  unfold off1 at ho
  simp only at ho
  obtain ⟨k, hk⟩ : ∃ k, k = offK (h, s1, a) (m, s3, c) b := ⟨_, rfl⟩
  rw [← hk] at ho
  have hk2 : k = (a && b && c && s3.isEmpty && decide (h ≤ 23) && decide (m ≤ 59)) := hk
  clear hk
  by_cases h43 : bt l 0 = 43
  · rw [h43] at ho
    have ho2 : o = (((3600 * h + 60 * m : Nat) : Int), k) := ho.symm
    replace ho2 := Lib.hid ho2
    clear ho
    go_enter Tryz.func94, Tryz.ntmps94
    go_wp2_with fail
    refine (hH.out _).mono ?_; rintro e w1 ⟨rfl, d1⟩
    replace d1 := Lib.hid d1
    go_wp2_with fail
    refine (hB.out _).mono ?_; rintro e w2 ⟨rfl, rfl⟩
    go_wp2_with fail
    refine (hM.out _).mono ?_; rintro e w3 ⟨rfl, d3⟩
    replace d3 := Lib.hid (d1.out.trans d3)
    clear d1
    replace hk2 := Lib.hid hk2
    cases a
    · have hkk := Lib.hid (show k = false from hk2.out)
      clear hk2
      go_wp2_with fail
      go_ret2
      exact ⟨ret_ob2 (by rw [ho2.out, hkk.out]) (by omega), d3.out⟩
    cases b
    · have hkk := Lib.hid (show k = false from hk2.out)
      clear hk2
      go_wp2_with fail
      go_ret2
      exact ⟨ret_ob2 (by rw [ho2.out, hkk.out]) (by omega), d3.out⟩
    cases c
    · have hkk := Lib.hid (show k = false from hk2.out)
      clear hk2
      go_wp2_with fail
      go_ret2
      exact ⟨ret_ob2 (by rw [ho2.out, hkk.out]) (by omega), d3.out⟩
    cases hs3 : s3.isEmpty
    · have hkk := hk2.out
      rw [hs3] at hkk
      replace hkk := Lib.hid (show k = false from hkk)
      clear hk2
      go_wp2_with fail
      go_ret2
      exact ⟨ret_ob2 (by rw [ho2.out, hkk.out]) (by omega), d3.out⟩
    by_cases h23 : h ≤ 23
    · have q1 : decide ((h : Int) ≤ 23) = true := by rw [decide_eq_true_eq]; omega
      have q2 : decide (h ≤ 23) = true := by rw [decide_eq_true_eq]; omega
      have hkk := hk2.out
      rw [hs3, q2] at hkk
      replace hkk := Lib.hid (show k = decide (m ≤ 59) by rw [hkk]; rfl)
      clear hk2
      go_wp2_with fail
      go_ret2
      exact ⟨ret_ob3 (by rw [ho2.out, hkk.out]) (by omega) (by rw [Bool.eq_iff_iff, decide_eq_true_eq, decide_eq_true_eq]; omega), d3.out⟩
    · have q1 : decide ((h : Int) ≤ 23) = false := by rw [decide_eq_false_iff_not]; omega
      have q2 : decide (h ≤ 23) = false := by rw [decide_eq_false_iff_not]; omega
      have hkk := hk2.out
      rw [q2, Bool.and_false, Bool.false_and] at hkk
      replace hkk := Lib.hid (show k = false from hkk)
      clear hk2
      go_wp2_with fail
      go_ret2
      exact ⟨ret_ob2 (by rw [ho2.out, hkk.out]) (by omega), d3.out⟩
  by_cases h45 : bt l 0 = 45
  · rw [h45] at ho
    have ho2 : o = (-((3600 * h + 60 * m : Nat) : Int), k) := ho.symm
    replace ho2 := Lib.hid ho2
    clear ho h43
    go_enter Tryz.func94, Tryz.ntmps94
    go_wp2_with fail
    refine (hH.out _).mono ?_; rintro e w1 ⟨rfl, d1⟩
    replace d1 := Lib.hid d1
    go_wp2_with fail
    refine (hB.out _).mono ?_; rintro e w2 ⟨rfl, rfl⟩
    go_wp2_with fail
    refine (hM.out _).mono ?_; rintro e w3 ⟨rfl, d3⟩
    replace d3 := Lib.hid (d1.out.trans d3)
    clear d1
    replace hk2 := Lib.hid hk2
    cases a
    · have hkk := Lib.hid (show k = false from hk2.out)
      clear hk2
      go_wp2_with fail
      go_ret2
      exact ⟨ret_ob2 (by rw [ho2.out, hkk.out]) (by omega), d3.out⟩
    cases b
    · have hkk := Lib.hid (show k = false from hk2.out)
      clear hk2
      go_wp2_with fail
      go_ret2
      exact ⟨ret_ob2 (by rw [ho2.out, hkk.out]) (by omega), d3.out⟩
    cases c
    · have hkk := Lib.hid (show k = false from hk2.out)
      clear hk2
      go_wp2_with fail
      go_ret2
      exact ⟨ret_ob2 (by rw [ho2.out, hkk.out]) (by omega), d3.out⟩
    cases hs3 : s3.isEmpty
    · have hkk := hk2.out
      rw [hs3] at hkk
      replace hkk := Lib.hid (show k = false from hkk)
      clear hk2
      go_wp2_with fail
      go_ret2
      exact ⟨ret_ob2 (by rw [ho2.out, hkk.out]) (by omega), d3.out⟩
    by_cases h23 : h ≤ 23
    · have q1 : decide ((h : Int) ≤ 23) = true := by rw [decide_eq_true_eq]; omega
      have q2 : decide (h ≤ 23) = true := by rw [decide_eq_true_eq]; omega
      have hkk := hk2.out
      rw [hs3, q2] at hkk
      replace hkk := Lib.hid (show k = decide (m ≤ 59) by rw [hkk]; rfl)
      clear hk2
      go_wp2_with fail
      go_ret2
      exact ⟨ret_ob3 (by rw [ho2.out, hkk.out]) (by omega) (by rw [Bool.eq_iff_iff, decide_eq_true_eq, decide_eq_true_eq]; omega), d3.out⟩
    · have q1 : decide ((h : Int) ≤ 23) = false := by rw [decide_eq_false_iff_not]; omega
      have q2 : decide (h ≤ 23) = false := by rw [decide_eq_false_iff_not]; omega
      have hkk := hk2.out
      rw [q2, Bool.and_false, Bool.false_and] at hkk
      replace hkk := Lib.hid (show k = false from hkk)
      clear hk2
      go_wp2_with fail
      go_ret2
      exact ⟨ret_ob2 (by rw [ho2.out, hkk.out]) (by omega), d3.out⟩
  · rw [decide_eq_true h43, decide_eq_true h45] at ho
    have ho2 := Lib.hid (show o = (0, false) from ho.symm)
    have j1 : (bt l 0 != 43) = true := by rw [bne_iff_ne]; exact h43
    have j2 : (bt l 0 != 45) = true := by rw [bne_iff_ne]; exact h45
    clear ho h43 h45 hk2
    go_enter Tryz.func94, Tryz.ntmps94
    go_wp2_with fail
    go_ret2
    exact ⟨ret_ob2 ho2.out rfl, Drawn.refl _⟩

theorem zone_names {l : List UInt8} {z : Int} (h : zoneNm l = some z) (w : World) : Calls Tryz.prog 121 #[.string ⟨l.toArray⟩] w fun e w' => e = .returned (.tuple #[.int .i64 (z * 3600), .bool true]) ∧ w = w' := by
  have hl := zoneNm_some h
  clear h
  rcases hl with ⟨rfl, rfl⟩ | ⟨rfl, rfl⟩ | ⟨rfl, rfl⟩ | ⟨rfl, rfl⟩ | ⟨rfl, rfl⟩ | ⟨rfl, rfl⟩ | ⟨rfl, rfl⟩ | ⟨rfl, rfl⟩ | ⟨rfl, rfl⟩ | ⟨rfl, rfl⟩ | ⟨rfl, rfl⟩ | ⟨rfl, rfl⟩
  all_goals go_enter Tryz.func121, Tryz.ntmps121
  all_goals go_wp2_with fail
  all_goals go_ret2
  all_goals exact ⟨rfl, rfl⟩
def zonR (l : List UInt8) : Int × Bool := match zoneNm l with
  | some z => (z * 3600, true)
  | none => offR l []
theorem zonR_some {l : List UInt8} {z : Int} (h : zoneNm l = some z) : zonR l = (z * 3600, true) := by unfold zonR; rw [h]
theorem zonR_none {l : List UInt8} (h : zoneNm l = none) : zonR l = offR l [] := by unfold zonR; rw [h]
theorem zone13r_any (l : List UInt8) (w : World) (hl : l.length ≤ 100000000) : Calls Tryz.prog 121 #[.string ⟨l.toArray⟩] w fun e w' => e = .returned (.tuple #[.int .i64 (zonR l).1, .bool (zonR l).2]) ∧ Drawn w w' := by
  cases hz : zoneNm l with
  | some z =>
    rw [zonR_some hz]
    exact (zone_names hz w).mono fun e w' hh => ⟨hh.1, by rw [hh.2]; exact Drawn.refl _⟩
  | none =>
    rw [zonR_none hz]
    obtain ⟨e1, e2, e3, e4, e5, e6, e7, e8, e9, e10, e11, e12⟩ := zoneNm_none hz
    have hc := offset13r_any l [] w hl (by decide)
    generalize offR l [] = q at *
    obtain ⟨z, b⟩ := q
    simp only at hc ⊢
    clear hz
    go_enter Tryz.func121, Tryz.ntmps121
    go_wp2_with fail
    refine hc.mono ?_; rintro e w1 ⟨rfl, h1⟩
    replace h1 := Lib.hid h1
    go_wp2_with fail
    go_ret2
    exact ⟨rfl, h1.out⟩
end Go.Proofs.YtkjjjbipmobdaaaGreatDoor
