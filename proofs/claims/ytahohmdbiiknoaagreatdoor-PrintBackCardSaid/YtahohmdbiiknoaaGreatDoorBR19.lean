/- Layer 13, the reference: digits, sign, names, Month, year, whole; plain and walked. -/
import Derived.OwnWalk
import Derived.Test.YtahohmdbiiknoaaGreatDoorBR15
import Derived.Test.YtahohmdbiiknoaaGreatDoorBR17
import Derived.Test.YtahohmdbiiknoaaGreatDoorBR14
import Derived.Test.YtahohmdbiiknoaaGreatDoorBR01
import Derived.Test.YtahohmdbiiknoaaGreatDoorBR18
import Derived.Laws.IdiomStrings
import Derived.Laws.Cover4
import Derived.Test.YtahohmdbiiknoaaGreatDoorBR16
namespace Go.Proofs.YtahohmdbiiknoaaGreatDoor
open Go.RowKit

def digR (k : Nat) (l : List UInt8) : Nat × List UInt8 × Bool := if aheadL l < k then (0, [], false) else (valN 0 (l.take k), l.drop k, true)
theorem digR_bd (k : Nat) (l : List UInt8) : (digR k l).1 < 10 ^ k := by
  unfold digR
  split
  · exact Nat.pow_pos (by omega)
  · exact valN_bd (by omega)
theorem digR_len (k : Nat) (l : List UInt8) : (digR k l).2.1.length ≤ l.length := by unfold digR; split <;> simp
def sgR (l p : List UInt8) : List UInt8 × Bool := if Lib.hasPrefix l p then (l.drop p.length, true) else ([], false)
theorem sgR_len (l p : List UInt8) : (sgR l p).1.length ≤ l.length := by unfold sgR; split <;> simp
theorem sgR_yes {l p : List UInt8} (_h : p.length ≤ l.length) (h2 : (l.take p.length == p) = true) : sgR l p = (l.drop p.length, true) := by
  unfold sgR
  rw [if_pos]
  unfold Lib.hasPrefix
  rw [List.isPrefixOf_iff_prefix]
  rw [beq_iff_eq] at h2
  exact ⟨l.drop p.length, by have := List.take_append_drop p.length l; rw [h2] at this; exact this⟩
theorem sgR_no {l p : List UInt8} (h2 : (l.take p.length == p) = false) : sgR l p = ([], false) := by
  unfold sgR
  rw [if_neg]
  unfold Lib.hasPrefix
  rw [List.isPrefixOf_iff_prefix]
  rintro ⟨t, rfl⟩
  simp at h2
theorem sgR_short {l p : List UInt8} (h : l.length < p.length) : sgR l p = ([], false) := by
  refine sgR_no ?_
  rw [beq_eq_false_iff_ne]
  intro e
  have := congrArg List.length e
  rw [List.length_take] at this
  omega
def yerR (l : List UInt8) : Nat × List UInt8 × Bool :=
  if (digR 4 l).2.2 then ((digR 4 l).1, (digR 4 l).2.1, true)
  else (if (digR 2 l).1 < 50 then 2000 + (digR 2 l).1 else 1900 + (digR 2 l).1, (digR 2 l).2.1, (digR 2 l).2.2)
def wholeR (y m d : Nat) (sec zone : Int) : Int × Bool :=
  (86400 * (daysB y m d).1 + sec - zone, (daysB y m d).2 && decide (0 ≤ 86400 * (daysB y m d).1 + sec - zone) && decide (86400 * (daysB y m d).1 + sec - zone ≤ 253402300799))
/-- A number, what is left, and whether it is one. -/
def trV (o : Nat × List UInt8 × Bool) : Value := .tuple #[.int .i64 o.1, .string ⟨o.2.1.toArray⟩, .bool o.2.2]
theorem ret_tr {o : Nat × List UInt8 × Bool} {a : Int} {l : List UInt8} {b : Bool} {x : Nat} (h : o = (x, l, b)) (hx : a = x) : Ending.returned (.tuple #[.int .i64 a, .string ⟨l.toArray⟩, .bool b]) = .returned (trV o) := by rw [h, hx]; rfl

set_option maxHeartbeats 400000 in
theorem digits13r_any (n : Nat) (l : List UInt8) (w : World) (hl : l.length ≤ 100000000) (hn : n ≤ 4) :
    Calls Tryz.prog 73 #[.string ⟨l.toArray⟩, .int .i64 n] w fun e w' => e = .returned (trV (digR n l)) ∧ Drawn w w' := by
  have hle := aheadL_le l
  by_cases hs : l.length < n
  · have ho := Lib.hid (show digR n l = (0, [], false) by unfold digR; rw [if_pos (by omega)])
    have hs1 : (l.length : Int) < n := by omega
    generalize digR n l = o at *
    clear hle
    go_enter Tryz.func73, Tryz.ntmps73
    go_wp2_with fail
    go_ret3
    exact ⟨ret_tr ho.out rfl, Drawn.refl _⟩
  have hs1 : ¬ ((l.length : Int) < n) := by omega
  have hbd := Lib.hid (fun k (hk : k ≤ aheadL l) => valN_bd (l := l) (k := k) hk)
  have hno := Lib.hid (fun k (hk : aheadL l = k) (hkn : k < n) => (show digR n l = (0, [], false) by unfold digR; rw [if_pos (by omega)]))
  have hyes := Lib.hid (fun (hk : n ≤ aheadL l) => (show digR n l = (valN 0 (l.take n), l.drop n, true) by unfold digR; rw [if_neg (by omega)]))
  generalize digR n l = o at *
  clear hle
  go_enter Tryz.func73, Tryz.ntmps73
  go_wp2_with fail
  go_loopw [7, 8] (fun z i wr => ∃ k x : Nat, k ≤ n ∧ x ≤ 9999 ∧ z = .int .i64 x ∧ i = .int .i64 k ∧ Hid (x = valN 0 (l.take k)) ∧ Hid (aheadL l = k + aheadL (l.drop k)) ∧ Hid (w = wr)) (fun _ i _ => n - (intOf i).toNat)
  case atStart => exact ⟨0, 0, Nat.zero_le _, by omega, rfl, rfl, by rw [List.take_zero]; rfl, by rw [List.drop_zero, Nat.zero_add]; rfl, rfl⟩
  case round =>
    obtain ⟨k, x, hkn, hx, rfl, rfl, he, ha, hwr⟩ := hrel
    by_cases hlt : k < n
    · have hkl : k < l.length := by omega
      have hkl1 : (k : Int) < l.length := by omega
      have hlt1 : (k : Int) < n := by omega
      have hat := aheadL_at hkl
      have hb := bt_lt l k
      by_cases h1 : 48 ≤ bt l k
      · by_cases h2 : bt l k ≤ 57
        · rw [if_pos ⟨h1, h2⟩] at hat
          have ha2 := Lib.hid (show aheadL l = (k + 1) + aheadL (l.drop (k + 1)) by have := ha.out; omega)
          have hv := valN_next hkl h1
          have hb2 : valN 0 (l.take (k + 1)) ≤ 9999 := by
            have h3 := hbd.out (k + 1) (by have := ha2.out; omega)
            have h4 : 10 ^ (k + 1) ≤ 10 ^ 4 := Nat.pow_le_pow_right (by decide) (by omega)
            generalize valN 0 (l.take (k + 1)) = a at *
            generalize 10 ^ (k + 1) = b at *
            omega
          rw [← he.out] at hv
          have hx2 := Lib.hid hv
          replace hat := Lib.hid hat
          clear hv
          go_wp2_with fail
          exact ⟨⟨k + 1, valN 0 (l.take (k + 1)), by omega, hb2, vi64 (by rw [hx2.out]; omega), vi64 (by omega), rfl, ha2, hwr⟩, by simp [intOf]; omega⟩
        · rw [if_neg (fun h => h2 h.2)] at hat
          have ho := Lib.hid (hno.out k (by have := ha.out; omega) hlt)
          replace hat := Lib.hid hat
          go_wp2_with fail
          go_ret3
          exact ⟨ret_tr ho.out rfl, by rw [hwr.out]; exact Drawn.refl _⟩
      · rw [if_neg (fun h => h1 h.1)] at hat
        have ho := Lib.hid (hno.out k (by have := ha.out; omega) hlt)
        replace hat := Lib.hid hat
        go_wp2_with fail
        go_ret3
        exact ⟨ret_tr ho.out rfl, by rw [hwr.out]; exact Drawn.refl _⟩
    · have hlt1 : ¬ ((k : Int) < n) := by omega
      have ho := Lib.hid (hyes.out (by have := ha.out; omega))
      have hx2 := Lib.hid (show x = valN 0 (l.take n) by rw [he.out, show k = n by omega])
      have j1 : (n : Int) ≤ (l.length : Int) := by omega
      have j2 : (0 : Int) ≤ (n : Int) := by omega
      obtain rfl := hwr.out
      go_wp2_with fail
      go_quiet (fail)
      go_wp2_with fail
      go_ret3
      exact ⟨ret_tr ho.out (by rw [hx2.out]), ⟨_, rfl⟩⟩

theorem ret_sb {o : List UInt8 × Bool} {l : List UInt8} {b : Bool} (h : o = (l, b)) : Ending.returned (.tuple #[.string ⟨l.toArray⟩, .bool b]) = .returned (.tuple #[.string ⟨o.1.toArray⟩, .bool o.2]) := by rw [h]
theorem sign13r_any (l p : List UInt8) (w : World) (_hl : l.length ≤ 100000000) (_hp : p.length ≤ 10) :
    Calls Tryz.prog 74 #[.string ⟨l.toArray⟩, .string ⟨p.toArray⟩] w fun e w' => e = .returned (.tuple #[.string ⟨(sgR l p).1.toArray⟩, .bool (sgR l p).2]) ∧ w = w' := by
  by_cases hs : l.length < p.length
  · have ho := Lib.hid (sgR_short hs)
    generalize sgR l p = o at *
    have hs1 : (l.length : Int) < p.length := by omega
    go_enter Tryz.func74, Tryz.ntmps74
    go_wp2_with fail
    go_ret2
    exact ⟨ret_sb ho.out, rfl⟩
  have hs1 : ¬ ((l.length : Int) < p.length) := by omega
  have hs2 : (p.length : Int) ≤ l.length := by omega
  cases hb : (l.take p.length == p)
  · have ho := Lib.hid (sgR_no hb)
    generalize sgR l p = o at *
    go_enter Tryz.func74, Tryz.ntmps74
    go_wp2_with fail
    go_ret2
    exact ⟨ret_sb ho.out, rfl⟩
  · have ho := Lib.hid (sgR_yes (by omega) hb)
    generalize sgR l p = o at *
    go_enter Tryz.func74, Tryz.ntmps74
    go_wp2_with fail
    go_ret2
    exact ⟨ret_sb ho.out, rfl⟩

theorem flat3 {L : List (List UInt8)} (h : ∀ n ∈ L, n.length = 3) (k : Nat) (hk : k < L.length) : (L.flatten.take (3 * k + 3)).drop (3 * k) = L.getD k [] := by
  induction L generalizing k with
  | nil => simp at hk
  | cons n t ih =>
    have hn := h n (by simp)
    cases k with
    | zero => simp [hn]
    | succ k =>
      have := ih (fun m hm => h m (by simp [hm])) k (by simpa using hk)
      rw [List.getD_cons_succ, ← this, List.flatten_cons, List.take_append, List.drop_append, hn]
      rw [show 3 * (k + 1) + 3 - 3 = 3 * k + 3 by omega, show 3 * (k + 1) - (List.take (3 * (k + 1) + 3) n).length = 3 * k by rw [List.length_take]; omega]
      rw [List.drop_eq_nil_of_le (by rw [List.length_take]; omega)]
      rfl
theorem flat_len13 {L : List (List UInt8)} (h : ∀ n ∈ L, n.length = 3) : L.flatten.length = 3 * L.length := by
  induction L with
  | nil => rfl
  | cons n t ih => rw [List.flatten_cons, List.length_append, h n (by simp), ih (fun m hm => h m (by simp [hm])), List.length_cons]; omega
set_option maxHeartbeats 400000 in
theorem names13r_any (L : List (List UInt8)) (hL : ∀ n ∈ L, n.length = 3) (hLn : L.length ≤ 100) (l : List UInt8) (w : World) :
    Calls Tryz.prog 78 #[.string ⟨L.flatten.toArray⟩, .string ⟨l.toArray⟩] w fun e w' => e = .returned (.int .i64 (mIx 0 L l : Nat)) ∧ w = w' := by
  have hfl := flat_len13 hL
  have hf := Lib.hid (fun k hk => flat3 hL k hk)
  generalize L.flatten = A at *
  have hAl : A.length ≤ 300 := by omega
  replace hfl := Lib.hid hfl
  replace hL := Lib.hid hL
  go_enter Tryz.func78, Tryz.ntmps78
  go_wp2_with fail
  go_loopw [5] (fun i wr => ∃ k : Nat, k ≤ L.length ∧ i = .int .i64 k ∧ Hid (mIx 0 L l = mIx k (L.drop k) l) ∧ Hid (w = wr)) (fun i _ => L.length - (intOf i).toNat)
  case atStart => exact ⟨0, Nat.zero_le _, rfl, by rw [List.drop_zero]; rfl, rfl⟩
  case round =>
    obtain ⟨k, hk, rfl, he, hwr⟩ := hrel
    by_cases hlt : k < L.length
    · have hk1 : 3 * (k : Int) + 3 ≤ A.length := by have := hfl.out; omega
      have hk2 : 3 * k + 3 ≤ A.length := by have := hfl.out; omega
      have hsl := hf.out k hlt
      have hwd := drop_get L [] k hlt
      rw [hwd] at he
      clear hwd
      generalize L.getD k [] = n at *
      rw [mIx_cons] at he
      have hix : ∀ W : World, (Instr.slice 9 (.string ⟨A.toArray⟩) (some (.int .i64 (3 * (k : Int)))) (some (.int .i64 (3 * (k : Int) + 3))) none).run Tryz.prog W = .ok (.string ⟨n.toArray⟩) W := fun W => by
        rw [run_slice_string W 9 ⟨A.toArray⟩ .i64 .i64 _ _ Tryz.underlying9 (by omega) (by omega) (by show _ ≤ ((A.length : Nat) : Int); omega), show (3 * (k : Int)).toNat = 3 * k by omega, show (3 * (k : Int) + 3).toNat = 3 * k + 3 by omega, ba_extract, hsl]
      replace hsl := Lib.hid hsl
      cases hb : (n == l)
      · have he2 := he.out
        rw [hb] at he2
        simp only [Bool.false_eq_true, if_false] at he2
        replace he2 := Lib.hid he2
        clear he
        go_wp2_with fail
        exact ⟨⟨k + 1, by omega, vi64 (by omega), he2, hwr⟩, by simp [intOf]; omega⟩
      · have he2 := he.out
        rw [hb] at he2
        simp only [if_true] at he2
        replace he2 := Lib.hid he2
        clear he
        go_wp2_with fail
        go_ret
        exact ⟨ret_int (by rw [he2.out]; omega), hwr.out⟩
    · have he2 := Lib.hid (show mIx 0 L l = 0 by rw [he.out, List.drop_eq_nil_of_le (by omega)]; rfl)
      have hk1 : ¬ (3 * (k : Int) + 3 ≤ A.length) := by have := hfl.out; omega
      have hk2 : ¬ (3 * k + 3 ≤ A.length) := by have := hfl.out; omega
      clear he
      go_wp2_with fail
      go_ret
      exact ⟨ret_int (by rw [he2.out]; rfl), hwr.out⟩
theorem rmonthr_any (l : List UInt8) (w : World) : Calls Tryz.prog 79 #[.string ⟨l.toArray⟩] w fun e w' => e = .returned (.int .i64 (monIx l : Nat)) ∧ w = w' := by
  have hc := names13r_any monthsL months_three (by decide) l w
  unfold monIx
  go_enter Tryz.func79, Tryz.ntmps79
  go_wp2_with fail
  refine hc.mono ?_; rintro e w1 ⟨rfl, rfl⟩
  go_wp2_with fail
  go_ret
  exact ⟨rfl, rfl⟩

theorem year13r_any (l : List UInt8) (w : World) (hl : l.length ≤ 100000000) : Calls Tryz.prog 80 #[.string ⟨l.toArray⟩] w fun e w' => e = .returned (trV (yerR l)) ∧ Drawn w w' := by
  have h4 := Lib.hid (fun W : World => digits13r_any 4 l W hl (by omega))
  have h2 := Lib.hid (fun W : World => digits13r_any 2 l W hl (by omega))
  have b4 := digR_bd 4 l
  have b2 := digR_bd 2 l
  unfold yerR
  generalize digR 4 l = p at *
  generalize digR 2 l = q at *
  obtain ⟨x, t, a⟩ := p
  obtain ⟨y, u, b⟩ := q
  unfold trV at h2 h4 ⊢
  simp only at b2 b4 h2 h4 ⊢
  cases a
  · simp only [Bool.false_eq_true, if_false]
    by_cases hy : y < 50
    · have hy1 : (y : Int) < 50 := by omega
      rw [if_pos hy]
      go_enter Tryz.func80, Tryz.ntmps80
      go_wp2_with fail
      refine (h4.out _).mono ?_; rintro e w1 ⟨rfl, d1⟩
      replace d1 := Lib.hid d1
      go_wp2_with fail
      refine (h2.out _).mono ?_; rintro e w2 ⟨rfl, d2⟩
      replace d2 := Lib.hid d2
      go_wp2_with fail
      go_ret3
      exact ⟨ret_tr (o := (2000 + y, u, b)) rfl (by omega), d1.out.trans d2.out⟩
    · have hy1 : ¬ ((y : Int) < 50) := by omega
      rw [if_neg hy]
      go_enter Tryz.func80, Tryz.ntmps80
      go_wp2_with fail
      refine (h4.out _).mono ?_; rintro e w1 ⟨rfl, d1⟩
      replace d1 := Lib.hid d1
      go_wp2_with fail
      refine (h2.out _).mono ?_; rintro e w2 ⟨rfl, d2⟩
      replace d2 := Lib.hid d2
      go_wp2_with fail
      go_ret3
      exact ⟨ret_tr (o := (1900 + y, u, b)) rfl (by omega), d1.out.trans d2.out⟩
  · simp only [if_true]
    go_enter Tryz.func80, Tryz.ntmps80
    go_wp2_with fail
    refine (h4.out _).mono ?_; rintro e w1 ⟨rfl, d1⟩
    replace d1 := Lib.hid d1
    go_wp2_with fail
    go_ret3
    exact ⟨rfl, d1.out⟩

theorem whole13r_any (y m d : Nat) (s z : Int) (w : World) (hy : y ≤ 1000000) (hs0 : 0 ≤ s) (hs1 : s ≤ 1000000) (hz0 : -1000000 ≤ z) (hz1 : z ≤ 1000000) :
    Calls Tryz.prog 77 #[.int .i64 y, .int .i64 m, .int .i64 d, .int .i64 s, .int .i64 z] w fun e w' => e = .returned (.tuple #[.int .i64 (wholeR y m d s z).1, .bool (wholeR y m d s z).2]) ∧ w = w' := by
  have hd := refdays13_any y m d (by omega) (by omega) w
  have hb := daysB_bd y m d
  unfold wholeR
  generalize daysB y m d = D at *
  obtain ⟨x, t⟩ := D
  simp only at hd hb ⊢
  obtain ⟨hb0, hb1⟩ := hb
  cases t
  · go_enter Tryz.func77, Tryz.ntmps77
    go_wp2_with fail
    refine hd.mono ?_; rintro e w1 ⟨rfl, rfl⟩
    go_wp2_with fail
    go_ret2
    exact ⟨ret_ib rfl (by simp), rfl⟩
  · by_cases n0 : 0 ≤ 86400 * x + s - z
    · by_cases n1 : 86400 * x + s - z ≤ 253402300799
      · go_enter Tryz.func77, Tryz.ntmps77
        go_wp2_with fail
        refine hd.mono ?_; rintro e w1 ⟨rfl, rfl⟩
        go_wp2_with fail
        go_ret2
        exact ⟨ret_ib rfl (by rw [decide_eq_true n0, decide_eq_true n1]; rfl), rfl⟩
      · go_enter Tryz.func77, Tryz.ntmps77
        go_wp2_with fail
        refine hd.mono ?_; rintro e w1 ⟨rfl, rfl⟩
        go_wp2_with fail
        go_ret2
        exact ⟨ret_ib rfl (by simp <;> omega), rfl⟩
    · go_enter Tryz.func77, Tryz.ntmps77
      go_wp2_with fail
      refine hd.mono ?_; rintro e w1 ⟨rfl, rfl⟩
      go_wp2_with fail
      go_ret2
      exact ⟨ret_ib rfl (by simp <;> omega), rfl⟩
end Go.Proofs.YtahohmdbiiknoaaGreatDoor

/- Layer 13, the reference: two, time, Print3339, Print822. -/
namespace Go.Proofs.YtahohmdbiiknoaaGreatDoor
open Go.RowKit

def twoR : Nat → Nat → List UInt8
  | 0, _ => []
  | k + 1, n => twoR k (n / 10) ++ [dig (n % 10)]
theorem twoR_two {n : Nat} (h : n < 100) : twoR 2 n = two13 n := by
  simp only [twoR, two13, List.nil_append, List.cons_append]
  rw [show n / 10 % 10 = n / 10 by omega]
theorem twoR_four {n : Nat} (h : n ≤ 9999) : twoR 4 n = four13 n := by
  simp only [twoR, four13, List.nil_append, List.cons_append, Nat.div_div_eq_div_mul]
  rw [show n / (10 * 10 * 10) % 10 = n / 1000 by omega]
theorem twoR_len (k n : Nat) : (twoR k n).length = k := by
  induction k generalizing n with
  | zero => rfl
  | succ k ih => rw [twoR, List.length_append, ih]; rfl
theorem u8_dig (r : Nat) : u8 (48 + (r : Int)) = dig r := by
  unfold u8 dig
  rw [show (48 + (r : Int)).toNat = 48 + r by omega]

end Go.Proofs.YtahohmdbiiknoaaGreatDoor

/- Layer 13, the reference: Print822. -/
namespace Go.Proofs.YtahohmdbiiknoaaGreatDoor
open Go.RowKit

/-- Nothing old has turned. -/
def BA (w0 w : World) : Prop := Below w0.heap.size w0 w
theorem BA.drew {w0 w : World} (h : Hid (BA w0 w)) : Hid (BA w0 w.drew) := Below.andThen (show Below w0.heap.size w0 w from h.out) ((drawn_drew w).below _)
theorem BA.fin {w0 w : World} (h : Hid (BA w0 w)) : Below w0.heap.size w0 w := h.out
theorem BA.call {w0 w : World} {f : FuncId} {a : Array Value} {t : List UInt8} (h : Hid (BA w0 w)) (hc : Calls Tryz.prog f a w (StrB w t)) : Calls Tryz.prog f a w fun e w' => e = .returned (.string ⟨t.toArray⟩) ∧ Hid (BA w0 w') :=
  hc.mono fun _ _ hh => ⟨hh.1, Below.andThen (show Below w0.heap.size w0 w from h.out) hh.2⟩

end Go.Proofs.YtahohmdbiiknoaaGreatDoor

/- Runes of a text, and the text of runes, as the language has them: a text that is its runes' text, all of which may be, may stand in a document. -/
namespace Go.Proofs.YtahohmdbiiknoaaGreatDoor

theorem encode_enc (r : Int) : Utf8.encode r = ⟨(enc r).toArray⟩ := by
  have hv : Utf8.valid r = isR r := by
    unfold Utf8.valid isR
    rw [Bool.eq_iff_iff]
    simp only [Bool.or_eq_true, Bool.and_eq_true, decide_eq_true_eq]
    omega
  have hn : ∀ c : Int, 0 ≤ c → c < 1114112 → ((if c.toNat < 0x80 then ⟨#[UInt8.ofNat c.toNat]⟩
      else if c.toNat < 0x800 then ⟨#[UInt8.ofNat (0xC0 + c.toNat / 64), UInt8.ofNat (0x80 + c.toNat % 64)]⟩
      else if c.toNat < 0x10000 then ⟨#[UInt8.ofNat (0xE0 + c.toNat / 4096), UInt8.ofNat (0x80 + c.toNat / 64 % 64), UInt8.ofNat (0x80 + c.toNat % 64)]⟩
      else ⟨#[UInt8.ofNat (0xF0 + c.toNat / 262144), UInt8.ofNat (0x80 + c.toNat / 4096 % 64), UInt8.ofNat (0x80 + c.toNat / 64 % 64), UInt8.ofNat (0x80 + c.toNat % 64)]⟩ : ByteArray) = ⟨((encR c).map u8).toArray⟩) := by
    intro c h0 h1
    obtain ⟨n, rfl⟩ : ∃ n : Nat, c = n := ⟨c.toNat, by omega⟩
    unfold encR
    simp only [Int.toNat_natCast]
    have e : ∀ k : Nat, u8 (k : Int) = UInt8.ofNat k := by intro k; unfold u8; rw [Int.toNat_natCast]
    by_cases c1 : n < 128
    · rw [if_pos (show n < 128 by omega), if_pos (show (n : Int) < 128 by omega)]
      simp only [List.map_cons, List.map_nil, e]
    · rw [if_neg (show ¬ n < 128 by omega), if_neg (show ¬ (n : Int) < 128 by omega)]
      by_cases c2 : n < 2048
      · rw [if_pos (show n < 2048 by omega), if_pos (show (n : Int) < 2048 by omega)]
        simp only [List.map_cons, List.map_nil]
        rw [show (192 + (n : Int) / 64) = ((192 + n / 64 : Nat) : Int) by omega, show (128 + (n : Int) % 64) = ((128 + n % 64 : Nat) : Int) by omega, e, e]
      · rw [if_neg (show ¬ n < 2048 by omega), if_neg (show ¬ (n : Int) < 2048 by omega)]
        by_cases c3 : n < 65536
        · rw [if_pos (show n < 65536 by omega), if_pos (show (n : Int) < 65536 by omega)]
          simp only [List.map_cons, List.map_nil]
          rw [show (224 + (n : Int) / 4096) = ((224 + n / 4096 : Nat) : Int) by omega, show (128 + (n : Int) / 64 % 64) = ((128 + n / 64 % 64 : Nat) : Int) by omega, show (128 + (n : Int) % 64) = ((128 + n % 64 : Nat) : Int) by omega, e, e, e]
        · rw [if_neg (show ¬ n < 65536 by omega), if_neg (show ¬ (n : Int) < 65536 by omega)]
          simp only [List.map_cons, List.map_nil]
          rw [show (240 + (n : Int) / 262144) = ((240 + n / 262144 : Nat) : Int) by omega, show (128 + (n : Int) / 4096 % 64) = ((128 + n / 4096 % 64 : Nat) : Int) by omega, show (128 + (n : Int) / 64 % 64) = ((128 + n / 64 % 64 : Nat) : Int) by omega, show (128 + (n : Int) % 64) = ((128 + n % 64 : Nat) : Int) by omega, e, e, e, e]
  unfold Utf8.encode enc encI
  rw [hv]
  cases hr : isR r with
  | true =>
    have hb : 0 ≤ r ∧ r ≤ 1114111 := by unfold isR at hr; simp only [decide_eq_true_eq] at hr; omega
    exact hn r hb.1 (by omega)
  | false => exact hn 65533 (by omega) (by omega)

theorem runes_bytes (R : List Int) : runesBytes R = ⟨(encAll R).toArray⟩ := by
  have : ∀ (R : List Int) (s : List UInt8), R.foldl (fun r n => r ++ Utf8.encode n) (⟨s.toArray⟩ : ByteArray) = ⟨(s ++ encAll R).toArray⟩ := by
    intro R
    induction R with
    | nil => intro s; simp [encAll]
    | cons r t ih =>
      intro s
      rw [List.foldl_cons, encode_enc, ba_append, ih, encAll_cons, List.append_assoc]
  exact this R []

/-- The runes of a text: some numbers, no more than bytes. -/
theorem runes_ints (s : ByteArray) : ∀ (b i : Nat) (acc : List Int), ∃ R : List Int, Conv.runesFrom s b i (acc.map (Value.int .i32)).toArray = ((acc ++ R).map (Value.int .i32)).toArray ∧ R.length ≤ b ∧ ∀ r ∈ R, 0 ≤ r
  | 0, i, acc => ⟨[], by simp [Conv.runesFrom], by simp, by simp⟩
  | b + 1, i, acc => by
    unfold Conv.runesFrom
    split
    · obtain ⟨R, h1, h2, h3⟩ := runes_ints s b (i + (Utf8.decode s i).2) (acc ++ [Int.ofNat (Utf8.decode s i).1])
      refine ⟨Int.ofNat (Utf8.decode s i).1 :: R, ?_, by simp; omega, ?_⟩
      · have e : ((acc.map (Value.int .i32)).toArray.push (.int .i32 (Int.ofNat (Utf8.decode s i).1))) = ((acc ++ [Int.ofNat (Utf8.decode s i).1]).map (Value.int .i32)).toArray := by simp
        simp only [e]
        rw [h1]
        simp
      · intro r hr
        rcases List.mem_cons.1 hr with rfl | hr
        · exact Int.natCast_nonneg _
        · exact h3 r hr
    · exact ⟨[], by simp, by simp, by simp⟩
theorem runes_of (l : List UInt8) : ∃ R : List Int, Conv.runesFrom ⟨l.toArray⟩ l.length 0 #[] = (R.map (Value.int .i32)).toArray ∧ R.length ≤ l.length ∧ ∀ r ∈ R, 0 ≤ r := by
  obtain ⟨R, h1, h2, h3⟩ := runes_ints ⟨l.toArray⟩ l.length 0 []
  exact ⟨R, by simpa using h1, h2, h3⟩

theorem charB_isR {r : Int} (h : charB r = true) : isR r = true := by
  unfold charB at h
  unfold isR
  simp only [decide_eq_true_eq] at h ⊢
  omega
/-- A text that is its runes' text, each of which may be in a document, may be in one. -/
theorem fine_good {l : List UInt8} {R : List Int} (hc : ∀ r ∈ R, charB r = true) (he : encAll R = l) : goodT l = true := by
  have h := dec_enc R
  rw [he] at h
  have hm : R.map fixR = R := by
    have : ∀ r ∈ R, fixR r = r := by intro r hr; unfold fixR; rw [if_pos (charB_isR (hc r hr))]
    exact (List.map_congr_left this).trans (List.map_id' R)
  unfold goodT
  rw [h.1, h.2, hm, Bool.true_and, List.all_eq_true]
  exact hc
end Go.Proofs.YtahohmdbiiknoaaGreatDoor
