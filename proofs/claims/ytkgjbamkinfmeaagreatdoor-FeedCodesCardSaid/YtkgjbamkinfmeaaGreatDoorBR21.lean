/- Layer 13: a day's number. -/
import Derived.Test.YtkgjbamkinfmeaaGreatDoorBR20
import Derived.Lib.Strings
import Derived.Test.YtkgjbamkinfmeaaGreatDoorBR07
import Derived.Test.YtkgjbamkinfmeaaGreatDoorBR01
namespace Go.Proofs.YtkgjbamkinfmeaaGreatDoor
open Go.RowKit

theorem vi64 {a b : Int} (h : a = b) : Value.int .i64 a = .int .i64 b := by rw [h]
theorem ret_ib {a b : Int} {p q : Bool} (h : a = b) (h2 : p = q) : Ending.returned (.tuple #[.int .i64 a, .bool p]) = .returned (.tuple #[.int .i64 b, .bool q]) := by rw [h, h2]
theorem daysB_no {y m d : Int} (h : y < 1970 ∨ 9999 < y ∨ d < 1 ∨ lenI y m < d) : daysB y m d = (0, false) := by unfold daysB; rw [if_pos h]
theorem daysB_yes {y m d : Int} (h : ¬ (y < 1970 ∨ 9999 < y ∨ d < 1 ∨ lenI y m < d)) : ∃ Y M D : Nat, y = Y ∧ m = M ∧ d = D ∧ 1970 ≤ Y ∧ Y ≤ 9999 ∧ 1 ≤ M ∧ M ≤ 12 ∧ 1 ≤ D ∧ D ≤ lenN Y M ∧ D ≤ 31 ∧ daysB y m d = (((nyN Y + mdN Y M + D - 1 : Nat) : Int), true) := by
  have hm := lenI_pos (y := y) (m := m) (by omega)
  have hb := lenI_bd y m
  obtain ⟨Y, rfl⟩ : ∃ Y : Nat, y = Y := ⟨y.toNat, by omega⟩
  obtain ⟨M, rfl⟩ : ∃ M : Nat, m = M := ⟨m.toNat, by omega⟩
  obtain ⟨D, rfl⟩ : ∃ D : Nat, d = D := ⟨d.toNat, by omega⟩
  have hl := lenN_int Y M
  refine ⟨Y, M, D, rfl, rfl, rfl, by omega, by omega, by omega, by omega, by omega, by omega, by omega, ?_⟩
  unfold daysB
  rw [if_neg h]
  simp only [Int.toNat_natCast, Prod.mk.injEq, and_true]
  omega
theorem day_bd {Y M : Nat} (h0 : 1970 ≤ Y) (h1 : Y ≤ 9999) (h2 : M ≤ 12) : nyN Y + mdN Y M ≤ 2932896 := by
  have h3 := mdN_le Y h2
  have h4 := nyN_lt (y := Y) (z := 10000) h0 (by omega)
  rw [nyN_last] at h4
  by_cases h5 : M = 0
  · subst h5; have := yrN_bd Y; show nyN Y + 0 ≤ _; omega
  · have := lenN_low (y := Y) (m := M) (by omega) h2; omega

set_option maxHeartbeats 400000 in
theorem days13_any (y m d : Int) (h0 : -9223372036854775808 ≤ y) (h1 : y ≤ 9223372036854775807) (w : World) :
    Calls Tryz.prog 171 #[.int .i64 y, .int .i64 m, .int .i64 d] w fun e w' => e = .returned (.tuple #[.int .i64 (daysB y m d).1, .bool (daysB y m d).2]) ∧ w = w' := by
  by_cases c : y < 1970 ∨ 9999 < y ∨ d < 1 ∨ lenI y m < d
  · rw [daysB_no c]
    have hc := length13_any y m h0 h1 w
    by_cases c1 : y < 1970
    · clear c hc
      go_enter Tryz.func171, Tryz.ntmps171
      go_wp2_with fail
      go_ret2
      exact ⟨rfl, rfl⟩
    by_cases c2 : 9999 < y
    · clear c hc
      go_enter Tryz.func171, Tryz.ntmps171
      go_wp2_with fail
      go_ret2
      exact ⟨rfl, rfl⟩
    by_cases c3 : d < 1
    · clear c hc
      go_enter Tryz.func171, Tryz.ntmps171
      go_wp2_with fail
      go_ret2
      exact ⟨rfl, rfl⟩
    have c4 : lenI y m < d := by omega
    clear c
    generalize lenI y m = L at hc c4
    go_enter Tryz.func171, Tryz.ntmps171
    go_wp2_with fail
    refine hc.mono ?_; rintro e w1 ⟨rfl, rfl⟩
    go_wp2_with fail
    go_ret2
    exact ⟨rfl, rfl⟩
  · obtain ⟨Y, M, D, rfl, rfl, rfl, y1, y2, m1, m2, d1, d2, d3, he⟩ := daysB_yes c
    rw [he]
    clear he c h0 h1
    have hbd := Lib.hid (fun k (hk : k ≤ 12) => day_bd (M := k) y1 y2 hk)
    have hc := length13_any Y M (by omega) (by omega) w
    rw [← lenN_int] at hc
    have hn := newYear13_any Y y1 (by omega) w
    have hl := Lib.hid (fun (k : Nat) (W : World) => length13_any Y k (by omega) (by omega) W)
    have g1 : ¬ ((Y : Int) < 1970) := by omega
    have g2 : ¬ ((9999 : Int) < Y) := by omega
    have g3 : ¬ ((D : Int) < 1) := by omega
    have g4 : ¬ ((lenN Y M : Nat) < (D : Int)) := by omega
    have hx : nyN Y ≤ 2932896 := by have := hbd.out 0 (by omega); rwa [show mdN Y 0 = 0 from rfl, Nat.add_zero] at this
    have hX := Lib.hid (show nyN Y = nyN Y from rfl)
    generalize lenN Y M = L at hc g4 d2
    have g5 : ¬ L < D := by omega
    generalize hXe : nyN Y = X at hn hx
    replace hXe := Lib.hid hXe
    clear hX
    have hs0 := Lib.hid (show X + D - 1 + 1 = X + mdN Y 1 + D by rw [mdN_one]; omega)
    go_enter Tryz.func171, Tryz.ntmps171
    go_wp2_with fail
    refine hc.mono ?_; rintro e w1 ⟨rfl, rfl⟩
    go_wp2_with fail
    refine hn.mono ?_; rintro e w1 ⟨rfl, rfl⟩
    go_wp2_with fail
    clear hc hn
    go_loopw [8, 9] (fun n a wr => ∃ k z : Nat, 1 ≤ k ∧ k ≤ M ∧ z ≤ 3000000 ∧ n = .int .i64 z ∧ a = .int .i64 k ∧ Hid (z + 1 = X + mdN Y k + D) ∧ Hid (w = wr)) (fun _ a _ => M - (intOf a).toNat)
    case atStart => exact ⟨1, X + D - 1, Nat.le_refl _, m1, by omega, vi64 (by omega), rfl, hs0, rfl⟩
    case round =>
      obtain ⟨k, z, hk1, hk, hz, rfl, rfl, hzz, hwr⟩ := hrel
      by_cases hlt : k < M
      · have hcl := hl.out k wr
        rw [← lenN_int] at hcl
        have hl31 := (lenN_low (y := Y) (m := k) (by omega) (by omega)).2
        have hz2 := Lib.hid (show z + lenN Y k + 1 = X + mdN Y (k + 1) + D by show _ = X + (mdN Y k + lenN Y k) + D; have := hzz.out; omega)
        have hz3 : z + lenN Y k ≤ 3000000 := by have := hbd.out (k + 1) (by omega); have := hz2.out; rw [hXe.out] at *; omega
        have hlt1 : (k : Int) < M := by omega
        generalize lenN Y k = L2 at *
        go_wp2_with fail
        refine hcl.mono ?_; rintro e w1 ⟨rfl, rfl⟩
        go_wp2_with fail
        exact ⟨⟨k + 1, z + L2, by omega, by omega, hz3, vi64 (by omega), vi64 (by omega), hz2, hwr⟩, by simp [intOf]; omega⟩
      · have hke : ¬ ((k : Int) < M) := by omega
        have he := Lib.hid (show z = X + mdN Y M + D - 1 by rw [show M = k by omega]; have := hzz.out; omega)
        go_wp2_with fail
        go_ret2
        exact ⟨ret_ib (by rw [he.out]) rfl, hwr.out⟩

set_option maxHeartbeats 400000 in
theorem refdays13_any (y m d : Int) (h0 : -9223372036854775808 ≤ y) (h1 : y ≤ 9223372036854775807) (w : World) :
    Calls Tryz.prog 148 #[.int .i64 y, .int .i64 m, .int .i64 d] w fun e w' => e = .returned (.tuple #[.int .i64 (daysB y m d).1, .bool (daysB y m d).2]) ∧ w = w' := by
  by_cases c : y < 1970 ∨ 9999 < y ∨ d < 1 ∨ lenI y m < d
  · rw [daysB_no c]
    have hc := reflength13_any y m h0 h1 w
    by_cases c1 : y < 1970
    · clear c hc
      go_enter Tryz.func148, Tryz.ntmps148
      go_wp2_with fail
      go_ret2
      exact ⟨rfl, rfl⟩
    by_cases c2 : 9999 < y
    · clear c hc
      go_enter Tryz.func148, Tryz.ntmps148
      go_wp2_with fail
      go_ret2
      exact ⟨rfl, rfl⟩
    by_cases c3 : d < 1
    · clear c hc
      go_enter Tryz.func148, Tryz.ntmps148
      go_wp2_with fail
      go_ret2
      exact ⟨rfl, rfl⟩
    have c4 : lenI y m < d := by omega
    clear c
    generalize lenI y m = L at hc c4
    go_enter Tryz.func148, Tryz.ntmps148
    go_wp2_with fail
    refine hc.mono ?_; rintro e w1 ⟨rfl, rfl⟩
    go_wp2_with fail
    go_ret2
    exact ⟨rfl, rfl⟩
  · obtain ⟨Y, M, D, rfl, rfl, rfl, y1, y2, m1, m2, d1, d2, d3, he⟩ := daysB_yes c
    rw [he]
    clear he c h0 h1
    have hbd := Lib.hid (fun k (hk : k ≤ 12) => day_bd (M := k) y1 y2 hk)
    have hc := reflength13_any Y M (by omega) (by omega) w
    rw [← lenN_int] at hc
    have hl := Lib.hid (fun (k : Nat) (W : World) => reflength13_any Y k (by omega) (by omega) W)
    have hlp := Lib.hid (fun (k : Nat) (hk : k ≤ 10000) (W : World) => refleap13_any k (by omega) (by omega) W)
    have g1 : ¬ ((Y : Int) < 1970) := by omega
    have g2 : ¬ ((9999 : Int) < Y) := by omega
    have g3 : ¬ ((D : Int) < 1) := by omega
    have g4 : ¬ ((lenN Y M : Nat) < (D : Int)) := by omega
    generalize lenN Y M = L at hc g4 d2
    have g5 : ¬ L < D := by omega
    have hs0 := Lib.hid (show D - 1 + 1 = nyN 1970 + D by rw [nyN_first]; omega)
    go_enter Tryz.func148, Tryz.ntmps148
    go_wp2_with fail
    refine hc.mono ?_; rintro e w1 ⟨rfl, rfl⟩
    go_wp2_with fail
    clear hc
    go_loopw [8, 9] (fun n a wr => ∃ k z : Nat, 1970 ≤ k ∧ k ≤ Y ∧ z ≤ 3000000 ∧ n = .int .i64 z ∧ a = .int .i64 k ∧ Hid (z + 1 = nyN k + D) ∧ Hid (w = wr)) (fun _ a _ => Y - (intOf a).toNat)
    case atStart => exact ⟨1970, D - 1, Nat.le_refl _, y1, by omega, vi64 (by omega), rfl, hs0, rfl⟩
    case round =>
      obtain ⟨k, z, hk1, hk, hz, rfl, rfl, hzz, hwr⟩ := hrel
      by_cases hlt : k < Y
      · have hcl := hlp.out k (by omega) wr
        have hz2 : z + yrN k + 1 = nyN (k + 1) + D := by rw [nyN_next hk1]; have := hzz.out; omega
        have hz3 : z + yrN k ≤ 3000000 := by
          have h5 := nyN_lt (y := k) (z := 10000) hk1 (by omega)
          rw [nyN_last] at h5
          have := hzz.out; omega
        unfold yrN at hz2 hz3
        have hlt1 : (k : Int) < Y := by omega
        cases hlb : leapI k
        · rw [hlb] at hz2 hz3 hcl
          simp only [Bool.false_eq_true, if_false] at hz2 hz3
          replace hz2 := Lib.hid hz2
          go_wp2_with fail
          refine hcl.mono ?_; rintro e w1 ⟨rfl, rfl⟩
          go_wp2_with fail
          exact ⟨⟨k + 1, z + 365, by omega, by omega, hz3, vi64 (by omega), vi64 (by omega), hz2, hwr⟩, by simp [intOf]; omega⟩
        · rw [hlb] at hz2 hz3 hcl
          simp only [if_true] at hz2 hz3
          replace hz2 := Lib.hid hz2
          go_wp2_with fail
          refine hcl.mono ?_; rintro e w1 ⟨rfl, rfl⟩
          go_wp2_with fail
          exact ⟨⟨k + 1, z + 366, by omega, by omega, hz3, vi64 (by omega), vi64 (by omega), hz2, hwr⟩, by simp [intOf]; omega⟩
      · have hke : ¬ ((k : Int) < Y) := by omega
        have hs := Lib.hid (show z + 1 = nyN Y + mdN Y 1 + D by
          have e0 := mdN_one Y
          have hk2 : Y = k := by omega
          have h5 := hzz.out
          rw [← hk2] at h5
          generalize nyN Y = a at *
          generalize mdN Y 1 = b at *
          omega)
        clear hzz
        go_wp2_with fail
        obtain ⟨wo, hwo⟩ : ∃ wo : World, wr = wo := ⟨_, rfl⟩
        rw [hwo] at hwr
        rw [hwo]
        clear hwo
        go_loopw [8, 10] (fun n a wr => ∃ k z : Nat, 1 ≤ k ∧ k ≤ M ∧ z ≤ 3000000 ∧ n = .int .i64 z ∧ a = .int .i64 k ∧ Hid (z + 1 = nyN Y + mdN Y k + D) ∧ Hid (w = wr)) (fun _ a _ => M - (intOf a).toNat)
        case atStart => exact ⟨1, z, Nat.le_refl _, m1, hz, rfl, rfl, hs, hwr⟩
        case round =>
          clear hs hwr
          obtain ⟨j, x, hj1, hj, hx, rfl, rfl, hxx, hwr⟩ := hrel
          by_cases hjt : j < M
          · have hcl := hl.out j wr
            rw [← lenN_int] at hcl
            have hl31 := (lenN_low (y := Y) (m := j) (by omega) (by omega)).2
            have hz2 := Lib.hid (show x + lenN Y j + 1 = nyN Y + mdN Y (j + 1) + D by show _ = nyN Y + (mdN Y j + lenN Y j) + D; have := hxx.out; omega)
            have hz3 : x + lenN Y j ≤ 3000000 := by have := hbd.out (j + 1) (by omega); have := hz2.out; omega
            have hlt1 : (j : Int) < M := by omega
            generalize lenN Y j = L2 at *
            go_wp2_with fail
            refine hcl.mono ?_; rintro e w1 ⟨rfl, rfl⟩
            go_wp2_with fail
            exact ⟨⟨j + 1, x + L2, by omega, by omega, hz3, vi64 (by omega), vi64 (by omega), hz2, hwr⟩, by simp [intOf]; omega⟩
          · have hje : ¬ ((j : Int) < M) := by omega
            have he := Lib.hid (show x = nyN Y + mdN Y M + D - 1 by rw [show M = j by omega]; have := hxx.out; omega)
            go_wp2_with fail
            go_ret2
            exact ⟨ret_ib (by rw [he.out]) rfl, hwr.out⟩
end Go.Proofs.YtkgjbamkinfmeaaGreatDoor

/- Plain mathematics of layer 13: what a reader cuts off a text; what is read of it. Nothing of the program. -/
namespace Go.Proofs.YtkgjbamkinfmeaaGreatDoor

def monthsL : List (List UInt8) := [[74, 97, 110], [70, 101, 98], [77, 97, 114], [65, 112, 114], [77, 97, 121], [74, 117, 110], [74, 117, 108], [65, 117, 103], [83, 101, 112], [79, 99, 116], [78, 111, 118], [68, 101, 99]]
def weekL : List (List UInt8) := [[77, 111, 110], [84, 117, 101], [87, 101, 100], [84, 104, 117], [70, 114, 105], [83, 97, 116], [83, 117, 110]]

/-- What is left of a text, and whether a piece wasn't there. -/
abbrev RSt := List UInt8 × Bool
def skipC (s : RSt) (p : List UInt8) : Bool × RSt := (Lib.hasPrefix s.1 p, (Lib.trimPrefix s.1 p, s.2))
def signC (s : RSt) (p : List UInt8) : RSt := (Lib.trimPrefix s.1 p, if Lib.hasPrefix s.1 p then s.2 else true)
def dgB (c : UInt8) : Bool := decide (48 ≤ c.toNat) && decide (c.toNat ≤ 57)
/-- How many digits come. -/
def aheadL : List UInt8 → Nat
  | [] => 0
  | c :: t => if dgB c then aheadL t + 1 else 0
theorem aheadL_le (l : List UInt8) : aheadL l ≤ l.length := by
  induction l with
  | nil => simp [aheadL]
  | cons c t ih => unfold aheadL; split <;> simp <;> omega
theorem aheadL_at {l : List UInt8} {k : Nat} (hk : k < l.length) : aheadL (l.drop k) = if 48 ≤ bt l k ∧ bt l k ≤ 57 then aheadL (l.drop (k + 1)) + 1 else 0 := by
  rw [List.drop_eq_getElem_cons hk, aheadL]
  have h : bt l k = ((l[k]).toNat : Int) := by unfold bt; simp [List.getD, hk]
  have hb : dgB l[k] = decide (48 ≤ bt l k ∧ bt l k ≤ 57) := by
    rw [h, Bool.eq_iff_iff, dgB, Bool.and_eq_true, decide_eq_true_eq, decide_eq_true_eq, decide_eq_true_eq]
    omega
  rw [hb]
  by_cases c : 48 ≤ bt l k ∧ bt l k ≤ 57 <;> simp [c]
theorem aheadL_end {l : List UInt8} {k : Nat} (hk : ¬ k < l.length) : aheadL (l.drop k) = 0 := by rw [List.drop_eq_nil_of_le (by omega)]; rfl
theorem aheadL_dg {l : List UInt8} {k : Nat} (h : k < aheadL l) : 48 ≤ bt l k ∧ bt l k ≤ 57 := by
  induction l generalizing k with
  | nil => simp [aheadL] at h
  | cons c t ih =>
    unfold aheadL at h
    split at h
    · rename_i hc
      cases k with
      | zero =>
        rw [dgB, Bool.and_eq_true, decide_eq_true_eq, decide_eq_true_eq] at hc
        unfold bt; simp only [List.getD_cons_zero]; omega
      | succ k =>
        have := ih (k := k) (by omega)
        unfold bt at this ⊢
        simpa only [List.getD_cons_succ] using this
    · omega
/-- The number of digits. -/
def valN (n : Nat) : List UInt8 → Nat
  | [] => n
  | c :: t => valN (n * 10 + (c.toNat - 48)) t
theorem valN_snoc (n : Nat) (l : List UInt8) (c : UInt8) : valN n (l ++ [c]) = valN n l * 10 + (c.toNat - 48) := by
  induction l generalizing n with
  | nil => rfl
  | cons d t ih => exact ih _
theorem valN_next {l : List UInt8} {k : Nat} (hk : k < l.length) (h : 48 ≤ bt l k) : ((valN 0 (l.take (k + 1)) : Nat) : Int) = (valN 0 (l.take k) : Nat) * 10 + (bt l k - 48) := by
  rw [List.take_succ_eq_append_getElem hk, valN_snoc]
  have h1 : bt l k = ((l[k]).toNat : Int) := by unfold bt; simp [List.getD, hk]
  omega
theorem valN_bd {l : List UInt8} {k : Nat} (h : k ≤ aheadL l) : valN 0 (l.take k) < 10 ^ k := by
  induction k with
  | zero => rw [List.take_zero]; exact Nat.pow_pos (n := 0) (by decide : 0 < 10)
  | succ k ih =>
    have h1 := aheadL_dg (l := l) (k := k) (by omega)
    have h2 := valN_next (l := l) (k := k) (by have := aheadL_le l; omega) h1.1
    have h3 := ih (by omega)
    rw [Nat.pow_succ]
    generalize valN 0 (l.take (k + 1)) = a at *
    generalize valN 0 (l.take k) = b at *
    generalize 10 ^ k = c at *
    omega
def numD (k : Nat) (s : RSt) : Nat × RSt := if aheadL s.1 < k then (0, (s.1, true)) else (valN 0 (s.1.take k), (s.1.drop k, s.2))
theorem numC_bd (k : Nat) (s : RSt) : (numD k s).1 < 10 ^ k := by
  unfold numD
  split
  · exact Nat.pow_pos (by omega)
  · exact valN_bd (by omega)
def digitsC (s : RSt) : RSt := (s.1.drop (aheadL s.1), if aheadL s.1 = 0 then true else s.2)
def partC (most : Nat) (s : RSt) : Nat × RSt := if most < (numD 2 s).1 then (0, ((numD 2 s).2.1, true)) else numD 2 s
theorem partC_bd (most : Nat) (s : RSt) : (partC most s).1 ≤ most := by
  unfold partC
  split <;> omega
/-- Behind a day's name, if there is one. -/
def wkF : List (List UInt8) → List UInt8 → List UInt8
  | [], l => l
  | n :: t, l => if Lib.hasPrefix l (n ++ [44, 32]) then Lib.trimPrefix l (n ++ [44, 32]) else wkF t l
def weekdayC (s : RSt) : RSt := (wkF weekL s.1, s.2)
def dayC (s : RSt) : Nat × RSt := if aheadL s.1 = 1 then numD 1 s else numD 2 s
theorem dayC_bd (s : RSt) : (dayC s).1 ≤ 9999 := by
  unfold dayC
  split
  · have := numC_bd 1 s; omega
  · have := numC_bd 2 s; omega
/-- A month's number by its name. -/
def mIx (i : Nat) : List (List UInt8) → List UInt8 → Nat
  | [], _ => 0
  | n :: t, l => if n == l then i + 1 else mIx (i + 1) t l
def monIx (l : List UInt8) : Nat := mIx 0 monthsL l
theorem mIx_le (t : List (List UInt8)) (i : Nat) (l : List UInt8) : mIx i t l ≤ i + t.length := by
  induction t generalizing i with
  | nil => simp [mIx]
  | cons n t ih => unfold mIx; split <;> simp <;> have := ih (i + 1) <;> omega
theorem monIx_le (l : List UInt8) : monIx l ≤ 12 := mIx_le monthsL 0 l
def monF : List (List UInt8) → List UInt8 → Option (Nat × List UInt8)
  | [], _ => none
  | n :: t, l => if Lib.hasPrefix l n then some (monIx n, Lib.trimPrefix l n) else monF t l
def monthC (s : RSt) : Nat × RSt := match monF monthsL s.1 with
  | some (m, t) => (m, (t, s.2))
  | none => (0, (s.1, true))
theorem monF_le (t : List (List UInt8)) {l u : List UInt8} {m : Nat} (h : monF t l = some (m, u)) : m ≤ 12 := by
  induction t with
  | nil => cases h
  | cons n t ih =>
    unfold monF at h
    split at h
    · injection h with h; injection h with h _; rw [← h]; exact monIx_le n
    · exact ih h
theorem monthC_bd (s : RSt) : (monthC s).1 ≤ 12 := by
  unfold monthC
  cases h : monF monthsL s.1 with
  | none => simp
  | some p => obtain ⟨m, u⟩ := p; exact monF_le _ h
def yearC (s : RSt) : Nat × RSt := if aheadL s.1 = 2 then ((if (numD 2 s).1 < 50 then 2000 + (numD 2 s).1 else 1900 + (numD 2 s).1), (numD 2 s).2) else numD 4 s
theorem yearC_bd (s : RSt) : (yearC s).1 ≤ 9999 := by
  unfold yearC
  split
  · have := numC_bd 2 s
    generalize numD 2 s = p at *
    show (if p.1 < 50 then 2000 + p.1 else 1900 + p.1) ≤ 9999
    split <;> omega
  · have := numC_bd 4 s; omega
def hoursC (p : List UInt8) (s : RSt) : Nat × RSt :=
  ((partC 23 s).1 * 3600 + (partC 59 (signC (partC 23 s).2 p)).1 * 60, (partC 59 (signC (partC 23 s).2 p)).2)
theorem hoursC_bd (p : List UInt8) (s : RSt) : (hoursC p s).1 ≤ 86340 := by
  unfold hoursC
  have h1 := partC_bd 23 s
  have h2 := partC_bd 59 (signC (partC 23 s).2 p)
  show _ * 3600 + _ * 60 ≤ _
  omega
def secondsC (s : RSt) : Nat × RSt := partC 59 (signC s [58])
theorem secondsC_bd (s : RSt) : (secondsC s).1 ≤ 59 := partC_bd _ _
def offsetC (p : List UInt8) (s : RSt) : Int × RSt :=
  if (skipC s [45]).1 then (-((hoursC p (skipC s [45]).2).1 : Int), (hoursC p (skipC s [45]).2).2)
  else (((hoursC p (signC (skipC s [45]).2 [43])).1 : Int), (hoursC p (signC (skipC s [45]).2 [43])).2)
theorem offsetC_bd (p : List UInt8) (s : RSt) : -86340 ≤ (offsetC p s).1 ∧ (offsetC p s).1 ≤ 86340 := by
  unfold offsetC
  have h1 := hoursC_bd p (skipC s [45]).2
  have h2 := hoursC_bd p (signC (skipC s [45]).2 [43])
  split
  · exact ⟨by show _ ≤ -((hoursC p (skipC s [45]).2).1 : Int); omega, by show -((hoursC p (skipC s [45]).2).1 : Int) ≤ _; omega⟩
  · exact ⟨by show _ ≤ ((hoursC p (signC (skipC s [45]).2 [43])).1 : Int); omega, by show ((hoursC p (signC (skipC s [45]).2 [43])).1 : Int) ≤ _; omega⟩
/-- A zone's hours by its name. -/
def zoneNm (l : List UInt8) : Option Int :=
  if l == [71, 77, 84] || l == [85, 84] || l == [85, 84, 67] || l == [90] then some 0
  else if l == [69, 68, 84] then some (-4)
  else if l == [69, 83, 84] || l == [67, 68, 84] then some (-5)
  else if l == [67, 83, 84] || l == [77, 68, 84] then some (-6)
  else if l == [77, 83, 84] || l == [80, 68, 84] then some (-7)
  else if l == [80, 83, 84] then some (-8)
  else none
def zoneC (s : RSt) : Int × RSt := match zoneNm s.1 with
  | some z => (z * 3600, ([], s.2))
  | none => offsetC [] s
theorem zoneNm_bd {l : List UInt8} {z : Int} (h : zoneNm l = some z) : -8 ≤ z ∧ z ≤ 0 := by
  unfold zoneNm at h
  repeat' split at h
  all_goals first | (injection h with h; subst h; exact ⟨by decide, by decide⟩) | cases h
theorem zoneC_bd (s : RSt) : -86340 ≤ (zoneC s).1 ∧ (zoneC s).1 ≤ 86340 := by
  unfold zoneC
  cases h : zoneNm s.1 with
  | none => exact offsetC_bd _ _
  | some z =>
    have := zoneNm_bd h
    show _ ≤ z * 3600 ∧ z * 3600 ≤ _
    omega
def dateC (s : RSt) (y m d : Nat) (clock : Int) : Int × Bool :=
  if s.2 = true ∨ s.1 ≠ [] ∨ (daysB y m d).2 = false ∨ (daysB y m d).1 * 86400 + clock < 0 ∨ 253402300799 < (daysB y m d).1 * 86400 + clock then (0, false) else ((daysB y m d).1 * 86400 + clock, true)

/-- What Rfc822 answers, step by step. -/
def r822g (d m y : Nat) (q : Int × RSt) : Int × Bool := dateC (zoneC q.2).2 y m d (q.1 - (zoneC q.2).1)
def r822f (d m y h : Nat) (k : Bool × RSt) : Int × Bool := if k.1 then r822g d m y ((h : Int), k.2) else r822g d m y (((h + (secondsC k.2).1 : Nat) : Int), signC (secondsC k.2).2 [32])
def r822e (d m y : Nat) (h : Nat × RSt) : Int × Bool := r822f d m y h.1 (skipC h.2 [32])
def r822d (d m : Nat) (y : Nat × RSt) : Int × Bool := r822e d m y.1 (hoursC [58] (signC y.2 [32]))
def r822b (d : Nat) (m : Nat × RSt) : Int × Bool := r822d d m.1 (yearC (signC m.2 [32]))
def r822a (d : Nat × RSt) : Int × Bool := r822b d.1 (monthC (signC d.2 [32]))
def r822C (l : List UInt8) : Int × Bool := r822a (dayC (weekdayC (l, false)))
/-- What Rfc3339 answers, step by step. -/
def r3339g (y m d : Nat) (z : Int × RSt) : Int × Bool := dateC z.2 y m d z.1
def r3339f (y m d c : Nat) (s : RSt) : Int × Bool :=
  if (skipC s [90]).1 then r3339g y m d ((c : Int), (skipC s [90]).2)
  else if (skipC (skipC s [90]).2 [122]).1 then r3339g y m d ((c : Int), (skipC (skipC s [90]).2 [122]).2)
  else r3339g y m d ((c : Int) - (offsetC [58] (skipC (skipC s [90]).2 [122]).2).1, (offsetC [58] (skipC (skipC s [90]).2 [122]).2).2)
def r3339e (y m d c : Nat) (k : Bool × RSt) : Int × Bool := if k.1 then r3339f y m d c (digitsC k.2) else r3339f y m d c k.2
def r3339d (y m d h : Nat) (c : Nat × RSt) : Int × Bool := r3339e y m d (h + c.1) (skipC c.2 [46])
def r3339c (y m d : Nat) (h : Nat × RSt) : Int × Bool := r3339d y m d h.1 (secondsC h.2)
/-- Behind the T. -/
def teeC (s : RSt) : RSt := if (skipC s [84]).1 then (skipC s [84]).2 else if (skipC (skipC s [84]).2 [116]).1 then (skipC (skipC s [84]).2 [116]).2 else signC (skipC (skipC s [84]).2 [116]).2 [32]
def r3339b (y m : Nat) (d : Nat × RSt) : Int × Bool := r3339c y m d.1 (hoursC [58] (teeC d.2))
def r3339a (y : Nat) (m : Nat × RSt) : Int × Bool := r3339b y m.1 (numD 2 (signC m.2 [45]))
def r3339y (y : Nat × RSt) : Int × Bool := r3339a y.1 (numD 2 (signC y.2 [45]))
def r3339C (l : List UInt8) : Int × Bool := r3339y (numD 4 (l, false))
end Go.Proofs.YtkgjbamkinfmeaaGreatDoor

/- Layer 13: a reader: skip, sign, ahead, digits, number, part. -/
namespace Go.Proofs.YtkgjbamkinfmeaaGreatDoor
open Go.RowKit

/-- A reader in its block. -/
def RdC (w : World) (R : Nat) (s : RSt) : Prop := ArrAt w R 182 [.string ⟨s.1.toArray⟩, .bool s.2]
theorem RdC.c0 {w : World} {R : Nat} {s : RSt} (h : RdC w R s) : w.cell? ⟨R, 0, none⟩ = some (.string ⟨s.1.toArray⟩) := by rw [ArrAt.cell h 0]; rfl
theorem RdC.c1 {w : World} {R : Nat} {s : RSt} (h : RdC w R s) : w.cell? ⟨R, 1, none⟩ = some (.bool s.2) := by rw [ArrAt.cell h 1]; rfl
theorem RdC.fz {w : World} {R : Nat} {s : RSt} (h : RdC w R s) (k : Nat) : w.frozen? ⟨R, k, none⟩ = false := ArrAt.soft h k
theorem RdC.rest {w : World} {R : Nat} {s : RSt} (h : RdC w R s) (l : List UInt8) : RdC (w.setCell ⟨R, 0, none⟩ (.string ⟨l.toArray⟩)) R (l, s.2) := ArrAt.set h 0 _
theorem RdC.bad {w : World} {R : Nat} {s : RSt} (h : RdC w R s) (b : Bool) : RdC (w.setCell ⟨R, 1, none⟩ (.bool b)) R (s.1, b) := ArrAt.set h 1 _
/-- Behind a method: what it told, the reader behind it, and nothing else has turned. -/
def RPost (w : World) (R : Nat) (s : RSt) (v : Value) (e : Ending) (w' : World) : Prop := e = .returned v ∧ RdC w' R s ∧ Turned (fun b => b = R) w w'
theorem RPost.mk {w w' : World} {R : Nat} {s s' : RSt} {v : Value} (hs : s = s') (h : RdC w' R s) (ht : Turned (fun b => b = R) w w') : RPost w R s' v (.returned v) w' := by subst hs; exact ⟨rfl, h, ht⟩
theorem RPost.mk2 {w w' : World} {R : Nat} {s s' : RSt} {v v' : Value} (hv : v = v') (hs : s = s') (h : RdC w' R s) (ht : Turned (fun b => b = R) w w') : RPost w R s' v' (.returned v) w' := by subst hs hv; exact ⟨rfl, h, ht⟩
theorem turn_rest (w : World) (R : Nat) (k : Nat) (v : Value) : Turned (fun b => b = R) w (w.setCell ⟨R, k, none⟩ v) := turned_setCell w ⟨R, k, none⟩ v
theorem turn_then {a b c : World} {R : Nat} (h : Turned (fun x => x = R) a b) (k : Turned (fun x => x = R) b c) : Turned (fun x => x = R) a c := h.trans k fun _ _ e => e

theorem skip13_any (R : Nat) (s : RSt) (p : List UInt8) (w : World) (h : RdC w R s) :
    Calls Tryz.prog 132 #[.pointer (some ⟨R, 0, none⟩), .string ⟨p.toArray⟩] w (RPost w R (skipC s p).2 (.bool (skipC s p).1)) := by
  have c0 := h.c0
  have f0 := h.fz 0
  have hr := Lib.hid (h.rest (Lib.trimPrefix s.1 p))
  have hc := fun W : World => cutPrefix_any s.1 p W
  unfold skipC
  simp only
  generalize Lib.trimPrefix s.1 p = t at *
  generalize Lib.hasPrefix s.1 p = b at *
  replace h := Lib.hid h
  go_enter Tryz.func132, Tryz.ntmps132
  go_wp2_with fail
  refine (hc _).mono ?_; rintro e w1 ⟨rfl, rfl⟩
  go_wp2_with fail
  go_ret
  exact ⟨rfl, hr.out, turn_rest _ _ _ _⟩

theorem sign13_any (R : Nat) (s : RSt) (p : List UInt8) (w : World) (h : RdC w R s) :
    Calls Tryz.prog 131 #[.pointer (some ⟨R, 0, none⟩), .string ⟨p.toArray⟩] w (RPost w R (signC s p) (.tuple #[])) := by
  have hk := skip13_any R s p w h
  unfold skipC at hk
  unfold signC
  simp only at hk ⊢
  generalize Lib.trimPrefix s.1 p = t at *
  cases hb : Lib.hasPrefix s.1 p
  · rw [hb] at hk
    simp only [Bool.false_eq_true, if_false]
    replace h := Lib.hid h
    clear hb
    go_enter Tryz.func131, Tryz.ntmps131
    go_wp2_with fail
    refine hk.mono ?_; rintro e w1 ⟨rfl, h1, ht⟩
    have c1 := h1.c1
    have f1 := h1.fz 1
    replace h1 := Lib.hid h1
    replace ht := Lib.hid ht
    go_wp2_with fail
    refine bodyPost_end (v := .tuple #[]) (by simp [results, Tryz.results131, go_sem]) rfl ?_
    exact ⟨rfl, h1.out.bad true, turn_then ht.out (turn_rest _ _ _ _)⟩
  · rw [hb] at hk
    simp only [if_true]
    replace h := Lib.hid h
    clear hb
    go_enter Tryz.func131, Tryz.ntmps131
    go_wp2_with fail
    refine hk.mono ?_; rintro e w1 ⟨rfl, h1, ht⟩
    replace h1 := Lib.hid h1
    replace ht := Lib.hid ht
    go_wp2_with fail
    refine bodyPost_end (v := .tuple #[]) (by simp [results, Tryz.results131, go_sem]) rfl ?_
    exact ⟨rfl, h1.out, ht.out⟩

theorem ahead13_any (R : Nat) (s : RSt) (w : World) (h : RdC w R s) (hl : s.1.length ≤ 100000000) :
    Calls Tryz.prog 168 #[.pointer (some ⟨R, 0, none⟩)] w fun e w' => e = .returned (.int .i64 (aheadL s.1)) ∧ w = w' := by
  have c0 := h.c0
  generalize s.1 = l at *
  replace h := Lib.hid h
  go_enter Tryz.func168, Tryz.ntmps168
  go_wp2_with fail
  go_loopw [3] (fun a wr => ∃ k : Nat, k ≤ l.length ∧ a = .int .i64 k ∧ Hid (aheadL l = k + aheadL (l.drop k)) ∧ Hid (w = wr)) (fun a _ => l.length - (intOf a).toNat)
  case atStart => exact ⟨0, Nat.zero_le _, rfl, by rw [List.drop_zero, Nat.zero_add]; rfl, rfl⟩
  case round =>
    obtain ⟨k, hk, rfl, he, hwr⟩ := hrel
    have c0 : wr.cell? ⟨R, 0, none⟩ = some (.string ⟨l.toArray⟩) := by rw [← hwr.out]; exact c0
    by_cases hlt : k < l.length
    · have hat := aheadL_at hlt
      have hb := bt_lt l k
      have hlt1 : (k : Int) < l.length := by omega
      by_cases h1 : 48 ≤ bt l k
      · by_cases h2 : bt l k ≤ 57
        · rw [if_pos ⟨h1, h2⟩] at hat
          have he2 := Lib.hid (show aheadL l = (k + 1) + aheadL (l.drop (k + 1)) by have := he.out; omega)
          replace hat := Lib.hid hat
          go_wp2_with fail
          exact ⟨⟨k + 1, by omega, vi64 (by omega), he2, hwr⟩, by simp [intOf]; omega⟩
        · rw [if_neg (fun h => h2 h.2)] at hat
          have he2 := Lib.hid (show (k : Int) = aheadL l by have := he.out; omega)
          replace hat := Lib.hid hat
          go_wp2_with fail
          go_ret
          exact ⟨ret_int he2.out, hwr.out⟩
      · rw [if_neg (fun h => h1 h.1)] at hat
        have he2 := Lib.hid (show (k : Int) = aheadL l by have := he.out; omega)
        replace hat := Lib.hid hat
        go_wp2_with fail
        go_ret
        exact ⟨ret_int he2.out, hwr.out⟩
    · have hat := aheadL_end hlt
      have he2 := Lib.hid (show (k : Int) = aheadL l by have := he.out; omega)
      have hlt1 : ¬ ((k : Int) < l.length) := by omega
      replace hat := Lib.hid hat
      go_wp2_with fail
      go_ret
      exact ⟨ret_int he2.out, hwr.out⟩

theorem digits13_any /- where there is 92 -/ (R : Nat) (s : RSt) (w : World) (h : RdC w R s) (hl : s.1.length ≤ 100000000) :
    Calls Tryz.prog 135 #[.pointer (some ⟨R, 0, none⟩)] w (RPost w R (digitsC s) (.tuple #[])) := by
  have ha := ahead13_any R s w h hl
  have hle := aheadL_le s.1
  have c0 := h.c0
  have f0 := h.fz 0
  have f1 := h.fz 1
  have c1 := h.c1
  unfold digitsC
  by_cases h0 : aheadL s.1 = 0
  · rw [if_pos h0, h0]
    rw [h0] at ha
    have hb := Lib.hid (h.bad true)
    have d0 := hb.out.c0
    have g0 := hb.out.fz 0
    have hb2 := Lib.hid (hb.out.rest (s.1.drop 0))
    replace h := Lib.hid h
    generalize aheadL s.1 = A at *
    generalize s.1 = l at *
    clear hle
    go_enter Tryz.func135, Tryz.ntmps135
    go_wp2_with fail
    refine ha.mono ?_; rintro e w1 ⟨rfl, rfl⟩
    go_wp2_with fail
    refine bodyPost_end (v := .tuple #[]) (by simp [results, Tryz.results135, go_sem]) rfl ?_
    exact ⟨rfl, hb2.out, turn_then (turn_rest _ _ _ _) (turn_rest _ _ _ _)⟩
  · rw [if_neg h0]
    have hr := Lib.hid (h.rest (s.1.drop (aheadL s.1)))
    have j0 : ((aheadL s.1 : Int) == 0) = false := by rw [beq_eq_false_iff_ne]; omega
    have j1 : (aheadL s.1 == 0) = false := by rw [beq_eq_false_iff_ne]; exact h0
    replace h := Lib.hid h
    generalize aheadL s.1 = A at *
    generalize s.1 = l at *
    clear h0
    go_enter Tryz.func135, Tryz.ntmps135
    go_wp2_with fail
    refine ha.mono ?_; rintro e w1 ⟨rfl, rfl⟩
    go_wp2_with fail
    refine bodyPost_end (v := .tuple #[]) (by simp [results, Tryz.results135, go_sem]) rfl ?_
    exact ⟨rfl, hr.out, turn_rest _ _ _ _⟩
end Go.Proofs.YtkgjbamkinfmeaaGreatDoor
