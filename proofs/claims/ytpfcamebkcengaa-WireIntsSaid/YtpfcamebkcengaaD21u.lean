/- Layer 21: the law WireInts. -/
import Derived.Test.YtpfcamebkcengaaD21s
import Derived.Test.YtpfcamebkcengaaR21c
namespace Go.Proofs.Ytpfcamebkcengaa
open Go.RowKit

theorem isS {α : Type} (r : Option (α × List UInt8)) : (resO r).isSome = r.isSome := by cases r <;> rfl
set_option maxHeartbeats 4000000 in
set_option maxRecDepth 100000 in
theorem ints_law (n : Int) (s : List UInt8) (m : Int) (w : World) (n1 : -9223372036854775808 ≤ n) (n2 : n ≤ 9223372036854775807) (hs : s.length ≤ 9223372036854775807) :
    Calls Try.prog 3 #[.int .i64 n, .string ⟨s.toArray⟩, .int .i64 m] w (LawPost w) := by
  have haw := Lib.hid awake21_any
  by_cases hlong : (5000 : Int) < (s.length : Int)
  · go_enter Try.func3, Try.ntmps3
    go_wp2_with fail
    refine (haw.out _).mono ?_
    rintro e w1 ⟨rfl, b1⟩
    replace b1 := Lib.hid b1
    go_wp2_with fail
    go_ret
    exact ⟨rfl, b1.out⟩
  have la := (int_len_bd n1 n2).2
  have ht : (text21 s).length ≤ 6000 := by
    have := (int_len_bd (n := (s.length : Int)) (by omega) (by omega)).2
    unfold text21
    rw [List.length_append]
    omega
  have hi1 := Lib.hid (fun W => int21_any W n n1 n2 (by omega))
  have hi2 := Lib.hid (fun W => rint_any n W n1 n2)
  have ht1 := Lib.hid (fun W => text21_any W s (by omega) (by omega))
  have ht2 := Lib.hid (fun W => rtext_any s W (by omega))
  have hr1 := fun W => readInt21_any s W (by omega)
  have hr2 := fun W => rreadInt_any s W (by omega)
  have hx1 := fun W => readText21_any s m W (by omega)
  have hx2 := fun W => rreadText_any s m W (by omega)
  unfold RiPost at hr2 hx2
  simp only [isS] at hr1 hr2 hx1 hx2
  generalize readI21 s = A at *
  generalize readT21 s m = B at *
  generalize int21 n = C at *
  generalize text21 s = D at *
  obtain ⟨a1, ha1⟩ : ∃ x, valO 0 A = x := ⟨_, rfl⟩
  obtain ⟨a2, ha2⟩ : ∃ x, (resO A).getD [] = x := ⟨_, rfl⟩
  obtain ⟨a3, ha3⟩ : ∃ x, A.isSome = x := ⟨_, rfl⟩
  obtain ⟨b1, hb1⟩ : ∃ x, valO [] B = x := ⟨_, rfl⟩
  obtain ⟨b2, hb2⟩ : ∃ x, (resO B).getD [] = x := ⟨_, rfl⟩
  obtain ⟨b3, hb3⟩ : ∃ x, B.isSome = x := ⟨_, rfl⟩
  rw [ha1, ha2, ha3] at hr1 hr2
  rw [hb1, hb2, hb3] at hx1 hx2
  clear ha1 ha2 ha3 hb1 hb2 hb3
  replace hr1 := Lib.hid hr1
  replace hr2 := Lib.hid hr2
  replace hx1 := Lib.hid hx1
  replace hx2 := Lib.hid hx2
  cases a3 <;> cases b3
  all_goals
    go_enter Try.func3, Try.ntmps3
    go_wp2_with fail
    refine (hr1.out _).mono ?_
    rintro e w1 ⟨rfl, b⟩
    have c1 := Lib.hid b
    clear b
    go_wp2_with fail
    refine (hr2.out _).mono ?_
    rintro e w2 ⟨rfl, b⟩
    have c2 := Lib.hid (c1.out.andThen b)
    clear b c1
    go_wp2_with fail
    refine (hx1.out _).mono ?_
    rintro e w3 ⟨rfl, b⟩
    have c3 := Lib.hid (c2.out.andThen b)
    clear b c2
    go_wp2_with fail
    refine (hx2.out _).mono ?_
    rintro e w4 ⟨rfl, b⟩
    have c4 := Lib.hid (c3.out.andThen b)
    clear b c3
    go_wp2_with fail
    refine (haw.out _).mono ?_
    rintro e w5 ⟨rfl, b⟩
    have c5 := Lib.hid (c4.out.andThen b)
    clear b c4
    go_wp2_with fail
    refine (hi1.out _).mono ?_
    rintro e w6 ⟨rfl, b⟩
    have c6 := Lib.hid (c5.out.andThen b)
    clear b c5
    go_wp2_with fail
    refine (hi2.out _).mono ?_
    rintro e w7 ⟨rfl, b⟩
    have c7 := Lib.hid (c6.out.andThen b)
    clear b c6
    go_wp2_with fail
    refine (ht1.out _).mono ?_
    rintro e w8 ⟨rfl, b⟩
    have c8 := Lib.hid (c7.out.andThen b)
    clear b c7
    go_wp2_with fail
    refine (ht2.out _).mono ?_
    rintro e w9 ⟨rfl, b⟩
    have c9 := Lib.hid (c8.out.andThen b)
    clear b c8
    go_wp2_with fail
    all_goals go_ret
    all_goals exact ⟨rfl, c9.out⟩
end Go.Proofs.Ytpfcamebkcengaa
