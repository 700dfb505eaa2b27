/- Layer 21: the law's awake; WireShort, WireBack. -/
import Derived.Test.YtpfcamebkcengaaD21o
import Derived.Test.YtpfcamebkcengaaD21f
namespace Go.Proofs.Ytpfcamebkcengaa
open Go.RowKit

theorem int_m1 : int21 (-1) = [1] := by
  unfold int21
  rw [show zig21 (-1) = 1 from rfl, var_small (by omega)]
  rfl
theorem int_128 : int21 128 = [128, 2] := by
  unfold int21
  rw [show zig21 128 = 256 from rfl, var_big (by omega), var_small (by omega)]
  rfl
theorem text_ab : text21 [97, 98] = [4, 97, 98] := by
  unfold text21 int21
  rw [show zig21 (([97, 98] : List UInt8).length : Int) = 4 from rfl, var_small (by omega)]
  rfl
set_option maxHeartbeats 2000000 in
set_option maxRecDepth 100000 in
theorem awake21_any (w : World) : Calls Try.prog 11 #[] w (LawPost w) := by
  have h1 := Lib.hid (readCommand21_any [1, 2, 97] w (by decide))
  rw [show readC21 [1, 2, 97] = (0, ⟨1, [97], [], [], [], 0, 0⟩) from rfl] at h1
  have h2 := Lib.hid (fun W => readInt21_any [128, 2, 120] W (by decide))
  rw [show readI21 [128, 2, 120] = some (128, [120]) from rfl] at h2
  have h3 := Lib.hid (fun W => readCommand21_any [11] W (by decide))
  rw [show readC21 [11] = (2, cm0 0) from rfl] at h3
  have h4 := Lib.hid (fun W => int21_any W (-1) (by omega) (by omega) (by rw [int_m1]; decide))
  rw [int_m1] at h4
  have h5 := Lib.hid (fun W => int21_any W 128 (by omega) (by omega) (by rw [int_128]; decide))
  rw [int_128] at h5
  have h6 := Lib.hid (fun W => text21_any W [97, 98] (by decide) (by rw [text_ab]; decide))
  rw [text_ab] at h6
  unfold cmV cmC at h1 h3
  unfold cm0 at h3
  unfold valO resO at h2
  simp only [Option.map_some, Option.getD_some, Option.isSome_some] at h1 h2 h3
  go_enter Try.func11, Try.ntmps11
  go_wp2_with fail
  refine h1.out.mono ?_
  rintro e w1 ⟨rfl, b1⟩
  have hbk := (Below.refl w1.heap.size w1).alloc (Nat.le_refl _) (.cells #[.int .i64 1, .string ⟨[97].toArray⟩, .string ⟨#[]⟩, .string ⟨#[]⟩, .int .i64 0, .int .i64 0, .string ⟨#[]⟩] 32)
  have hK := Lib.hid (arrAt_new w1 32 [Value.int .i64 1, .string ⟨[97].toArray⟩, .string ⟨#[]⟩, .string ⟨#[]⟩, .int .i64 0, .int .i64 0, .string ⟨#[]⟩])
  have hb1 := Lib.hid (b1.andThen hbk)
  clear b1 h1 hbk
  go_wp2_with fail
  refine (h2.out _).mono ?_
  rintro e w2 ⟨rfl, b2⟩
  replace hK := Lib.hid (hK.out.next b2)
  have hb2 := Lib.hid (hb1.out.andThen b2)
  clear b2 h2 hb1
  go_wp2_with fail
  refine (h3.out _).mono ?_
  rintro e w3 ⟨rfl, b3⟩
  have hbk := (Below.refl w3.heap.size w3).alloc (Nat.le_refl _) (.cells #[.int .i64 0, .string ⟨#[]⟩, .string ⟨#[]⟩, .string ⟨#[]⟩, .int .i64 0, .int .i64 0, .string ⟨#[]⟩] 32)
  replace hK := Lib.hid ((hK.out.next b3).next hbk)
  have hb3 := Lib.hid ((hb2.out.andThen b3).andThen hbk)
  clear b3 h3 hb2 hbk
  go_wp2_with fail
  refine (h4.out _).mono ?_
  rintro e w4 ⟨rfl, b4⟩
  replace hK := Lib.hid (hK.out.next b4)
  have hb4 := Lib.hid (hb3.out.andThen b4)
  clear b4 h4 hb3
  go_wp2_with fail
  refine (h5.out _).mono ?_
  rintro e w5 ⟨rfl, b5⟩
  replace hK := Lib.hid (hK.out.next b5)
  have hb5 := Lib.hid (hb4.out.andThen b5)
  have c0 := hK.out.cell 0
  have c1 := hK.out.cell 1
  simp only [List.getElem?_cons_zero, List.getElem?_cons_succ] at c0 c1
  clear b5 h5 hb4
  go_wp2_with fail
  refine (h6.out _).mono ?_
  rintro e w6 ⟨rfl, b6⟩
  have hb6 := Lib.hid (hb5.out.andThen b6)
  clear b6 h6 hb5
  go_wp2_with fail
  go_ret
  exact ⟨rfl, hb6.out⟩

set_option maxHeartbeats 4000000 in
set_option maxRecDepth 100000 in
theorem short_law (n m : Int) (w : World) (n1 : -9223372036854775808 ≤ n) (n2 : n ≤ 9223372036854775807) (m1 : -9223372036854775808 ≤ m) (m2 : m ≤ 9223372036854775807) :
    Calls Try.prog 10 #[.int .i64 n, .int .i64 m] w (LawPost w) := by
  have haw := Lib.hid awake21_any
  obtain ⟨la1, la2⟩ := int_len_bd n1 n2
  obtain ⟨lb1, lb2⟩ := int_len_bd m1 m2
  have hone := int_len_one (n := n)
  have hmono := int_mono (n := n) (m := m)
  have hinj := int_inj n1 n2 m1 m2
  have hrd := read_int n1 n2 (int21 m)
  have ha := Lib.hid (fun W => int21_any W n n1 n2 (by omega))
  have hb := Lib.hid (fun W => int21_any W m m1 m2 (by omega))
  have hr := fun W => readInt21_any (int21 n ++ int21 m) W (by rw [List.length_append]; omega)
  rw [hrd] at hr
  unfold valO resO at hr
  simp only [Option.map_some, Option.getD_some, Option.isSome_some] at hr
  replace hr := Lib.hid hr
  have hab : (int21 n == int21 m) = decide (n = m) := by
    by_cases e : n = m
    · rw [decide_eq_true e, e]; exact beq_self_eq_true _
    · rw [decide_eq_false e, beq_eq_false_iff_ne]; exact fun h => e (hinj h)
  generalize int21 n = A at *
  generalize int21 m = B at *
  have q1 : (1 : Int) ≤ (A.length : Int) := by omega
  have q2 : (A.length : Int) ≤ 10 := by omega
  have q1n : 1 ≤ A.length := la1
  have q2n : A.length ≤ 10 := la2
  have haln : (A.length == 1) = (decide (-64 ≤ n) && decide (n ≤ 63)) := by
    rw [Bool.eq_iff_iff, beq_iff_eq, Bool.and_eq_true, decide_eq_true_eq, decide_eq_true_eq]; exact hone
  have hali : ((A.length : Int) == 1) = (decide (-64 ≤ n) && decide (n ≤ 63)) := by
    rw [← haln, Bool.eq_iff_iff, beq_iff_eq, beq_iff_eq]; omega
  have hge : n < 0 ∨ m < n ∨ ((A.length : Int) ≤ (B.length : Int) ∧ A.length ≤ B.length) := by
    by_cases h1 : n < 0
    · exact Or.inl h1
    · by_cases h2 : m < n
      · exact Or.inr (Or.inl h2)
      · have := hmono (by omega) (by omega)
        exact Or.inr (Or.inr ⟨by omega, this⟩)
  have hnm : (n == m) = decide (n = m) := by rw [Bool.eq_iff_iff, beq_iff_eq, decide_eq_true_eq]
  obtain ⟨y1, hy1⟩ : ∃ y, decide (-64 ≤ n) = y := ⟨_, rfl⟩
  obtain ⟨y2, hy2⟩ : ∃ y, decide (n ≤ 63) = y := ⟨_, rfl⟩
  rw [hy1, hy2] at haln hali
  replace hmono := Lib.hid hmono
  replace hone := Lib.hid hone
  replace hinj := Lib.hid hinj
  replace hrd := Lib.hid hrd
  obtain ⟨x, hx⟩ : ∃ x, decide (n = m) = x := ⟨_, rfl⟩
  rw [hx] at hab hnm
  replace hx := Lib.hid hx
  replace hge := Lib.hid hge
  go_enter Try.func10, Try.ntmps10
  go_wp2_with fail
  refine (ha.out _).mono ?_
  rintro e w1 ⟨rfl, b1⟩
  have hb1 := Lib.hid b1
  clear b1 ha
  go_wp2_with fail
  refine (hb.out _).mono ?_
  rintro e w2 ⟨rfl, b2⟩
  have hb2 := Lib.hid (hb1.out.andThen b2)
  clear b2 hb hb1
  cases y1 <;> cases y2
  all_goals
    simp only [Bool.and_true, Bool.and_false, Bool.and_self] at haln hali
    go_wp2_with fail
    refine (hr.out _).mono ?_
    rintro e w3 ⟨rfl, b3⟩
    have hb3 := Lib.hid (hb2.out.andThen b3)
    clear b3
    go_wp2_with fail
    refine (haw.out _).mono ?_
    rintro e w4 ⟨rfl, b4⟩
    have hb4 := Lib.hid (hb3.out.andThen b4)
    clear b4 hb3
    rcases hge.out with hg | hg | ⟨hg, hg'⟩
    all_goals
      go_wp2_with fail
      all_goals go_ret
      all_goals exact ⟨rfl, hb4.out⟩

set_option maxHeartbeats 4000000 in
set_option maxRecDepth 100000 in
theorem back_law (n : Int) (s h : List UInt8) (w : World) (n1 : -9223372036854775808 ≤ n) (n2 : n ≤ 9223372036854775807) (hs : s.length ≤ 9223372036854775807) (hh : h.length ≤ 9223372036854775807) :
    Calls Try.prog 4 #[.int .i64 n, .string ⟨s.toArray⟩, .string ⟨h.toArray⟩] w (LawPost w) := by
  have haw := Lib.hid awake21_any
  by_cases hl1 : (5000 : Int) < (s.length : Int)
  · go_enter Try.func4, Try.ntmps4
    go_wp2_with fail
    refine (haw.out _).mono ?_
    rintro e w1 ⟨rfl, b1⟩
    replace b1 := Lib.hid b1
    go_wp2_with fail
    go_ret
    exact ⟨rfl, b1.out⟩
  by_cases hl2 : (5000 : Int) < (h.length : Int)
  · go_enter Try.func4, Try.ntmps4
    go_wp2_with fail
    refine (haw.out _).mono ?_
    rintro e w1 ⟨rfl, b1⟩
    replace b1 := Lib.hid b1
    go_wp2_with fail
    go_ret
    exact ⟨rfl, b1.out⟩
  have la := (int_len_bd n1 n2).2
  have lt := (int_len_bd (n := (s.length : Int)) (by omega) (by omega)).2
  have hA := Lib.hid (fun W => int21_any W n n1 n2 (by omega))
  have hr1 := fun W => readInt21_any (int21 n ++ h) W (by rw [List.length_append]; omega)
  rw [read_int n1 n2 h] at hr1
  have hT := Lib.hid (fun W => text21_any W s hs (by unfold text21; rw [List.length_append]; omega))
  have hr2 := fun W => readText21_any (text21 s ++ h) 5000 W (by unfold text21; simp only [List.length_append]; omega)
  rw [read_text h (by omega) hs] at hr2
  have hr3 := fun W => readInt21_any h W (by omega)
  unfold valO resO at hr1 hr2
  simp only [Option.map_some, Option.getD_some, Option.isSome_some] at hr1 hr2
  replace hr1 := Lib.hid hr1
  replace hr2 := Lib.hid hr2
  have lT : (text21 s).length ≤ 6000 := by unfold text21; rw [List.length_append]; omega
  generalize int21 n = A at *
  generalize text21 s = T at *
  have ls5 : s.length ≤ 5000 := by omega
  have lh5 : h.length ≤ 5000 := by omega
  cases hz : readI21 h with
  | none =>
    rw [hz] at hr3
    unfold valO resO at hr3
    simp only [Option.map_none, Option.getD_none, Option.isSome_none] at hr3
    replace hr3 := Lib.hid hr3
    replace hz := Lib.hid hz
    clear lt
    go_enter Try.func4, Try.ntmps4
    go_wp2_with fail
    refine (hA.out _).mono ?_
    rintro e w1 ⟨rfl, b1⟩
    have hb1 := Lib.hid b1
    clear b1 hA
    go_wp2_with fail
    refine (hr1.out _).mono ?_
    rintro e w2 ⟨rfl, b2⟩
    have hb2 := Lib.hid (hb1.out.andThen b2)
    clear b2 hr1 hb1
    go_wp2_with fail
    refine (hT.out _).mono ?_
    rintro e w3 ⟨rfl, b3⟩
    have hb3 := Lib.hid (hb2.out.andThen b3)
    clear b3 hT hb2
    go_wp2_with fail
    refine (hr2.out _).mono ?_
    rintro e w4 ⟨rfl, b4⟩
    have hb4 := Lib.hid (hb3.out.andThen b4)
    clear b4 hr2 hb3
    go_wp2_with fail
    refine (hr3.out _).mono ?_
    rintro e w5 ⟨rfl, b5⟩
    have hb5 := Lib.hid (hb4.out.andThen b5)
    clear b5 hr3 hb4
    go_wp2_with fail
    refine (haw.out _).mono ?_
    rintro e w6 ⟨rfl, b6⟩
    have hb6 := Lib.hid (hb5.out.andThen b6)
    clear b6 hb5
    go_wp2_with fail
    go_ret
    exact ⟨rfl, hb6.out⟩
  | some p =>
    obtain ⟨c, u⟩ := p
    obtain ⟨hcu, c1, c2⟩ := int_read hz
    have lc := (int_len_bd c1 c2).2
    have hC := Lib.hid (fun W => int21_any W c c1 c2 (by omega))
    rw [hz] at hr3
    unfold valO resO at hr3
    simp only [Option.map_some, Option.getD_some, Option.isSome_some] at hr3
    replace hr3 := Lib.hid hr3
    replace hz := Lib.hid hz
    generalize int21 c = C at *
    have hq : ((C ++ u : List UInt8) == h) = true := by rw [hcu]; exact beq_self_eq_true _
    have hlu := congrArg List.length hcu
    rw [List.length_append] at hlu
    have lu : u.length ≤ 5000 := by omega
    replace hcu := Lib.hid hcu
    clear hlu
    clear lt
    go_enter Try.func4, Try.ntmps4
    go_wp2_with fail
    refine (hA.out _).mono ?_
    rintro e w1 ⟨rfl, b1⟩
    have hb1 := Lib.hid b1
    clear b1 hA
    go_wp2_with fail
    refine (hr1.out _).mono ?_
    rintro e w2 ⟨rfl, b2⟩
    have hb2 := Lib.hid (hb1.out.andThen b2)
    clear b2 hr1 hb1
    go_wp2_with fail
    refine (hT.out _).mono ?_
    rintro e w3 ⟨rfl, b3⟩
    have hb3 := Lib.hid (hb2.out.andThen b3)
    clear b3 hT hb2
    go_wp2_with fail
    refine (hr2.out _).mono ?_
    rintro e w4 ⟨rfl, b4⟩
    have hb4 := Lib.hid (hb3.out.andThen b4)
    clear b4 hr2 hb3
    go_wp2_with fail
    refine (hr3.out _).mono ?_
    rintro e w5 ⟨rfl, b5⟩
    have hb5 := Lib.hid (hb4.out.andThen b5)
    clear b5 hr3 hb4
    go_wp2_with fail
    refine (haw.out _).mono ?_
    rintro e w6 ⟨rfl, b6⟩
    have hb6 := Lib.hid (hb5.out.andThen b6)
    clear b6 hb5
    go_wp2_with fail
    refine (hC.out _).mono ?_
    rintro e w7 ⟨rfl, b7⟩
    have hb7 := Lib.hid (hb6.out.andThen b7)
    clear b7 hb6
    go_wp2_with fail
    go_ret
    exact ⟨rfl, hb7.out⟩
end Go.Proofs.Ytpfcamebkcengaa
