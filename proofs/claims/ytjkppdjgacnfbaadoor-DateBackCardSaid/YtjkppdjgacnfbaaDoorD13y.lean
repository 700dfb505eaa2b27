/- Layer 13: the callees as the laws meet them; awake; DateReads, DatePrints, DateDays. -/
import Derived.Test.YtjkppdjgacnfbaaDoorNi
import Derived.Test.YtjkppdjgacnfbaaDoorD13j
import Derived.Test.YtjkppdjgacnfbaaDoorD13x
namespace Go.Proofs.YtjkppdjgacnfbaaDoor
open Go.RowKit

theorem At13.start {w : World} (h : Env13 w) : Hid (At13 w w) := ⟨h, Below.refl _ _⟩
theorem c822_at {w0 w : World} (h : Hid (At13 w0 w)) {l : List UInt8} (hl : l.length ≤ 1000000) {a : Int} {b : Bool} (q : r822C l = (a, b)) :
    Calls Tryd.prog 10 #[.string ⟨l.toArray⟩] w fun e w' => e = .returned (.tuple #[.int .i64 a, .bool b]) ∧ Hid (At13 w0 w') := by
  have hc := rfc822_any l w h.out.1 hl
  rw [q] at hc
  exact hc.mono fun e w' hh => ⟨hh.1, h.out.next hh.2⟩
theorem c339_at {w0 w : World} (h : Hid (At13 w0 w)) {l : List UInt8} (hl : l.length ≤ 1000000) {a : Int} {b : Bool} (q : r3339C l = (a, b)) :
    Calls Tryd.prog 12 #[.string ⟨l.toArray⟩] w fun e w' => e = .returned (.tuple #[.int .i64 a, .bool b]) ∧ Hid (At13 w0 w') := by
  have hc := rfc3339_any l w h.out.1 hl
  rw [q] at hc
  exact hc.mono fun e w' hh => ⟨hh.1, h.out.next hh.2⟩
theorem r822_at {w0 w : World} (h : Hid (At13 w0 w)) {l : List UInt8} (hl : l.length ≤ 1000000) {a : Int} {b : Bool} (q : r822R l = (a, b)) :
    Calls Tryd.prog 11 #[.string ⟨l.toArray⟩] w fun e w' => e = .returned (.tuple #[.int .i64 a, .bool b]) ∧ Hid (At13 w0 w') := by
  have hc := rfc822r_any l w hl
  rw [q] at hc
  exact hc.mono fun e w' hh => ⟨hh.1, h.out.next (hh.2.below _)⟩
theorem r339_at {w0 w : World} (h : Hid (At13 w0 w)) {l : List UInt8} (hl : l.length ≤ 1000000) {a : Int} {b : Bool} (q : r3339R l = (a, b)) :
    Calls Tryd.prog 13 #[.string ⟨l.toArray⟩] w fun e w' => e = .returned (.tuple #[.int .i64 a, .bool b]) ∧ Hid (At13 w0 w') := by
  have hc := rfc3339r_any l w hl
  rw [q] at hc
  exact hc.mono fun e w' hh => ⟨hh.1, h.out.next (hh.2.below _)⟩
theorem p82_at {w0 w : World} (h : Hid (At13 w0 w)) {n : Int} {t : List UInt8} (q : print82 n = t) :
    Calls Tryd.prog 16 #[.int .i64 n] w fun e w' => e = .returned (.string ⟨t.toArray⟩) ∧ Hid (At13 w0 w') := by
  have hc := print82_any n w h.out.1
  rw [q] at hc
  exact hc.mono fun e w' hh => ⟨hh.1, h.out.next hh.2⟩
theorem p39_at {w0 w : World} (h : Hid (At13 w0 w)) {n : Int} {t : List UInt8} (q : print39 n = t) :
    Calls Tryd.prog 18 #[.int .i64 n] w fun e w' => e = .returned (.string ⟨t.toArray⟩) ∧ Hid (At13 w0 w') := by
  have hc := print39_any n w h.out.1
  rw [q] at hc
  exact hc.mono fun e w' hh => ⟨hh.1, h.out.next hh.2⟩
theorem q82_at {w0 w : World} (h : Hid (At13 w0 w)) {n : Int} (h0 : -9223372036854775808 ≤ n) (h1 : n ≤ 9223372036854775807) {t : List UInt8} (q : print82 n = t) :
    Calls Tryd.prog 17 #[.int .i64 n] w fun e w' => e = .returned (.string ⟨t.toArray⟩) ∧ Hid (At13 w0 w') := by
  have hc := print82r_any n w h0 h1
  rw [q] at hc
  exact hc.mono fun e w' hh => ⟨hh.1, h.out.next hh.2⟩
theorem q39_at {w0 w : World} (h : Hid (At13 w0 w)) {n : Int} (h0 : -9223372036854775808 ≤ n) (h1 : n ≤ 9223372036854775807) {t : List UInt8} (q : print39 n = t) :
    Calls Tryd.prog 19 #[.int .i64 n] w fun e w' => e = .returned (.string ⟨t.toArray⟩) ∧ Hid (At13 w0 w') := by
  have hc := print39r_any n w h0 h1
  rw [q] at hc
  exact hc.mono fun e w' hh => ⟨hh.1, h.out.next hh.2⟩

theorem aw13_1 : r822C [77, 111, 110, 44, 32, 48, 50, 32, 74, 97, 110, 32, 50, 48, 48, 54, 32, 49, 53, 58, 48, 52, 58, 48, 53, 32, 71, 77, 84] = (1136214245, true) := by decide +kernel
theorem aw13_2 : r3339C [50, 48, 48, 54, 45, 48, 49, 45, 48, 50, 84, 49, 53, 58, 48, 52, 58, 48, 53, 90] = (1136214245, true) := by decide +kernel
theorem aw13_3 : r822C [50, 32, 74, 97, 110, 32, 48, 54, 32, 49, 48, 58, 48, 52, 32, 69, 83, 84] = (1136214240, true) := by decide +kernel
theorem aw13_4 : r3339C [50, 48, 48, 54, 45, 48, 50, 45, 51, 48, 84, 48, 48, 58, 48, 48, 58, 48, 48, 90] = (0, false) := by decide +kernel
theorem aw13_5 : print82 1136214245 = [77, 111, 110, 44, 32, 48, 50, 32, 74, 97, 110, 32, 50, 48, 48, 54, 32, 49, 53, 58, 48, 52, 58, 48, 53, 32, 71, 77, 84] := by decide +kernel
theorem aw13_6 : print39 1136214245 = [50, 48, 48, 54, 45, 48, 49, 45, 48, 50, 84, 49, 53, 58, 48, 52, 58, 48, 53, 90] := by decide +kernel

set_option maxHeartbeats 1000000 in
theorem awake13_at {w0 w : World} (h : Hid (At13 w0 w)) : Calls Tryd.prog 9 #[] w fun e w' => e = .returned (.bool true) ∧ Hid (At13 w0 w') := by
  have c1 := Lib.hid (fun W (hW : Hid (At13 w0 W)) => c822_at hW (by decide) aw13_1)
  have c2 := Lib.hid (fun W (hW : Hid (At13 w0 W)) => c339_at hW (by decide) aw13_2)
  have c3 := Lib.hid (fun W (hW : Hid (At13 w0 W)) => c822_at hW (by decide) aw13_3)
  have c4 := Lib.hid (fun W (hW : Hid (At13 w0 W)) => c339_at hW (by decide) aw13_4)
  have c5 := Lib.hid (fun W (hW : Hid (At13 w0 W)) => p82_at hW aw13_5)
  have c6 := Lib.hid (fun W (hW : Hid (At13 w0 W)) => p39_at hW aw13_6)
  go_enter Tryd.func9, Tryd.ntmps9
  go_wp2_with fail
  refine (c1.out _ h).mono ?_; rintro e w1 ⟨rfl, h1⟩
  go_wp2_with fail
  refine (c2.out _ h1).mono ?_; rintro e w2 ⟨rfl, h2⟩
  go_wp2_with fail
  refine (c3.out _ h2).mono ?_; rintro e w3 ⟨rfl, h3⟩
  go_wp2_with fail
  refine (c4.out _ h3).mono ?_; rintro e w4 ⟨rfl, h4⟩
  go_wp2_with fail
  refine (c5.out _ h4).mono ?_; rintro e w5 ⟨rfl, h5⟩
  go_wp2_with fail
  refine (c6.out _ h5).mono ?_; rintro e w6 ⟨rfl, h6⟩
  go_wp2_with fail
  go_ret
  exact ⟨rfl, h6⟩

theorem alike_form {p q : Int × Bool} (h : Alike13 p q) : ∃ a b x, p = (a, x) ∧ q = (b, x) ∧ (x = false ∨ x = true ∧ a = b) := by
  obtain ⟨a, x⟩ := p
  obtain ⟨b, y⟩ := q
  obtain ⟨h1, h2⟩ := h
  simp only at h1 h2
  subst h1
  exact ⟨a, b, x, rfl, rfl, by cases x; exact Or.inl rfl; exact Or.inr ⟨rfl, h2 rfl⟩⟩

set_option maxHeartbeats 1000000 in
theorem reads13_law (l : List UInt8) (w : World) (hE : Env13 w) : Calls Tryd.prog 3 #[.string ⟨l.toArray⟩] w (LawPost w) := by
  have hA := At13.start hE
  clear hE
  by_cases hl : l.length ≤ 1000
  · have hl1 : ¬ ((1000 : Int) < l.length) := by omega
    have hl2 : l.length ≤ 1000000 := by omega
    obtain ⟨a, b, x, e1, e2, hx⟩ := alike_form (r822_alike l)
    obtain ⟨c, d, y, e3, e4, hy⟩ := alike_form (r3339_alike l)
    have c1 := Lib.hid (fun W (hW : Hid (At13 w W)) => c822_at hW hl2 e1)
    have c2 := Lib.hid (fun W (hW : Hid (At13 w W)) => r822_at hW hl2 e2)
    have c3 := Lib.hid (fun W (hW : Hid (At13 w W)) => c339_at hW hl2 e3)
    have c4 := Lib.hid (fun W (hW : Hid (At13 w W)) => r339_at hW hl2 e4)
    have c5 := Lib.hid (fun W (hW : Hid (At13 w W)) => awake13_at hW)
    have c6 := Lib.hid (fun W (hW : Hid (At13 w W)) => month13_any l W hW.out.1)
    have c7 := Lib.hid (fun W => rmonthr_any l W)
    generalize monIx l = m at c6 c7
    clear e1 e2 e3 e4 hl2
    rcases hx with rfl | ⟨rfl, rfl⟩ <;> rcases hy with rfl | ⟨rfl, rfl⟩
    all_goals
      go_enter Tryd.func3, Tryd.ntmps3
      go_wp2_with fail
      refine (c1.out _ hA).mono ?_; rintro e w1 ⟨rfl, h1⟩
      go_wp2_with fail
      refine (c2.out _ h1).mono ?_; rintro e w2 ⟨rfl, h2⟩
      go_wp2_with fail
      refine (c3.out _ h2).mono ?_; rintro e w3 ⟨rfl, h3⟩
      go_wp2_with fail
      refine (c4.out _ h3).mono ?_; rintro e w4 ⟨rfl, h4⟩
      go_wp2_with fail
      refine (c5.out _ h4).mono ?_; rintro e w5 ⟨rfl, h5⟩
      go_wp2_with fail
      refine (c6.out _ h5).mono ?_; rintro e w6 ⟨rfl, rfl⟩
      go_wp2_with fail
      refine (c7.out _).mono ?_; rintro e w6 ⟨rfl, rfl⟩
      go_wp2_with fail
      go_ret
      exact ⟨rfl, h5.out.2⟩
  · have hl1 : (1000 : Int) < l.length := by omega
    go_enter Tryd.func3, Tryd.ntmps3
    go_wp2_with fail
    refine (awake13_at hA).mono ?_; rintro e w1 ⟨rfl, h1⟩
    go_wp2_with fail
    go_ret
    exact ⟨rfl, h1.out.2⟩

set_option maxHeartbeats 1000000 in
theorem prints13_law (n : Int) (w : World) (hn : (Lit.int .i64 n).wf = true) (hE : Env13 w) : Calls Tryd.prog 4 #[.int .i64 n] w (LawPost w) := by
  obtain ⟨n0, n1⟩ := bd_i64 hn
  have hA := At13.start hE
  obtain ⟨s, e1⟩ : ∃ s, print82 n = s := ⟨_, rfl⟩
  obtain ⟨t, e2⟩ : ∃ t, print39 n = t := ⟨_, rfl⟩
  have c1 := Lib.hid (fun W (hW : Hid (At13 w W)) => awake13_at hW)
  have c2 := Lib.hid (fun W (hW : Hid (At13 w W)) => p82_at hW e1)
  have c3 := Lib.hid (fun W (hW : Hid (At13 w W)) => q82_at hW n0 n1 e1)
  have c4 := Lib.hid (fun W (hW : Hid (At13 w W)) => p39_at hW e2)
  have c5 := Lib.hid (fun W (hW : Hid (At13 w W)) => q39_at hW n0 n1 e2)
  clear e1 e2 hE hn
  go_enter Tryd.func4, Tryd.ntmps4
  go_wp2_with fail
  refine (c1.out _ hA).mono ?_; rintro e w1 ⟨rfl, h1⟩
  go_wp2_with fail
  refine (c2.out _ h1).mono ?_; rintro e w2 ⟨rfl, h2⟩
  go_wp2_with fail
  refine (c3.out _ h2).mono ?_; rintro e w3 ⟨rfl, h3⟩
  go_wp2_with fail
  refine (c4.out _ h3).mono ?_; rintro e w4 ⟨rfl, h4⟩
  go_wp2_with fail
  refine (c5.out _ h4).mono ?_; rintro e w5 ⟨rfl, h5⟩
  go_wp2_with fail
  go_ret
  exact ⟨rfl, h5.out.2⟩

set_option maxHeartbeats 1000000 in
theorem days13_law (y m d : Int) (w : World) (hy : (Lit.int .i64 y).wf = true) (hE : Env13 w) : Calls Tryd.prog 5 #[.int .i64 y, .int .i64 m, .int .i64 d] w (LawPost w) := by
  obtain ⟨y0, y1⟩ := bd_i64 hy
  have hA := At13.start hE
  have c1 := fun W => days13_any y m d y0 y1 W
  have c2 := fun W => refdays13_any y m d y0 y1 W
  have c3 := fun W => civil13_any d W
  have c4 := fun W => refcivil13_any d W
  have c5 := Lib.hid (fun W (hW : Hid (At13 w W)) => awake13_at hW)
  have c6 := fun W => leap13_any y y0 y1 W
  have c7 := fun W => refleap13_any y y0 y1 W
  have c8 := fun W => length13_any y m y0 y1 W
  have c9 := fun W => reflength13_any y m y0 y1 W
  generalize daysB y m d = D at c1 c2
  generalize civB d = C at c3 c4
  generalize leapI y = L at c6 c7
  generalize lenI y m = N at c8 c9
  obtain ⟨a, x⟩ := D
  obtain ⟨p, q, r, ok⟩ := C
  unfold civV at c3 c4
  simp only at c1 c2 c3 c4
  replace c1 := Lib.hid c1
  replace c2 := Lib.hid c2
  replace c3 := Lib.hid c3
  replace c4 := Lib.hid c4
  replace c6 := Lib.hid c6
  replace c7 := Lib.hid c7
  replace c8 := Lib.hid c8
  replace c9 := Lib.hid c9
  clear hE hy
  go_enter Tryd.func5, Tryd.ntmps5
  go_wp2_with fail
  refine (c1.out _).mono ?_; rintro e w1 ⟨rfl, rfl⟩
  go_wp2_with fail
  refine (c2.out _).mono ?_; rintro e w1 ⟨rfl, rfl⟩
  go_wp2_with fail
  refine (c3.out _).mono ?_; rintro e w1 ⟨rfl, rfl⟩
  go_wp2_with fail
  refine (c4.out _).mono ?_; rintro e w1 ⟨rfl, rfl⟩
  go_wp2_with fail
  refine (c5.out _ hA).mono ?_; rintro e w1 ⟨rfl, h1⟩
  go_wp2_with fail
  refine (c6.out _).mono ?_; rintro e w2 ⟨rfl, rfl⟩
  go_wp2_with fail
  refine (c7.out _).mono ?_; rintro e w2 ⟨rfl, rfl⟩
  go_wp2_with fail
  refine (c8.out _).mono ?_; rintro e w2 ⟨rfl, rfl⟩
  go_wp2_with fail
  refine (c9.out _).mono ?_; rintro e w2 ⟨rfl, rfl⟩
  go_wp2_with fail
  go_ret
  exact ⟨rfl, h1.out.2⟩
end Go.Proofs.YtjkppdjgacnfbaaDoor
