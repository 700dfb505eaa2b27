/- Layer 9's laws: the document's examples; UnionNil. -/
import Derived.Test.YtkegealaagphgaaD09e
import Derived.Test.YtkegealaagphgaaD09j
namespace Go.Proofs.Ytkegealaagphgaa
open Go.RowKit

theorem ex9 : ∃ M1 M2, joinI 5 (fun i => i) 1 4 = M1 ∧ joinI 5 M1 4 2 = M2 ∧ joinI 5 M2 2 1 = M2 ∧ joinB9 5 (fun i => i) 1 4 = true ∧ joinB9 5 M1 4 2 = true ∧ joinB9 5 M2 2 1 = false ∧
    sameB 5 M2 1 2 = true ∧ sameB 5 M2 0 1 = false ∧ leastI 5 M2 4 = 1 ∧ setsL 5 M2 = [[0], [1, 2, 4], [3]] :=
  ⟨_, _, rfl, rfl, joinI_no (by decide +kernel), by decide +kernel, by decide +kernel, by decide +kernel, by decide +kernel, by decide +kernel, by decide +kernel, by decide +kernel⟩
theorem turned_one {w w' : World} {g B : Nat} (h : Turned (fun b => b = g) w w') (hg : B ≤ g) (hB : B ≤ w.heap.size) : Below B w w' := h.below (fun i _ e => by have e : i = g := e; omega) hB
set_option maxHeartbeats 1000000 in
set_option maxRecDepth 100000 in
theorem awake9_any (w : World) : Calls Try.prog 15 #[] w (LawPost w) := by
  obtain ⟨M1, M2, j1, j2, j3, b1, b2, b3, s1, s2, l1, ss⟩ := ex9
  have k1 : Calls Try.prog 7 #[.int .i64 5] w (NewPost9 w 5) := new9_yes 5 w (by omega)
  have c1 : Hid (∀ W X g, UfAt W X g 5 (fun i => i) → Calls Try.prog 11 #[.pointer (some ⟨X, 0, none⟩), .int .i64 1, .int .i64 4] W (JoinPost9 W X g 5 M1 true)) := fun W X g h => by rw [← j1, ← b1]; exact join9_any 1 4 h
  have c2 : Hid (∀ W X g, UfAt W X g 5 M1 → Calls Try.prog 11 #[.pointer (some ⟨X, 0, none⟩), .int .i64 4, .int .i64 2] W (JoinPost9 W X g 5 M2 true)) := fun W X g h => by rw [← j2, ← b2]; exact join9_any 4 2 h
  have c3 : Hid (∀ W X g, UfAt W X g 5 M2 → Calls Try.prog 11 #[.pointer (some ⟨X, 0, none⟩), .int .i64 2, .int .i64 1] W (JoinPost9 W X g 5 M2 false)) := fun W X g h => by
    have := join9_any 2 1 h
    rw [j3, b3] at this; exact this
  have c4 : Hid (∀ W X g, UfAt W X g 5 M2 → Calls Try.prog 9 #[.pointer (some ⟨X, 0, none⟩), .int .i64 1, .int .i64 2] W (AskPost W X g 5 M2 (.bool true))) := fun W X g h => by
    have := same9_any 1 2 h
    rw [s1] at this; exact this
  have c5 : Hid (∀ W X g, UfAt W X g 5 M2 → Calls Try.prog 9 #[.pointer (some ⟨X, 0, none⟩), .int .i64 0, .int .i64 1] W (AskPost W X g 5 M2 (.bool false))) := fun W X g h => by
    have := same9_any 0 1 h
    rw [s2] at this; exact this
  have c6 : Hid (∀ W X g, UfAt W X g 5 M2 → Calls Try.prog 13 #[.pointer (some ⟨X, 0, none⟩), .int .i64 4] W (AskPost W X g 5 M2 (.int .i64 1))) := fun W X g h => by
    have := least9_any 4 h
    rw [l1] at this; exact this
  have c7 : Hid (∀ W X g, UfAt W X g 5 M2 → Calls Try.prog 19 #[.pointer (some ⟨X, 0, none⟩)] W fun e w' => ∃ a c vs, e = .returned (.slice a 3 c) ∧ Lists w' W.heap.size (.slice a 3 c) vs [[0], [1, 2, 4], [3]] ∧ UfAt w' X g 5 M2 ∧ Turned (fun b => b = g) W w') := fun W X g h => by
    have := sets9_any h
    unfold SetsPost9 at this
    rw [ss] at this
    refine this.mono ?_
    rintro e w' ⟨v, vs, rfl, h1, h2⟩
    obtain ⟨a, c, rfl⟩ := h1.head
    exact ⟨a, c, vs, rfl, h1, h2⟩
  clear j1 j2 j3 b1 b2 b3 s1 s2 l1 ss
  replace k1 := Lib.hid k1
  go_enter Try.func15, Try.ntmps15
  go_wp2_with fail
  refine k1.out.mono ?_; rintro e w1 ⟨X, g, rfl, hu, ⟨hX, hg⟩, hb⟩
  replace hb := Lib.hid hb
  replace hu := Lib.hid hu
  clear k1
  go_wp2_with fail
  refine (c1.out _ X g hu.out).mono ?_; rintro e w2 ⟨rfl, hu2, ht⟩
  replace hb := Lib.hid (hb.out.trans (turned_one ht hg hb.out.size))
  replace hu := Lib.hid hu2
  clear hu2 ht c1
  go_wp2_with fail
  refine (c2.out _ X g hu.out).mono ?_; rintro e w3 ⟨rfl, hu2, ht⟩
  replace hb := Lib.hid (hb.out.trans (turned_one ht hg hb.out.size))
  replace hu := Lib.hid hu2
  clear hu2 ht c2
  go_wp2_with fail
  refine (c3.out _ X g hu.out).mono ?_; rintro e w4 ⟨rfl, hu2, ht⟩
  replace hb := Lib.hid (hb.out.trans (turned_one ht hg hb.out.size))
  replace hu := Lib.hid hu2
  clear hu2 ht c3
  have hg4 : g < w4.heap.size := hu.out.2.2.2.1
  go_wp2_with fail
  refine (c7.out _ X g hu.out).mono ?_; rintro e w5 ⟨a0, cap, vs, rfl, hl, hu2, ht⟩
  replace hb := Lib.hid (hb.out.trans (turned_one ht hg hb.out.size))
  replace hu := Lib.hid hu2
  replace hl := Lib.hid hl
  clear hu2 ht c7
  go_wp2_with fail
  refine (c4.out _ X g hu.out).mono ?_; rintro e w6 ⟨rfl, hu2, ht⟩
  replace hb := Lib.hid (hb.out.trans (turned_one ht hg hb.out.size))
  replace hl := Lib.hid (hl.out.turned ht fun b e => by omega)
  replace hu := Lib.hid hu2
  clear hu2 ht c4
  go_wp2_with fail
  refine (c5.out _ X g hu.out).mono ?_; rintro e w7 ⟨rfl, hu2, ht⟩
  replace hb := Lib.hid (hb.out.trans (turned_one ht hg hb.out.size))
  replace hl := Lib.hid (hl.out.turned ht fun b e => by omega)
  replace hu := Lib.hid hu2
  clear hu2 ht c5
  go_wp2_with fail
  refine (c6.out _ X g hu.out).mono ?_; rintro e w8 ⟨rfl, hu2, ht⟩
  replace hb := Lib.hid (hb.out.trans (turned_one ht hg hb.out.size))
  have hl8 := hl.out.turned ht fun b e => by omega
  clear hu2 ht c6 hl
  obtain ⟨S, cap', u, c, e', q1, q2⟩ := hl8.at (i := 1) (by decide)
  injection e' with e1 e2 e3
  subst e1 e3
  clear e2
  obtain ⟨g2, rfl, q3⟩ := q2 2 (by decide)
  replace q1 : w8.cell? ⟨S, 1, none⟩ = some (.slice (some ⟨g2, 0, none⟩) 3 c) := q1
  replace q3 : w8.cell? ⟨g2, 2, none⟩ = some (.int .i64 4) := q3
  clear hl8 q2
  go_wp2_with fail
  go_ret
  exact ⟨rfl, hb.out⟩
end Go.Proofs.Ytkegealaagphgaa
