/- Layer 9's law UnionNil. -/
import Derived.Test.YtkegealaagphgaaD09l
namespace Go.Proofs.Ytkegealaagphgaa
open Go.RowKit

theorem nil_no (a b : Int) : (inB 0 a && inB 0 b) = false := by
  have h : inB 0 a = false := by
    unfold inB
    rw [Bool.and_eq_false_iff, decide_eq_false_iff_not, decide_eq_false_iff_not]
    omega
  rw [h]; rfl
theorem nil_no1 (a : Int) : inB 0 a = false := by have := nil_no a a; simpa using this
set_option maxHeartbeats 1000000 in
set_option maxRecDepth 100000 in
theorem nil09_rest (a b x : Int) (w : World) (hx : x < 0 ∨ 1048576 < x) (y : Int) (hy : (y = x ∧ ¬ (0 ≤ y ∧ y ≤ 1048576)) ∨ (x = -1 ∧ 0 ≤ y ∧ y ≤ 1048576)) : Calls Try.prog 6 #[.int .i64 a, .int .i64 b, .int .i64 y] w (LawPost w) := by
  have k1 := Lib.hid (new9_no x w hx)
  have c1 := Lib.hid (fun W => awake9_any W)
  have hl : ∀ W, LenC (.pointer none) 0 W := fun W => len9_nil W
  have c2 := Lib.hid (fun W => len9_nil W)
  have c3 := Lib.hid (fun W => same9_no (.pointer none) 0 a b W (hl W) (nil_no a b))
  have c4 := Lib.hid (fun W => join9_no (.pointer none) 0 a b W (hl W) (nil_no a b))
  have c5 := Lib.hid (fun W => least9_no (.pointer none) 0 a W (hl W) (nil_no1 a))
  have c6 := Lib.hid (fun W => sets9_nil W)
  have c7 : Hid (∀ W X g, UfAt W X g 0 (fun i => i) → Calls Try.prog 16 #[.pointer (some ⟨X, 0, none⟩)] W fun e w' => e = .returned (.int .i64 0) ∧ W = w') := fun W X g h => len9_any X g 0 _ W h
  have c8 : Hid (∀ W X g, UfAt W X g 0 (fun i => i) → Calls Try.prog 11 #[.pointer (some ⟨X, 0, none⟩), .int .i64 a, .int .i64 b] W fun e w' => e = .returned (.bool false) ∧ W = w') := fun W X g h => join9_no _ 0 a b W (len9_any X g 0 _ W h) (nil_no a b)
  have c9 : Hid (∀ W X g, UfAt W X g 0 (fun i => i) → Calls Try.prog 19 #[.pointer (some ⟨X, 0, none⟩)] W fun e w' => ∃ u c, e = .returned (.slice u 0 c) ∧ Turned (fun b => b = g) W w') := fun W X g h => by
    refine (sets9_any h).mono ?_
    rintro e w' ⟨v, vs, rfl, h1, _, h2⟩
    obtain ⟨u, c, rfl⟩ := h1.head
    exact ⟨u, c, rfl, h2⟩
  clear hl hx
  rcases hy with ⟨rfl, hy⟩ | ⟨rfl, hy0, hy1⟩
  · by_cases h0 : 0 ≤ y
    · have h1 : ¬ y ≤ 1048576 := fun h => hy ⟨h0, h⟩
      clear hy
      go_enter Try.func6, Try.ntmps6
      go_wp2_with fail
      refine k1.out.mono ?_; rintro e w1 ⟨X, g, rfl, hu, ⟨hX, hg⟩, hb⟩
      replace hb := Lib.hid hb
      replace hu := Lib.hid hu
      clear k1 h0 h1
      go_wp2_with fail
      refine (c1.out _).mono ?_; rintro e w2 ⟨rfl, hb2⟩
      replace hu := Lib.hid (hu.out.below hb2)
      replace hb := Lib.hid (hb.out.trans (hb2.mono hb.out.size))
      clear hb2 c1
      go_wp2_with fail
      refine (c2.out _).mono ?_; rintro e w3 ⟨rfl, rfl⟩
      go_wp2_with fail
      refine (c3.out _).mono ?_; rintro e w3 ⟨rfl, rfl⟩
      go_wp2_with fail
      refine (c4.out _).mono ?_; rintro e w3 ⟨rfl, rfl⟩
      go_wp2_with fail
      refine (c5.out _).mono ?_; rintro e w3 ⟨rfl, rfl⟩
      go_wp2_with fail
      refine (c6.out _).mono ?_; rintro e w3 ⟨rfl, hb2⟩
      replace hu := Lib.hid (hu.out.below hb2)
      replace hb := Lib.hid (hb.out.trans (hb2.mono hb.out.size))
      clear hb2
      go_wp2_with fail
      refine (c7.out _ X g hu.out).mono ?_; rintro e w4 ⟨rfl, rfl⟩
      go_wp2_with fail
      refine (c8.out _ X g hu.out).mono ?_; rintro e w4 ⟨rfl, rfl⟩
      go_wp2_with fail
      refine (c9.out _ X g hu.out).mono ?_; rintro e w4 ⟨u, c, rfl, ht⟩
      replace hb := Lib.hid (hb.out.trans (turned_one ht hg hb.out.size))
      clear ht
      go_wp2_with fail
      go_ret
      exact ⟨rfl, hb.out⟩
    · clear hy
      go_enter Try.func6, Try.ntmps6
      go_wp2_with fail
      refine k1.out.mono ?_; rintro e w1 ⟨X, g, rfl, hu, ⟨hX, hg⟩, hb⟩
      replace hb := Lib.hid hb
      replace hu := Lib.hid hu
      clear k1 h0
      go_wp2_with fail
      refine (c1.out _).mono ?_; rintro e w2 ⟨rfl, hb2⟩
      replace hu := Lib.hid (hu.out.below hb2)
      replace hb := Lib.hid (hb.out.trans (hb2.mono hb.out.size))
      clear hb2 c1
      go_wp2_with fail
      refine (c2.out _).mono ?_; rintro e w3 ⟨rfl, rfl⟩
      go_wp2_with fail
      refine (c3.out _).mono ?_; rintro e w3 ⟨rfl, rfl⟩
      go_wp2_with fail
      refine (c4.out _).mono ?_; rintro e w3 ⟨rfl, rfl⟩
      go_wp2_with fail
      refine (c5.out _).mono ?_; rintro e w3 ⟨rfl, rfl⟩
      go_wp2_with fail
      refine (c6.out _).mono ?_; rintro e w3 ⟨rfl, hb2⟩
      replace hu := Lib.hid (hu.out.below hb2)
      replace hb := Lib.hid (hb.out.trans (hb2.mono hb.out.size))
      clear hb2
      go_wp2_with fail
      refine (c7.out _ X g hu.out).mono ?_; rintro e w4 ⟨rfl, rfl⟩
      go_wp2_with fail
      refine (c8.out _ X g hu.out).mono ?_; rintro e w4 ⟨rfl, rfl⟩
      go_wp2_with fail
      refine (c9.out _ X g hu.out).mono ?_; rintro e w4 ⟨u, c, rfl, ht⟩
      replace hb := Lib.hid (hb.out.trans (turned_one ht hg hb.out.size))
      clear ht
      go_wp2_with fail
      go_ret
      exact ⟨rfl, hb.out⟩
  · go_enter Try.func6, Try.ntmps6
    go_wp2_with fail
    refine k1.out.mono ?_; rintro e w1 ⟨X, g, rfl, hu, ⟨hX, hg⟩, hb⟩
    replace hb := Lib.hid hb
    replace hu := Lib.hid hu
    clear k1 hy0 hy1
    go_wp2_with fail
    refine (c1.out _).mono ?_; rintro e w2 ⟨rfl, hb2⟩
    replace hu := Lib.hid (hu.out.below hb2)
    replace hb := Lib.hid (hb.out.trans (hb2.mono hb.out.size))
    clear hb2 c1
    go_wp2_with fail
    refine (c2.out _).mono ?_; rintro e w3 ⟨rfl, rfl⟩
    go_wp2_with fail
    refine (c3.out _).mono ?_; rintro e w3 ⟨rfl, rfl⟩
    go_wp2_with fail
    refine (c4.out _).mono ?_; rintro e w3 ⟨rfl, rfl⟩
    go_wp2_with fail
    refine (c5.out _).mono ?_; rintro e w3 ⟨rfl, rfl⟩
    go_wp2_with fail
    refine (c6.out _).mono ?_; rintro e w3 ⟨rfl, hb2⟩
    replace hu := Lib.hid (hu.out.below hb2)
    replace hb := Lib.hid (hb.out.trans (hb2.mono hb.out.size))
    clear hb2
    go_wp2_with fail
    refine (c7.out _ X g hu.out).mono ?_; rintro e w4 ⟨rfl, rfl⟩
    go_wp2_with fail
    refine (c8.out _ X g hu.out).mono ?_; rintro e w4 ⟨rfl, rfl⟩
    go_wp2_with fail
    refine (c9.out _ X g hu.out).mono ?_; rintro e w4 ⟨u, c, rfl, ht⟩
    replace hb := Lib.hid (hb.out.trans (turned_one ht hg hb.out.size))
    clear ht
    go_wp2_with fail
    go_ret
    exact ⟨rfl, hb.out⟩
theorem nil09_law (a b y : Int) (w : World) : Calls Try.prog 6 #[.int .i64 a, .int .i64 b, .int .i64 y] w (LawPost w) := by
  by_cases h : 0 ≤ y ∧ y ≤ 1048576
  · exact nil09_rest a b (-1) w (Or.inl (by omega)) y (Or.inr ⟨rfl, h⟩)
  · exact nil09_rest a b y w (by omega) y (Or.inl ⟨rfl, h⟩)
end Go.Proofs.Ytkegealaagphgaa
