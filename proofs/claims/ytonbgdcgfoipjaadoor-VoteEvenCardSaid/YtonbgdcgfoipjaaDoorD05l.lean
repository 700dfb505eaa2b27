/- The walks of layer 5's laws VoteTells, VoteTexts, VoteWords. -/
import Derived.Test.YtonbgdcgfoipjaaDoorD05b
namespace Go.Proofs.YtonbgdcgfoipjaaDoor
open Go.RowKit

/-- A slice of numbers that can be read, over calls. -/
structure NumSl (w : World) (v : Value) (xs : List Int) : Prop where
  sl : IntSl .u64 w v xs
  low : SlBelow w.heap.size v
theorem NumSl.next {w w' : World} {v : Value} {xs : List Int} (h : NumSl w v xs) (hb : Below w.heap.size w w') : NumSl w' v xs := ⟨h.sl.below hb h.low, h.low.mono hb.size⟩
theorem IntSl.form {k : IntKind} {w : World} {v : Value} {xs : List Int} (h : IntSl k w v xs) : ∃ a c, v = .slice a xs.length c := by
  rcases h with ⟨rfl, a, c, h⟩ | ⟨b, off, c, h, _⟩
  · exact ⟨a, c, h⟩
  · exact ⟨_, c, h⟩

set_option maxHeartbeats 1000000 in
theorem tells05_law (xs : List Int) (v : Value) (w : World) (hv : IntSl .u64 w v xs) (hlow : SlBelow w.heap.size v) (hn : xs.length ≤ maxLen) (hx : ∀ x ∈ xs, (Lit.int .u64 x).wf = true) (h : Tab w) : Calls Tryd.prog 3 #[v] w (LawPost w) := by
  unfold maxLen at hn
  obtain ⟨a, c, rfl⟩ := hv.form
  by_cases hl : 500 < xs.length
  · clear hv hlow hx
    go_enter Tryd.func3, Tryd.ntmps3
    go_wp2_with fail
    go_ret
    exact ⟨rfl, Below.refl _ _⟩
  have hx : ∀ x ∈ xs, 0 ≤ x ∧ x ≤ 18446744073709551615 := fun x hm => by
    have := hx x hm
    simp [Lit.wf, IntKind.min, IntKind.max, IntKind.bits, IntKind.signed] at this
    omega
  have hs0 := Lib.hid (show NumSl w (.slice a xs.length c) xs from ⟨hv, hlow⟩)
  replace hx := Lib.hid hx
  replace h := Lib.hid h
  clear hv hlow
  have hn : xs.length ≤ 100000 := by omega
  go_enter Tryd.func3, Tryd.ntmps3
  go_wp2_with fail
  refine (awake5_any w h.out).mono ?_; rintro e w1 ⟨rfl, hb1⟩
  have hs1 := Lib.hid (hs0.out.next hb1)
  replace hb1 := Lib.hid hb1
  go_wp2_with fail
  refine (votes_any xs _ w1 hs1.out.sl hs1.out.low hn hx.out).mono ?_; rintro e w2 ⟨rfl, hb2⟩
  have hs2 := Lib.hid (hs1.out.next hb2)
  replace hb2 := Lib.hid (hb1.out.andThen hb2)
  go_wp2_with fail
  refine (refvotes_any xs _ w2 hs2.out.sl hs2.out.low hn hx.out).mono ?_; rintro e w3 ⟨rfl, hb3⟩
  have hs3 := Lib.hid (hs2.out.next hb3)
  replace hb3 := Lib.hid (hb2.out.andThen hb3)
  have heq := run_equal_same (voteArr xs) (voteArr_ints xs)
  generalize voteArr xs = V at heq ⊢
  go_wp2_with fail
  refine (sig_any xs _ w3 hs3.out.sl hs3.out.low hn hx.out).mono ?_; rintro e w4 ⟨rfl, hb4⟩
  have hs4 := Lib.hid (hs3.out.next hb4)
  replace hb4 := Lib.hid (hb3.out.andThen hb4)
  clear heq
  go_wp2_with fail
  refine (refsig_any xs _ w4 hs4.out.sl hs4.out.low hn hx.out).mono ?_; rintro e w5 ⟨rfl, hb5⟩
  replace hb5 := Lib.hid (hb4.out.andThen hb5)
  go_wp2_with fail
  go_ret
  exact ⟨rfl, hb5.out⟩

theorem text5_i64 {n : Int} (h : (Lit.int .i64 n).wf = true) : -9223372036854775808 ≤ n ∧ n ≤ 9223372036854775807 := by
  simp [Lit.wf, IntKind.min, IntKind.max, IntKind.bits, IntKind.signed] at h
  omega

set_option maxHeartbeats 1000000 in
theorem texts05_law (l : List UInt8) (k : Int) (w : World) (hs : l.length ≤ maxLen) (hk : (Lit.int .i64 k).wf = true) (h : Tab w) : Calls Tryd.prog 4 #[.string ⟨l.toArray⟩, .int .i64 k] w (LawPost w) := by
  unfold maxLen at hs
  obtain ⟨hk0, hk1⟩ := text5_i64 hk
  clear hk
  by_cases hl : 3000 < l.length
  · go_enter Tryd.func4, Tryd.ntmps4
    go_wp2_with fail
    refine (awake5_any w h).mono ?_
    rintro e w1 ⟨rfl, hb⟩
    go_wp2_with fail
    go_ret
    exact ⟨rfl, hb⟩
  replace h := Lib.hid h
  go_enter Tryd.func4, Tryd.ntmps4
  go_wp2_with fail
  refine (awake5_any w h.out).mono ?_; rintro e w1 ⟨rfl, hb1⟩
  replace hb1 := Lib.hid hb1
  go_wp2_with fail
  refine (text_any l k w1 (h.out.below hb1.out) (by omega) hk0 hk1).mono ?_; rintro e w2 ⟨rfl, hb2⟩
  replace hb2 := Lib.hid (hb1.out.andThen hb2)
  go_wp2_with fail
  refine (reftext_any l k w2 (by omega) hk0 hk1).mono ?_; rintro e w3 ⟨rfl, hb3⟩
  replace hb3 := Lib.hid (hb2.out.andThen hb3)
  go_wp2_with fail
  refine (text_any l k w3 (h.out.below hb3.out) (by omega) hk0 hk1).mono ?_; rintro e w4 ⟨rfl, hb4⟩
  replace hb4 := Lib.hid (hb3.out.andThen hb4)
  go_wp2_with fail
  refine (refwords_any l w4 (by omega)).mono ?_; rintro e w5 ⟨v1, rfl, ho1, hb5⟩
  replace hb5 := Lib.hid (hb4.out.andThen hb5)
  have hsm := words_sum l
  have hbd := words_bd l
  have hh := refhashes_any (wordsB l) v1 k w5 ho1.sl ho1.low (by omega) (by omega) hk0 hk1
  have hx := hashesB_bd (wordsB l) k
  have hc := cnt_le (wordsB l).length k
  rw [← hashesB_len] at hc
  have ht : Hid (textB l k = sigB (hashesB (wordsB l) k)) := rfl
  generalize textB l k = tx at ht ⊢
  generalize wordsB l = ws at hh hx hc ht hsm hbd ho1
  replace ho1 := Lib.hid ho1
  replace hx := Lib.hid hx
  obtain ⟨hbd, -, -⟩ := hbd
  go_wp2_with fail
  refine hh.mono ?_; rintro e w6 ⟨v2, rfl, ho2, hb6⟩
  clear hh
  generalize hashesB ws k = hs' at hx hc ht ho2
  have hsg := refsig_any hs' v2 w6 ho2.sl ho2.low (by omega) hx.out
  rw [← ht.out] at hsg
  replace ho2 := Lib.hid ho2
  replace hb6 := Lib.hid (hb5.out.andThen hb6)
  go_wp2_with fail
  refine hsg.mono ?_; rintro e w7 ⟨rfl, hb7⟩
  clear hsg
  replace hb7 := Lib.hid (hb6.out.andThen hb7)
  go_wp2_with fail
  go_ret
  exact ⟨rfl, hb7.out⟩

theorem text_words (l : List UInt8) (k : Int) : textB (joinB (wordsB l)) k = textB l k := by unfold textB; rw [words_again]
theorem join_words_len (l : List UInt8) : (joinB (wordsB l)).length ≤ 300000 := by
  have h1 := joinB_len (wordsB l)
  have h2 := words_sum l
  have h3 := (words_bd l).1
  unfold sumLen at h2
  omega

set_option maxHeartbeats 1000000 in
theorem words05_law (l : List UInt8) (k : Int) (w : World) (hs : l.length ≤ maxLen) (hk : (Lit.int .i64 k).wf = true) (h : Tab w) : Calls Tryd.prog 7 #[.string ⟨l.toArray⟩, .int .i64 k] w (LawPost w) := by
  unfold maxLen at hs
  obtain ⟨hk0, hk1⟩ := text5_i64 hk
  clear hk
  by_cases hl : 2000 < l.length
  · go_enter Tryd.func7, Tryd.ntmps7
    go_wp2_with fail
    refine (awake5_any w h).mono ?_
    rintro e w1 ⟨rfl, hb⟩
    go_wp2_with fail
    go_ret
    exact ⟨rfl, hb⟩
  replace h := Lib.hid h
  go_enter Tryd.func7, Tryd.ntmps7
  go_wp2_with fail
  refine (awake5_any w h.out).mono ?_; rintro e w1 ⟨rfl, hb1⟩
  replace hb1 := Lib.hid hb1
  go_wp2_with fail
  refine (refwords_any l w1 (by omega)).mono ?_; rintro e w2 ⟨v1, rfl, ho1, hb2⟩
  replace hb2 := Lib.hid (hb1.out.andThen hb2)
  have hjl := join_words_len l
  have hbd := (words_bd l).1
  have hj := refjoin_any (wordsB l) v1 w2 ho1.sl (by omega) (by omega)
  have htx := Lib.hid (text_words l k)
  replace ho1 := Lib.hid ho1
  generalize joinB (wordsB l) = jl at hjl hj htx
  clear hbd
  go_wp2_with fail
  refine hj.mono ?_; rintro e w3 ⟨rfl, rfl⟩
  clear hj
  go_wp2_with fail
  refine (text_any jl k w2 (h.out.below hb2.out) (by omega) hk0 hk1).mono ?_; rintro e w4 ⟨rfl, hb4⟩
  replace hb4 := Lib.hid (hb2.out.andThen hb4)
  rw [htx.out]
  go_wp2_with fail
  refine (text_any l k w4 (h.out.below hb4.out) (by omega) hk0 hk1).mono ?_; rintro e w5 ⟨rfl, hb5⟩
  replace hb5 := Lib.hid (hb4.out.andThen hb5)
  go_wp2_with fail
  go_ret
  exact ⟨rfl, hb5.out⟩
end Go.Proofs.YtonbgdcgfoipjaaDoor
