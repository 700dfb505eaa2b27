/- The walk of the law ShingleTells. -/
import Derived.Test.YtmallpkbjpfajaaD04m
namespace Go.Proofs.Ytmallpkbjpfajaa
open Go.RowKit

set_option maxRecDepth 100000 in
set_option maxHeartbeats 1000000 in
theorem tells04_law (xs : List (List UInt8)) (v : Value) (k : Int) (w : World) (hv : StrSl w v xs) (hlow : SlBelow w.heap.size v) (hs : xs.length ≤ maxLen) (hk : (Lit.int .i64 k).wf = true) : Calls Try.prog 3 #[v, .int .i64 k] w (LawPost w) := by
  obtain ⟨hk0, hk1⟩ := i64_bd hk
  clear hk
  obtain ⟨a, c, rfl⟩ := hv.form
  replace hv := Lib.hid hv
  replace hlow := Lib.hid hlow
  go_enter Try.func3, Try.ntmps3
  go_wp2_with fail
  refine (great4_any xs _ w hv.out hs).mono ?_
  rintro e w1 ⟨b, rfl, rfl, hgr⟩
  cases b
  case true =>
    go_wp2_with fail
    refine (awake4_any w).mono ?_
    rintro e w1 ⟨rfl, hb⟩
    go_wp2_with fail
    go_ret
    exact ⟨rfl, hb⟩
  obtain ⟨hn, hl⟩ := hgr rfl
  clear hgr hs
  replace hl := Lib.hid (show sumLen xs ≤ 1000000 by omega)
  have hcl := cnt_le xs.length k
  go_wp2_with fail
  refine (shingles_any xs _ k w hv.out hlow.out (by omega) hl.out hk0 hk1).mono ?_
  rintro e w1 ⟨v1, rfl, ho1, hb1⟩
  obtain ⟨ss, hss⟩ : ∃ ss, ss = shinB xs k := ⟨_, rfl⟩
  rw [← hss] at ho1
  have hsl := congrArg List.length hss
  rw [shinB_len] at hsl
  replace ho1 := Lib.hid ho1
  replace hb1 := Lib.hid hb1
  go_wp2_with fail
  refine (refshingles_any xs _ k w1 (hv.out.below hb1.out hlow.out) (hlow.out.mono hb1.out.size) (by omega) hl.out hk0 hk1).mono ?_
  rintro e w2 ⟨v2, rfl, ho2, hb2⟩
  rw [← hss] at ho2
  replace ho2 := Lib.hid ho2
  have hi1 := Lib.hid (ho1.out.sl.below hb2 ho1.out.low)
  have hl1 := Lib.hid (ho1.out.low.mono hb2.size)
  replace hb2 := Lib.hid (hb1.out.andThen hb2)
  go_wp2_with fail
  refine (hashes_any xs _ k w2 (hv.out.below hb2.out hlow.out) (hlow.out.mono hb2.out.size) (by omega) hl.out hk0 hk1).mono ?_
  rintro e w3 ⟨v3, rfl, ho3, hb3⟩
  obtain ⟨hs, hhs⟩ : ∃ hs, hs = hashesB xs k := ⟨_, rfl⟩
  rw [← hhs] at ho3
  have hhl := congrArg List.length hhs
  rw [hashesB_len] at hhl
  replace ho3 := Lib.hid ho3
  replace hi1 := Lib.hid (hi1.out.below hb3 hl1.out)
  replace hl1 := Lib.hid (hl1.out.mono hb3.size)
  have hi2 := Lib.hid (ho2.out.sl.below hb3 ho2.out.low)
  have hl2 := Lib.hid (ho2.out.low.mono hb3.size)
  replace hb3 := Lib.hid (hb2.out.andThen hb3)
  go_wp2_with fail
  refine (refhashes_any xs _ k w3 (hv.out.below hb3.out hlow.out) (hlow.out.mono hb3.out.size) (by omega) hl.out hk0 hk1).mono ?_
  rintro e w4 ⟨v4, rfl, ho4, hb4⟩
  rw [← hhs] at ho4
  replace ho4 := Lib.hid ho4
  replace hi1 := Lib.hid (hi1.out.below hb4 hl1.out)
  replace hl1 := Lib.hid (hl1.out.mono hb4.size)
  replace hi2 := Lib.hid (hi2.out.below hb4 hl2.out)
  replace hl2 := Lib.hid (hl2.out.mono hb4.size)
  have hi3 := Lib.hid (ho3.out.sl.below hb4 ho3.out.low)
  have hl3 := Lib.hid (ho3.out.low.mono hb4.size)
  replace hb4 := Lib.hid (hb3.out.andThen hb4)
  go_wp2_with fail
  refine (awake4_any _).mono ?_
  rintro e w5 ⟨rfl, hb5⟩
  replace hi1 := Lib.hid (hi1.out.below hb5 hl1.out)
  replace hi2 := Lib.hid (hi2.out.below hb5 hl2.out)
  replace hi3 := Lib.hid (hi3.out.below hb5 hl3.out)
  have hi4 := Lib.hid (ho4.out.sl.below hb5 ho4.out.low)
  obtain ⟨a1, c1, rfl⟩ := own_form ho1.out
  obtain ⟨a2, c2, rfl⟩ := own_form ho2.out
  obtain ⟨a3, c3, rfl⟩ := own_form ho3.out
  obtain ⟨a4, c4, rfl⟩ := own_form ho4.out
  replace hb5 := Lib.hid (hb4.out.andThen hb5)
  clear ho1 ho2 ho3 ho4 hl1 hl2 hl3 hb1 hb2 hb3 hb4
  have hhs2 : hs.length = ss.length := by omega
  rw [hhs2]
  have hsn : ss.length ≤ 301 := by omega
  clear hss hhs hsl hhl hcl
  replace hhs2 := Lib.hid hhs2
  replace hv := Lib.hid True.intro
  clear hv hlow
  go_wp2_with fail
  go_loopw [9] (fun i wr => ∃ n : Nat, i = .int .i64 n ∧ n ≤ ss.length ∧ Drawn w5 wr) (fun i _ => ss.length - (intOf i).toNat)
  case atStart => exact ⟨0, rfl, Nat.zero_le _, Drawn.refl _⟩
  case round =>
    obtain ⟨n, rfl, hnl, n0, rfl⟩ := hrel
    by_cases hlt : n < ss.length
    · have hne : ss ≠ [] := by intro e; subst e; simp at hlt
      have hne2 : hs ≠ [] := by intro e; subst e; have := hhs2.out; simp at this; omega
      obtain ⟨b1, o1, d1, e1, h1⟩ := hi1.out.some hne
      injection e1 with e1 e1'' e1'
      clear e1''
      subst e1 e1'
      obtain ⟨b2, o2, d2, e2, h2⟩ := hi2.out.some hne
      injection e2 with e2 e2'' e2'
      clear e2''
      subst e2 e2'
      obtain ⟨b3, o3, d3, e3, h3⟩ := hi3.out.some hne2
      injection e3 with e3 e3'' e3'
      clear e3''
      subst e3 e3'
      obtain ⟨b4, o4, d4, e4, h4⟩ := hi4.out.some hne2
      injection e4 with e4 e4'' e4'
      clear e4''
      subst e4 e4'
      have g1 := h1 n hlt
      have g2 := h2 n hlt
      have g3 := h3 n (by have := hhs2.out; omega)
      have g4 := h4 n (by have := hhs2.out; omega)
      generalize ss.getD n [] = x at g1 g2
      generalize hs.getD n 0 = y at g3 g4
      unfold strV at g1 g2
      clear h1 h2 h3 h4 hne hne2
      go_wp2_with fail
      go_quiet (fail)
      go_wp2_with fail
      exact ⟨⟨n + 1, by go_num, by omega, ⟨_, rfl⟩⟩, by simp [intOf]; omega⟩
    · have hke : ¬ ((n : Int) < ss.length) := by omega
      go_wp2_with fail
      go_ret
      exact ⟨rfl, hb5.out.trans (Drawn.below ⟨n0, rfl⟩ _)⟩
end Go.Proofs.Ytmallpkbjpfajaa
