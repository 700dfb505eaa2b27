/- The walks of the laws WordTells, WordJoins, WordAgain, WordParts, WordBlanks. -/
import Derived.Test.YtlinmokkbikjfaaDoorWd
namespace Go.Proofs.YtlinmokkbikjfaaDoor
open Go.RowKit

theorem Strs.sl {w : World} {B : Nat} {v : Value} {xs : List (List UInt8)} (h : Strs w B v xs) : StrSl w v xs := strSl_own h
theorem Strs.low {w : World} {B : Nat} {v : Value} {xs : List (List UInt8)} (h : Strs w B v xs) : SlBelow w.heap.size v := slBelow_own h

set_option maxHeartbeats 400000 in
theorem tells03_law (l : List UInt8) (r : Int) (w : World) (hs : l.length ≤ maxLen) (h : Tab w) : Calls Tryd.prog 3 #[.string ⟨l.toArray⟩, .int .i32 r] w (AwakePost w) := by
  unfold maxLen at hs
  by_cases hl : 20000 < l.length
  · go_enter Tryd.func3, Tryd.ntmps3
    go_wp2_with fail
    refine (awake_any w h).mono ?_
    rintro e w1 ⟨rfl, hb⟩
    go_wp2_with fail
    go_ret
    exact ⟨rfl, hb⟩
  replace h := Lib.hid h
  go_enter Tryd.func3, Tryd.ntmps3
  go_wp2_with fail
  refine (awake_any w h.out).mono ?_
  rintro e w1 ⟨rfl, hb1⟩
  replace hb1 := Lib.hid hb1
  go_wp2_with fail
  refine (words_any l _ (h.out.below hb1.out) (by unfold maxLen; omega)).mono ?_
  rintro e w2 ⟨v2, rfl, ho2, hb2⟩
  replace ho2 := Lib.hid ho2
  replace hb2 := Lib.hid (hb1.out.andThen hb2)
  go_wp2_with fail
  refine (refwords_any l _ (by omega)).mono ?_
  rintro e w3 ⟨v3, rfl, ho3, hb3⟩
  replace ho3 := Lib.hid ho3
  have hi2 := Lib.hid (ho2.out.sl.below hb3 ho2.out.low)
  replace hb3 := Lib.hid (hb2.out.andThen hb3)
  have hwl := (words_bd l).1
  go_wp2_with fail
  refine (same_words_any (wordsB l) v2 v3 _ hi2.out ho3.out.sl (by omega)).mono ?_
  rintro e w4 ⟨rfl, n4, rfl⟩
  replace hb3 := Lib.hid (hb3.out.trans (Drawn.below ⟨n4, rfl⟩ _))
  go_wp2_with fail
  refine (sign_any r _ (h.out.below hb3.out)).mono ?_
  rintro e w5 ⟨rfl, hb5⟩
  replace hb5 := Lib.hid (hb3.out.andThen hb5)
  go_wp2_with fail
  refine (refsign_any r _).mono ?_
  rintro e w6 ⟨rfl, hb6⟩
  go_wp2_with fail
  go_ret
  exact ⟨rfl, hb5.out.andThen hb6⟩

set_option maxHeartbeats 400000 in
theorem parts03_law (s t : List UInt8) (w : World) (hs : s.length ≤ maxLen) (ht : t.length ≤ maxLen) (h : Tab w) : Calls Tryd.prog 6 #[.string ⟨s.toArray⟩, .string ⟨t.toArray⟩] w (AwakePost w) := by
  unfold maxLen at hs ht
  by_cases hl : 2000 < s.length
  · go_enter Tryd.func6, Tryd.ntmps6
    go_wp2_with fail
    refine (awake_any w h).mono ?_
    rintro e w1 ⟨rfl, hb⟩
    go_wp2_with fail
    go_ret
    exact ⟨rfl, hb⟩
  by_cases hl2 : 2000 < t.length
  · go_enter Tryd.func6, Tryd.ntmps6
    go_wp2_with fail
    refine (awake_any w h).mono ?_
    rintro e w1 ⟨rfl, hb⟩
    go_wp2_with fail
    go_ret
    exact ⟨rfl, hb⟩
  replace h := Lib.hid h
  have hwp := Lib.hid (words_parts s t (by omega) (by omega))
  have hws := (words_bd s).2.1
  have hwt := (words_bd t).2.1
  go_enter Tryd.func6, Tryd.ntmps6
  go_wp2_with fail
  refine (awake_any w h.out).mono ?_
  rintro e w1 ⟨rfl, hb1⟩
  replace hb1 := Lib.hid hb1
  go_wp2_with fail
  refine (words_any _ _ (h.out.below hb1.out) (by unfold maxLen; simp; omega)).mono ?_
  rintro e w2 ⟨v2, rfl, ho2, hb2⟩
  rw [hwp.out] at ho2
  replace ho2 := Lib.hid ho2
  replace hb2 := Lib.hid (hb1.out.andThen hb2)
  go_wp2_with fail
  refine (words_any s _ (h.out.below (hb2.out.alloc hb2.out.size _)) (by unfold maxLen; omega)).mono ?_
  rintro e w3 ⟨v3, rfl, ho3, hb3⟩
  replace ho3 := Lib.hid ho3
  have hem : Hid (w3.ownsRow w2.heap.size 9 1 (.slice (some ⟨w2.heap.size, 0, none⟩) 0 0) 0 []) :=
    ⟨by simp, Or.inr ⟨w2.heap.size, 0, #[], rfl, Nat.le_refl _, (hb3.block _ (by simp)).trans (heap_alloc_new w2 _), Nat.le_refl _, by unfold maxLen; omega, by simp, by simp⟩⟩
  have hs3 := hb3.size
  simp only [World.size_alloc] at hs3
  have hb23 := Lib.hid (show Below w2.heap.size w2 w3 from ((Below.refl _ _).alloc (Nat.le_refl _) _).trans (hb3.mono (by simp)))
  clear hb3
  go_wp2_with (at_builtin; go_must (refine wpList_append_row rfl _ _ 24 9 rfl Tryd.underlying24 (.string ⟨#[]⟩) 16 info_str rfl (by decide) w2.heap.size _ _ _ hem.out _ _ _ _ ho3.out rfl rfl ?_ (by omega) (by omega) ?_))
  · intro u hu; simp at hu; obtain ⟨x, _, rfl⟩ := hu; rfl
  intro v4 w4 ho4 hb4 _
  have ho4 := Lib.hid (show Strs w4 w2.heap.size v4 (wordsB s) from ho4)
  have hs4 := hb4.size
  replace hb4 := Lib.hid (hb23.out.trans hb4)
  clear hb23 hem
  go_wp2_with fail
  have hb04 := Lib.hid (hb2.out.andThen hb4.out)
  refine (words_any t _ (h.out.below hb04.out) (by unfold maxLen; omega)).mono ?_
  rintro e w5 ⟨v5, rfl, ho5, hb5⟩
  have ho5 := Lib.hid ho5
  have ho4' := Lib.hid (show Strs w5 w2.heap.size v4 (wordsB s) from ownsRow_below ho4.out hb5)
  have hs5 := hb5.size
  replace hb5 := Lib.hid (hb4.out.andThen hb5)
  clear ho4
  go_wp2_with (at_builtin; go_must (refine wpList_append_row rfl _ _ 24 9 rfl Tryd.underlying24 (.string ⟨#[]⟩) 16 info_str rfl (by decide) w2.heap.size _ _ _ ho4'.out _ _ _ _ ho5.out rfl rfl ?_ (by omega) (by omega) ?_))
  · intro u hu; simp at hu; obtain ⟨x, _, rfl⟩ := hu; rfl
  intro v6 w6 ho6 hb6 _
  have ho6 := Lib.hid (show Strs w6 w2.heap.size v6 (wordsB s ++ wordsB t) from strs_app ho6)
  replace hb6 := Lib.hid (hb5.out.trans hb6)
  have hi2 := Lib.hid (ho2.out.sl.below hb6.out ho2.out.low)
  go_wp2_with fail
  refine (same_words_any _ v2 v6 _ hi2.out ho6.out.sl (by simp; omega)).mono ?_
  rintro e w7 ⟨rfl, n7, rfl⟩
  go_wp2_with fail
  go_ret
  exact ⟨rfl, (hb2.out.andThen hb6.out).trans (Drawn.below ⟨n7, rfl⟩ _)⟩

set_option maxHeartbeats 400000 in
theorem again03_law (l : List UInt8) (w : World) (hs : l.length ≤ maxLen) (h : Tab w) : Calls Tryd.prog 5 #[.string ⟨l.toArray⟩] w (AwakePost w) := by
  unfold maxLen at hs
  by_cases hl : 20000 < l.length
  · go_enter Tryd.func5, Tryd.ntmps5
    go_wp2_with fail
    refine (awake_any w h).mono ?_
    rintro e w1 ⟨rfl, hb⟩
    go_wp2_with fail
    go_ret
    exact ⟨rfl, hb⟩
  replace h := Lib.hid h
  have hag := Lib.hid (words_again l)
  obtain ⟨hwl, hwl2, hall⟩ := words_bd l
  have hjl := joinB_len (wordsB l)
  have hsum : ((wordsB l).map List.length).sum ≤ 64 * (wordsB l).length := by
    clear hjl hwl hwl2 hag
    generalize wordsB l = L at hall
    induction L with
    | nil => simp
    | cons x L ih =>
      have := (hall x (List.mem_cons_self ..)).2
      have := ih fun w hw => hall w (List.mem_cons_of_mem _ hw)
      simp; omega
  go_enter Tryd.func5, Tryd.ntmps5
  go_wp2_with fail
  refine (words_any l _ h.out (by unfold maxLen; omega)).mono ?_
  rintro e w1 ⟨v1, rfl, ho1, hb1⟩
  replace ho1 := Lib.hid ho1
  replace hb1 := Lib.hid hb1
  generalize wordsB l = L at hag hwl hwl2 hall hjl hsum ho1
  replace hall := Lib.hid hall
  obtain ⟨a1, c1, hv1⟩ := own_form ho1.out
  subst hv1
  go_wp2_with fail
  go_loop [4] (fun i => ∃ k : Nat, i = .int .i64 k ∧ k ≤ L.length) (fun i => L.length - (intOf i).toNat)
  case atStart => exact ⟨0, rfl, Nat.zero_le _⟩
  case round =>
    obtain ⟨k, rfl, hk⟩ := hrel
    by_cases hlt : k < L.length
    · have hne : L ≠ [] := by intro e; subst e; simp at hlt
      obtain ⟨b, off, c, e1, h1⟩ := ho1.out.sl.some hne
      injection e1 with e1 e1'' e1'
      clear e1''
      subst e1 e1'
      have g1 := h1 k hlt
      have hmem : L.getD k [] ∈ L := by simp [List.getD, hlt]
      obtain ⟨x1, x2⟩ := hall.out _ hmem
      generalize L.getD k [] = x at g1 x1 x2
      unfold strV at g1
      have x3 : x.isEmpty = false := by cases x <;> simp_all
      clear h1 hne hmem x1
      go_wp2_with fail
      exact ⟨⟨k + 1, by go_num, by omega⟩, by simp [intOf]; omega⟩
    · have hke : ¬ ((k : Int) < L.length) := by omega
      go_wp2_with fail
      refine (awake_any _ (h.out.below hb1.out)).mono ?_
      rintro e w2 ⟨rfl, hb2⟩
      have hi2 := Lib.hid (ho1.out.sl.below hb2 ho1.out.low)
      have hlow2 := Lib.hid (ho1.out.low.mono hb2.size)
      replace hb2 := Lib.hid (hb1.out.andThen hb2)
      go_wp2_with fail
      refine (wjoin_any L _ _ hi2.out hlow2.out (by omega) (by omega)).mono ?_
      rintro e w3 ⟨rfl, hb3⟩
      have hi3 := Lib.hid (hi2.out.below hb3 hlow2.out)
      have hlow3 := Lib.hid (hlow2.out.mono hb3.size)
      replace hb3 := Lib.hid (hb2.out.andThen hb3)
      go_wp2_with fail
      refine (words_any _ _ (h.out.below hb3.out) (by unfold maxLen; omega)).mono ?_
      rintro e w4 ⟨v4, rfl, ho4, hb4⟩
      rw [hag.out] at ho4
      replace ho4 := Lib.hid ho4
      have hi4 := Lib.hid (hi3.out.below hb4 hlow3.out)
      replace hb4 := Lib.hid (hb3.out.andThen hb4)
      go_wp2_with fail
      refine (same_words_any _ _ _ _ ho4.out.sl hi4.out (by omega)).mono ?_
      rintro e w5 ⟨rfl, n5, rfl⟩
      go_wp2_with fail
      go_ret
      exact ⟨rfl, hb4.out.trans (Drawn.below ⟨n5, rfl⟩ _)⟩

/-- What the words are put between. -/
def sepB (n : Int) : List UInt8 := if n = 0 then [32] else if n = 1 then [46, 46, 46] else if n = 2 then [10, 9] else [45, 195, 151, 45]
theorem sep_len (n : Int) : (sepB n).length ≤ 4 := by unfold sepB; (repeat' split) <;> simp
theorem sep_dec (n : Int) : ∃ ns : List Int, (∀ l, dec (sepB n ++ l) = ns ++ dec l) ∧ (∀ x ∈ ns, sg x = false) ∧ ns ≠ [] := by
  have hv : val (sepB n) = true := by unfold sepB; (repeat' split) <;> decide
  refine ⟨dec (sepB n), fun l => (dec_app l _ hv).1, ?_, ?_⟩
  · unfold sepB; (repeat' split) <;> decide
  · unfold sepB; (repeat' split) <;> decide
theorem flat_snoc (L : List (List UInt8)) (sep : List UInt8) (k : Nat) (h : k < L.length) : ((L.take (k + 1)).flatMap fun w => w ++ sep) = ((L.take k).flatMap fun w => w ++ sep) ++ (L.getD k [] ++ sep) := by
  rw [take_snoc [] h, List.flatMap_append]; simp
theorem flat_len4 (sep : List UInt8) (hs : sep.length ≤ 4) : ∀ L : List (List UInt8), (∀ x ∈ L, x ≠ [] ∧ x.length ≤ 64) → (L.flatMap fun w => w ++ sep).length ≤ 68 * L.length
  | [], _ => by simp
  | x :: L, h => by
    have h1 := (h x (List.mem_cons_self ..)).2
    have h2 := flat_len4 sep hs L fun y hy => h y (List.mem_cons_of_mem _ hy)
    rw [List.flatMap_cons, List.length_append, List.length_append, List.length_cons]; omega

theorem u8_bounds {n : Int} (h : (Lit.int .u8 n).wf = true) : 0 ≤ n ∧ n ≤ 255 := by
  simp [Lit.wf, IntKind.min, IntKind.max, IntKind.bits, IntKind.signed] at h
  omega
theorem run_index_str {w : World} (cs : Array Value) (k : IntKind) (i : Nat) (v : Value) (hi : i < 4) (hv : cs[i]? = some v) :
    (Instr.index 32 (.agg cs) (.int k i)).run Tryd.prog w = .ok v w := by
  simp [Instr.index, Tryd.sizeOf9, Tryd.isAgg9, part, asIntOf, hi, hv, go_sem]
set_option maxHeartbeats 1000000 in
theorem blanks_sep (l : List UInt8) (n : Int) (S : List UInt8) (w : World) (hl : ¬ 2000 < l.length) (hn0 : 0 ≤ n) (hn1 : n ≤ 255) (h : Hid (Tab w)) (hS : S.length ≤ 4) (hbl : Hid (wordsB (S ++ (wordsB l).flatMap fun w => w ++ S) = wordsB l))
    (hix : ∀ W, (Instr.index 32 (.agg #[.string ⟨#[32]⟩, .string ⟨#[46, 46, 46]⟩, .string ⟨#[10, 9]⟩, .string ⟨#[45, 195, 151, 45]⟩]) (.int .u8 (n % 4))).run Tryd.prog W = .ok (.string ⟨S.toArray⟩) W) : Calls Tryd.prog 7 #[.string ⟨l.toArray⟩, .int .u8 n] w (AwakePost w) := by
  obtain ⟨_, hwl2, hall⟩ := words_bd l
  replace hall := Lib.hid hall
  go_enter Tryd.func7, Tryd.ntmps7
  go_wp2_with fail
  refine (words_any l _ h.out (by unfold maxLen; omega)).mono ?_
  rintro e w1 ⟨v1, rfl, ho1, hb1⟩
  replace ho1 := Lib.hid ho1
  replace hb1 := Lib.hid hb1
  generalize wordsB l = L at hbl hwl2 hall ho1
  obtain ⟨a1, c1, hv1⟩ := own_form ho1.out
  subst hv1
  clear hix
  go_wp2_with fail
  go_loop [7, 8] (fun s i => ∃ (k : Nat) (y : List UInt8), i = .int .i64 k ∧ k ≤ L.length ∧ s = .string ⟨y.toArray⟩ ∧ y.length ≤ 4 + 68 * k ∧ Hid (y = S ++ (L.take k).flatMap fun w => w ++ S)) (fun _ i => L.length - (intOf i).toNat)
  case atStart => exact ⟨0, S, rfl, Nat.zero_le _, rfl, by omega, Lib.hid (by simp)⟩
  case round =>
    obtain ⟨k, y, rfl, hk, rfl, hy, hyy⟩ := hrel
    by_cases hlt : k < L.length
    · have hne : L ≠ [] := by intro e; subst e; simp at hlt
      obtain ⟨b, off, c, e1, h1⟩ := ho1.out.sl.some hne
      injection e1 with e1 e1'' e1'
      clear e1''
      subst e1 e1'
      have g1 := h1 k hlt
      have hmem : L.getD k [] ∈ L := by simp [List.getD, hlt]
      have x2 := (hall.out _ hmem).2
      have hfs := flat_snoc L S k hlt
      generalize L.getD k [] = x at g1 x2 hfs
      replace hfs := Lib.hid hfs
      unfold strV at g1
      clear h1 hne hmem
      go_wp2_with fail
      exact ⟨⟨k + 1, y ++ x ++ S, by go_num, by omega, by simp, by simp; omega, Lib.hid (by rw [hfs.out, hyy.out]; simp)⟩, by simp [intOf]; omega⟩
    · have hke : ¬ ((k : Int) < L.length) := by omega
      have hyy2 := Lib.hid (show wordsB y = L by rw [hyy.out, List.take_of_length_le (by omega)]; exact hbl.out)
      go_wp2_with fail
      refine (awake_any _ (h.out.below hb1.out)).mono ?_
      rintro e w2 ⟨rfl, hb2⟩
      have hi2 := Lib.hid (ho1.out.sl.below hb2 ho1.out.low)
      have hlow2 := Lib.hid (ho1.out.low.mono hb2.size)
      replace hb2 := Lib.hid (hb1.out.andThen hb2)
      go_wp2_with fail
      refine (words_any _ _ (h.out.below hb2.out) (by unfold maxLen; omega)).mono ?_
      rintro e w4 ⟨v4, rfl, ho4, hb4⟩
      rw [hyy2.out] at ho4
      replace ho4 := Lib.hid ho4
      have hi4 := Lib.hid (hi2.out.below hb4 hlow2.out)
      replace hb4 := Lib.hid (hb2.out.andThen hb4)
      go_wp2_with fail
      refine (same_words_any _ _ _ _ ho4.out.sl hi4.out (by omega)).mono ?_
      rintro e w5 ⟨rfl, n5, rfl⟩
      go_wp2_with fail
      go_ret
      exact ⟨rfl, hb4.out.trans (Drawn.below ⟨n5, rfl⟩ _)⟩
set_option maxHeartbeats 1000000 in
theorem blanks03_law (l : List UInt8) (n : Int) (w : World) (hs : l.length ≤ maxLen) (hn : (Lit.int .u8 n).wf = true) (h : Tab w) : Calls Tryd.prog 7 #[.string ⟨l.toArray⟩, .int .u8 n] w (AwakePost w) := by
  unfold maxLen at hs
  obtain ⟨hn0, hn1⟩ := u8_bounds hn
  by_cases hl : 2000 < l.length
  · go_enter Tryd.func7, Tryd.ntmps7
    go_wp2_with fail
    refine (awake_any w h).mono ?_
    rintro e w1 ⟨rfl, hb⟩
    go_wp2_with fail
    go_ret
    exact ⟨rfl, hb⟩
  have key : ∀ r : Nat, r < 4 → n % 4 = r → (.agg #[.string ⟨#[32]⟩, .string ⟨#[46, 46, 46]⟩, .string ⟨#[10, 9]⟩, .string ⟨#[45, 195, 151, 45]⟩] : Value) = .agg #[.string ⟨(sepB 0).toArray⟩, .string ⟨(sepB 1).toArray⟩, .string ⟨(sepB 2).toArray⟩, .string ⟨(sepB 3).toArray⟩] → Calls Tryd.prog 7 #[.string ⟨l.toArray⟩, .int .u8 n] w (AwakePost w) := by
    intro r hr hm he
    obtain ⟨ns, hs1, hs2, hs3⟩ := sep_dec r
    refine blanks_sep l n (sepB r) w hl hn0 hn1 (Lib.hid h) (sep_len r) (Lib.hid (words_seps (sepB r) ns hs1 hs2 hs3 l)) fun W => ?_
    rw [hm, he]
    refine run_index_str _ .u8 r _ hr ?_
    rcases (show r = 0 ∨ r = 1 ∨ r = 2 ∨ r = 3 by omega) with rfl | rfl | rfl | rfl <;> rfl
  have hm : n % 4 = 0 ∨ n % 4 = 1 ∨ n % 4 = 2 ∨ n % 4 = 3 := by omega
  rcases hm with hm | hm | hm | hm
  · exact key 0 (by omega) hm (by simp [sepB])
  · exact key 1 (by omega) hm (by simp [sepB])
  · exact key 2 (by omega) hm (by simp [sepB])
  · exact key 3 (by omega) hm (by simp [sepB])
end Go.Proofs.YtlinmokkbikjfaaDoor
