/- The walks of word: Sign, span, small, Words. -/
import Derived.Test.YtonbgdcgfoipjaaDoorUb
import Derived.Test.YtonbgdcgfoipjaaDoorUd
import Derived.Test.YtonbgdcgfoipjaaDoorFa
import Derived.Test.YtonbgdcgfoipjaaDoorWp
import Derived.Test.YtonbgdcgfoipjaaDoorSl
import Derived.Lib.AppendStr
namespace Go.Proofs.YtonbgdcgfoipjaaDoor
open Go.RowKit

set_option maxHeartbeats 400000 in
theorem sign_any (r : Int) (w : World) (h : Tab w) : Calls Tryd.prog 37 #[.int .i32 r] w fun e w' => e = .returned (.bool (sg r)) ∧ Below w.heap.size w w' := by
  have e1 : sg r = (letB r || digB r) := rfl
  replace e1 := Lib.hid e1
  cases hl : letB r
  · have hl1 := hl
    replace hl := Lib.hid hl
    go_enter Tryd.func37, Tryd.ntmps37
    go_wp2_with fail
    refine (letter_any r _ h).mono ?_; rintro e w1 ⟨rfl, hb1⟩
    rw [hl1]
    clear hl1
    have t1 := h.below hb1
    replace hb1 := Lib.hid hb1
    go_wp2_with fail
    refine (digit_any r _ t1).mono ?_; rintro e w2 ⟨rfl, hb2⟩
    go_wp2_with fail
    go_ret
    exact ⟨ret_bool (by rw [e1.out, hl.out]; rfl), hb1.out.andThen hb2⟩
  · have hl1 := hl
    replace hl := Lib.hid hl
    go_enter Tryd.func37, Tryd.ntmps37
    go_wp2_with fail
    refine (letter_any r _ h).mono ?_; rintro e w1 ⟨rfl, hb1⟩
    rw [hl1]
    clear hl1
    go_wp2_with fail
    go_ret
    exact ⟨ret_bool (by rw [e1.out, hl.out]; rfl), hb1⟩

/-- How many bytes, from the first on, are those of signs, or of anything else. -/
structure SpanOf (b : Bool) (l : List UInt8) (n : Nat) : Prop where
  le : n ≤ l.length
  parts : ∃ ns, (∀ x ∈ ns, sg x = b) ∧ dec l = ns ++ dec (l.drop n) ∧ (b = true → dec (l.take n) = ns)
  ends : l.drop n = [] ∨ sg (cutS (l.drop n)).1 ≠ b

/-- What the loop of span keeps. -/
structure SpanAt (b : Bool) (l : List UInt8) (n : Nat) : Prop where
  le : n ≤ l.length
  parts : ∃ ns, (∀ x ∈ ns, sg x = b) ∧ dec l = ns ++ dec (l.drop n) ∧ (b = true → dec (l.take n) = ns ∧ val (l.take n) = true)
theorem SpanAt.start (b : Bool) (l : List UInt8) : SpanAt b l 0 := ⟨Nat.zero_le _, [], by simp, by simp, fun _ => ⟨by simp [dec_nil], rfl⟩⟩
theorem sg_sign : sg 65533 = false := by decide
theorem SpanAt.step {b : Bool} {l : List UInt8} {n : Nat} (h : SpanAt b l n) (hd : l.drop n ≠ []) (hs : sg (cutS (l.drop n)).1 = b) : SpanAt b l (n + cutN (l.drop n)) := by
  have hc := cutN_bd _ hd
  have hle := h.le
  obtain ⟨ns, h1, h2, h3⟩ := h.parts
  have hdd : l.drop (n + cutN (l.drop n)) = (l.drop n).drop (cutN (l.drop n)) := by rw [List.drop_drop]
  refine ⟨by have := hc.2.1; simp at this; omega, ns ++ [(cutS (l.drop n)).1], ?_, ?_, ?_⟩
  · intro x hx
    rcases List.mem_append.1 hx with hx | hx
    · exact h1 x hx
    · rw [List.mem_singleton.1 hx]; exact hs
  · rw [h2, dec_cons _ hd, hdd]; simp
  · intro hb
    obtain ⟨k1, k2⟩ := h3 hb
    have hg : (cutS (l.drop n)).2.2 = true := by
      cases hg : (cutS (l.drop n)).2.2
      · have := cutS_none _ hg hd
        rw [this, sg_sign] at hs
        rw [← hs] at hb; cases hb
      · rfl
    obtain ⟨g1, g2⟩ := enc_cut _ hd hg
    have ht : l.take (n + cutN (l.drop n)) = l.take n ++ enc (cutS (l.drop n)).1 := by rw [g2, ← List.take_add]
    obtain ⟨a1, a2⟩ := dec_app (enc (cutS (l.drop n)).1) _ k2
    have e1 := dec_enc [(cutS (l.drop n)).1]
    rw [encAll_one] at e1
    have hf : fixR (cutS (l.drop n)).1 = (cutS (l.drop n)).1 := by unfold fixR; rw [g1]; rfl
    rw [ht, a1, a2, k1, e1.1, e1.2]
    simp [hf]
theorem SpanAt.done {b : Bool} {l : List UInt8} {n : Nat} (h : SpanAt b l n) (he : l.drop n = [] ∨ sg (cutS (l.drop n)).1 ≠ b) : SpanOf b l n := by
  obtain ⟨ns, h1, h2, h3⟩ := h.parts
  exact ⟨h.le, ⟨ns, h1, h2, fun hb => (h3 hb).1⟩, he⟩

def SpanPost (b : Bool) (l : List UInt8) (w : World) (e : Ending) (w' : World) : Prop := ∃ n : Nat, e = .returned (.int .i64 n) ∧ SpanOf b l n ∧ Below w.heap.size w w'

set_option maxHeartbeats 400000 in
theorem span_any (b : Bool) (l : List UInt8) (w : World) (h : Tab w) (hs : l.length ≤ maxLen) :
    Calls Tryd.prog 28 #[.string ⟨l.toArray⟩, .bool b] w (SpanPost b l w) := by
  unfold maxLen at hs
  replace h := Lib.hid h
  go_enter Tryd.func28, Tryd.ntmps28
  go_wp2_with fail
  go_loopw [5, 6, 7] (fun i _ _ wr => ∃ k : Nat, i = .int .i64 k ∧ k ≤ l.length ∧ Hid (SpanAt b l k) ∧ Hid (Below w.heap.size w wr)) (fun i _ _ _ => l.length - (intOf i).toNat)
  case atStart => exact ⟨0, rfl, Nat.zero_le _, SpanAt.start b l, Below.refl _ _⟩
  case round =>
    obtain ⟨k, rfl, hk, hc, hb⟩ := hrel
    by_cases hlt : k < l.length
    · have hd : l.drop k ≠ [] := by intro e; have := congrArg List.length e; simp at this; omega
      have hcb := cutN_bd _ hd
      have hlen : (l.drop k).length = l.length - k := by simp
      have hn : k + cutN (l.drop k) ≤ l.length := by omega
      clear hlen
      replace hd := Lib.hid hd
      go_wp2_with fail
      refine (next_any (l.drop k) _ (by unfold maxLen; simp; omega)).mono ?_; rintro e w' ⟨rfl, nq, rfl⟩
      go_wp2_with fail
      refine (sign_any _ _ (h.out.below (hb.out.trans (Drawn.below ⟨nq, rfl⟩ _)))).mono ?_; rintro e w1 ⟨rfl, hb1⟩
      replace hb1 := Lib.hid (((hb.out.trans (Drawn.below ⟨nq, rfl⟩ _))).andThen hb1)
      cases hsg : sg (cutS (l.drop k)).1 <;> cases b
      all_goals replace hsg := Lib.hid hsg
      all_goals go_wp2_with fail
      · exact ⟨⟨_, by go_num, hn, Lib.hid (hc.out.step hd.out hsg.out), hb1⟩, by have := hcb.1; simp [intOf]; omega⟩
      · go_ret
        exact ⟨k, rfl, hc.out.done (Or.inr (by rw [hsg.out]; decide)), hb1.out⟩
      · go_ret
        exact ⟨k, rfl, hc.out.done (Or.inr (by rw [hsg.out]; decide)), hb1.out⟩
      · exact ⟨⟨_, by go_num, hn, Lib.hid (hc.out.step hd.out hsg.out), hb1⟩, by have := hcb.1; simp [intOf]; omega⟩
    · have hlt2 : ¬ ((k : Int) < l.length) := by omega
      go_wp2_with fail
      go_ret
      exact ⟨k, rfl, hc.out.done (Or.inl (List.drop_eq_nil_of_le (by omega))), hb.out⟩

/-- A slice of bytes that the call itself made, told by the bytes. -/
def Bts (w : World) (B : Nat) (v : Value) (l : List UInt8) : Prop := w.ownsRow B 5 1 v l.length ((nums l).map (Value.int .u8))
theorem Bts.byts {w : World} {B : Nat} {v : Value} {l : List UInt8} (h : Bts w B v l) : Byts w B v (nums l) := by unfold Byts; rw [nums_len]; exact h
/-- What the loop of small keeps. -/
structure SmallAt (l : List UInt8) (w : World) (d acc : List UInt8) (v : Value) (wr : World) : Prop where
  own : Bts wr w.heap.size v acc
  below : Below w.heap.size w wr
  eq : fitGo acc (dec d) = fit (dec l)
  len : acc.length ≤ 64
  dl : d.length ≤ l.length
theorem cells_nums (l : List UInt8) : Lib.strCells ⟨l.toArray⟩ = (nums l).map (Value.int .u8) := by
  unfold Lib.strCells nums; simp [List.map_map]

def SmallPost (l : List UInt8) (w : World) (e : Ending) (w' : World) : Prop := e = .returned (.string ⟨(fit (dec l)).toArray⟩) ∧ Below w.heap.size w w'

set_option maxHeartbeats 1000000 in
theorem small_word_any (l : List UInt8) (w : World) (h : Tab w) (hs : l.length ≤ maxLen) :
    Calls Tryd.prog 29 #[.string ⟨l.toArray⟩] w (SmallPost l w) := by
  unfold maxLen at hs
  obtain ⟨i0, hi, hz0, hz1, hz2⟩ := info_parts info_byte
  replace h := Lib.hid h
  go_enter Tryd.func29, Tryd.ntmps29
  go_wp2_with fail
  go_loopw [0, 3, 4, 5, 6] (fun s v _ _ _ wr => ∃ d acc : List UInt8, s = .string ⟨d.toArray⟩ ∧ Hid (SmallAt l w d acc v wr)) (fun s _ _ _ _ _ => strLen s)
  case atStart => exact ⟨l, [], rfl, World.ownsRow_nil _ _ _ _, Below.refl _ _, rfl, by simp, Nat.le_refl _⟩
  case round =>
    obtain ⟨d, acc, rfl, hc⟩ := hrel
    by_cases hd : d = []
    · subst hd
      have hrun := run_str (P := Tryd.prog) wr 52 9 5 Tryd.underlying52 Tryd.underlying5 Tryd.underlying9 (intSl_own hc.out.own.byts)
      go_wp2_with fail
      go_ret
      have he := hc.out.eq
      simp only [dec_nil, fitGo] at he
      exact ⟨ret_str (by rw [nums_u8]; exact he), hc.out.below⟩
    · have he : d.isEmpty = false := by cases d <;> simp_all
      have hdl := hc.out.dl
      have hal := hc.out.len
      replace hd := Lib.hid hd
      go_wp2_with fail
      refine (next_any d _ (by unfold maxLen; omega)).mono ?_; rintro e w' ⟨rfl, nq, rfl⟩
      have hcb := cutN_bd d hd.out
      go_wp2_with fail
      refine (fold_any _ _ (h.out.below (hc.out.below.trans (Drawn.below ⟨nq, rfl⟩ _)))).mono ?_; rintro e w1 ⟨rfl, hb1⟩
      have ho1 := Lib.hid (ownsRow_below (ownsRow_drawn hc.out.own ⟨nq, rfl⟩) hb1)
      replace hb1 := Lib.hid (((hc.out.below.trans (Drawn.below ⟨nq, rfl⟩ _))).andThen hb1)
      go_wp2_with fail
      refine (bytes_any _ _).mono ?_; rintro e w2 ⟨rfl, hb2⟩
      have ho2 := Lib.hid (ownsRow_below ho1.out hb2)
      replace hb2 := Lib.hid (hb1.out.andThen hb2)
      clear ho1 hb1
      have hwl : w.heap.size ≤ w2.heap.size := hb2.out.size
      obtain ⟨a0, c0, hv0⟩ := own_form ho2.out
      subst hv0
      have hfl := enc_bd (foldI (cutS d).1)
      have hdd := dec_cons d hd.out
      have heq := hc.out.eq
      rw [hdd] at heq
      replace hdd := Lib.hid hdd
      by_cases hfit : acc.length + (enc (foldI (cutS d).1)).length ≤ 64
      · have heq2 := Lib.hid (show fitGo (acc ++ enc (foldI (cutS d).1)) (dec (d.drop (cutN d))) = fit (dec l) by rw [← heq, fitGo, if_pos hfit])
        clear heq
        go_wp2_with (at_builtin; go_must (refine Lib.wpList_append_own_string _ rfl _ _ 52 9 rfl w.heap.size 5 i0 Tryd.underlying52 Tryd.underlying9 hi hz0 hz1 hz2 _ _ _ rfl ho2.out _ rfl ?c1 ?c2 hwl ?_))
        case c1 => unfold maxLen; simp [ByteArray.size]; omega
        case c2 => simp [ByteArray.size]; omega
        intro v3 w3 ho3 hg3 _
        replace ho3 := Lib.hid ho3
        replace hg3 := Lib.hid hg3
        go_wp2_with fail
        exact ⟨⟨d.drop (cutN d), acc ++ enc (foldI (cutS d).1), rfl, ⟨by unfold Bts; rw [nums_app, List.map_append, List.length_append, ← cells_nums (enc (foldI (cutS d).1))]; exact ho3.out, hb2.out.grown hg3.out hwl (fun k hk => (World.ownsRow.lt ho2.out k hk).1), heq2.out, by simp; omega, by simp; omega⟩⟩, by rw [strLen_mk, strLen_mk]; exact drop_lt d hd.out⟩
      · have heq2 := Lib.hid (show acc = fit (dec l) by rw [← heq, fitGo, if_neg hfit])
        clear heq
        have hrun := run_str (P := Tryd.prog) w2 52 9 5 Tryd.underlying52 Tryd.underlying5 Tryd.underlying9 (intSl_own (Bts.byts (l := acc) ho2.out))
        go_wp2_with fail
        go_ret
        exact ⟨ret_str (by rw [nums_u8]; exact heq2.out), hb2.out⟩

/-- What the loop of Words keeps. -/
structure WordsAt (l : List UInt8) (w : World) (d : List UInt8) (acc : List (List UInt8)) (v : Value) (wr : World) : Prop where
  own : Strs wr w.heap.size v acc
  below : Below w.heap.size w wr
  eq : acc ++ ((runs (dec d)).map fit).take (4096 - acc.length) = wordsB l
  len : acc.length ≤ 4096
  dl : d.length ≤ l.length
theorem dec_ne {d : List UInt8} (h : d ≠ []) : ∃ t, dec d = (cutS d).1 :: t := ⟨_, dec_cons d h⟩
theorem span_skip {d : List UInt8} {n : Nat} (h : SpanOf false d n) : runs (dec d) = runs (dec (d.drop n)) := by
  obtain ⟨ns, h1, h2, _⟩ := h.parts
  rw [h2, runs_skips ns h1]
theorem span_noSg {d : List UInt8} {n : Nat} (h : SpanOf true d n) : noSg (dec (d.drop n)) = true := by
  rcases h.ends with he | he
  · rw [he, dec_nil]; rfl
  · by_cases hd : d.drop n = []
    · rw [hd, dec_nil]; rfl
    · rw [dec_cons _ hd]; simp [noSg]; simpa using he
theorem span_word {d0 d : List UInt8} {n0 n : Nat} (h0 : SpanOf false d0 n0) (hd : d0.drop n0 = d) (hne : d ≠ []) (h : SpanOf true d n) : 1 ≤ n ∧ runs (dec d) = dec (d.take n) :: runs (dec (d.drop n)) := by
  obtain ⟨ns, h1, h2, h3⟩ := h.parts
  have hf : sg (cutS d).1 = true := by
    rcases h0.ends with he | he
    · rw [hd] at he; exact absurd he hne
    · rw [hd] at he; simpa using he
  have hns : ns ≠ [] := by
    intro e
    subst e
    have := span_noSg h
    rw [List.nil_append] at h2
    rw [← h2, dec_cons d hne] at this
    simp [noSg, hf] at this
  refine ⟨?_, ?_⟩
  · rcases Nat.eq_zero_or_pos n with e | e
    · subst e
      rw [List.drop_zero] at h2
      have := congrArg List.length h2
      simp at this
      exact absurd this hns
    · exact e
  · rw [h3 rfl]
    conv => lhs; rw [h2]
    exact runs_signs ns h1 hns _ (span_noSg h)

def WordsPost (l : List UInt8) (w : World) (e : Ending) (w' : World) : Prop := ∃ v, e = .returned v ∧ Strs w' w.heap.size v (wordsB l) ∧ Below w.heap.size w w'
theorem str_empty (l : List UInt8) (h : l.isEmpty = false) : l ≠ [] := by intro e; subst e; simp at h

set_option maxRecDepth 100000 in
set_option maxHeartbeats 1000000 in
theorem words_any (l : List UInt8) (w : World) (h : Tab w) (hs : l.length ≤ maxLen) :
    Calls Tryd.prog 19 #[.string ⟨l.toArray⟩] w (WordsPost l w) := by
  unfold maxLen at hs
  replace h := Lib.hid h
  go_enter Tryd.func19, Tryd.ntmps19
  go_wp2_with fail
  go_loopw [0, 3, 4] (fun s v _ wr => ∃ (d : List UInt8) (acc : List (List UInt8)) (a : Option Addr) (c : Nat), s = .string ⟨d.toArray⟩ ∧ v = .slice a acc.length c ∧ Hid (WordsAt l w d acc v wr)) (fun _ v _ _ => 4096 - slLen v)
  case atStart => exact ⟨l, [], none, 0, rfl, rfl, World.ownsRow_nil _ _ _ _, Below.refl _ _, by simp; rfl, by simp, Nat.le_refl _⟩
  case round =>
    obtain ⟨d, acc, a, c, rfl, rfl, hc⟩ := hrel
    have hal := hc.out.len
    have hdl := hc.out.dl
    by_cases hlt : acc.length < 4096
    · go_wp2_with fail
      refine (span_any false d _ (h.out.below hc.out.below) (by unfold maxLen; omega)).mono ?_; rintro e w1 ⟨n1, rfl, hs1, hb1⟩
      have ho1 := Lib.hid (show Strs w1 w.heap.size _ acc from ownsRow_below hc.out.own hb1)
      replace hb1 := Lib.hid (hc.out.below.andThen hb1)
      have hn1 := hs1.le
      replace hs1 := Lib.hid hs1
      have heq1 := Lib.hid (show acc ++ ((runs (dec (d.drop n1))).map fit).take (4096 - acc.length) = wordsB l by rw [← span_skip hs1.out]; exact hc.out.eq)
      clear hc
      have hdl1 : (d.drop n1).length ≤ l.length := by simp; omega
      generalize hd1 : d.drop n1 = d1 at heq1 hdl1
      replace hd1 := Lib.hid hd1
      by_cases he : d1 = []
      · have he2 := Lib.hid (show acc = wordsB l by rw [← heq1.out, he, dec_nil]; simp [runs_nil])
        have hx := hd1.out
        rw [he] at hx
        clear heq1 hd1
        subst he
        go_wp2_with fail
        go_ret
        exact ⟨_, rfl, by rw [← he2.out]; exact ho1.out, hb1.out⟩
      · have he1 : d1.isEmpty = false := by cases d1 <;> simp_all
        have hx := hd1.out
        replace he := Lib.hid he
        go_wp2_with fail
        refine (span_any true d1 _ (h.out.below hb1.out) (by unfold maxLen; omega)).mono ?_; rintro e w2 ⟨n2, rfl, hs2, hb2⟩
        have ho2 := Lib.hid (show Strs w2 w.heap.size _ acc from ownsRow_below ho1.out hb2)
        replace hb2 := Lib.hid (hb1.out.andThen hb2)
        have hn2 := hs2.le
        obtain ⟨hn3, hrun⟩ := span_word hs1.out hd1.out he.out hs2
        rw [hrun] at heq1
        clear hs2 hrun
        go_wp2_with fail
        refine (small_word_any (d1.take n2) _ (h.out.below hb2.out) (by unfold maxLen; simp; omega)).mono ?_; rintro e w3 ⟨rfl, hb3⟩
        have ho3 := Lib.hid (show Strs w3 w.heap.size _ acc from ownsRow_below ho2.out hb3)
        replace hb3 := Lib.hid (hb2.out.andThen hb3)
        have hsz := hb3.out.size
        clear ho1 ho2 hb1 hb2
        go_wp2_with (at_builtin; go_must (refine wpList_append1 rfl _ _ 31 9 rfl Tryd.underlying31 (.string ⟨#[]⟩) 16 info_str rfl (by decide) w.heap.size _ _ _ _ ho3.out rfl rfl rfl (by omega) (by omega) ?_))
        intro v4 w4 ho4 hb4 _
        replace ho4 := Lib.hid (strs_mk ho4)
        replace hb4 := Lib.hid (hb3.out.trans hb4)
        obtain ⟨a4, c4, hv4⟩ := own_form ho4.out
        rw [List.length_append, List.length_singleton] at hv4
        subst hv4
        go_wp2_with fail
        refine ⟨⟨d1.drop n2, acc ++ [fit (dec (d1.take n2))], a4, c4, rfl, by simp, ⟨ho4.out, hb4.out, ?_, by simp; omega, by simp; omega⟩⟩, by simp [slLen]; omega⟩
        rw [← heq1.out, List.map_cons, show 4096 - acc.length = (4096 - (acc ++ [fit (dec (d1.take n2))]).length) + 1 from by simp; omega, List.take_succ_cons]
        simp
    · have hk : acc.length = 4096 := by omega
      have he2 := Lib.hid (show acc = wordsB l by rw [← hc.out.eq, hk]; simp)
      replace hk := Lib.hid hk
      go_wp2_with fail
      go_ret
      exact ⟨_, rfl, by rw [← he2.out]; exact hc.out.own, hc.out.below⟩
end Go.Proofs.YtonbgdcgfoipjaaDoor
