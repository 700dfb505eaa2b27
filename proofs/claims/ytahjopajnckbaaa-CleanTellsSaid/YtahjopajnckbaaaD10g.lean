/- Layer 10: Space, the program's and the reference's. -/
import Derived.Test.YtahjopajnckbaaaD10f
namespace Go.Proofs.Ytahjopajnckbaaa
open Go.RowKit

theorem spT_first : ∀ (n : Nat) (l : List UInt8), l.length ≤ n → ∀ g, spT false g 0 l = spT false true 0 l
  | _, [], _, _ => rfl
  | 0, c :: t, h, _ => by simp at h
  | _ + 1, c :: t, _, g => by rw [spT, spT]; simp

/-- What the program's loop keeps: acc is made, d is to come, gf: a blank is due. -/
structure SpAt (l : List UInt8) (w : World) (d acc : List UInt8) (gf : Bool) (wr : World) (v : Value) : Prop where
  own : Txt wr w.heap.size v acc
  below : Below w.heap.size w wr
  eq : acc ++ spT (decide (acc ≠ [])) gf 0 d = spB l
  gap : gf = true → acc ≠ []
  len : acc.length + 2 * d.length ≤ 2 * l.length
theorem SpAt.blank {l : List UInt8} {w : World} {d acc : List UInt8} {gf : Bool} {wr : World} {v : Value} (h : SpAt l w d acc gf wr v) (hd : d ≠ []) (hb : blankN d ≠ 0) {gf' : Bool} (hg : gf' = decide (acc ≠ [])) :
    SpAt l w (d.drop (blankN d)) acc gf' wr v := by
  refine ⟨h.own, h.below, ?_, fun e => by rw [hg] at e; simpa using e, by have := h.len; rw [List.length_drop]; omega⟩
  rw [← h.eq, spT_blank _ _ d hd hb, hg]
  cases ha : decide (acc ≠ [])
  · rw [spT_first _ _ (Nat.le_refl _) false]
  · rfl
theorem SpAt.sign {l : List UInt8} {w : World} {d acc : List UInt8} {wr wr' : World} {v v' : Value} (h : SpAt l w d acc false wr v) (hd : d ≠ []) (hb : blankN d = 0)
    (ho : wr'.ownsRow w.heap.size 5 1 v' (acc.length + 1) ((nums acc).map (Value.int .u8) ++ [.int .u8 (bt d 0)])) (hbl : Below w.heap.size w wr') : SpAt l w (d.drop 1) (acc ++ d.take 1) false wr' v' := by
  have hl := len_pos hd
  have h1 : (d.take 1).length = 1 := by rw [List.length_take]; omega
  refine ⟨txt_one (nums_take1 d hd) ho, hbl, ?_, (fun e => by cases e), by have := h.len; rw [List.length_append, List.length_drop, h1]; omega⟩
  have hne : decide (acc ++ d.take 1 ≠ []) = true := by
    rw [decide_eq_true_eq]; intro e; have := congrArg List.length e; rw [List.length_append, h1] at this; simp at this
  rw [hne, ← h.eq, spT_step _ _ d hd hb]
  simp
theorem SpAt.space {l : List UInt8} {w : World} {d acc : List UInt8} {wr wr' : World} {v v' : Value} (h : SpAt l w d acc true wr v) (hd : d ≠ []) (hb : blankN d = 0)
    (ho : wr'.ownsRow w.heap.size 5 1 v' ((acc ++ [32]).length + 1) ((nums (acc ++ [32])).map (Value.int .u8) ++ [.int .u8 (bt d 0)])) (hbl : Below w.heap.size w wr') : SpAt l w (d.drop 1) (acc ++ [32] ++ d.take 1) false wr' v' := by
  have hl := len_pos hd
  have h1 : (d.take 1).length = 1 := by rw [List.length_take]; omega
  refine ⟨txt_one (nums_take1 d hd) ho, hbl, ?_, (fun e => by cases e), by have := h.len; rw [List.length_append, List.length_append, List.length_drop, h1]; simp; omega⟩
  have hne : decide (acc ++ [32] ++ d.take 1 ≠ []) = true := by
    rw [decide_eq_true_eq]; intro e; have := congrArg List.length e; rw [List.length_append, h1] at this; simp at this
  have hne2 : decide (acc ≠ []) = true := by rw [decide_eq_true_eq]; exact h.gap rfl
  rw [hne, ← h.eq, spT_step _ _ d hd hb, hne2]
  simp

/-- What a text is made into, in a world in which nothing old has turned. -/
def TextPost (w : World) (l : List UInt8) (e : Ending) (w' : World) : Prop := e = .returned (.string ⟨l.toArray⟩) ∧ Below w.heap.size w w'

set_option maxHeartbeats 1000000 in
theorem space_any (l : List UInt8) (w : World) (hl : l.length ≤ 100000) :
    Calls Try.prog 14 #[.string ⟨l.toArray⟩] w (TextPost w (spB l)) := by
  go_enter Try.func14, Try.ntmps14
  go_wp2_with fail
  go_loopw [0, 3, 4] (fun s v g wr => ∃ d acc gf, s = .string ⟨d.toArray⟩ ∧ g = .bool gf ∧ SpAt l w d acc gf wr v) (fun s _ _ _ => strLen s)
  case atStart => exact ⟨l, [], false, rfl, rfl, txt_nil _ _, Below.refl _ _, rfl, (fun e => by cases e), by simp⟩
  case round =>
    obtain ⟨d, acc, gf, rfl, rfl, hc⟩ := hrel
    have hlen := hc.len
    have hsz := hc.below.size
    by_cases hd : d = []
    · subst hd
      have hcv := txt_str hc.own
      have hq := hc.eq
      simp only [spT, List.append_nil] at hq
      replace hq := Lib.hid hq
      replace hc := Lib.hid hc
      go_wp2_with fail
      go_ret
      exact ⟨ret_str hq.out, hc.out.below⟩
    have he : d.isEmpty = false := by cases d <;> simp_all
    have hdl := len_pos hd
    obtain ⟨a, c, hv⟩ := txt_len hc.own
    by_cases hb : blankN d = 0
    · replace hd := Lib.hid hd
      cases gf
      · replace hc := Lib.hid hc
        clear hv
        go_wp2_with fail
        refine (blank_any d _ hd.out).mono ?_; rintro e w' ⟨rfl, rfl⟩; rw [hb]
        replace hb := Lib.hid hb
        go_wp2_with (at_builtin; go_must (refine wpList_append1 rfl _ _ 29 5 rfl Try.underlying29 (.int .u8 0) 1 info_byte rfl (by decide) w.heap.size _ _ _ _ hc.out.own rfl rfl rfl (by omega) hsz ?_))
        intro v1 w1 hown1 hb1 _
        replace hown1 := Lib.hid hown1
        replace hb1 := Lib.hid hb1
        go_wp2_with fail
        exact ⟨⟨d.drop 1, acc ++ d.take 1, false, by simp, rfl, hc.out.sign hd.out hb.out hown1.out (hc.out.below.trans hb1.out)⟩, by simp [strLen_mk]; omega⟩
      · replace hc := Lib.hid hc
        clear hv
        go_wp2_with fail
        refine (blank_any d _ hd.out).mono ?_; rintro e w' ⟨rfl, rfl⟩; rw [hb]
        replace hb := Lib.hid hb
        go_wp2_with (at_builtin; go_must (refine wpList_append1 rfl _ _ 29 5 rfl Try.underlying29 (.int .u8 0) 1 info_byte rfl (by decide) w.heap.size _ _ _ _ hc.out.own rfl rfl rfl (by omega) hsz ?_))
        intro v1 w1 hown1 hb1 _
        have hown2 := Lib.hid (txt_one (m := [32]) rfl hown1)
        have hs1 := hb1.size
        have hal : (acc ++ [32]).length = acc.length + 1 := by simp
        clear hown1
        replace hb1 := Lib.hid hb1
        generalize hacc : acc ++ [32] = acc2 at hown2 hal
        replace hacc := Lib.hid hacc
        go_wp2_with (at_builtin; go_must (refine wpList_append1 rfl _ _ 29 5 rfl Try.underlying29 (.int .u8 0) 1 info_byte rfl (by decide) w.heap.size _ _ _ _ hown2.out rfl rfl rfl (by omega) (by omega) ?_))
        intro v2 w2 hown3 hb2 _
        replace hown3 := Lib.hid hown3
        replace hb2 := Lib.hid hb2
        go_wp2_with fail
        refine ⟨⟨d.drop 1, acc2 ++ d.take 1, false, by simp, rfl, ?_⟩, by simp [strLen_mk]; omega⟩
        have := hacc.out
        subst this
        exact hc.out.space hd.out hb.out (by rw [hal]; exact hown3.out) ((hc.out.below.trans hb1.out).trans hb2.out)
    · have hb12 : 1 ≤ blankN d ∧ blankN d ≤ d.length := ⟨by omega, blankN_le d⟩
      obtain ⟨n, hn⟩ : ∃ n, blankN d = n := ⟨_, rfl⟩
      have hstep := fun gf' hg => hc.blank (gf' := gf') hd hb hg
      rw [hn] at hb12 hstep
      replace hstep := Lib.hid hstep
      replace hn := Lib.hid hn
      replace hd := Lib.hid hd
      clear hb
      replace hc := Lib.hid hc
      subst hv
      go_wp2_with fail
      refine (blank_any d _ hd.out).mono ?_; rintro e w' ⟨rfl, rfl⟩; rw [hn.out]
      go_wp2_with fail
      refine ⟨⟨d.drop n, acc, decide (0 < acc.length), by simp, rfl, hstep.out _ ?_⟩, by simp [strLen_mk]; omega⟩
      cases acc <;> simp

/-- What the reference's loop keeps. -/
structure SrAt (l : List UInt8) (k : Nat) (out : List UInt8) (wt : Bool) : Prop where
  le : k ≤ l.length
  eq : out ++ spT (decide (out ≠ [])) wt 0 (l.drop k) = spB l
  len : out.length ≤ 2 * k
theorem drop_ne {l : List UInt8} {k : Nat} (h : k < l.length) : l.drop k ≠ [] := by
  intro e; have := congrArg List.length e; rw [List.length_drop] at this; simp at this; omega
theorem SrAt.blank {l : List UInt8} {k : Nat} {out : List UInt8} {wt : Bool} (h : SrAt l k out wt) (hk : k < l.length) (hb : blankN (l.drop k) ≠ 0) : SrAt l (k + blankN (l.drop k)) out true := by
  have := blankN_le (l.drop k)
  rw [List.length_drop] at this
  refine ⟨by omega, ?_, by have := h.len; omega⟩
  rw [← h.eq, spT_blank _ wt _ (drop_ne hk) hb, List.drop_drop]
theorem SrAt.sign {l : List UInt8} {k : Nat} {out : List UInt8} {wt : Bool} (h : SrAt l k out wt) (hk : k < l.length) (hb : blankN (l.drop k) = 0) :
    SrAt l (k + 1) (out ++ (if (decide (out ≠ []) && wt) = true then [32] else []) ++ (l.drop k).take 1) false := by
  have h1 : ((l.drop k).take 1).length = 1 := by rw [List.length_take, List.length_drop]; omega
  refine ⟨by omega, ?_, ?_⟩
  · have hne : decide (out ++ (if (decide (out ≠ []) && wt) = true then [32] else []) ++ (l.drop k).take 1 ≠ []) = true := by
      rw [decide_eq_true_eq]; intro e; have := congrArg List.length e; rw [List.length_append, h1] at this; simp at this
    rw [hne, ← h.eq, spT_step _ wt _ (drop_ne hk) hb, List.drop_drop]
    simp
  · have := h.len
    rw [List.length_append, List.length_append, h1]
    split <;> simp <;> omega
theorem take_drop1 (l : List UInt8) (k : Nat) (_h : k < l.length) : (l.take (k + 1)).drop k = (l.drop k).take 1 := by
  rw [List.drop_take]; simp

set_option maxHeartbeats 1000000 in
theorem refspace_any (l : List UInt8) (w : World) (hl : l.length ≤ 100000) :
    Calls Try.prog 15 #[.string ⟨l.toArray⟩] w fun e w' => e = .returned (.string ⟨(spB l).toArray⟩) ∧ w = w' := by
  go_enter Try.func15, Try.ntmps15
  go_wp2_with fail
  go_loop [3, 4, 5] (fun s g i => ∃ k out wt, i = .int .i64 (k : Nat) ∧ s = .string ⟨out.toArray⟩ ∧ g = .bool wt ∧ SrAt l k out wt) (fun _ _ i => l.length - (intOf i).toNat)
  case atStart => exact ⟨0, [], false, rfl, rfl, rfl, Nat.zero_le _, rfl, Nat.zero_le _⟩
  case round =>
    obtain ⟨k, out, wt, rfl, rfl, rfl, hc⟩ := hrel
    have hk := hc.le
    have hlen := hc.len
    by_cases hlt : k < l.length
    · by_cases hb : blankN (l.drop k) = 0
      · have hst := hc.sign hlt hb
        have htd := take_drop1 l k hlt
        have h1 : ((l.drop k).take 1).length = 1 := by rw [List.length_take, List.length_drop]; omega
        generalize (l.drop k).take 1 = x at hst htd h1
        clear hc
        cases wt
        · rw [Bool.and_false, if_neg (by decide), List.append_nil] at hst
          replace hst := Lib.hid hst
          go_wp2_with fail
          refine (refblank_any l k _ hlt hl).mono ?_; rintro e w' ⟨rfl, rfl⟩; rw [hb]
          replace hb := Lib.hid hb
          go_wp2_with fail
          exact ⟨⟨k + 1, out ++ x, false, by go_num, by first | rfl | (rw [htd]), rfl, hst.out⟩, by simp [intOf]; omega⟩
        · by_cases ho : out = []
          · subst ho
            simp only [ne_eq, not_true_eq_false, decide_false, Bool.false_and, Bool.false_eq_true, if_false, List.append_nil, List.nil_append] at hst
            replace hst := Lib.hid hst
            go_wp2_with fail
            refine (refblank_any l k _ hlt hl).mono ?_; rintro e w' ⟨rfl, rfl⟩; rw [hb]
            replace hb := Lib.hid hb
            go_wp2_with fail
            exact ⟨⟨k + 1, x, false, by go_num, by first | rfl | (rw [htd]) | simp [htd], rfl, hst.out⟩, by simp [intOf]; omega⟩
          · have he : out.isEmpty = false := by cases out <;> simp_all
            rw [decide_eq_true ho, Bool.true_and, if_pos rfl] at hst
            replace hst := Lib.hid hst
            replace ho := Lib.hid ho
            go_wp2_with fail
            refine (refblank_any l k _ hlt hl).mono ?_; rintro e w' ⟨rfl, rfl⟩; rw [hb]
            replace hb := Lib.hid hb
            go_wp2_with fail
            exact ⟨⟨k + 1, out ++ [32] ++ x, false, by go_num, by simp, rfl, hst.out⟩, by simp [intOf]; omega⟩
      · have hst := hc.blank hlt hb
        have hbl := blankN_le (l.drop k)
        rw [List.length_drop] at hbl
        obtain ⟨n, hn⟩ : ∃ n, blankN (l.drop k) = n := ⟨_, rfl⟩
        rw [hn] at hb hst hbl
        have hb1 : 1 ≤ n := by omega
        clear hb hc
        replace hst := Lib.hid hst
        replace hn := Lib.hid hn
        go_wp2_with fail
        refine (refblank_any l k _ hlt hl).mono ?_; rintro e w' ⟨rfl, rfl⟩; rw [hn.out]
        go_wp2_with fail
        exact ⟨⟨k + n, out, true, by go_num, rfl, rfl, hst.out⟩, by simp [intOf]; omega⟩
    · have hke : ¬ ((k : Int) < l.length) := by omega
      have hq : out = spB l := by
        have := hc.eq
        rw [List.drop_eq_nil_of_le (by omega), spT_nil, List.append_nil] at this
        exact this
      replace hq := Lib.hid hq
      clear hc
      go_wp2_with fail
      go_ret
      exact ⟨ret_str hq.out, rfl⟩
end Go.Proofs.Ytahjopajnckbaaa
