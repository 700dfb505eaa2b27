/- Layer 12: the text of a node. -/
import Derived.Test.YtkgjbamkinfmeaaGreatDoorBR17
import Derived.Test.YtkgjbamkinfmeaaGreatDoorBR09
import Derived.Test.YtkgjbamkinfmeaaGreatDoorBR10
namespace Go.Proofs.YtkgjbamkinfmeaaGreatDoor
open Go.RowKit

/-- What the loop of Text keeps. -/
structure TxtAt (P : List (Nd × Value)) (i : Int) (w1 : World) (k : Nat) (T : List UInt8) (u : Value) (wr : World) : Prop where
  own : Txt wr w1.heap.size u T
  text : T = textTo (nodes P) i k
  below : Below w1.heap.size w1 wr

set_option maxRecDepth 100000 in
set_option maxHeartbeats 2000000 in
theorem text12_any (P : List (Nd × Value)) (v : Value) (i : Int) (w : World) (h : NdSl w v P) (hn : P.length ≤ 1000000) (hT : sumT (nodes P) ≤ 1000000000) :
    Calls Tryz.prog 138 #[v, .int .i64 i] w (StrPost (textB (nodes P) i) w) := by
  have hplb := place_nodes (P := P) (i := i)
  cases hpl : placeB (nodes P) i
  · have hk : textB (nodes P) i = [] := by unfold textB; rw [if_neg (by rw [hpl]; decide)]
    obtain ⟨a, c, rfl⟩ := h.form
    have hp := fun W : World => place12_any a P.length c i W
    rw [← hplb, hpl] at hp
    clear h hplb hpl hT
    replace hp := Lib.hid hp
    go_enter Tryz.func138, Tryz.ntmps138
    go_wp2_with fail
    refine (hp.out _).mono ?_; rintro e w1 ⟨rfl, rfl⟩
    go_wp2_with fail
    go_ret
    exact StrPost.mk (t := []) hk (Below.refl _ _)
  have hk : textB (nodes P) i = textTo (nodes P) i P.length := by unfold textB; rw [if_pos hpl, nodes_len]
  have hwi := within12_any P v i w h hn hpl
  have hpos : 0 < P.length := by have := place_iff.1 hpl; rw [nodes_len] at this; omega
  obtain ⟨b, off, cap, hcap, hbl, rfl, hcl⟩ := h.some hpos
  have hp := fun W : World => place12_any (some ⟨b, off, none⟩) P.length cap i W
  rw [← hplb, hpl] at hp
  have htl := fun k => textTo_len (nodes P) i k
  rw [nodes_len] at htl
  generalize sumT (nodes P) = S at hT htl
  clear h hplb hpl
  replace hp := Lib.hid hp
  replace hk := Lib.hid hk
  replace hwi := Lib.hid hwi
  replace htl := Lib.hid htl
  replace hcl := Lib.hid hcl
  replace hpos := Lib.hid hpos
  go_enter Tryz.func138, Tryz.ntmps138
  go_wp2_with fail
  refine (hp.out _).mono ?_; rintro e w0 ⟨rfl, rfl⟩
  go_wp2_with fail
  refine hwi.out.mono ?_; rintro e w1 ⟨rfl, hin, hb1⟩
  have hgl := hin.lt
  have hs1 := hb1.size
  clear hwi
  replace hin := Lib.hid hin
  replace hb1 := Lib.hid hb1
  go_wp2_with fail
  go_loopw [5, 16] (fun u ii wr => ∃ (k m : Nat) (T : List UInt8) (a' : Option Addr) (c' : Nat), ii = .int .i64 k ∧ u = .slice a' m c' ∧ k ≤ P.length ∧ m ≤ S ∧ Hid (m = T.length) ∧ Hid (TxtAt P i w1 k T u wr)) (fun _ ii _ => P.length - (intOf ii).toNat)
  case atStart => exact ⟨0, 0, [], none, 0, rfl, rfl, Nat.zero_le _, Nat.zero_le _, rfl, ⟨txt_nil _ _, rfl, Below.refl _ _⟩⟩
  case round =>
    obtain ⟨k, m, T, a', c', rfl, rfl, hkl, hmS, hm, hc⟩ := hrel
    by_cases hlt : k < P.length
    · have hsz := hc.out.below.size
      obtain ⟨d0, d1, d2, d3⟩ := ((hcl.out k hlt).next hb1.out).next hc.out.below
      rw [nodes_at hlt] at d0 d2
      clear d1 d3
      have hi0 : wr.cell? ⟨w.heap.size, k, none⟩ = some (.bool (winB (nodes P) i (k : Int))) := by
        rw [(hin.out.next hc.out.below).cell]
        simp [hlt]
      have hnx := textTo_next (nodes P) i k
      rw [← hc.out.text] at hnx
      have hlt1 : (k : Int) < P.length := by omega
      have hno := bitB_no (l := nodes P) (i := i) (j := k)
      have hyes := bitB_yes (l := nodes P) (i := i) (j := k)
      have htl2 := htl.out (k + 1) (by omega)
      have hbw : b < wr.heap.size := by omega
      have hgw : w.heap.size < wr.heap.size := by omega
      generalize atN (nodes P) (k : Int) = x at d0 d2 hno hyes
      obtain ⟨xn, xa, xt, xu⟩ := x
      unfold strV at d0 d2
      simp only at d0 d2 hno hyes
      cases hwk : winB (nodes P) i (k : Int)
      · rw [hwk] at hi0
        rw [hno (fun e => by rw [hwk] at e; cases e.2), List.append_nil] at hnx
        clear hno hyes
        replace hnx := Lib.hid hnx
        replace hwk := Lib.hid hwk
        go_wp2_with fail
        exact ⟨⟨k + 1, m, T, a', c', by go_num, rfl, by omega, hmS, hm, ⟨hc.out.own, hnx.out.symm, hc.out.below⟩⟩, by simp [intOf]; omega⟩
      · rw [hwk] at hi0
        cases hem : xn.isEmpty
        · have hne : ¬ xn = [] := by simpa using hem
          rw [hno (fun e => hne e.1), List.append_nil] at hnx
          clear hno hyes
          replace hne := Lib.hid hne
          replace hnx := Lib.hid hnx
          replace hwk := Lib.hid hwk
          go_wp2_with fail
          exact ⟨⟨k + 1, m, T, a', c', by go_num, rfl, by omega, hmS, hm, ⟨hc.out.own, hnx.out.symm, hc.out.below⟩⟩, by simp [intOf]; omega⟩
        · have hne : xn = [] := by simpa using hem
          rw [hyes hne hwk] at hnx
          rw [hnx, List.length_append] at htl2
          clear hno hyes
          replace hne := Lib.hid hne
          replace hnx := Lib.hid hnx
          replace hwk := Lib.hid hwk
          go_wp2_with (at_builtin; go_must (refine wpList_append1s rfl _ _ 117 9 5 rfl Tryz.underlying117 Tryz.underlying9 info_u8 w1.heap.size _ T xt hc.out.own rfl rfl (by omega) (by omega) ?_))
          intro v2 w2 ho2 hb2
          replace ho2 : Txt w2 w1.heap.size v2 (T ++ xt) := by unfold Txt; rw [List.length_append]; exact ho2
          obtain ⟨T2, hT2⟩ : ∃ T2, T ++ xt = T2 := ⟨_, rfl⟩
          rw [hT2] at ho2 hnx
          have hl2 : T2.length ≤ S := by rw [← hT2, List.length_append]; exact htl2
          obtain ⟨a2, c2, rfl⟩ := own_form ho2
          replace ho2 := Lib.hid ho2
          have hb12 := Lib.hid (hc.out.below.trans hb2)
          clear hb2 htl2
          replace hT2 := Lib.hid hT2
          go_wp2_with fail
          exact ⟨⟨k + 1, T2.length, T2, a2, c2, by go_num, rfl, by omega, hl2, rfl, ⟨ho2.out, hnx.out.symm, hb12.out⟩⟩, by simp [intOf]; omega⟩
    · have hke : ¬ ((k : Int) < P.length) := by omega
      have hkk := Lib.hid (show k = P.length by omega)
      have hcv := txt_str hc.out.own
      go_wp2_with fail
      go_ret
      exact StrPost.mk (hk.out.trans (by rw [hc.out.text, hkk.out])) (hb1.out.andThen hc.out.below)
end Go.Proofs.YtkgjbamkinfmeaaGreatDoor

/- Layer 10: Space, the program's and the reference's. -/
namespace Go.Proofs.YtkgjbamkinfmeaaGreatDoor
open Go.RowKit

theorem spT_first : ∀ (n : Nat) (l : List UInt8), l.length ≤ n → ∀ g, spT false g 0 l = spT false true 0 l
  | _, [], _, _ => rfl
  | 0, c :: t, h, _ => by simp at h
  | _ + 1, c :: t, _, g => by rw [spT, spT]; simp

/-- What the program's loop keeps: acc is made, d is to come, gf: a blank is due. -/
structure SpAt (l : List UInt8) (w : World) (d acc : List UInt8) (gf : Bool) (wr : World) (v : Value) : Prop where
  own : Txt wr w.heap.size v acc
  below : Below w.heap.size w wr
  eq : acc ++ spT (decide (acc ≠ [])) gf 0 d = spB l
  gap : gf = true → acc ≠ []
  len : acc.length + 2 * d.length ≤ 2 * l.length
theorem SpAt.blank {l : List UInt8} {w : World} {d acc : List UInt8} {gf : Bool} {wr : World} {v : Value} (h : SpAt l w d acc gf wr v) (hd : d ≠ []) (hb : blankN d ≠ 0) {gf' : Bool} (hg : gf' = decide (acc ≠ [])) :
    SpAt l w (d.drop (blankN d)) acc gf' wr v := by
  refine ⟨h.own, h.below, ?_, fun e => by rw [hg] at e; simpa using e, by have := h.len; rw [List.length_drop]; omega⟩
  rw [← h.eq, spT_blank _ _ d hd hb, hg]
  cases ha : decide (acc ≠ [])
  · rw [spT_first _ _ (Nat.le_refl _) false]
  · rfl
theorem SpAt.sign {l : List UInt8} {w : World} {d acc : List UInt8} {wr wr' : World} {v v' : Value} (h : SpAt l w d acc false wr v) (hd : d ≠ []) (hb : blankN d = 0)
    (ho : wr'.ownsRow w.heap.size 5 1 v' (acc.length + 1) ((nums acc).map (Value.int .u8) ++ [.int .u8 (bt d 0)])) (hbl : Below w.heap.size w wr') : SpAt l w (d.drop 1) (acc ++ d.take 1) false wr' v' := by
  have hl := len_pos hd
  have h1 : (d.take 1).length = 1 := by rw [List.length_take]; omega
  refine ⟨txt_one (nums_take1 d hd) ho, hbl, ?_, (fun e => by cases e), by have := h.len; rw [List.length_append, List.length_drop, h1]; omega⟩
  have hne : decide (acc ++ d.take 1 ≠ []) = true := by
    rw [decide_eq_true_eq]; intro e; have := congrArg List.length e; rw [List.length_append, h1] at this; simp at this
  rw [hne, ← h.eq, spT_step _ _ d hd hb]
  simp
theorem SpAt.space {l : List UInt8} {w : World} {d acc : List UInt8} {wr wr' : World} {v v' : Value} (h : SpAt l w d acc true wr v) (hd : d ≠ []) (hb : blankN d = 0)
    (ho : wr'.ownsRow w.heap.size 5 1 v' ((acc ++ [32]).length + 1) ((nums (acc ++ [32])).map (Value.int .u8) ++ [.int .u8 (bt d 0)])) (hbl : Below w.heap.size w wr') : SpAt l w (d.drop 1) (acc ++ [32] ++ d.take 1) false wr' v' := by
  have hl := len_pos hd
  have h1 : (d.take 1).length = 1 := by rw [List.length_take]; omega
  refine ⟨txt_one (nums_take1 d hd) ho, hbl, ?_, (fun e => by cases e), by have := h.len; rw [List.length_append, List.length_append, List.length_drop, h1]; simp; omega⟩
  have hne : decide (acc ++ [32] ++ d.take 1 ≠ []) = true := by
    rw [decide_eq_true_eq]; intro e; have := congrArg List.length e; rw [List.length_append, h1] at this; simp at this
  have hne2 : decide (acc ≠ []) = true := by rw [decide_eq_true_eq]; exact h.gap rfl
  rw [hne, ← h.eq, spT_step _ _ d hd hb, hne2]
  simp

/-- What a text is made into, in a world in which nothing old has turned. -/
def TextPost (w : World) (l : List UInt8) (e : Ending) (w' : World) : Prop := e = .returned (.string ⟨l.toArray⟩) ∧ Below w.heap.size w w'

set_option maxHeartbeats 1000000 in
theorem space_any (l : List UInt8) (w : World) (hl : l.length ≤ 10000000) :
    Calls Tryz.prog 165 #[.string ⟨l.toArray⟩] w (TextPost w (spB l)) := by
  go_enter Tryz.func165, Tryz.ntmps165
  go_wp2_with fail
  go_loopw [0, 3, 4] (fun s v g wr => ∃ d acc gf, s = .string ⟨d.toArray⟩ ∧ g = .bool gf ∧ SpAt l w d acc gf wr v) (fun s _ _ _ => strLen s)
  case atStart => exact ⟨l, [], false, rfl, rfl, txt_nil _ _, Below.refl _ _, rfl, (fun e => by cases e), by simp⟩
  case round =>
    obtain ⟨d, acc, gf, rfl, rfl, hc⟩ := hrel
    have hlen := hc.len
    have hsz := hc.below.size
    by_cases hd : d = []
    · subst hd
      have hcv := txt_str hc.own
      have hq := hc.eq
      simp only [spT, List.append_nil] at hq
      replace hq := Lib.hid hq
      replace hc := Lib.hid hc
      go_wp2_with fail
      go_ret
      exact ⟨ret_str hq.out, hc.out.below⟩
    have he : d.isEmpty = false := by cases d <;> simp_all
    have hdl := len_pos hd
    obtain ⟨a, c, hv⟩ := txt_len hc.own
    by_cases hb : blankN d = 0
    · replace hd := Lib.hid hd
      cases gf
      · replace hc := Lib.hid hc
        clear hv
        go_wp2_with fail
        refine (blank_any d _ hd.out).mono ?_; rintro e w' ⟨rfl, rfl⟩; rw [hb]
        replace hb := Lib.hid hb
        go_wp2_with (at_builtin; go_must (refine wpList_append1 rfl _ _ 117 5 rfl Tryz.underlying117 (.int .u8 0) 1 info_byte rfl (by decide) w.heap.size _ _ _ _ hc.out.own rfl rfl rfl (by omega) hsz ?_))
        intro v1 w1 hown1 hb1 _
        replace hown1 := Lib.hid hown1
        replace hb1 := Lib.hid hb1
        go_wp2_with fail
        exact ⟨⟨d.drop 1, acc ++ d.take 1, false, by simp, rfl, hc.out.sign hd.out hb.out hown1.out (hc.out.below.trans hb1.out)⟩, by simp [strLen_mk]; omega⟩
      · replace hc := Lib.hid hc
        clear hv
        go_wp2_with fail
        refine (blank_any d _ hd.out).mono ?_; rintro e w' ⟨rfl, rfl⟩; rw [hb]
        replace hb := Lib.hid hb
        go_wp2_with (at_builtin; go_must (refine wpList_append1 rfl _ _ 117 5 rfl Tryz.underlying117 (.int .u8 0) 1 info_byte rfl (by decide) w.heap.size _ _ _ _ hc.out.own rfl rfl rfl (by omega) hsz ?_))
        intro v1 w1 hown1 hb1 _
        have hown2 := Lib.hid (txt_one (m := [32]) rfl hown1)
        have hs1 := hb1.size
        have hal : (acc ++ [32]).length = acc.length + 1 := by simp
        clear hown1
        replace hb1 := Lib.hid hb1
        generalize hacc : acc ++ [32] = acc2 at hown2 hal
        replace hacc := Lib.hid hacc
        go_wp2_with (at_builtin; go_must (refine wpList_append1 rfl _ _ 117 5 rfl Tryz.underlying117 (.int .u8 0) 1 info_byte rfl (by decide) w.heap.size _ _ _ _ hown2.out rfl rfl rfl (by omega) (by omega) ?_))
        intro v2 w2 hown3 hb2 _
        replace hown3 := Lib.hid hown3
        replace hb2 := Lib.hid hb2
        go_wp2_with fail
        refine ⟨⟨d.drop 1, acc2 ++ d.take 1, false, by simp, rfl, ?_⟩, by simp [strLen_mk]; omega⟩
        have := hacc.out
        subst this
        exact hc.out.space hd.out hb.out (by rw [hal]; exact hown3.out) ((hc.out.below.trans hb1.out).trans hb2.out)
    · have hb12 : 1 ≤ blankN d ∧ blankN d ≤ d.length := ⟨by omega, blankN_le d⟩
      obtain ⟨n, hn⟩ : ∃ n, blankN d = n := ⟨_, rfl⟩
      have hstep := fun gf' hg => hc.blank (gf' := gf') hd hb hg
      rw [hn] at hb12 hstep
      replace hstep := Lib.hid hstep
      replace hn := Lib.hid hn
      replace hd := Lib.hid hd
      clear hb
      replace hc := Lib.hid hc
      subst hv
      go_wp2_with fail
      refine (blank_any d _ hd.out).mono ?_; rintro e w' ⟨rfl, rfl⟩; rw [hn.out]
      go_wp2_with fail
      refine ⟨⟨d.drop n, acc, decide (0 < acc.length), by simp, rfl, hstep.out _ ?_⟩, by simp [strLen_mk]; omega⟩
      cases acc <;> simp

/-- What the reference's loop keeps. -/
structure SrAt (l : List UInt8) (k : Nat) (out : List UInt8) (wt : Bool) : Prop where
  le : k ≤ l.length
  eq : out ++ spT (decide (out ≠ [])) wt 0 (l.drop k) = spB l
  len : out.length ≤ 2 * k
theorem drop_ne {l : List UInt8} {k : Nat} (h : k < l.length) : l.drop k ≠ [] := by
  intro e; have := congrArg List.length e; rw [List.length_drop] at this; simp at this; omega
theorem SrAt.blank {l : List UInt8} {k : Nat} {out : List UInt8} {wt : Bool} (h : SrAt l k out wt) (hk : k < l.length) (hb : blankN (l.drop k) ≠ 0) : SrAt l (k + blankN (l.drop k)) out true := by
  have := blankN_le (l.drop k)
  rw [List.length_drop] at this
  refine ⟨by omega, ?_, by have := h.len; omega⟩
  rw [← h.eq, spT_blank _ wt _ (drop_ne hk) hb, List.drop_drop]
theorem SrAt.sign {l : List UInt8} {k : Nat} {out : List UInt8} {wt : Bool} (h : SrAt l k out wt) (hk : k < l.length) (hb : blankN (l.drop k) = 0) :
    SrAt l (k + 1) (out ++ (if (decide (out ≠ []) && wt) = true then [32] else []) ++ (l.drop k).take 1) false := by
  have h1 : ((l.drop k).take 1).length = 1 := by rw [List.length_take, List.length_drop]; omega
  refine ⟨by omega, ?_, ?_⟩
  · have hne : decide (out ++ (if (decide (out ≠ []) && wt) = true then [32] else []) ++ (l.drop k).take 1 ≠ []) = true := by
      rw [decide_eq_true_eq]; intro e; have := congrArg List.length e; rw [List.length_append, h1] at this; simp at this
    rw [hne, ← h.eq, spT_step _ wt _ (drop_ne hk) hb, List.drop_drop]
    simp
  · have := h.len
    rw [List.length_append, List.length_append, h1]
    split <;> simp <;> omega
theorem take_drop1 (l : List UInt8) (k : Nat) (_h : k < l.length) : (l.take (k + 1)).drop k = (l.drop k).take 1 := by
  rw [List.drop_take]; simp

set_option maxHeartbeats 1000000 in
theorem refspace_any (l : List UInt8) (w : World) (hl : l.length ≤ 10000000) :
    Calls Tryz.prog 144 #[.string ⟨l.toArray⟩] w fun e w' => e = .returned (.string ⟨(spB l).toArray⟩) ∧ w = w' := by
  go_enter Tryz.func144, Tryz.ntmps144
  go_wp2_with fail
  go_loop [3, 4, 5] (fun s g i => ∃ k out wt, i = .int .i64 (k : Nat) ∧ s = .string ⟨out.toArray⟩ ∧ g = .bool wt ∧ SrAt l k out wt) (fun _ _ i => l.length - (intOf i).toNat)
  case atStart => exact ⟨0, [], false, rfl, rfl, rfl, Nat.zero_le _, rfl, Nat.zero_le _⟩
  case round =>
    obtain ⟨k, out, wt, rfl, rfl, rfl, hc⟩ := hrel
    have hk := hc.le
    have hlen := hc.len
    by_cases hlt : k < l.length
    · by_cases hb : blankN (l.drop k) = 0
      · have hst := hc.sign hlt hb
        have htd := take_drop1 l k hlt
        have h1 : ((l.drop k).take 1).length = 1 := by rw [List.length_take, List.length_drop]; omega
        generalize (l.drop k).take 1 = x at hst htd h1
        clear hc
        cases wt
        · rw [Bool.and_false, if_neg (by decide), List.append_nil] at hst
          replace hst := Lib.hid hst
          go_wp2_with fail
          refine (refblank_any l k _ hlt hl).mono ?_; rintro e w' ⟨rfl, rfl⟩; rw [hb]
          replace hb := Lib.hid hb
          go_wp2_with fail
          exact ⟨⟨k + 1, out ++ x, false, by go_num, by first | rfl | (rw [htd]), rfl, hst.out⟩, by simp [intOf]; omega⟩
        · by_cases ho : out = []
          · subst ho
            simp only [ne_eq, not_true_eq_false, decide_false, Bool.false_and, Bool.false_eq_true, if_false, List.append_nil, List.nil_append] at hst
            replace hst := Lib.hid hst
            go_wp2_with fail
            refine (refblank_any l k _ hlt hl).mono ?_; rintro e w' ⟨rfl, rfl⟩; rw [hb]
            replace hb := Lib.hid hb
            go_wp2_with fail
            exact ⟨⟨k + 1, x, false, by go_num, by first | rfl | (rw [htd]) | simp [htd], rfl, hst.out⟩, by simp [intOf]; omega⟩
          · have he : out.isEmpty = false := by cases out <;> simp_all
            rw [decide_eq_true ho, Bool.true_and, if_pos rfl] at hst
            replace hst := Lib.hid hst
            replace ho := Lib.hid ho
            go_wp2_with fail
            refine (refblank_any l k _ hlt hl).mono ?_; rintro e w' ⟨rfl, rfl⟩; rw [hb]
            replace hb := Lib.hid hb
            go_wp2_with fail
            exact ⟨⟨k + 1, out ++ [32] ++ x, false, by go_num, by simp, rfl, hst.out⟩, by simp [intOf]; omega⟩
      · have hst := hc.blank hlt hb
        have hbl := blankN_le (l.drop k)
        rw [List.length_drop] at hbl
        obtain ⟨n, hn⟩ : ∃ n, blankN (l.drop k) = n := ⟨_, rfl⟩
        rw [hn] at hb hst hbl
        have hb1 : 1 ≤ n := by omega
        clear hb hc
        replace hst := Lib.hid hst
        replace hn := Lib.hid hn
        go_wp2_with fail
        refine (refblank_any l k _ hlt hl).mono ?_; rintro e w' ⟨rfl, rfl⟩; rw [hn.out]
        go_wp2_with fail
        exact ⟨⟨k + n, out, true, by go_num, rfl, rfl, hst.out⟩, by simp [intOf]; omega⟩
    · have hke : ¬ ((k : Int) < l.length) := by omega
      have hq : out = spB l := by
        have := hc.eq
        rw [List.drop_eq_nil_of_le (by omega), spT_nil, List.append_nil] at this
        exact this
      replace hq := Lib.hid hq
      clear hc
      go_wp2_with fail
      go_ret
      exact ⟨ret_str hq.out, rfl⟩
end Go.Proofs.YtkgjbamkinfmeaaGreatDoor

/- Layer 10: place, Strip, the program's and the reference's. -/
namespace Go.Proofs.YtkgjbamkinfmeaaGreatDoor
open Go.RowKit

/-- Where a byte stands first, from a place on; -1: nowhere. -/
def placeT (l : List UInt8) (c : UInt8) (k : Nat) : Int := if 0 ≤ Lib.indexByte (l.drop k) c then k + Lib.indexByte (l.drop k) c else -1
theorem drop_take1 (l : List UInt8) (k : Nat) (h : k < l.length) : (l.drop k).take 1 = [l.getD k 0] := by
  rw [List.drop_eq_getElem_cons h, List.take_succ_cons, List.take_zero]; simp [List.getD, h]
theorem bt_get0 (l : List UInt8) (k : Nat) : bt l k = ((l.getD k 0).toNat : Int) := rfl

set_option maxHeartbeats 1000000 in
theorem place_any (l : List UInt8) (c : UInt8) (k : Nat) (w : World) (hk : k ≤ l.length) (hl : l.length ≤ 10000000) :
    Calls Tryz.prog 175 #[.string ⟨l.toArray⟩, .string ⟨[c].toArray⟩, .int .i64 k] w fun e w' => e = .returned (.int .i64 (placeT l c k)) ∧ w = w' := by
  go_enter Tryz.func175, Tryz.ntmps175
  go_wp2_with fail
  go_loop [7] (fun i => ∃ m : Nat, i = .int .i64 m ∧ k ≤ m ∧ m ≤ l.length ∧ Hid (∀ j, k ≤ j → j < m → bt l j ≠ (c.toNat : Int))) (fun i => l.length - (intOf i).toNat)
  case atStart => exact ⟨k, rfl, Nat.le_refl _, hk, fun j h1 h2 => by omega⟩
  case round =>
    obtain ⟨m, rfl, hkm, hm, hno⟩ := hrel
    by_cases hlt : m < l.length
    · have htd := take_drop1 l m hlt
      rw [drop_take1 l m hlt] at htd
      have hg := bt_get0 l m
      generalize l.getD m 0 = x at htd hg
      by_cases hx : x = c
      · subst hx
        have hpl : placeT l x k = (m : Int) := by
          unfold placeT
          have := indexByte_at (l.drop k) x (m - k) (by rw [List.length_drop]; omega) (by rw [bt_drop, show k + (m - k) = m from by omega]; exact hg) (fun j hj => by rw [bt_drop]; exact hno.out _ (by omega) (by omega))
          rw [this, if_pos (by omega)]; omega
        have heq : ((l.take (m + 1)).drop m == [x]) = true := by rw [htd]; simp
        replace hpl := Lib.hid hpl
        replace hg := Lib.hid hg
        replace htd := Lib.hid htd
        go_wp2_with fail
        go_ret
        exact ⟨ret_int hpl.out.symm, rfl⟩
      · have heq : ((l.take (m + 1)).drop m == [c]) = false := by rw [htd]; simpa using hx
        have hno2 : Hid (∀ j, k ≤ j → j < m + 1 → bt l j ≠ (c.toNat : Int)) := by
          intro j h1 h2
          by_cases hj : j = m
          · subst hj; rw [hg]; intro e; exact hx (UInt8.toNat_inj.1 (by omega))
          · exact hno.out j h1 (by omega)
        replace hg := Lib.hid hg
        replace htd := Lib.hid htd
        replace hx := Lib.hid hx
        go_wp2_with fail
        exact ⟨⟨m + 1, by go_num, by omega, by omega, hno2⟩, by simp [intOf]; omega⟩
    · have hpl : placeT l c k = -1 := by
        unfold placeT
        rw [indexByte_not (l.drop k) c fun j hj => by rw [bt_drop]; rw [List.length_drop] at hj; exact hno.out _ (by omega) (by omega)]
        rfl
      have hke : ¬ ((m : Int) + 1 ≤ l.length) := by omega
      replace hpl := Lib.hid hpl
      go_wp2_with fail
      go_ret
      exact ⟨ret_int hpl.out.symm, rfl⟩

/-- What the loops of Strip keep: acc is made, from place k on is to come. -/
structure StAt (l : List UInt8) (k : Nat) (acc : List UInt8) : Prop where
  le : k ≤ l.length
  eq : acc ++ stripB (l.drop k) = stripB l
  len : acc.length ≤ k
theorem strip_step (d : List UInt8) (h : d ≠ []) : stripB d = (markF d).1 ++ stripB (d.drop ((markF d).2 + 1)) := walkT_step markF d h
theorem StAt.mark {l : List UInt8} {k n : Nat} {acc : List UInt8} (h : StAt l k acc) (hk : k < l.length) (ho : opensB (l.drop k) = true) (hn : Lib.indexByte (l.drop k) 62 = n) : StAt l (k + n + 1) (acc ++ [32]) := by
  have hlt := indexByte_lt (l.drop k) 62
  rw [hn, List.length_drop] at hlt
  have hm : markF (l.drop k) = ([32], n) := by
    unfold markF
    rw [if_pos ⟨ho, by omega⟩, hn]; simp
  refine ⟨by omega, ?_, by have := h.len; rw [List.length_append]; simp; omega⟩
  rw [← h.eq, strip_step _ (drop_ne hk), hm, List.drop_drop, List.append_assoc, Nat.add_assoc]
theorem StAt.sign {l : List UInt8} {k : Nat} {acc : List UInt8} (h : StAt l k acc) (hk : k < l.length) (ho : opensB (l.drop k) = false ∨ Lib.indexByte (l.drop k) 62 < 0) : StAt l (k + 1) (acc ++ (l.drop k).take 1) := by
  have hm : markF (l.drop k) = ((l.drop k).take 1, 0) := by
    unfold markF
    rw [if_neg]
    rintro ⟨h1, h2⟩
    rcases ho with h3 | h3
    · rw [h1] at h3; cases h3
    · omega
  have h1 : ((l.drop k).take 1).length = 1 := by rw [List.length_take, List.length_drop]; omega
  refine ⟨by omega, ?_, by have := h.len; rw [List.length_append, h1]; omega⟩
  rw [← h.eq, strip_step _ (drop_ne hk), hm, List.drop_drop, List.append_assoc]
theorem StAt.done {l : List UInt8} {k : Nat} {acc : List UInt8} (h : StAt l k acc) (hk : ¬ k < l.length) : acc = stripB l := by
  have := h.eq
  rw [List.drop_eq_nil_of_le (by omega)] at this
  rw [← this]; simp [stripB, walkT]
theorem bt_lit (l : List UInt8) (k : Nat) (hk : k < l.length) : (l.drop k).take 1 = [l.getD k 0] := drop_take1 l k hk

/-- What the last > of a text tells of what stands behind a place. -/
theorem last_ahead (l : List UInt8) (k : Nat) (_hk : k < l.length) (h : (k : Int) < lastB l 62) : k + 2 ≤ l.length ∧ ∃ n : Nat, Lib.indexByte (l.drop k) 62 = n ∧ k + n < l.length := by
  rcases lastB_spec l 62 with ⟨e, _⟩ | ⟨i, h1, e, h3, _⟩
  · omega
  · rw [e] at h
    refine ⟨by omega, ?_⟩
    have hm : 0 ≤ Lib.indexByte (l.drop k) 62 := by
      rcases indexByte_ge0 (l.drop k) 62 with e2 | e2
      · exfalso
        have : (62 : UInt8) ∈ l.drop k := by
          rw [List.mem_iff_getElem]
          refine ⟨i - k, by rw [List.length_drop]; omega, ?_⟩
          rw [List.getElem_drop]
          have h4 : bt l i = ((62 : UInt8).toNat : Int) := h3
          unfold bt at h4
          have h5 : l.getD i 0 = 62 := UInt8.toNat_inj.1 (by omega)
          simp [List.getD, h1] at h5
          rw [← h5]
          congr 1; omega
        have := (indexByte_mem _ _).2 this
        omega
      · exact e2
    have hlt := indexByte_lt (l.drop k) 62
    rw [List.length_drop] at hlt
    exact ⟨(Lib.indexByte (l.drop k) 62).toNat, by omega, by omega⟩
theorem last_behind (l : List UInt8) (k : Nat) (_hk : k < l.length) (h : ¬ (k : Int) < lastB l 62) : opensB (l.drop k) = false ∨ Lib.indexByte (l.drop k) 62 < 0 := by
  cases ho : opensB (l.drop k)
  · exact Or.inl rfl
  · right
    unfold opensB at ho
    simp only [Bool.and_eq_true, beq_iff_eq, bt_drop] at ho
    have hnot : ∀ j, j < l.length → (k : Int) < j → bt l j ≠ 62 := by
      intro j hj hkj
      rcases lastB_spec l 62 with ⟨_, h2⟩ | ⟨i, h1, e, _, h4⟩
      · exact h2 j hj
      · exact h4 j (by omega) hj
    rw [indexByte_not (l.drop k) 62]
    · omega
    · intro j hj
      rw [List.length_drop] at hj
      rw [bt_drop]
      by_cases h0 : j = 0
      · subst h0; rw [ho.2.1]; decide
      · exact hnot _ (by omega) (by omega)

set_option maxHeartbeats 1000000 in
theorem strip_any (l : List UInt8) (w : World) (hl : l.length ≤ 10000000) :
    Calls Tryz.prog 167 #[.string ⟨l.toArray⟩] w (TextPost w (stripB l)) := by
  go_enter Tryz.func167, Tryz.ntmps167
  go_wp2_with fail
  refine (lastIndex_any l 62 _ (by omega)).mono ?_; rintro e w' ⟨rfl, rfl⟩
  obtain ⟨last, hlast⟩ : ∃ x, lastB l 62 = x := ⟨_, rfl⟩
  rw [hlast]
  replace hlast := Lib.hid hlast
  go_wp2_with fail
  go_loopw [4, 5] (fun v i wr => ∃ (k : Nat) (acc : List UInt8), i = .int .i64 k ∧ StAt l k acc ∧ Txt wr w.heap.size v acc ∧ Below w.heap.size w wr) (fun _ i _ => l.length - (intOf i).toNat)
  case atStart => exact ⟨0, [], rfl, ⟨Nat.zero_le _, rfl, Nat.zero_le _⟩, txt_nil _ _, Below.refl _ _⟩
  case round =>
    obtain ⟨k, acc, rfl, hc, hown, hbl⟩ := hrel
    have hk := hc.le
    have hlen := hc.len
    have hsz := hbl.size
    replace hbl := Lib.hid hbl
    by_cases hlt : k < l.length
    · by_cases hla : (k : Int) < last
      · obtain ⟨hk2, n, hn, hkn⟩ := last_ahead l k hlt (by rw [hlast.out]; exact hla)
        have hd2 : 2 ≤ (l.drop k).length := by rw [List.length_drop]; omega
        cases ho : opensB (l.drop k)
        · have hst := hc.sign hlt (Or.inl ho)
          have hnm := nums_take1 (l.drop k) (drop_ne hlt)
          rw [bt_drop, Nat.add_zero] at hnm
          generalize (l.drop k).take 1 = x at hst hnm
          replace hst := Lib.hid hst
          replace hnm := Lib.hid hnm
          replace hn := Lib.hid hn
          clear hc
          replace hown := Lib.hid hown
          go_wp2_with fail
          refine (opens_any _ _ hd2).mono ?_; rintro e w' ⟨rfl, rfl⟩; rw [ho]
          replace ho := Lib.hid ho
          go_wp2_with (at_builtin; go_must (refine wpList_append1 rfl _ _ 117 5 rfl Tryz.underlying117 (.int .u8 0) 1 info_byte rfl (by decide) w.heap.size _ _ _ _ hown.out rfl rfl rfl (by omega) hsz ?_))
          intro v1 w1 hown1 hb1 _
          replace hown1 := Lib.hid hown1
          replace hb1 := Lib.hid hb1
          go_wp2_with fail
          exact ⟨⟨k + 1, acc ++ x, by go_num, hst.out, txt_one hnm.out hown1.out, hbl.out.trans hb1.out⟩, by simp [intOf]; omega⟩
        · have hst := hc.mark hlt ho hn
          have hix : Hid (∀ W, Calls Tryz.prog 160 #[.string ⟨(l.drop k).toArray⟩, .int .u8 62] W fun e w' => e = .returned (.int .i64 (n : Int)) ∧ W = w') := fun W => by
            rw [← hn]; exact indexByte_any (l.drop k) 62 W
          replace hst := Lib.hid hst
          replace hn := Lib.hid hn
          clear hc
          replace hown := Lib.hid hown
          go_wp2_with fail
          refine (opens_any _ _ hd2).mono ?_; rintro e w' ⟨rfl, rfl⟩; rw [ho]
          replace ho := Lib.hid ho
          go_wp2_with (at_builtin; go_must (refine wpList_append1 rfl _ _ 117 5 rfl Tryz.underlying117 (.int .u8 0) 1 info_byte rfl (by decide) w.heap.size _ _ _ _ hown.out rfl rfl rfl (by omega) hsz ?_))
          intro v1 w1 hown1 hb1 _
          replace hown1 := Lib.hid hown1
          replace hb1 := Lib.hid hb1
          go_wp2_with fail
          refine (hix.out _).mono ?_; rintro e w' ⟨rfl, rfl⟩
          go_wp2_with fail
          exact ⟨⟨k + n + 1, acc ++ [32], by go_num, hst.out, txt_one (m := [32]) rfl hown1.out, hbl.out.trans hb1.out⟩, by simp [intOf]; omega⟩
      · have hst := hc.sign hlt (last_behind l k hlt (by rw [hlast.out]; exact hla))
        have hnm := nums_take1 (l.drop k) (drop_ne hlt)
        rw [bt_drop, Nat.add_zero] at hnm
        generalize (l.drop k).take 1 = x at hst hnm
        replace hst := Lib.hid hst
        replace hnm := Lib.hid hnm
        clear hc
        replace hown := Lib.hid hown
        go_wp2_with (at_builtin; go_must (refine wpList_append1 rfl _ _ 117 5 rfl Tryz.underlying117 (.int .u8 0) 1 info_byte rfl (by decide) w.heap.size _ _ _ _ hown.out rfl rfl rfl (by omega) hsz ?_))
        intro v1 w1 hown1 hb1 _
        replace hown1 := Lib.hid hown1
        replace hb1 := Lib.hid hb1
        go_wp2_with fail
        exact ⟨⟨k + 1, acc ++ x, by go_num, hst.out, txt_one hnm.out hown1.out, hbl.out.trans hb1.out⟩, by simp [intOf]; omega⟩
    · have hke : ¬ ((k : Int) < l.length) := by omega
      have hq := Lib.hid (hc.done hlt)
      have hcv := txt_str hown
      replace hc := Lib.hid hc
      replace hown := Lib.hid hown
      go_wp2_with fail
      go_ret
      exact ⟨ret_str hq.out, hbl.out⟩
end Go.Proofs.YtkgjbamkinfmeaaGreatDoor

/- Layer 10: the reference's Strip; Entities, the program's. -/
namespace Go.Proofs.YtkgjbamkinfmeaaGreatDoor
open Go.RowKit

theorem opensB_at (l : List UInt8) (k : Nat) (hk : k < l.length) : opensB (l.drop k) = (bt l k == 60 && (decide (k + 1 < l.length) && markN (bt l (k + 1)))) := by
  unfold opensB
  rw [bt_drop, bt_drop, Nat.add_zero, List.length_drop]
  rw [Bool.eq_iff_iff]
  simp only [Bool.and_eq_true, decide_eq_true_eq]
  constructor
  · rintro ⟨h1, h2, h3⟩; exact ⟨h2, by omega, h3⟩
  · rintro ⟨h1, h2, h3⟩; exact ⟨by omega, h1, h3⟩
theorem markN_ways (c : Int) : (markN c = true ∧ letN c = true) ∨ (markN c = true ∧ letN c = false ∧ (c = 47 ∨ c = 33 ∨ c = 63)) ∨ (markN c = false ∧ letN c = false ∧ c ≠ 47 ∧ c ≠ 33 ∧ c ≠ 63) := by
  unfold markN letN
  by_cases h1 : 97 ≤ c ∧ c ≤ 122 ∨ 65 ≤ c ∧ c ≤ 90
  · left; exact ⟨decide_eq_true (by omega), decide_eq_true h1⟩
  · by_cases h2 : c = 47 ∨ c = 33 ∨ c = 63
    · right; left; exact ⟨decide_eq_true (by omega), decide_eq_false h1, h2⟩
    · right; right; exact ⟨decide_eq_false (by omega), decide_eq_false h1, by omega, by omega, by omega⟩
theorem placeB_none {l : List UInt8} {c : UInt8} {k : Nat} (h : Lib.indexByte (l.drop k) c < 0) : placeT l c k = -1 := by unfold placeT; rw [if_neg (by omega)]
theorem placeB_some {l : List UInt8} {c : UInt8} {k n : Nat} (h : Lib.indexByte (l.drop k) c = n) : placeT l c k = ((k + n : Nat) : Int) := by unfold placeT; rw [if_pos (by omega), h]; omega

set_option maxRecDepth 100000 in
set_option maxHeartbeats 2000000 in
theorem refstrip_any (l : List UInt8) (w : World) (hl : l.length ≤ 10000000) :
    Calls Tryz.prog 146 #[.string ⟨l.toArray⟩] w fun e w' => e = .returned (.string ⟨(stripB l).toArray⟩) ∧ w = w' := by
  go_enter Tryz.func146, Tryz.ntmps146
  go_wp2_with fail
  go_loop [3, 4] (fun s i => ∃ (k : Nat) (out : List UInt8), i = .int .i64 k ∧ s = .string ⟨out.toArray⟩ ∧ StAt l k out) (fun _ i => l.length - (intOf i).toNat)
  case atStart => exact ⟨0, [], rfl, rfl, ⟨Nat.zero_le _, rfl, Nat.zero_le _⟩⟩
  case round =>
    obtain ⟨k, out, rfl, rfl, hc⟩ := hrel
    have hk := hc.le
    have hlen := hc.len
    by_cases hlt : k < l.length
    · have hat := opensB_at l k hlt
      have htd := take_drop1 l k hlt
      have h1 : ((l.drop k).take 1).length = 1 := by rw [List.length_take, List.length_drop]; omega
      have hsg := fun ho => hc.sign hlt ho
      rw [← htd] at hsg h1
      replace htd := Lib.hid htd
      replace hsg := Lib.hid hsg
      by_cases h60 : bt l k = 60
      · by_cases hk1 : k + 1 < l.length
        · rw [h60, decide_eq_true hk1] at hat
          have hbt1 := bt_lt l (k + 1)
          rcases markN_ways (bt l (k + 1)) with ⟨m1, m2⟩ | ⟨m1, m2, m3⟩ | ⟨m1, m2, m3, m4, m5⟩
          · rw [m1] at hat
            have ho : opensB (l.drop k) = true := hat
            clear hat m1
            by_cases hn : Lib.indexByte (l.drop k) 62 < 0
            · have hp := placeB_none hn
              have hst := Lib.hid (hsg.out (Or.inr hn))
              replace ho := Lib.hid ho
              replace hn := Lib.hid hn
              clear hc hsg
              go_wp2_with fail
              refine (letter_any _ _).mono ?_; rintro e w' ⟨rfl, rfl⟩; rw [m2]
              go_wp2_with fail
              refine (place_any l 62 k _ hk hl).mono ?_; rintro e w' ⟨rfl, rfl⟩; rw [hp]
              go_wp2_with fail
              exact ⟨⟨k + 1, _, by go_num, rfl, hst.out⟩, by simp [intOf]; omega⟩
            · obtain ⟨n, hn2⟩ : ∃ n : Nat, Lib.indexByte (l.drop k) 62 = n := ⟨(Lib.indexByte (l.drop k) 62).toNat, by omega⟩
              have hp := placeB_some hn2
              have hltn := indexByte_lt (l.drop k) 62
              rw [hn2, List.length_drop] at hltn
              have hst := Lib.hid (hc.mark hlt ho hn2)
              replace ho := Lib.hid ho
              replace hn2 := Lib.hid hn2
              clear hc hsg hn
              go_wp2_with fail
              refine (letter_any _ _).mono ?_; rintro e w' ⟨rfl, rfl⟩; rw [m2]
              go_wp2_with fail
              refine (place_any l 62 k _ hk hl).mono ?_; rintro e w' ⟨rfl, rfl⟩; rw [hp]
              go_wp2_with fail
              exact ⟨⟨k + n + 1, out ++ [32], by go_num, rfl, hst.out⟩, by simp [intOf]; omega⟩
          · rw [m1] at hat
            have ho : opensB (l.drop k) = true := hat
            clear hat m1
            rcases m3 with m3 | m3 | m3
            all_goals
              rw [m3] at m2 hbt1
              by_cases hn : Lib.indexByte (l.drop k) 62 < 0
              · have hp := placeB_none hn
                have hst := Lib.hid (hsg.out (Or.inr hn))
                replace ho := Lib.hid ho
                replace hn := Lib.hid hn
                clear hc hsg
                go_wp2_with fail
                refine (letter_any _ _).mono ?_; rintro e w' ⟨rfl, rfl⟩; rw [m2]
                go_wp2_with fail
                refine (place_any l 62 k _ hk hl).mono ?_; rintro e w' ⟨rfl, rfl⟩; rw [hp]
                go_wp2_with fail
                exact ⟨⟨k + 1, _, by go_num, rfl, hst.out⟩, by simp [intOf]; omega⟩
              · obtain ⟨n, hn2⟩ : ∃ n : Nat, Lib.indexByte (l.drop k) 62 = n := ⟨(Lib.indexByte (l.drop k) 62).toNat, by omega⟩
                have hp := placeB_some hn2
                have hltn := indexByte_lt (l.drop k) 62
                rw [hn2, List.length_drop] at hltn
                have hst := Lib.hid (hc.mark hlt ho hn2)
                replace ho := Lib.hid ho
                replace hn2 := Lib.hid hn2
                clear hc hsg hn
                go_wp2_with fail
                refine (letter_any _ _).mono ?_; rintro e w' ⟨rfl, rfl⟩; rw [m2]
                go_wp2_with fail
                refine (place_any l 62 k _ hk hl).mono ?_; rintro e w' ⟨rfl, rfl⟩; rw [hp]
                go_wp2_with fail
                exact ⟨⟨k + n + 1, out ++ [32], by go_num, rfl, hst.out⟩, by simp [intOf]; omega⟩
          · rw [m1] at hat
            have ho : opensB (l.drop k) = false := hat
            have hst := Lib.hid (hsg.out (Or.inl ho))
            have b3 : (bt l (k + 1) == 47) = false := by simpa using m3
            have b4 : (bt l (k + 1) == 33) = false := by simpa using m4
            have b5 : (bt l (k + 1) == 63) = false := by simpa using m5
            clear hat m1 m3 m4 m5 hc hsg
            replace ho := Lib.hid ho
            go_wp2_with fail
            refine (letter_any _ _).mono ?_; rintro e w' ⟨rfl, rfl⟩; rw [m2]
            go_wp2_with fail
            exact ⟨⟨k + 1, _, by go_num, rfl, hst.out⟩, by simp [intOf]; omega⟩
        · have hk1' : ¬ ((k : Int) + 1 < l.length) := by omega
          rw [h60, decide_eq_false hk1] at hat
          have ho : opensB (l.drop k) = false := hat
          have hst := Lib.hid (hsg.out (Or.inl ho))
          clear hat hc hsg
          replace ho := Lib.hid ho
          go_wp2_with fail
          exact ⟨⟨k + 1, _, by go_num, rfl, hst.out⟩, by simp [intOf]; omega⟩
      · have b6 : (bt l k == 60) = false := by simpa using h60
        rw [b6] at hat
        have ho : opensB (l.drop k) = false := hat
        have hst := Lib.hid (hsg.out (Or.inl ho))
        clear hat hc hsg h60
        replace ho := Lib.hid ho
        go_wp2_with fail
        exact ⟨⟨k + 1, _, by go_num, rfl, hst.out⟩, by simp [intOf]; omega⟩
    · have hke : ¬ ((k : Int) < l.length) := by omega
      have hq := Lib.hid (hc.done hlt)
      replace hc := Lib.hid hc
      go_wp2_with fail
      go_ret
      exact ⟨ret_str hq.out, rfl⟩
end Go.Proofs.YtkgjbamkinfmeaaGreatDoor
