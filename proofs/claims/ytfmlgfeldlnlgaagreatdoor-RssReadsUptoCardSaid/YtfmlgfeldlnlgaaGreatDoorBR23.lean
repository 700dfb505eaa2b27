/- Append of a text's bytes; a slice of bytes that the call itself made, as a text. -/
import Derived.Lib.AppendStr
import Derived.Test.YtfmlgfeldlnlgaaGreatDoorBR10
import Derived.Test.YtfmlgfeldlnlgaaGreatDoorBR22
import Derived.Test.YtfmlgfeldlnlgaaGreatDoorBR11
namespace Go.Proofs.YtfmlgfeldlnlgaaGreatDoor
open Go.RowKit

/-- Append of a text's bytes to a slice that the call itself made. -/
theorem wpList_append1s {P : Program} {ops : Array Oper} {rest : List Oper} {o : Oper} {a : Act} {Q : Exit → Act → World → Prop} {w : World} (hgd : o.guard = none) (s x : Operand) (t u e : TypeId)
    (ho : o.op = .call { callee := .builtin .append, args := #[s, x], argTypes := #[t, u] }) (ht : P.underlying t = some (.slice e)) (hu : P.underlying u = some .string)
    (hi : (P.info? e).map (fun i => (i.zero, i.size, i.bytes)) = some (some (.int .u8 0), 1, 1))
    (B : Nat) (v : Value) (l m : List UInt8) (hown : w.ownsRow B e 1 v l.length ((nums l).map (Value.int .u8))) (hs : a.eval s = v) (hx : a.eval x = .string ⟨m.toArray⟩)
    (hn : l.length + m.length ≤ 140737488355328) (hB : B ≤ w.heap.size)
    (h : ∀ v' w', w'.ownsRow B e 1 v' (l ++ m).length ((nums (l ++ m)).map (Value.int .u8)) → Below B w w' → wpList P ops Q rest (a.put o.dst v') w') : wpList P ops Q (o :: rest) a w := by
  obtain ⟨i0, hi, hz0, hz1, hz2⟩ := info_parts hi
  refine Lib.wpList_append_own_string w hgd s x t u ho B e i0 ht hu hi hz0 hz1 hz2 v l.length _ hs hown ⟨m.toArray⟩ hx (by show l.length + m.length ≤ _; unfold maxLen; omega) hn hB ?_
  intro v' w' h1 h2 _
  refine h v' w' ?_ ((Below.refl B w).grown h2 hB fun k hk => (hown.lt k hk).1)
  have e1 : Lib.strCells ⟨m.toArray⟩ = (nums m).map (Value.int .u8) := by simp [Lib.strCells, nums]
  rw [e1, ← List.map_append, ← nums_app] at h1
  rw [List.length_append]
  exact h1

/-- A slice of bytes that the call itself made, as a text. -/
def Txt (w : World) (B : Nat) (v : Value) (l : List UInt8) : Prop := w.ownsRow B 5 1 v l.length ((nums l).map (Value.int .u8))
theorem txt_nil (w : World) (B : Nat) : Txt w B (.slice none 0 0) [] := World.ownsRow_nil _ _ _ _
theorem txt_str {w : World} {B : Nat} {v : Value} {l : List UInt8} (h : Txt w B v l) : (convert 105 9 v).run Tryz.prog w = .ok (.string ⟨l.toArray⟩) w := by
  unfold Txt at h
  have h' : w.ownsRow B 5 1 v (nums l).length ((nums l).map (Value.int .u8)) := by rw [nums_len]; exact h
  have := run_str (P := Tryz.prog) w 105 9 5 Tryz.underlying105 Tryz.underlying5 Tryz.underlying9 (intSl_own h')
  rw [nums_u8] at this
  exact this
theorem info_u8 : (Tryz.prog.info? 5).map (fun i => (i.zero, i.size, i.bytes)) = some (some (.int .u8 0), 1, 1) := by kernel_rfl
end Go.Proofs.YtfmlgfeldlnlgaaGreatDoor

/- Layer 12: the text of a node. -/
namespace Go.Proofs.YtfmlgfeldlnlgaaGreatDoor
open Go.RowKit

/-- What the loop of Text keeps. -/
structure TxtAt (P : List (Nd × Value)) (i : Int) (w1 : World) (k : Nat) (T : List UInt8) (u : Value) (wr : World) : Prop where
  own : Txt wr w1.heap.size u T
  text : T = textTo (nodes P) i k
  below : Below w1.heap.size w1 wr

set_option maxRecDepth 100000 in
set_option maxHeartbeats 2000000 in
theorem text12_any (P : List (Nd × Value)) (v : Value) (i : Int) (w : World) (h : NdSl w v P) (hn : P.length ≤ 1000000) (hT : sumT (nodes P) ≤ 1000000000) :
    Calls Tryz.prog 31 #[v, .int .i64 i] w (StrPost (textB (nodes P) i) w) := by
  have hplb := place_nodes (P := P) (i := i)
  cases hpl : placeB (nodes P) i
  · have hk : textB (nodes P) i = [] := by unfold textB; rw [if_neg (by rw [hpl]; decide)]
    obtain ⟨a, c, rfl⟩ := h.form
    have hp := fun W : World => place12_any a P.length c i W
    rw [← hplb, hpl] at hp
    clear h hplb hpl hT
    replace hp := Lib.hid hp
    go_enter Tryz.func31, Tryz.ntmps31
    go_wp2_with fail
    refine (hp.out _).mono ?_; rintro e w1 ⟨rfl, rfl⟩
    go_wp2_with fail
    go_ret
    exact StrPost.mk (t := []) hk (Below.refl _ _)
  have hk : textB (nodes P) i = textTo (nodes P) i P.length := by unfold textB; rw [if_pos hpl, nodes_len]
  have hwi := within12_any P v i w h hn hpl
  have hpos : 0 < P.length := by have := place_iff.1 hpl; rw [nodes_len] at this; omega
  obtain ⟨b, off, cap, hcap, hbl, rfl, hcl⟩ := h.some hpos
  have hp := fun W : World => place12_any (some ⟨b, off, none⟩) P.length cap i W
  rw [← hplb, hpl] at hp
  have htl := fun k => textTo_len (nodes P) i k
  rw [nodes_len] at htl
  generalize sumT (nodes P) = S at hT htl
  clear h hplb hpl
  replace hp := Lib.hid hp
  replace hk := Lib.hid hk
  replace hwi := Lib.hid hwi
  replace htl := Lib.hid htl
  replace hcl := Lib.hid hcl
  replace hpos := Lib.hid hpos
  go_enter Tryz.func31, Tryz.ntmps31
  go_wp2_with fail
  refine (hp.out _).mono ?_; rintro e w0 ⟨rfl, rfl⟩
  go_wp2_with fail
  refine hwi.out.mono ?_; rintro e w1 ⟨rfl, hin, hb1⟩
  have hgl := hin.lt
  have hs1 := hb1.size
  clear hwi
  replace hin := Lib.hid hin
  replace hb1 := Lib.hid hb1
  go_wp2_with fail
  go_loopw [5, 16] (fun u ii wr => ∃ (k m : Nat) (T : List UInt8) (a' : Option Addr) (c' : Nat), ii = .int .i64 k ∧ u = .slice a' m c' ∧ k ≤ P.length ∧ m ≤ S ∧ Hid (m = T.length) ∧ Hid (TxtAt P i w1 k T u wr)) (fun _ ii _ => P.length - (intOf ii).toNat)
  case atStart => exact ⟨0, 0, [], none, 0, rfl, rfl, Nat.zero_le _, Nat.zero_le _, rfl, ⟨txt_nil _ _, rfl, Below.refl _ _⟩⟩
  case round =>
    obtain ⟨k, m, T, a', c', rfl, rfl, hkl, hmS, hm, hc⟩ := hrel
    by_cases hlt : k < P.length
    · have hsz := hc.out.below.size
      obtain ⟨d0, d1, d2, d3⟩ := ((hcl.out k hlt).next hb1.out).next hc.out.below
      rw [nodes_at hlt] at d0 d2
      clear d1 d3
      have hi0 : wr.cell? ⟨w.heap.size, k, none⟩ = some (.bool (winB (nodes P) i (k : Int))) := by
        rw [(hin.out.next hc.out.below).cell]
        simp [hlt]
      have hnx := textTo_next (nodes P) i k
      rw [← hc.out.text] at hnx
      have hlt1 : (k : Int) < P.length := by omega
      have hno := bitB_no (l := nodes P) (i := i) (j := k)
      have hyes := bitB_yes (l := nodes P) (i := i) (j := k)
      have htl2 := htl.out (k + 1) (by omega)
      have hbw : b < wr.heap.size := by omega
      have hgw : w.heap.size < wr.heap.size := by omega
      generalize atN (nodes P) (k : Int) = x at d0 d2 hno hyes
      obtain ⟨xn, xa, xt, xu⟩ := x
      unfold strV at d0 d2
      simp only at d0 d2 hno hyes
      cases hwk : winB (nodes P) i (k : Int)
      · rw [hwk] at hi0
        rw [hno (fun e => by rw [hwk] at e; cases e.2), List.append_nil] at hnx
        clear hno hyes
        replace hnx := Lib.hid hnx
        replace hwk := Lib.hid hwk
        go_wp2_with fail
        exact ⟨⟨k + 1, m, T, a', c', by go_num, rfl, by omega, hmS, hm, ⟨hc.out.own, hnx.out.symm, hc.out.below⟩⟩, by simp [intOf]; omega⟩
      · rw [hwk] at hi0
        cases hem : xn.isEmpty
        · have hne : ¬ xn = [] := by simpa using hem
          rw [hno (fun e => hne e.1), List.append_nil] at hnx
          clear hno hyes
          replace hne := Lib.hid hne
          replace hnx := Lib.hid hnx
          replace hwk := Lib.hid hwk
          go_wp2_with fail
          exact ⟨⟨k + 1, m, T, a', c', by go_num, rfl, by omega, hmS, hm, ⟨hc.out.own, hnx.out.symm, hc.out.below⟩⟩, by simp [intOf]; omega⟩
        · have hne : xn = [] := by simpa using hem
          rw [hyes hne hwk] at hnx
          rw [hnx, List.length_append] at htl2
          clear hno hyes
          replace hne := Lib.hid hne
          replace hnx := Lib.hid hnx
          replace hwk := Lib.hid hwk
          go_wp2_with (at_builtin; go_must (refine wpList_append1s rfl _ _ 105 9 5 rfl Tryz.underlying105 Tryz.underlying9 info_u8 w1.heap.size _ T xt hc.out.own rfl rfl (by omega) (by omega) ?_))
          intro v2 w2 ho2 hb2
          replace ho2 : Txt w2 w1.heap.size v2 (T ++ xt) := by unfold Txt; rw [List.length_append]; exact ho2
          obtain ⟨T2, hT2⟩ : ∃ T2, T ++ xt = T2 := ⟨_, rfl⟩
          rw [hT2] at ho2 hnx
          have hl2 : T2.length ≤ S := by rw [← hT2, List.length_append]; exact htl2
          obtain ⟨a2, c2, rfl⟩ := own_form ho2
          replace ho2 := Lib.hid ho2
          have hb12 := Lib.hid (hc.out.below.trans hb2)
          clear hb2 htl2
          replace hT2 := Lib.hid hT2
          go_wp2_with fail
          exact ⟨⟨k + 1, T2.length, T2, a2, c2, by go_num, rfl, by omega, hl2, rfl, ⟨ho2.out, hnx.out.symm, hb12.out⟩⟩, by simp [intOf]; omega⟩
    · have hke : ¬ ((k : Int) < P.length) := by omega
      have hkk := Lib.hid (show k = P.length by omega)
      have hcv := txt_str hc.out.own
      go_wp2_with fail
      go_ret
      exact StrPost.mk (hk.out.trans (by rw [hc.out.text, hkk.out])) (hb1.out.andThen hc.out.below)
end Go.Proofs.YtfmlgfeldlnlgaaGreatDoor

/- Layer 10: Space, the program's and the reference's. -/
namespace Go.Proofs.YtfmlgfeldlnlgaaGreatDoor
open Go.RowKit

theorem nums_take1 (d : List UInt8) (h : d ≠ []) : nums (d.take 1) = [bt d 0] := by
  cases d with
  | nil => exact absurd rfl h
  | cons c t => rfl
theorem txt_one {w : World} {B : Nat} {v : Value} {l m : List UInt8} {x : Int} (hm : nums m = [x]) (h : w.ownsRow B 5 1 v (l.length + 1) ((nums l).map (Value.int .u8) ++ [.int .u8 x])) : Txt w B v (l ++ m) := by
  unfold Txt
  have hl : m.length = 1 := by rw [← nums_len, hm]; rfl
  rw [List.length_append, hl, nums_app, hm, List.map_append]
  exact h
theorem txt_len {w : World} {B : Nat} {v : Value} {l : List UInt8} (h : Txt w B v l) : ∃ a c, v = .slice a l.length c := own_form h

theorem prefix_nb (l : List UInt8) : Lib.hasPrefix l [194, 160] = decide (2 ≤ l.length ∧ bt l 0 = 194 ∧ bt l 1 = 160) := by
  match l with
  | [] => rfl
  | [c] => simp [Lib.hasPrefix, List.isPrefixOf]
  | c :: d :: t =>
    have e1 : (bt (c :: d :: t) 0 = 194) = (c = 194) := propext (bt_u8 c 194 (d :: t))
    have e2 : (bt (c :: d :: t) 1 = 160) = (d = 160) := by rw [bt_succ]; exact propext (bt_u8 d 160 t)
    rw [Bool.eq_iff_iff, decide_eq_true_eq, e1, e2]
    simp only [Lib.hasPrefix, List.isPrefixOf, Bool.and_eq_true, beq_iff_eq, and_true]
    exact ⟨fun h => ⟨by simp, h.1.symm, h.2.symm⟩, fun h => ⟨h.2.1.symm, h.2.2.symm⟩⟩

set_option maxHeartbeats 400000 in
theorem blank_any (l : List UInt8) (w : World) (h0 : l ≠ []) :
    Calls Tryz.prog 92 #[.string ⟨l.toArray⟩] w fun e w' => e = .returned (.int .i64 (blankN l)) ∧ w = w' := by
  have hl := len_pos h0
  have hb := bt_lt l 0
  have hp := prefix_nb l
  have hpc := fun W : World => hasPrefix_any l [194, 160] W
  cases hq : Lib.hasPrefix l [194, 160]
  all_goals
    rw [hq] at hp hpc
    have hp' := hp.symm
    simp only [decide_eq_true_eq, decide_eq_false_iff_not] at hp'
    replace hp' := Lib.hid hp'
    replace hpc := Lib.hid hpc
    clear hp
    replace hq := Lib.hid hq
    replace h0 := Lib.hid h0
    go_enter Tryz.func92, Tryz.ntmps92
    go_wp2_with (refine (hpc.out _).mono ?_; rintro e w' ⟨rfl, rfl⟩)
  all_goals try go_wp2_with fail
  all_goals go_ret
  all_goals refine ⟨blankN_ret ?_, rfl⟩
  all_goals have hp := hp'.out
  all_goals try simp only [beq_iff_eq, beq_eq_false_iff_ne, ne_eq] at *
  all_goals first | (exfalso; omega) | (repeat (first | rw [if_pos (by omega)] | rw [if_neg (by omega)]))
end Go.Proofs.YtfmlgfeldlnlgaaGreatDoor

/- Layer 10: Space, the program's and the reference's. -/
namespace Go.Proofs.YtfmlgfeldlnlgaaGreatDoor
open Go.RowKit

theorem spT_first : ∀ (n : Nat) (l : List UInt8), l.length ≤ n → ∀ g, spT false g 0 l = spT false true 0 l
  | _, [], _, _ => rfl
  | 0, c :: t, h, _ => by simp at h
  | _ + 1, c :: t, _, g => by rw [spT, spT]; simp

/-- What the program's loop keeps: acc is made, d is to come, gf: a blank is due. -/
structure SpAt (l : List UInt8) (w : World) (d acc : List UInt8) (gf : Bool) (wr : World) (v : Value) : Prop where
  own : Txt wr w.heap.size v acc
  below : Below w.heap.size w wr
  eq : acc ++ spT (decide (acc ≠ [])) gf 0 d = spB l
  gap : gf = true → acc ≠ []
  len : acc.length + 2 * d.length ≤ 2 * l.length
theorem SpAt.blank {l : List UInt8} {w : World} {d acc : List UInt8} {gf : Bool} {wr : World} {v : Value} (h : SpAt l w d acc gf wr v) (hd : d ≠ []) (hb : blankN d ≠ 0) {gf' : Bool} (hg : gf' = decide (acc ≠ [])) :
    SpAt l w (d.drop (blankN d)) acc gf' wr v := by
  refine ⟨h.own, h.below, ?_, fun e => by rw [hg] at e; simpa using e, by have := h.len; rw [List.length_drop]; omega⟩
  rw [← h.eq, spT_blank _ _ d hd hb, hg]
  cases ha : decide (acc ≠ [])
  · rw [spT_first _ _ (Nat.le_refl _) false]
  · rfl
theorem SpAt.sign {l : List UInt8} {w : World} {d acc : List UInt8} {wr wr' : World} {v v' : Value} (h : SpAt l w d acc false wr v) (hd : d ≠ []) (hb : blankN d = 0)
    (ho : wr'.ownsRow w.heap.size 5 1 v' (acc.length + 1) ((nums acc).map (Value.int .u8) ++ [.int .u8 (bt d 0)])) (hbl : Below w.heap.size w wr') : SpAt l w (d.drop 1) (acc ++ d.take 1) false wr' v' := by
  have hl := len_pos hd
  have h1 : (d.take 1).length = 1 := by rw [List.length_take]; omega
  refine ⟨txt_one (nums_take1 d hd) ho, hbl, ?_, (fun e => by cases e), by have := h.len; rw [List.length_append, List.length_drop, h1]; omega⟩
  have hne : decide (acc ++ d.take 1 ≠ []) = true := by
    rw [decide_eq_true_eq]; intro e; have := congrArg List.length e; rw [List.length_append, h1] at this; simp at this
  rw [hne, ← h.eq, spT_step _ _ d hd hb]
  simp
theorem SpAt.space {l : List UInt8} {w : World} {d acc : List UInt8} {wr wr' : World} {v v' : Value} (h : SpAt l w d acc true wr v) (hd : d ≠ []) (hb : blankN d = 0)
    (ho : wr'.ownsRow w.heap.size 5 1 v' ((acc ++ [32]).length + 1) ((nums (acc ++ [32])).map (Value.int .u8) ++ [.int .u8 (bt d 0)])) (hbl : Below w.heap.size w wr') : SpAt l w (d.drop 1) (acc ++ [32] ++ d.take 1) false wr' v' := by
  have hl := len_pos hd
  have h1 : (d.take 1).length = 1 := by rw [List.length_take]; omega
  refine ⟨txt_one (nums_take1 d hd) ho, hbl, ?_, (fun e => by cases e), by have := h.len; rw [List.length_append, List.length_append, List.length_drop, h1]; simp; omega⟩
  have hne : decide (acc ++ [32] ++ d.take 1 ≠ []) = true := by
    rw [decide_eq_true_eq]; intro e; have := congrArg List.length e; rw [List.length_append, h1] at this; simp at this
  have hne2 : decide (acc ≠ []) = true := by rw [decide_eq_true_eq]; exact h.gap rfl
  rw [hne, ← h.eq, spT_step _ _ d hd hb, hne2]
  simp

/-- What a text is made into, in a world in which nothing old has turned. -/
def TextPost (w : World) (l : List UInt8) (e : Ending) (w' : World) : Prop := e = .returned (.string ⟨l.toArray⟩) ∧ Below w.heap.size w w'

set_option maxHeartbeats 1000000 in
theorem space_any (l : List UInt8) (w : World) (hl : l.length ≤ 10000000) :
    Calls Tryz.prog 53 #[.string ⟨l.toArray⟩] w (TextPost w (spB l)) := by
  go_enter Tryz.func53, Tryz.ntmps53
  go_wp2_with fail
  go_loopw [0, 3, 4] (fun s v g wr => ∃ d acc gf, s = .string ⟨d.toArray⟩ ∧ g = .bool gf ∧ SpAt l w d acc gf wr v) (fun s _ _ _ => strLen s)
  case atStart => exact ⟨l, [], false, rfl, rfl, txt_nil _ _, Below.refl _ _, rfl, (fun e => by cases e), by simp⟩
  case round =>
    obtain ⟨d, acc, gf, rfl, rfl, hc⟩ := hrel
    have hlen := hc.len
    have hsz := hc.below.size
    by_cases hd : d = []
    · subst hd
      have hcv := txt_str hc.own
      have hq := hc.eq
      simp only [spT, List.append_nil] at hq
      replace hq := Lib.hid hq
      replace hc := Lib.hid hc
      go_wp2_with fail
      go_ret
      exact ⟨ret_str hq.out, hc.out.below⟩
    have he : d.isEmpty = false := by cases d <;> simp_all
    have hdl := len_pos hd
    obtain ⟨a, c, hv⟩ := txt_len hc.own
    by_cases hb : blankN d = 0
    · replace hd := Lib.hid hd
      cases gf
      · replace hc := Lib.hid hc
        clear hv
        go_wp2_with fail
        refine (blank_any d _ hd.out).mono ?_; rintro e w' ⟨rfl, rfl⟩; rw [hb]
        replace hb := Lib.hid hb
        go_wp2_with (at_builtin; go_must (refine wpList_append1 rfl _ _ 105 5 rfl Tryz.underlying105 (.int .u8 0) 1 info_byte rfl (by decide) w.heap.size _ _ _ _ hc.out.own rfl rfl rfl (by omega) hsz ?_))
        intro v1 w1 hown1 hb1 _
        replace hown1 := Lib.hid hown1
        replace hb1 := Lib.hid hb1
        go_wp2_with fail
        exact ⟨⟨d.drop 1, acc ++ d.take 1, false, by simp, rfl, hc.out.sign hd.out hb.out hown1.out (hc.out.below.trans hb1.out)⟩, by simp [strLen_mk]; omega⟩
      · replace hc := Lib.hid hc
        clear hv
        go_wp2_with fail
        refine (blank_any d _ hd.out).mono ?_; rintro e w' ⟨rfl, rfl⟩; rw [hb]
        replace hb := Lib.hid hb
        go_wp2_with (at_builtin; go_must (refine wpList_append1 rfl _ _ 105 5 rfl Tryz.underlying105 (.int .u8 0) 1 info_byte rfl (by decide) w.heap.size _ _ _ _ hc.out.own rfl rfl rfl (by omega) hsz ?_))
        intro v1 w1 hown1 hb1 _
        have hown2 := Lib.hid (txt_one (m := [32]) rfl hown1)
        have hs1 := hb1.size
        have hal : (acc ++ [32]).length = acc.length + 1 := by simp
        clear hown1
        replace hb1 := Lib.hid hb1
        generalize hacc : acc ++ [32] = acc2 at hown2 hal
        replace hacc := Lib.hid hacc
        go_wp2_with (at_builtin; go_must (refine wpList_append1 rfl _ _ 105 5 rfl Tryz.underlying105 (.int .u8 0) 1 info_byte rfl (by decide) w.heap.size _ _ _ _ hown2.out rfl rfl rfl (by omega) (by omega) ?_))
        intro v2 w2 hown3 hb2 _
        replace hown3 := Lib.hid hown3
        replace hb2 := Lib.hid hb2
        go_wp2_with fail
        refine ⟨⟨d.drop 1, acc2 ++ d.take 1, false, by simp, rfl, ?_⟩, by simp [strLen_mk]; omega⟩
        have := hacc.out
        subst this
        exact hc.out.space hd.out hb.out (by rw [hal]; exact hown3.out) ((hc.out.below.trans hb1.out).trans hb2.out)
    · have hb12 : 1 ≤ blankN d ∧ blankN d ≤ d.length := ⟨by omega, blankN_le d⟩
      obtain ⟨n, hn⟩ : ∃ n, blankN d = n := ⟨_, rfl⟩
      have hstep := fun gf' hg => hc.blank (gf' := gf') hd hb hg
      rw [hn] at hb12 hstep
      replace hstep := Lib.hid hstep
      replace hn := Lib.hid hn
      replace hd := Lib.hid hd
      clear hb
      replace hc := Lib.hid hc
      subst hv
      go_wp2_with fail
      refine (blank_any d _ hd.out).mono ?_; rintro e w' ⟨rfl, rfl⟩; rw [hn.out]
      go_wp2_with fail
      refine ⟨⟨d.drop n, acc, decide (0 < acc.length), by simp, rfl, hstep.out _ ?_⟩, by simp [strLen_mk]; omega⟩
      cases acc <;> simp

/-- What the reference's loop keeps. -/
structure SrAt (l : List UInt8) (k : Nat) (out : List UInt8) (wt : Bool) : Prop where
  le : k ≤ l.length
  eq : out ++ spT (decide (out ≠ [])) wt 0 (l.drop k) = spB l
  len : out.length ≤ 2 * k
theorem drop_ne {l : List UInt8} {k : Nat} (h : k < l.length) : l.drop k ≠ [] := by
  intro e; have := congrArg List.length e; rw [List.length_drop] at this; simp at this; omega
theorem SrAt.blank {l : List UInt8} {k : Nat} {out : List UInt8} {wt : Bool} (h : SrAt l k out wt) (hk : k < l.length) (hb : blankN (l.drop k) ≠ 0) : SrAt l (k + blankN (l.drop k)) out true := by
  have := blankN_le (l.drop k)
  rw [List.length_drop] at this
  refine ⟨by omega, ?_, by have := h.len; omega⟩
  rw [← h.eq, spT_blank _ wt _ (drop_ne hk) hb, List.drop_drop]
theorem SrAt.sign {l : List UInt8} {k : Nat} {out : List UInt8} {wt : Bool} (h : SrAt l k out wt) (hk : k < l.length) (hb : blankN (l.drop k) = 0) :
    SrAt l (k + 1) (out ++ (if (decide (out ≠ []) && wt) = true then [32] else []) ++ (l.drop k).take 1) false := by
  have h1 : ((l.drop k).take 1).length = 1 := by rw [List.length_take, List.length_drop]; omega
  refine ⟨by omega, ?_, ?_⟩
  · have hne : decide (out ++ (if (decide (out ≠ []) && wt) = true then [32] else []) ++ (l.drop k).take 1 ≠ []) = true := by
      rw [decide_eq_true_eq]; intro e; have := congrArg List.length e; rw [List.length_append, h1] at this; simp at this
    rw [hne, ← h.eq, spT_step _ wt _ (drop_ne hk) hb, List.drop_drop]
    simp
  · have := h.len
    rw [List.length_append, List.length_append, h1]
    split <;> simp <;> omega
theorem take_drop1 (l : List UInt8) (k : Nat) (_h : k < l.length) : (l.take (k + 1)).drop k = (l.drop k).take 1 := by
  rw [List.drop_take]; simp

set_option maxHeartbeats 1000000 in
theorem refspace_any (l : List UInt8) (w : World) (hl : l.length ≤ 10000000) :
    Calls Tryz.prog 58 #[.string ⟨l.toArray⟩] w fun e w' => e = .returned (.string ⟨(spB l).toArray⟩) ∧ w = w' := by
  go_enter Tryz.func58, Tryz.ntmps58
  go_wp2_with fail
  go_loop [3, 4, 5] (fun s g i => ∃ k out wt, i = .int .i64 (k : Nat) ∧ s = .string ⟨out.toArray⟩ ∧ g = .bool wt ∧ SrAt l k out wt) (fun _ _ i => l.length - (intOf i).toNat)
  case atStart => exact ⟨0, [], false, rfl, rfl, rfl, Nat.zero_le _, rfl, Nat.zero_le _⟩
  case round =>
    obtain ⟨k, out, wt, rfl, rfl, rfl, hc⟩ := hrel
    have hk := hc.le
    have hlen := hc.len
    by_cases hlt : k < l.length
    · by_cases hb : blankN (l.drop k) = 0
      · have hst := hc.sign hlt hb
        have htd := take_drop1 l k hlt
        have h1 : ((l.drop k).take 1).length = 1 := by rw [List.length_take, List.length_drop]; omega
        generalize (l.drop k).take 1 = x at hst htd h1
        clear hc
        cases wt
        · rw [Bool.and_false, if_neg (by decide), List.append_nil] at hst
          replace hst := Lib.hid hst
          go_wp2_with fail
          refine (refblank_any l k _ hlt hl).mono ?_; rintro e w' ⟨rfl, rfl⟩; rw [hb]
          replace hb := Lib.hid hb
          go_wp2_with fail
          exact ⟨⟨k + 1, out ++ x, false, by go_num, by first | rfl | (rw [htd]), rfl, hst.out⟩, by simp [intOf]; omega⟩
        · by_cases ho : out = []
          · subst ho
            simp only [ne_eq, not_true_eq_false, decide_false, Bool.false_and, Bool.false_eq_true, if_false, List.append_nil, List.nil_append] at hst
            replace hst := Lib.hid hst
            go_wp2_with fail
            refine (refblank_any l k _ hlt hl).mono ?_; rintro e w' ⟨rfl, rfl⟩; rw [hb]
            replace hb := Lib.hid hb
            go_wp2_with fail
            exact ⟨⟨k + 1, x, false, by go_num, by first | rfl | (rw [htd]) | simp [htd], rfl, hst.out⟩, by simp [intOf]; omega⟩
          · have he : out.isEmpty = false := by cases out <;> simp_all
            rw [decide_eq_true ho, Bool.true_and, if_pos rfl] at hst
            replace hst := Lib.hid hst
            replace ho := Lib.hid ho
            go_wp2_with fail
            refine (refblank_any l k _ hlt hl).mono ?_; rintro e w' ⟨rfl, rfl⟩; rw [hb]
            replace hb := Lib.hid hb
            go_wp2_with fail
            exact ⟨⟨k + 1, out ++ [32] ++ x, false, by go_num, by simp, rfl, hst.out⟩, by simp [intOf]; omega⟩
      · have hst := hc.blank hlt hb
        have hbl := blankN_le (l.drop k)
        rw [List.length_drop] at hbl
        obtain ⟨n, hn⟩ : ∃ n, blankN (l.drop k) = n := ⟨_, rfl⟩
        rw [hn] at hb hst hbl
        have hb1 : 1 ≤ n := by omega
        clear hb hc
        replace hst := Lib.hid hst
        replace hn := Lib.hid hn
        go_wp2_with fail
        refine (refblank_any l k _ hlt hl).mono ?_; rintro e w' ⟨rfl, rfl⟩; rw [hn.out]
        go_wp2_with fail
        exact ⟨⟨k + n, out, true, by go_num, rfl, rfl, hst.out⟩, by simp [intOf]; omega⟩
    · have hke : ¬ ((k : Int) < l.length) := by omega
      have hq : out = spB l := by
        have := hc.eq
        rw [List.drop_eq_nil_of_le (by omega), spT_nil, List.append_nil] at this
        exact this
      replace hq := Lib.hid hq
      clear hc
      go_wp2_with fail
      go_ret
      exact ⟨ret_str hq.out, rfl⟩
end Go.Proofs.YtfmlgfeldlnlgaaGreatDoor
