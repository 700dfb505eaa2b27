/- Layer 21: the writer: answers; numbers, texts, commands, states, answers as bytes. -/
import Derived.Test.YtpfcamebkcengaaD21d
import Derived.Test.YtpfcamebkcengaaD21e
namespace Go.Proofs.Ytpfcamebkcengaa
open Go.RowKit

/-- An answer, with where its slices lie. -/
structure An21 where
  code : Int
  new : Int
  epoch : Int
  clusters : List Cl21
  entries : List En21
  cursor : List UInt8
  n0 : Int
  n1 : Int
  n2 : Int
  n3 : Int
  n4 : Int
  ca : Option Addr
  cc : Nat
  ea : Option Addr
  ec : Nat
def anC (a : An21) : List Value := [.int .i64 a.code, .int .i64 a.new, .int .i64 a.epoch, .slice a.ca a.clusters.length a.cc, .slice a.ea a.entries.length a.ec, .string ⟨a.cursor.toArray⟩, .int .i64 a.n0, .int .i64 a.n1, .int .i64 a.n2, .int .i64 a.n3, .int .i64 a.n4]
def anV (a : An21) : Value := .agg (anC a).toArray
def rest21 (a : An21) : List UInt8 := int21 a.new ++ (int21 a.epoch ++ ((int21 a.clusters.length ++ a.clusters.flatMap cl21) ++ ((int21 a.entries.length ++ a.entries.flatMap ent21) ++ (text21 a.cursor ++ [a.n0, a.n1, a.n2, a.n3, a.n4].flatMap int21))))
def ans21 (a : An21) : List UInt8 := int21 a.code ++ if a.code = 0 then rest21 a else []
structure AnBd (w : World) (B : Nat) (a : An21) : Prop where
  c1 : -9223372036854775808 ≤ a.code
  c2 : a.code ≤ 9223372036854775807
  new1 : -9223372036854775808 ≤ a.new
  new2 : a.new ≤ 9223372036854775807
  ep1 : -9223372036854775808 ≤ a.epoch
  ep2 : a.epoch ≤ 9223372036854775807
  cs : SlOf 7 clC w (.slice a.ca a.clusters.length a.cc) a.clusters
  cl : SlBelow B (.slice a.ca a.clusters.length a.cc)
  cn : a.clusters.length ≤ 9223372036854775807
  cb : ∀ y ∈ a.clusters, ClBd w B y
  es : SlOf 7 enC w (.slice a.ea a.entries.length a.ec) a.entries
  el : SlBelow B (.slice a.ea a.entries.length a.ec)
  en : a.entries.length ≤ 9223372036854775807
  eb : ∀ y ∈ a.entries, EnBd y
  cu : a.cursor.length ≤ 9223372036854775807
  cnt : ∀ n ∈ [a.n0, a.n1, a.n2, a.n3, a.n4], -9223372036854775808 ≤ n ∧ n ≤ 9223372036854775807

theorem run_index5 {w : World} (cs : Array Value) (i : Nat) (v : Value) (hi : i < 5) (hv : cs[i]? = some v) :
    (Instr.index 55 (.agg cs) (.int .i64 i)).run Try.prog w = .ok v w := by
  simp [Instr.index, Try.sizeOf3, Try.isAgg3, part, asIntOf, hi, hv, go_sem]

set_option maxHeartbeats 4000000 in
set_option maxRecDepth 100000 in
theorem wr_answer {w : World} {B b : Nat} {l : List UInt8} {o : Option Nat} (h : WrAt w B b l o) (a : An21) (hx : AnBd w B a) (hlen : l.length + (ans21 a).length ≤ 140737488355328) :
    Calls Try.prog 48 #[.pointer (some ⟨b, 0, none⟩), anV a] w (WrPost w B b o (l ++ ans21 a) (.tuple #[])) := by
  obtain ⟨O, hO⟩ : ∃ O, l ++ ans21 a = O := ⟨_, rfl⟩
  rw [hO]
  unfold ans21 at hO hlen
  have hW0 := Lib.hid h
  have hM0 := Lib.hid (wrM_begin h 57 (anC a))
  have hn0 := Lib.hid (wr_number hM0.out.its a.code hx.c1 hx.c2 (by rw [List.length_append] at hlen; omega))
  by_cases h0 : a.code = 0
  · rw [if_pos h0] at hO hlen
    unfold rest21 at hO hlen
    simp only [List.length_append] at hlen
    obtain ⟨co, ne, ep, cs, es, cu, n0, n1, n2, n3, n4, ca, cc, ea, ec⟩ := a
    obtain ⟨z1, z2, x1, x2, x3, x4, x5, x6, x7, x8, x9, x10, x11, x12, x13, x14⟩ := hx
    unfold anV
    unfold anC at hM0 hn0 ⊢
    simp only at *
    subst h0
    replace x5 := Lib.hid x5
    replace x6 := Lib.hid x6
    replace x8 := Lib.hid x8
    replace x9 := Lib.hid x9
    replace x10 := Lib.hid x10
    replace x12 := Lib.hid x12
    replace x14 := Lib.hid x14
    replace hO := Lib.hid hO
    have c0 := hM0.out.cell 0
    simp only [List.getElem?_cons_zero] at c0
    clear h
    go_enter Try.func48, Try.ntmps48
    go_wp2_with fail
    refine hn0.out.mono ?_
    rintro e w1 ⟨rfl, o1, k1, k2⟩
    have hM1 := Lib.hid (hM0.out.step k1 k2)
    have hn1 := Lib.hid (wr_number k1 ne x1 x2 (by simp only [List.length_append] at *; omega))
    clear k1 k2 hM0 hn0 c0
    have c0 := hM1.out.cell 0
    have c1 := hM1.out.cell 1
    simp only [List.getElem?_cons_zero, List.getElem?_cons_succ] at c0 c1
    go_wp2_with fail
    refine hn1.out.mono ?_
    rintro e w2 ⟨rfl, o2, k1, k2⟩
    have hM2 := Lib.hid (hM1.out.step k1 k2)
    have hn2 := Lib.hid (wr_number k1 ep x3 x4 (by simp only [List.length_append] at *; omega))
    have d2 := hM2.out.cell 2
    simp only [List.getElem?_cons_zero, List.getElem?_cons_succ] at d2
    clear k1 k2 hM1 hn1 c0 c1
    go_wp2_with fail
    refine hn2.out.mono ?_
    rintro e w3 ⟨rfl, o3, k1, k2⟩
    have hM3 := Lib.hid (hM2.out.step k1 k2)
    have hn3 := Lib.hid (wr_clusters k1 (.slice ca cs.length cc) cs (x5.out.low x6.out (Wr.below hM3.out.wr hW0.out)) x6.out x7 (fun y hy => (x8.out y hy).next (Wr.below hM3.out.wr hW0.out)) (by simp only [List.length_append] at *; omega))
    have d3 := hM3.out.cell 3
    simp only [List.getElem?_cons_zero, List.getElem?_cons_succ] at d3
    clear k1 k2 hM2 hn2 d2
    go_wp2_with fail
    refine hn3.out.mono ?_
    rintro e w4 ⟨rfl, o4, k1, k2⟩
    have hM4 := Lib.hid (hM3.out.step k1 k2)
    have hn4 := Lib.hid (wr_entries k1 (.slice ea es.length ec) es (x9.out.low x10.out (Wr.below hM4.out.wr hW0.out)) x10.out x11 x12.out (by simp only [List.length_append] at *; omega))
    have d4 := hM4.out.cell 4
    simp only [List.getElem?_cons_zero, List.getElem?_cons_succ] at d4
    clear k1 k2 hM3 hn3 d3
    go_wp2_with fail
    refine hn4.out.mono ?_
    rintro e w5 ⟨rfl, o5, k1, k2⟩
    have hM5 := Lib.hid (hM4.out.step k1 k2)
    have hn5 := Lib.hid (wr_txt k1 cu x13 (by simp only [List.length_append] at *; omega))
    have d5 := hM5.out.cell 5
    simp only [List.getElem?_cons_zero, List.getElem?_cons_succ] at d5
    clear k1 k2 hM4 hn4 d4
    go_wp2_with fail
    refine hn5.out.mono ?_
    rintro e w6 ⟨rfl, o6, k1, k2⟩
    have hM6 := Lib.hid (hM5.out.step k1 k2)
    clear k1 k2 hM5 hn5 d5
    have hcell := fun i => hM6.out.cell i
    have c6 := hcell 6
    have c7 := hcell 7
    have c8 := hcell 8
    have c9 := hcell 9
    have c10 := hcell 10
    simp only [List.getElem?_cons_zero, List.getElem?_cons_succ] at c6 c7 c8 c9 c10
    clear hcell
    obtain ⟨P, hP⟩ : ∃ P, l ++ int21 0 ++ int21 ne ++ int21 ep ++ (int21 cs.length ++ cs.flatMap cl21) ++ (int21 es.length ++ es.flatMap ent21) ++ text21 cu = P := ⟨_, rfl⟩
    have hPl := congrArg List.length hP
    simp only [List.length_append] at hPl
    have hO2 := Lib.hid (show P ++ [n0, n1, n2, n3, n4].flatMap int21 = O by rw [← hO.out, ← hP]; simp only [List.append_assoc])
    have hst : Hid (∃ o', WrAt w6 B b (P ++ ([n0, n1, n2, n3, n4].take 0).flatMap int21) o' ∧ Wr w w6 b o o') := Lib.hid (by have := hM6.out.post; rw [hP] at this; rw [List.take_zero, List.flatMap_nil, List.append_nil]; exact this)
    have hPm : P.length + ([n0, n1, n2, n3, n4].flatMap int21).length ≤ 140737488355328 := by omega
    clear hPl hP hlen hM6
    go_wp2_with fail
    go_loopw [39] (fun i wr => ∃ j : Nat, i = .int .i64 (j : Int) ∧ j ≤ 5 ∧ Hid (∃ o', WrAt wr B b (P ++ ([n0, n1, n2, n3, n4].take j).flatMap int21) o' ∧ Wr w wr b o o')) (fun i _ => 5 - (intOf i).toNat)
    case atStart => exact ⟨0, rfl, Nat.zero_le _, hst⟩
    case round =>
      obtain ⟨j, rfl, hj, hr⟩ := hrel
      clear hst
      by_cases hlt : j < 5
      · obtain ⟨ow, hr1, hr2⟩ := hr.out
        obtain ⟨ht1, ht2⟩ := flat_step int21 [n0, n1, n2, n3, n4] j hlt
        have hnb := x14.out _ (List.getElem_mem (l := [n0, n1, n2, n3, n4]) hlt)
        have hc1 := Lib.hid (wr_number hr1 _ hnb.1 hnb.2 (by rw [List.length_append]; omega))
        have hnx := Lib.hid (show P ++ ([n0, n1, n2, n3, n4].take j).flatMap int21 ++ int21 ([n0, n1, n2, n3, n4][j]'hlt) = P ++ ([n0, n1, n2, n3, n4].take (j + 1)).flatMap int21 by rw [ht1, List.append_assoc])
        replace hr2 := Lib.hid hr2
        clear hr hr1 ht1 ht2 hnb c6 c7 c8 c9 c10
        have hix : ∀ W, (Instr.index 55 (.agg #[.int .i64 n0, .int .i64 n1, .int .i64 n2, .int .i64 n3, .int .i64 n4]) (.int .i64 (j : Int))).run Try.prog W = .ok (.int .i64 ([n0, n1, n2, n3, n4][j]'hlt)) W := fun W => run_index5 _ j _ hlt (by
          obtain rfl | rfl | rfl | rfl | rfl : j = 0 ∨ j = 1 ∨ j = 2 ∨ j = 3 ∨ j = 4 := by omega
          all_goals rfl)
        generalize [n0, n1, n2, n3, n4][j]'hlt = x at hix hc1 hnx
        go_wp2_with fail
        refine hc1.out.mono ?_
        rintro e w2 ⟨rfl, o2, k1, k2⟩
        replace k1 := Lib.hid k1
        replace k2 := Lib.hid k2
        clear hc1 hix
        go_wp2_with fail
        exact ⟨⟨j + 1, rfl, by omega, Lib.hid ⟨o2, hnx.out ▸ k1.out, hr2.out.trans k2.out⟩⟩, by simp [intOf]; omega⟩
      · have h5 : j = 5 := by omega
        subst h5
        have hq : Hid (∃ o', WrAt wr B b O o' ∧ Wr w wr b o o') := Lib.hid (by have := hr.out; rw [List.take_of_length_le (by simp)] at this; rwa [hO2.out] at this)
        clear hr
        go_wp2_with fail
        go_end0
        exact ⟨rfl, hq.out⟩
  · rw [if_neg h0, List.append_nil] at hO hlen
    have h0' := h0
    obtain ⟨co, ne, ep, cs, es, cu, n0, n1, n2, n3, n4, ca, cc, ea, ec⟩ := a
    unfold anV
    unfold anC at hM0 hn0 ⊢
    simp only at *
    have q0 : (co == 0) = false := by simpa using h0
    have c0 := hM0.out.cell 0
    simp only [List.getElem?_cons_zero] at c0
    replace hO := Lib.hid hO
    clear h hx h0 h0'
    go_enter Try.func48, Try.ntmps48
    go_wp2_with fail
    refine hn0.out.mono ?_
    rintro e w1 ⟨rfl, o1, k1, k2⟩
    have hM1 := Lib.hid (hM0.out.step k1 k2)
    clear k1 k2 hM0 hn0 c0
    have c0 := hM1.out.cell 0
    simp only [List.getElem?_cons_zero] at c0
    go_wp2_with fail
    go_end0
    refine ⟨rfl, ?_⟩
    rw [← hO.out]
    exact hM1.out.post

theorem int_ne (n : Int) : int21 n ≠ [] := by
  intro h
  have := var_len_pos (zig21 n)
  unfold int21 at h
  rw [h] at this
  simp at this
theorem text_ne (s : List UInt8) : text21 s ≠ [] := by unfold text21; exact List.append_ne_nil_of_left_ne_nil (int_ne _) _
theorem state_ne (x : St21) : state21 x ≠ [] := by unfold state21; exact List.append_ne_nil_of_left_ne_nil (int_ne _) _
theorem ans_ne (a : An21) : ans21 a ≠ [] := by unfold ans21; exact List.append_ne_nil_of_left_ne_nil (int_ne _) _
theorem SvBd.raise {w : World} {B B' : Nat} {x : Sv21} (h : SvBd w B x) (hb : B ≤ B') : SvBd w B' x := { h with fl := h.fl.mono hb, el := h.el.mono hb, rl := h.rl.mono hb }
theorem AnBd.raise {w : World} {B B' : Nat} {x : An21} (h : AnBd w B x) (hb : B ≤ B') : AnBd w B' x := { h with cl := h.cl.mono hb, cb := fun y hy => { h.cb y hy with low := (h.cb y hy).low.mono hb }, el := h.el.mono hb }
theorem SvBd.next {w w' : World} {B : Nat} {x : Sv21} (h : SvBd w B x) (hb : Below B w w') : SvBd w' B x := { h with fs := h.fs.low h.fl hb, es := h.es.low h.el hb, rs := h.rs.low h.rl hb }
theorem AnBd.next {w w' : World} {B : Nat} {x : An21} (h : AnBd w B x) (hb : Below B w w') : AnBd w' B x := { h with cs := h.cs.low h.cl hb, cb := fun y hy => (h.cb y hy).next hb, es := h.es.low h.el hb }

set_option maxHeartbeats 1000000 in
set_option maxRecDepth 100000 in
theorem int21_any (w : World) (n : Int) (h1 : -9223372036854775808 ≤ n) (h2 : n ≤ 9223372036854775807) (hlen : (int21 n).length ≤ 140737488355328) :
    Calls Try.prog 16 #[.int .i64 n] w fun e w' => e = .returned (.string ⟨(int21 n).toArray⟩) ∧ Below w.heap.size w w' := by
  have hbn := (Below.refl w.heap.size w).alloc (Nat.le_refl _) (.cells #[.pointer none, .slice none 0 0] 72)
  have hA := wrAt_new w
  have hc := Lib.hid (wr_number hA n h1 h2 (by simpa using hlen))
  have hn := Lib.hid (show int21 n ≠ [] from int_ne n)
  replace hA := Lib.hid hA
  have hbb := Lib.hid hbn
  have hBs := Lib.hid (Nat.le_refl w.heap.size)
  rw [List.nil_append] at hc
  obtain ⟨O, hO⟩ : ∃ O, int21 n = O := ⟨_, rfl⟩
  rw [hO] at hc hn ⊢
  clear hlen hO hbn
  clear h1 h2
  go_enter Try.func16, Try.ntmps16
  go_wp2_with fail
  refine hc.out.mono ?_
  rintro e w1 ⟨rfl, o1, k1, k2⟩
  have hk := Lib.hid (wr_text k1 hn.out)
  have hb1 := Lib.hid (hbb.out.trans ((Wr.below k2 hA.out).mono hBs.out))
  clear k1 k2 hc hA hbb
  go_wp2_with fail
  refine hk.out.mono ?_
  rintro e w2 ⟨rfl, hb2⟩
  replace hb2 := Lib.hid hb2
  go_wp2_with fail
  go_ret
  exact ⟨rfl, hb1.out.trans (hb2.out.mono hBs.out)⟩

set_option maxHeartbeats 1000000 in
set_option maxRecDepth 100000 in
theorem text21_any (w : World) (s : List UInt8) (hs : s.length ≤ 9223372036854775807) (hlen : (text21 s).length ≤ 140737488355328) :
    Calls Try.prog 18 #[.string ⟨s.toArray⟩] w fun e w' => e = .returned (.string ⟨(text21 s).toArray⟩) ∧ Below w.heap.size w w' := by
  have hbn := (Below.refl w.heap.size w).alloc (Nat.le_refl _) (.cells #[.pointer none, .slice none 0 0] 72)
  have hA := wrAt_new w
  have hc := Lib.hid (wr_txt hA s hs (by simpa using hlen))
  have hn := Lib.hid (show text21 s ≠ [] from text_ne s)
  replace hA := Lib.hid hA
  have hbb := Lib.hid hbn
  have hBs := Lib.hid (Nat.le_refl w.heap.size)
  rw [List.nil_append] at hc
  obtain ⟨O, hO⟩ : ∃ O, text21 s = O := ⟨_, rfl⟩
  rw [hO] at hc hn ⊢
  clear hlen hO hbn
  go_enter Try.func18, Try.ntmps18
  go_wp2_with fail
  refine hc.out.mono ?_
  rintro e w1 ⟨rfl, o1, k1, k2⟩
  have hk := Lib.hid (wr_text k1 hn.out)
  have hb1 := Lib.hid (hbb.out.trans ((Wr.below k2 hA.out).mono hBs.out))
  clear k1 k2 hc hA hbb
  go_wp2_with fail
  refine hk.out.mono ?_
  rintro e w2 ⟨rfl, hb2⟩
  replace hb2 := Lib.hid hb2
  go_wp2_with fail
  go_ret
  exact ⟨rfl, hb1.out.trans (hb2.out.mono hBs.out)⟩

set_option maxHeartbeats 1000000 in
set_option maxRecDepth 100000 in
theorem cmd21_any (w : World) (c : Cm21) (hcb : CmBd c) (hlen : (cmd21 c).length ≤ 140737488355328) :
    Calls Try.prog 22 #[cmV c] w fun e w' => e = .returned (.string ⟨(cmd21 c).toArray⟩) ∧ Below w.heap.size w w' := by
  have hb0 := (Below.refl w.heap.size w).alloc (Nat.le_refl _) (.cells (cmC c).toArray 32)
  have hbn := (Below.refl (w.alloc (.cells (cmC c).toArray 32)).heap.size (w.alloc (.cells (cmC c).toArray 32))).alloc (Nat.le_refl _) (.cells #[.pointer none, .slice none 0 0] 72)
  have hA := wrAt_new (w.alloc (.cells (cmC c).toArray 32))
  have hK := (arrAt_new w 32 (cmC c)).next hbn
  have hc := Lib.hid (wr_command hA c hcb (by simpa using hlen))
  have hbb := Lib.hid (hb0.trans (hbn.mono hb0.size))
  have e1 : (w.alloc (.cells (cmC c).toArray 32)).heap.size = w.heap.size + 1 := by simp
  rw [e1] at hc hA
  have hBs := Nat.le_succ w.heap.size
  have hn := Lib.hid (show cmd21 c ≠ [] from by unfold cmd21; simp)
  obtain ⟨O, hO⟩ : ∃ O, cmd21 c = O := ⟨_, rfl⟩
  rw [List.nil_append, hO] at hc
  rw [hO] at hn ⊢
  have hcell := fun i => hK.cell i
  have c0 := hcell 0
  have c1 := hcell 1
  have c2 := hcell 2
  have c3 := hcell 3
  have c4 := hcell 4
  have c5 := hcell 5
  have c6 := hcell 6
  unfold cmV cmC
  unfold cmV at hc
  unfold cmC at hc hA hbb hbn c0 c1 c2 c3 c4 c5 c6
  simp only [List.getElem?_cons_zero, List.getElem?_cons_succ] at c0 c1 c2 c3 c4 c5 c6
  replace hA := Lib.hid hA
  replace hbn := Lib.hid hbn
  replace hBs := Lib.hid hBs
  clear hlen hO hK hcell hb0 e1
  go_enter Try.func22, Try.ntmps22
  go_wp2_with fail
  refine hc.out.mono ?_
  rintro e w1 ⟨rfl, o1, k1, k2⟩
  have hk := Lib.hid (wr_text k1 hn.out)
  have hb1 := Lib.hid (hbb.out.trans ((Wr.below k2 hA.out).mono hBs.out))
  clear k1 k2 hc hA hbb c0 c1 c2 c3 c4 c5 c6
  go_wp2_with fail
  refine hk.out.mono ?_
  rintro e w2 ⟨rfl, hb2⟩
  replace hb2 := Lib.hid hb2
  go_wp2_with fail
  go_ret
  exact ⟨rfl, hb1.out.trans (hb2.out.mono hBs.out)⟩

set_option maxHeartbeats 1000000 in
set_option maxRecDepth 100000 in
theorem state21_any (w : World) (x : Sv21) (hx : SvBd w w.heap.size x) (hlen : (state21 x.st).length ≤ 140737488355328) :
    Calls Try.prog 27 #[svV x] w fun e w' => e = .returned (.string ⟨(state21 x.st).toArray⟩) ∧ Below w.heap.size w w' := by
  have hb0 := (Below.refl w.heap.size w).alloc (Nat.le_refl _) (.cells (svC x).toArray 43)
  have hbn := (Below.refl (w.alloc (.cells (svC x).toArray 43)).heap.size (w.alloc (.cells (svC x).toArray 43))).alloc (Nat.le_refl _) (.cells #[.pointer none, .slice none 0 0] 72)
  have hA := wrAt_new (w.alloc (.cells (svC x).toArray 43))
  have hK := (arrAt_new w 43 (svC x)).next hbn
  have hc := Lib.hid (wr_state hA x ((hx.next (hb0.trans (hbn.mono hb0.size))).raise hb0.size) (by simpa using hlen))
  have hbb := Lib.hid (hb0.trans (hbn.mono hb0.size))
  have e1 : (w.alloc (.cells (svC x).toArray 43)).heap.size = w.heap.size + 1 := by simp
  rw [e1] at hc hA
  have hBs := Nat.le_succ w.heap.size
  have hn := Lib.hid (show state21 x.st ≠ [] from state_ne x.st)
  obtain ⟨O, hO⟩ : ∃ O, state21 x.st = O := ⟨_, rfl⟩
  rw [List.nil_append, hO] at hc
  rw [hO] at hn ⊢
  have hcell := fun i => hK.cell i
  have c0 := hcell 0
  have c1 := hcell 1
  have c2 := hcell 2
  have c3 := hcell 3
  have c4 := hcell 4
  have c5 := hcell 5
  unfold svV svC
  unfold svV at hc
  unfold svC at hc hA hbb hbn c0 c1 c2 c3 c4 c5
  simp only [List.getElem?_cons_zero, List.getElem?_cons_succ] at c0 c1 c2 c3 c4 c5
  replace hA := Lib.hid hA
  replace hbn := Lib.hid hbn
  replace hBs := Lib.hid hBs
  clear hlen hO hK hcell hb0 e1
  go_enter Try.func27, Try.ntmps27
  go_wp2_with fail
  refine hc.out.mono ?_
  rintro e w1 ⟨rfl, o1, k1, k2⟩
  have hk := Lib.hid (wr_text k1 hn.out)
  have hb1 := Lib.hid (hbb.out.trans ((Wr.below k2 hA.out).mono hBs.out))
  clear k1 k2 hc hA hbb c0 c1 c2 c3 c4 c5
  go_wp2_with fail
  refine hk.out.mono ?_
  rintro e w2 ⟨rfl, hb2⟩
  replace hb2 := Lib.hid hb2
  go_wp2_with fail
  go_ret
  exact ⟨rfl, hb1.out.trans (hb2.out.mono hBs.out)⟩

set_option maxHeartbeats 1000000 in
set_option maxRecDepth 100000 in
theorem ans21_any (w : World) (a : An21) (hx : AnBd w w.heap.size a) (hlen : (ans21 a).length ≤ 140737488355328) :
    Calls Try.prog 30 #[anV a] w fun e w' => e = .returned (.string ⟨(ans21 a).toArray⟩) ∧ Below w.heap.size w w' := by
  have hb0 := (Below.refl w.heap.size w).alloc (Nat.le_refl _) (.cells (anC a).toArray 57)
  have hbn := (Below.refl (w.alloc (.cells (anC a).toArray 57)).heap.size (w.alloc (.cells (anC a).toArray 57))).alloc (Nat.le_refl _) (.cells #[.pointer none, .slice none 0 0] 72)
  have hA := wrAt_new (w.alloc (.cells (anC a).toArray 57))
  have hK := (arrAt_new w 57 (anC a)).next hbn
  have hc := Lib.hid (wr_answer hA a ((hx.next (hb0.trans (hbn.mono hb0.size))).raise hb0.size) (by simpa using hlen))
  have hbb := Lib.hid (hb0.trans (hbn.mono hb0.size))
  have e1 : (w.alloc (.cells (anC a).toArray 57)).heap.size = w.heap.size + 1 := by simp
  rw [e1] at hc hA
  have hBs := Nat.le_succ w.heap.size
  have hn := Lib.hid (show ans21 a ≠ [] from ans_ne a)
  obtain ⟨O, hO⟩ : ∃ O, ans21 a = O := ⟨_, rfl⟩
  rw [List.nil_append, hO] at hc
  rw [hO] at hn ⊢
  have hcell := fun i => hK.cell i
  have c0 := hcell 0
  have c1 := hcell 1
  have c2 := hcell 2
  have c3 := hcell 3
  have c4 := hcell 4
  have c5 := hcell 5
  have c6 := hcell 6
  have c7 := hcell 7
  have c8 := hcell 8
  have c9 := hcell 9
  have c10 := hcell 10
  unfold anV anC
  unfold anV at hc
  unfold anC at hc hA hbb hbn c0 c1 c2 c3 c4 c5 c6 c7 c8 c9 c10
  simp only [List.getElem?_cons_zero, List.getElem?_cons_succ] at c0 c1 c2 c3 c4 c5 c6 c7 c8 c9 c10
  replace hA := Lib.hid hA
  replace hbn := Lib.hid hbn
  replace hBs := Lib.hid hBs
  clear hlen hO hK hcell hb0 e1
  go_enter Try.func30, Try.ntmps30
  go_wp2_with fail
  refine hc.out.mono ?_
  rintro e w1 ⟨rfl, o1, k1, k2⟩
  have hk := Lib.hid (wr_text k1 hn.out)
  have hb1 := Lib.hid (hbb.out.trans ((Wr.below k2 hA.out).mono hBs.out))
  clear k1 k2 hc hA hbb c0 c1 c2 c3 c4 c5 c6 c7 c8 c9 c10
  go_wp2_with fail
  refine hk.out.mono ?_
  rintro e w2 ⟨rfl, hb2⟩
  replace hb2 := Lib.hid hb2
  go_wp2_with fail
  go_ret
  exact ⟨rfl, hb1.out.trans (hb2.out.mono hBs.out)⟩
end Go.Proofs.Ytpfcamebkcengaa
