/- Layer 21: the writer: clusters, states. -/
import Derived.Test.YtpfcamebkcengaaD21c
namespace Go.Proofs.Ytpfcamebkcengaa
open Go.RowKit

/-- A cluster; its members' slice lies at ma, with room for mc. -/
structure Cl21 where
  rep : Ky21
  members : List Ky21
  feeds : Int
  newest : Int
  score : Int
  read : Bool
  ma : Option Addr
  mc : Nat
def clC (x : Cl21) : List Value := [.string ⟨x.rep.feed.toArray⟩, .string ⟨x.rep.guid.toArray⟩, .slice x.ma x.members.length x.mc, .int .i64 x.feeds, .int .i64 x.newest, .int .i64 x.score, .bool x.read]
def clV (x : Cl21) : Value := .agg (clC x).toArray
theorem clC_len (x : Cl21) : (clC x).length = 7 := rfl
def cl21 (x : Cl21) : List UInt8 := key21 x.rep ++ ((int21 x.members.length ++ x.members.flatMap key21) ++ (int21 x.feeds ++ (int21 x.newest ++ (int21 x.score ++ truth21 x.read))))
structure ClBd (w : World) (B : Nat) (x : Cl21) : Prop where
  key : KyBd x.rep
  sl : SlOf 2 kyC w (.slice x.ma x.members.length x.mc) x.members
  low : SlBelow B (.slice x.ma x.members.length x.mc)
  few : x.members.length ≤ 9223372036854775807
  all : ∀ k ∈ x.members, KyBd k
  f1 : -9223372036854775808 ≤ x.feeds
  f2 : x.feeds ≤ 9223372036854775807
  n1 : -9223372036854775808 ≤ x.newest
  n2 : x.newest ≤ 9223372036854775807
  s1 : -9223372036854775808 ≤ x.score
  s2 : x.score ≤ 9223372036854775807
theorem ClBd.next {w w' : World} {B : Nat} {x : Cl21} (h : ClBd w B x) (hb : Below B w w') : ClBd w' B x := { h with sl := h.sl.low h.low hb }

set_option maxHeartbeats 2000000 in
set_option maxRecDepth 100000 in
theorem wr_cluster {w : World} {B b : Nat} {l : List UInt8} {o : Option Nat} (h : WrAt w B b l o) (x : Cl21) (hx : ClBd w B x) (hlen : l.length + (cl21 x).length ≤ 140737488355328) :
    Calls Try.prog 70 #[.pointer (some ⟨b, 0, none⟩), clV x] w (WrPost w B b o (l ++ cl21 x) (.tuple #[])) := by
  unfold cl21 at *
  simp only [List.length_append] at hlen
  have hW0 := Lib.hid h
  have hM0 := Lib.hid (wrM_begin h 59 (clC x))
  have hn0 := Lib.hid (wr_key hM0.out.its x.rep hx.key (by omega))
  obtain ⟨⟨f, g⟩, ms, fe, ne, sc, rd, ma, mc⟩ := x
  unfold clV
  unfold clC at hM0 hn0 ⊢
  unfold kyV kyC at hn0
  simp only at *
  obtain ⟨x1, x2, x3, x4, x5, x6, x7, x8, x9, x10, x11⟩ := hx
  simp only at *
  replace x2 := Lib.hid x2
  replace x3 := Lib.hid x3
  replace x5 := Lib.hid x5
  have hcell := fun i => hM0.out.cell i
  have c0 := hcell 0
  have c1 := hcell 1
  simp only [List.getElem?_cons_zero, List.getElem?_cons_succ] at c0 c1
  clear hcell
  clear h
  go_enter Try.func70, Try.ntmps70
  go_wp2_with fail
  refine hn0.out.mono ?_
  rintro e w1 ⟨rfl, o1, k1, k2⟩
  have hM1 := Lib.hid (hM0.out.step k1 k2)
  have hn1 := Lib.hid (wr_keys k1 (.slice ma ms.length mc) ms (x2.out.low x3.out (Wr.below hM1.out.wr hW0.out)) x3.out x4 x5.out (by simp only [List.length_append] at *; omega))
  have hcell := fun i => hM1.out.cell i
  have c2 := hcell 2
  simp only [List.getElem?_cons_zero, List.getElem?_cons_succ] at c2
  clear hcell
  clear k1 k2 hM0 hn0 c0 c1
  go_wp2_with fail
  refine hn1.out.mono ?_
  rintro e w2 ⟨rfl, o2, k1, k2⟩
  have hM2 := Lib.hid (hM1.out.step k1 k2)
  have hn2 := Lib.hid (wr_number k1 fe x6 x7 (by simp only [List.length_append] at *; omega))
  have hcell := fun i => hM2.out.cell i
  have c3 := hcell 3
  simp only [List.getElem?_cons_zero, List.getElem?_cons_succ] at c3
  clear hcell
  clear k1 k2 hM1 hn1 c2
  go_wp2_with fail
  refine hn2.out.mono ?_
  rintro e w3 ⟨rfl, o3, k1, k2⟩
  have hM3 := Lib.hid (hM2.out.step k1 k2)
  have hn3 := Lib.hid (wr_number k1 ne x8 x9 (by simp only [List.length_append] at *; omega))
  have hcell := fun i => hM3.out.cell i
  have c4 := hcell 4
  simp only [List.getElem?_cons_zero, List.getElem?_cons_succ] at c4
  clear hcell
  clear k1 k2 hM2 hn2 c3
  go_wp2_with fail
  refine hn3.out.mono ?_
  rintro e w4 ⟨rfl, o4, k1, k2⟩
  have hM4 := Lib.hid (hM3.out.step k1 k2)
  have hn4 := Lib.hid (wr_number k1 sc x10 x11 (by simp only [List.length_append] at *; omega))
  have hcell := fun i => hM4.out.cell i
  have c5 := hcell 5
  simp only [List.getElem?_cons_zero, List.getElem?_cons_succ] at c5
  clear hcell
  clear k1 k2 hM3 hn3 c4
  go_wp2_with fail
  refine hn4.out.mono ?_
  rintro e w5 ⟨rfl, o5, k1, k2⟩
  have hM5 := Lib.hid (hM4.out.step k1 k2)
  have hn5 := Lib.hid (wr_truth k1 rd (by simp only [List.length_append] at *; omega))
  have hcell := fun i => hM5.out.cell i
  have c6 := hcell 6
  simp only [List.getElem?_cons_zero, List.getElem?_cons_succ] at c6
  clear hcell
  clear k1 k2 hM4 hn4 c5
  go_wp2_with fail
  refine hn5.out.mono ?_
  rintro e w6 ⟨rfl, o6, k1, k2⟩
  have hM6 := Lib.hid (hM5.out.step k1 k2)
  clear k1 k2 hM5 hn5 c6
  go_wp2_with fail
  go_end0
  exact ⟨rfl, by simpa only [List.append_assoc] using hM6.out.post⟩

set_option maxHeartbeats 4000000 in
set_option maxRecDepth 100000 in
theorem wr_clusters {w : World} {B b : Nat} {l : List UInt8} {o : Option Nat} (h : WrAt w B b l o) (v : Value) (L : List (Cl21)) (hv : SlOf 7 clC w v L) (hlow : SlBelow B v) (hn : L.length ≤ 9223372036854775807) (hP : ∀ x ∈ L, (ClBd w B) x) (hlen : l.length + ((int21 L.length).length + (L.flatMap cl21).length) ≤ 140737488355328) :
    Calls Try.prog 69 #[.pointer (some ⟨b, 0, none⟩), v, .func (.func 70) #[.pointer (some ⟨b, 0, none⟩)] #[]] w (WrPost w B b o (l ++ (int21 L.length ++ L.flatMap cl21)) (.tuple #[])) := by
  have hb0 := h.base
  have hW0 := Lib.hid h
  have hc0 := Lib.hid (wr_number h L.length (by omega) (by omega) (by omega))
  obtain ⟨sa, sc, rfl⟩ := hv.form
  replace hv := Lib.hid hv
  replace hlow := Lib.hid hlow
  replace hP := Lib.hid hP
  clear h
  go_enter Try.func69, Try.ntmps69
  go_wp2_with fail
  refine hc0.out.mono ?_
  rintro e w1 ⟨rfl, o1, k1, k2⟩
  have hst : Hid (∃ o', WrAt w1 B b (l ++ (int21 L.length ++ (L.take 0).flatMap cl21)) o' ∧ Wr w w1 b o o') := Lib.hid ⟨o1, by rw [List.take_zero, List.flatMap_nil, List.append_nil]; exact k1, k2⟩
  clear k1 k2 hc0
  go_wp2_with fail
  go_loopw [14] (fun i wr => ∃ j : Nat, i = .int .i64 (j : Int) ∧ j ≤ L.length ∧ Hid (∃ o', WrAt wr B b (l ++ (int21 L.length ++ (L.take j).flatMap cl21)) o' ∧ Wr w wr b o o')) (fun i _ => L.length - (intOf i).toNat)
  case atStart => exact ⟨0, rfl, Nat.zero_le _, hst⟩
  case round =>
    obtain ⟨j, rfl, hj, hr⟩ := hrel
    by_cases hlt : j < L.length
    · have h0 : L ≠ [] := by intro e; rw [e] at hlt; simp at hlt
      obtain ⟨ow, hr1, hr2⟩ := hr.out
      obtain ⟨bk, off, cc, _, hblt, e, hc⟩ := ((hv.out.low hlow.out (Wr.below hr2 hW0.out)).some clC_len (by decide) h0)
      injection e with e1 e2 e3
      subst e1 e3
      clear e2
      have hjL : (j : Int) < L.length := by omega
      have c0 := hc j hlt 0 _ (by decide) rfl
      have c1 := hc j hlt 1 _ (by decide) rfl
      have c2 := hc j hlt 2 _ (by decide) rfl
      have c3 := hc j hlt 3 _ (by decide) rfl
      have c4 := hc j hlt 4 _ (by decide) rfl
      have c5 := hc j hlt 5 _ (by decide) rfl
      have c6 := hc j hlt 6 _ (by decide) rfl
      rw [Nat.add_zero] at c0
      have hx := hP.out _ (List.getElem_mem hlt)
      obtain ⟨ht1, ht2⟩ := flat_step cl21 L j hlt
      generalize L[j]'hlt = x at c0 c1 c2 c3 c4 c5 c6 hx ht1 ht2
      have hbn := (Below.refl wr.heap.size wr).alloc (Nat.le_refl _) (.cells (clC x).toArray 59)
      have hc1 := Lib.hid (wr_cluster (hr1.next hbn) x (hx.next ((Wr.below hr2 hW0.out).trans (hbn.mono (Nat.le_of_lt (Nat.lt_of_le_of_lt hb0 hr1.lt))))) (by simp only [List.length_append]; omega))
      have hnx := Lib.hid (show l ++ (int21 L.length ++ (L.take j).flatMap cl21) ++ cl21 x = l ++ (int21 L.length ++ (L.take (j + 1)).flatMap cl21) by rw [ht1]; simp only [List.append_assoc])
      replace hbn := Lib.hid hbn
      obtain ⟨⟨f, g⟩, ms, fe, ne, sc, rd, ma, mc⟩ := x
      unfold clV clC at hc1
      unfold clC at hbn
      try simp only at *
      replace hr2 := Lib.hid hr2
      clear hr hr1 hc ht1 ht2 h0 hx hst
      go_wp2_with fail
      refine hc1.out.mono ?_
      rintro e w2 ⟨rfl, o2, k1, k2⟩
      replace k1 := Lib.hid k1
      replace k2 := Lib.hid k2
      clear hc1
      go_wp2_with fail
      exact ⟨⟨j + 1, rfl, by omega, Lib.hid ⟨o2, hnx.out ▸ k1.out, (hr2.out.after hbn.out).trans k2.out⟩⟩, by simp [intOf]; omega⟩
    · have hq := hr.out
      rw [List.take_of_length_le (by omega)] at hq
      have hjL : ¬ ((j : Int) < L.length) := by omega
      replace hq := Lib.hid hq
      clear hr hst
      go_wp2_with fail
      go_end0
      exact ⟨rfl, hq.out⟩

/-- A state, with where its slices lie. -/
structure Sv21 where
  st : St21
  fa : Option Addr
  fc : Nat
  ea : Option Addr
  ec : Nat
  ra : Option Addr
  rc : Nat
def svC (x : Sv21) : List Value := [.slice x.fa x.st.feeds.length x.fc, .slice x.ea x.st.entries.length x.ec, .slice x.ra x.st.read.length x.rc, .int .i64 x.st.now, .int .i64 x.st.floor, .int .i64 x.st.epoch]
def svV (x : Sv21) : Value := .agg (svC x).toArray
structure SvBd (w : World) (B : Nat) (x : Sv21) : Prop where
  fs : SlOf 1 stC w (.slice x.fa x.st.feeds.length x.fc) x.st.feeds
  fl : SlBelow B (.slice x.fa x.st.feeds.length x.fc)
  fn : x.st.feeds.length ≤ 9223372036854775807
  fb : ∀ s ∈ x.st.feeds, s.length ≤ 9223372036854775807
  es : SlOf 7 enC w (.slice x.ea x.st.entries.length x.ec) x.st.entries
  el : SlBelow B (.slice x.ea x.st.entries.length x.ec)
  en : x.st.entries.length ≤ 9223372036854775807
  eb : ∀ y ∈ x.st.entries, EnBd y
  rs : SlOf 2 kyC w (.slice x.ra x.st.read.length x.rc) x.st.read
  rl : SlBelow B (.slice x.ra x.st.read.length x.rc)
  rn : x.st.read.length ≤ 9223372036854775807
  rb : ∀ k ∈ x.st.read, KyBd k
  n1 : -9223372036854775808 ≤ x.st.now
  n2 : x.st.now ≤ 9223372036854775807
  f1 : -9223372036854775808 ≤ x.st.floor
  f2 : x.st.floor ≤ 9223372036854775807
  p1 : -9223372036854775808 ≤ x.st.epoch
  p2 : x.st.epoch ≤ 9223372036854775807

set_option maxHeartbeats 2000000 in
set_option maxRecDepth 100000 in
theorem wr_state {w : World} {B b : Nat} {l : List UInt8} {o : Option Nat} (h : WrAt w B b l o) (x : Sv21) (hx : SvBd w B x) (hlen : l.length + (state21 x.st).length ≤ 140737488355328) :
    Calls Try.prog 45 #[.pointer (some ⟨b, 0, none⟩), svV x] w (WrPost w B b o (l ++ state21 x.st) (.tuple #[])) := by
  unfold state21 at *
  simp only [List.length_append] at hlen
  have hW0 := Lib.hid h
  have hM0 := Lib.hid (wrM_begin h 43 (svC x))
  have hn0 := Lib.hid (wr_number hM0.out.its x.st.now hx.n1 hx.n2 (by omega))
  obtain ⟨⟨no, fl, ep, fs, es, rs⟩, fa, fc, ea, ec, ra, rc⟩ := x
  unfold svV
  unfold svC at hM0 ⊢
  simp only at *
  obtain ⟨x1, x2, x3, x4, x5, x6, x7, x8, x9, x10, x11, x12, y1, y2, y3, y4, y5, y6⟩ := hx
  simp only at *
  replace x1 := Lib.hid x1
  replace x2 := Lib.hid x2
  replace x4 := Lib.hid x4
  replace x5 := Lib.hid x5
  replace x6 := Lib.hid x6
  replace x8 := Lib.hid x8
  replace x9 := Lib.hid x9
  replace x10 := Lib.hid x10
  replace x12 := Lib.hid x12
  have hcell := fun i => hM0.out.cell i
  have c3 := hcell 3
  simp only [List.getElem?_cons_zero, List.getElem?_cons_succ] at c3
  clear hcell
  clear h
  go_enter Try.func45, Try.ntmps45
  go_wp2_with fail
  refine hn0.out.mono ?_
  rintro e w1 ⟨rfl, o1, k1, k2⟩
  have hM1 := Lib.hid (hM0.out.step k1 k2)
  have hn1 := Lib.hid (wr_number k1 fl y3 y4 (by simp only [List.length_append] at *; omega))
  have hcell := fun i => hM1.out.cell i
  have c4 := hcell 4
  simp only [List.getElem?_cons_zero, List.getElem?_cons_succ] at c4
  clear hcell
  clear k1 k2 hM0 hn0 c3
  go_wp2_with fail
  refine hn1.out.mono ?_
  rintro e w2 ⟨rfl, o2, k1, k2⟩
  have hM2 := Lib.hid (hM1.out.step k1 k2)
  have hn2 := Lib.hid (wr_number k1 ep y5 y6 (by simp only [List.length_append] at *; omega))
  have hcell := fun i => hM2.out.cell i
  have c5 := hcell 5
  simp only [List.getElem?_cons_zero, List.getElem?_cons_succ] at c5
  clear hcell
  clear k1 k2 hM1 hn1 c4
  go_wp2_with fail
  refine hn2.out.mono ?_
  rintro e w3 ⟨rfl, o3, k1, k2⟩
  have hM3 := Lib.hid (hM2.out.step k1 k2)
  have hn3 := Lib.hid (wr_texts k1 (.slice fa fs.length fc) fs (x1.out.low x2.out (Wr.below hM3.out.wr hW0.out)) x2.out x3 x4.out (by simp only [List.length_append] at *; omega))
  have hcell := fun i => hM3.out.cell i
  have c0 := hcell 0
  simp only [List.getElem?_cons_zero] at c0
  clear hcell
  clear k1 k2 hM2 hn2 c5
  go_wp2_with fail
  refine hn3.out.mono ?_
  rintro e w4 ⟨rfl, o4, k1, k2⟩
  have hM4 := Lib.hid (hM3.out.step k1 k2)
  have hn4 := Lib.hid (wr_entries k1 (.slice ea es.length ec) es (x5.out.low x6.out (Wr.below hM4.out.wr hW0.out)) x6.out x7 x8.out (by simp only [List.length_append] at *; omega))
  have hcell := fun i => hM4.out.cell i
  have c1 := hcell 1
  simp only [List.getElem?_cons_zero, List.getElem?_cons_succ] at c1
  clear hcell
  clear k1 k2 hM3 hn3 c0
  go_wp2_with fail
  refine hn4.out.mono ?_
  rintro e w5 ⟨rfl, o5, k1, k2⟩
  have hM5 := Lib.hid (hM4.out.step k1 k2)
  have hn5 := Lib.hid (wr_keys k1 (.slice ra rs.length rc) rs (x9.out.low x10.out (Wr.below hM5.out.wr hW0.out)) x10.out x11 x12.out (by simp only [List.length_append] at *; omega))
  have hcell := fun i => hM5.out.cell i
  have c2 := hcell 2
  simp only [List.getElem?_cons_zero, List.getElem?_cons_succ] at c2
  clear hcell
  clear k1 k2 hM4 hn4 c1
  go_wp2_with fail
  refine hn5.out.mono ?_
  rintro e w6 ⟨rfl, o6, k1, k2⟩
  have hM6 := Lib.hid (hM5.out.step k1 k2)
  clear k1 k2 hM5 hn5 c2
  go_wp2_with fail
  go_end0
  exact ⟨rfl, by simpa only [List.append_assoc] using hM6.out.post⟩
end Go.Proofs.Ytpfcamebkcengaa
