/- Layer 21: the writer: commands. -/
import Derived.Test.YtpfcamebkcengaaD21b
namespace Go.Proofs.Ytpfcamebkcengaa
open Go.RowKit

/-- A command as a value, and its cells. -/
def cmC (c : Cm21) : List Value := [.int .i64 c.kind, .string ⟨c.feed.toArray⟩, .string ⟨c.guid.toArray⟩, .string ⟨c.doc.toArray⟩, .int .i64 c.n, .int .i64 c.filter, .string ⟨c.cursor.toArray⟩]
def cmV (c : Cm21) : Value := .agg (cmC c).toArray
structure CmBd (c : Cm21) : Prop where
  k1 : -9223372036854775808 ≤ c.kind
  k2 : c.kind ≤ 9223372036854775807
  feed : c.feed.length ≤ 9223372036854775807
  guid : c.guid.length ≤ 9223372036854775807
  doc : c.doc.length ≤ 9223372036854775807
  cursor : c.cursor.length ≤ 9223372036854775807
  n1 : -9223372036854775808 ≤ c.n
  n2 : c.n ≤ 9223372036854775807
  f1 : -9223372036854775808 ≤ c.filter
  f2 : c.filter ≤ 9223372036854775807
theorem body_else {c : Cm21} (h1 : c.kind ≠ 1) (h2 : c.kind ≠ 2) (h3 : c.kind ≠ 3) (h4 : c.kind ≠ 4) (h5 : c.kind ≠ 5) (h6 : c.kind ≠ 6) (h8 : c.kind ≠ 8) (h9 : c.kind ≠ 9) : body21 c = [] := by
  unfold body21
  rw [if_neg (by omega), if_neg (by omega), if_neg (by omega), if_neg (by omega), if_neg (by omega)]

set_option maxHeartbeats 4000000 in
set_option maxRecDepth 100000 in
theorem wr_command {w : World} {B b : Nat} {l : List UInt8} {o : Option Nat} (h : WrAt w B b l o) (c : Cm21) (hx : CmBd c) (hlen : l.length + (cmd21 c).length ≤ 140737488355328) :
    Calls Try.prog 41 #[.pointer (some ⟨b, 0, none⟩), cmV c] w (WrPost w B b o (l ++ cmd21 c) (.tuple #[])) := by
  obtain ⟨O, hO⟩ : ∃ O, l ++ cmd21 c = O := ⟨_, rfl⟩
  obtain ⟨D, hD⟩ : ∃ D, body21 c = D := ⟨_, rfl⟩
  unfold cmd21 at hO hlen
  rw [List.length_cons, hD] at hlen
  obtain ⟨u, hu⟩ : ∃ u, UInt8.ofNat (c.kind % 256).toNat = u := ⟨_, rfl⟩
  rw [hD, hu] at hO
  have hO2 := Lib.hid (show l ++ [u] ++ D = O by rw [← hO, List.append_assoc]; rfl)
  rw [show l ++ cmd21 c = O by unfold cmd21; rw [hD, hu, hO]]
  obtain ⟨z, hz⟩ : ∃ z : Int, c.kind % 256 = z := ⟨_, rfl⟩
  have hzk : IntKind.u8.wrap c.kind = z := by rw [IntKind.wrap_u8]; exact hz
  have hzu : z = (u.toNat : Int) := by rw [← hu, UInt8.toNat_ofNat']; omega
  have hM0 := Lib.hid (wrM_begin h 32 (cmC c))
  have hc0 := Lib.hid (fun V (hb : Below (w.alloc (.cells (cmC c).toArray 32)).heap.size (w.alloc (.cells (cmC c).toArray 32)) V) => wr_byte (hM0.out.its.next hb) z u hzu (by omega))
  have hkp := Lib.hid (fun V (hb : Below (w.alloc (.cells (cmC c).toArray 32)).heap.size (w.alloc (.cells (cmC c).toArray 32)) V) => (hM0.out.box.next hb).cell 0)
  replace hM0 := Lib.hid (fun V (hb : Below (w.alloc (.cells (cmC c).toArray 32)).heap.size (w.alloc (.cells (cmC c).toArray 32)) V) => (⟨hM0.out.its.next hb, hM0.out.wr.after hb, hM0.out.box.next hb, hM0.out.far.below hb⟩ : WrM w o B b l w.heap.size 32 (cmC c) V o))
  obtain ⟨kd, f, g, d, cu, n, fi⟩ := c
  obtain ⟨x1, x2, x3, x4, x5, x6, x7, x8, x9, x10⟩ := hx
  unfold cmV
  unfold cmC at *
  simp only [List.getElem?_cons_zero] at *
  clear h hO hu hz hzu
  go_enter Try.func41, Try.ntmps41
  go_wp2_with fail
  go_region_held3 (fun W => W.cell? ⟨w.heap.size, 0, none⟩ = some (.int .i64 kd)) (first | exact hS1.out | exact hkp.out _ ((drawn_drew _).below _)) ((go_at_call 55; ((with_reducible refine (hc0.out _ ((drawn_drew _).below _)).mono ?_); rintro e w1 ⟨rfl, o1, k1, k2⟩; have hM1 := Lib.hid ((hM0.out _ ((drawn_drew _).below _)).step k1 k2); have hS1 := Lib.hid (hM1.out.cell 0); clear k1 k2)))
  have hcell := fun i => hM1.out.cell i
  have c0 := hcell 0
  have c1 := hcell 1
  have c2 := hcell 2
  have c3 := hcell 3
  have c4 := hcell 4
  have c5 := hcell 5
  have c6 := hcell 6
  simp only [List.getElem?_cons_zero, List.getElem?_cons_succ] at c0 c1 c2 c3 c4 c5 c6
  clear hcell hzk hc0 hkp hM0 hS1
  by_cases e1 : kd = 1
  · subst e1
    have hB : text21 f = D := by rw [← hD]; simp [body21]
    have hBl := congrArg List.length hB
    have hB2 := Lib.hid hB
    have hn1 := Lib.hid (wr_txt hM1.out.its f x3 (by rw [List.length_append, List.length_singleton]; omega))
    clear hD hB
    go_wp2_with fail
    refine hn1.out.mono ?_
    rintro e w2 ⟨rfl, o2, k1, k2⟩
    have hM2 := Lib.hid (hM1.out.step k1 k2)
    clear k1 k2 hM1 hn1 c0 c1 c2 c3 c4 c5 c6 hBl
    go_wp2_with fail
    go_end0
    refine ⟨rfl, ?_⟩
    rw [← hO2.out, ← hB2.out]
    simpa only [List.append_assoc] using hM2.out.post
  by_cases e2 : kd = 2
  · subst e2
    have hB : text21 f = D := by rw [← hD]; simp [body21]
    have hBl := congrArg List.length hB
    have hB2 := Lib.hid hB
    have hn1 := Lib.hid (wr_txt hM1.out.its f x3 (by rw [List.length_append, List.length_singleton]; omega))
    clear hD hB
    go_wp2_with fail
    refine hn1.out.mono ?_
    rintro e w2 ⟨rfl, o2, k1, k2⟩
    have hM2 := Lib.hid (hM1.out.step k1 k2)
    clear k1 k2 hM1 hn1 c0 c1 c2 c3 c4 c5 c6 hBl
    go_wp2_with fail
    go_end0
    refine ⟨rfl, ?_⟩
    rw [← hO2.out, ← hB2.out]
    simpa only [List.append_assoc] using hM2.out.post
  by_cases e3 : kd = 3
  · subst e3
    have hB : text21 f ++ text21 d = D := by rw [← hD]; simp [body21]
    have hBl := congrArg List.length hB
    simp only [List.length_append] at hBl
    have hB2 := Lib.hid hB
    have hn1 := Lib.hid (wr_txt hM1.out.its f x3 (by rw [List.length_append, List.length_singleton]; omega))
    clear hD hB
    go_wp2_with fail
    refine hn1.out.mono ?_
    rintro e w2 ⟨rfl, o2, k1, k2⟩
    have hM2 := Lib.hid (hM1.out.step k1 k2)
    have hn2 := Lib.hid (wr_txt k1 d x5 (by simp only [List.length_append, List.length_singleton]; omega))
    have d1 := hM2.out.cell 3
    simp only [List.getElem?_cons_zero, List.getElem?_cons_succ] at d1
    clear k1 k2 hM1 hn1 c0 c1 c2 c3 c4 c5 c6
    go_wp2_with fail
    refine hn2.out.mono ?_
    rintro e w3 ⟨rfl, o3, k1, k2⟩
    have hM3 := Lib.hid (hM2.out.step k1 k2)
    clear k1 k2 hM2 hn2 d1
    go_wp2_with fail
    go_end0
    refine ⟨rfl, ?_⟩
    rw [← hO2.out, ← hB2.out]
    simpa only [List.append_assoc] using hM3.out.post
  by_cases e4 : kd = 4
  · subst e4
    have hB : int21 n = D := by rw [← hD]; simp [body21]
    have hBl := congrArg List.length hB
    have hB2 := Lib.hid hB
    have hn1 := Lib.hid (wr_number hM1.out.its n x7 x8 (by rw [List.length_append, List.length_singleton]; omega))
    clear hD hB
    go_wp2_with fail
    refine hn1.out.mono ?_
    rintro e w2 ⟨rfl, o2, k1, k2⟩
    have hM2 := Lib.hid (hM1.out.step k1 k2)
    clear k1 k2 hM1 hn1 c0 c1 c2 c3 c4 c5 c6 hBl
    go_wp2_with fail
    go_end0
    refine ⟨rfl, ?_⟩
    rw [← hO2.out, ← hB2.out]
    simpa only [List.append_assoc] using hM2.out.post
  by_cases e5 : kd = 5
  · subst e5
    have hB : text21 f ++ text21 g = D := by rw [← hD]; simp [body21]
    have hBl := congrArg List.length hB
    simp only [List.length_append] at hBl
    have hB2 := Lib.hid hB
    have hn1 := Lib.hid (wr_txt hM1.out.its f x3 (by rw [List.length_append, List.length_singleton]; omega))
    clear hD hB
    go_wp2_with fail
    refine hn1.out.mono ?_
    rintro e w2 ⟨rfl, o2, k1, k2⟩
    have hM2 := Lib.hid (hM1.out.step k1 k2)
    have hn2 := Lib.hid (wr_txt k1 g x4 (by simp only [List.length_append, List.length_singleton]; omega))
    have d1 := hM2.out.cell 2
    simp only [List.getElem?_cons_zero, List.getElem?_cons_succ] at d1
    clear k1 k2 hM1 hn1 c0 c1 c2 c3 c4 c5 c6
    go_wp2_with fail
    refine hn2.out.mono ?_
    rintro e w3 ⟨rfl, o3, k1, k2⟩
    have hM3 := Lib.hid (hM2.out.step k1 k2)
    clear k1 k2 hM2 hn2 d1
    go_wp2_with fail
    go_end0
    refine ⟨rfl, ?_⟩
    rw [← hO2.out, ← hB2.out]
    simpa only [List.append_assoc] using hM3.out.post
  by_cases e6 : kd = 6
  · subst e6
    have hB : text21 f ++ text21 g = D := by rw [← hD]; simp [body21]
    have hBl := congrArg List.length hB
    simp only [List.length_append] at hBl
    have hB2 := Lib.hid hB
    have hn1 := Lib.hid (wr_txt hM1.out.its f x3 (by rw [List.length_append, List.length_singleton]; omega))
    clear hD hB
    go_wp2_with fail
    refine hn1.out.mono ?_
    rintro e w2 ⟨rfl, o2, k1, k2⟩
    have hM2 := Lib.hid (hM1.out.step k1 k2)
    have hn2 := Lib.hid (wr_txt k1 g x4 (by simp only [List.length_append, List.length_singleton]; omega))
    have d1 := hM2.out.cell 2
    simp only [List.getElem?_cons_zero, List.getElem?_cons_succ] at d1
    clear k1 k2 hM1 hn1 c0 c1 c2 c3 c4 c5 c6
    go_wp2_with fail
    refine hn2.out.mono ?_
    rintro e w3 ⟨rfl, o3, k1, k2⟩
    have hM3 := Lib.hid (hM2.out.step k1 k2)
    clear k1 k2 hM2 hn2 d1
    go_wp2_with fail
    go_end0
    refine ⟨rfl, ?_⟩
    rw [← hO2.out, ← hB2.out]
    simpa only [List.append_assoc] using hM3.out.post
  by_cases e9 : kd = 9
  · subst e9
    have hB : text21 f ++ text21 g = D := by rw [← hD]; simp [body21]
    have hBl := congrArg List.length hB
    simp only [List.length_append] at hBl
    have hB2 := Lib.hid hB
    have hn1 := Lib.hid (wr_txt hM1.out.its f x3 (by rw [List.length_append, List.length_singleton]; omega))
    clear hD hB
    go_wp2_with fail
    refine hn1.out.mono ?_
    rintro e w2 ⟨rfl, o2, k1, k2⟩
    have hM2 := Lib.hid (hM1.out.step k1 k2)
    have hn2 := Lib.hid (wr_txt k1 g x4 (by simp only [List.length_append, List.length_singleton]; omega))
    have d1 := hM2.out.cell 2
    simp only [List.getElem?_cons_zero, List.getElem?_cons_succ] at d1
    clear k1 k2 hM1 hn1 c0 c1 c2 c3 c4 c5 c6
    go_wp2_with fail
    refine hn2.out.mono ?_
    rintro e w3 ⟨rfl, o3, k1, k2⟩
    have hM3 := Lib.hid (hM2.out.step k1 k2)
    clear k1 k2 hM2 hn2 d1
    go_wp2_with fail
    go_end0
    refine ⟨rfl, ?_⟩
    rw [← hO2.out, ← hB2.out]
    simpa only [List.append_assoc] using hM3.out.post
  by_cases e8 : kd = 8
  · subst e8
    have hB : int21 fi ++ int21 n ++ text21 cu = D := by rw [← hD]; simp [body21]
    have hBl := congrArg List.length hB
    simp only [List.length_append] at hBl
    have hB2 := Lib.hid hB
    have hn1 := Lib.hid (wr_number hM1.out.its fi x9 x10 (by rw [List.length_append, List.length_singleton]; omega))
    clear hD hB
    go_wp2_with fail
    refine hn1.out.mono ?_
    rintro e w2 ⟨rfl, o2, k1, k2⟩
    have hM2 := Lib.hid (hM1.out.step k1 k2)
    have hn2 := Lib.hid (wr_number k1 n x7 x8 (by simp only [List.length_append, List.length_singleton]; omega))
    have d1 := hM2.out.cell 4
    simp only [List.getElem?_cons_zero, List.getElem?_cons_succ] at d1
    clear k1 k2 hM1 hn1 c0 c1 c2 c3 c4 c5 c6
    go_wp2_with fail
    refine hn2.out.mono ?_
    rintro e w3 ⟨rfl, o3, k1, k2⟩
    have hM3 := Lib.hid (hM2.out.step k1 k2)
    have hn3 := Lib.hid (wr_txt k1 cu x6 (by simp only [List.length_append, List.length_singleton]; omega))
    have d2 := hM3.out.cell 6
    simp only [List.getElem?_cons_zero, List.getElem?_cons_succ] at d2
    clear k1 k2 hM2 hn2 d1
    go_wp2_with fail
    refine hn3.out.mono ?_
    rintro e w4 ⟨rfl, o4, k1, k2⟩
    have hM4 := Lib.hid (hM3.out.step k1 k2)
    clear k1 k2 hM3 hn3 d2
    go_wp2_with fail
    go_end0
    refine ⟨rfl, ?_⟩
    rw [← hO2.out, ← hB2.out]
    simpa only [List.append_assoc] using hM4.out.post
  have hB : D = [] := by rw [← hD]; exact body_else e1 e2 e3 e4 e5 e6 e8 e9
  have q1 : (kd == 1) = false := by simpa using e1
  have q2 : (kd == 2) = false := by simpa using e2
  have q3 : (kd == 3) = false := by simpa using e3
  have q4 : (kd == 4) = false := by simpa using e4
  have q5 : (kd == 5) = false := by simpa using e5
  have q6 : (kd == 6) = false := by simpa using e6
  have q8 : (kd == 8) = false := by simpa using e8
  have q9 : (kd == 9) = false := by simpa using e9
  replace hB := Lib.hid hB
  clear e1 e2 e3 e4 e5 e6 e8 e9 hD
  go_wp2_with fail
  go_end0
  refine ⟨rfl, ?_⟩
  rw [← hO2.out, hB.out, List.append_nil]
  exact hM1.out.post
end Go.Proofs.Ytpfcamebkcengaa
