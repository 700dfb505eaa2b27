/- Layer 11: attr. -/
import Derived.Test.YtldnigkaagcciaaDoorD11e
namespace Go.Proofs.YtldnigkaagcciaaDoor
open Go.RowKit

/-- An attribute that was read, or none. -/
def AttrPost (w : World) (R : Nat) (c : RC) (k : Nat) : Option (At × Nat) → Ending → World → Prop
  | some (x, n), e, w' => e = .returned (.tuple #[.agg #[strV x.1, strV x.2], .nilIface]) ∧ Rd w' R c (k + n) ∧ Turned (fun b => b = R) w w'
  | none, e, w' => ∃ s1 s2 : List UInt8, e = .returned (.tuple #[.agg #[strV s1, strV s2], .iface 29 (.int .i64 3)]) ∧ ∃ k, k ≤ c.l.length ∧ Rd w' R c k ∧ Turned (fun b => b = R) w w'
theorem AttrPost.ok {w w' : World} {R : Nat} {c : RC} {k n : Nat} {x : At} {o : Option (At × Nat)} {e : Ending} (ho : o = some (x, n)) (h : e = .returned (.tuple #[.agg #[strV x.1, strV x.2], .nilIface]) ∧ Rd w' R c (k + n) ∧ Turned (fun b => b = R) w w') : AttrPost w R c k o e w' := by subst ho; exact h
theorem AttrPost.no {w w' : World} {R : Nat} {c : RC} {k : Nat} {o : Option (At × Nat)} {e : Ending} (ho : o = none) (s1 s2 : List UInt8) (he : e = .returned (.tuple #[.agg #[strV s1, strV s2], .iface 29 (.int .i64 3)])) (h : ∃ k, k ≤ c.l.length ∧ Rd w' R c k ∧ Turned (fun b => b = R) w w') : AttrPost w R c k o e w' := by subst ho; exact ⟨s1, s2, he, h⟩
theorem t_attr : 45 ≠ 40 := by decide
theorem arr_apart {w : World} {g g' : Nat} {t t' : TypeId} {c c' : List Value} (h : ArrAt w g t c) (h' : ArrAt w g' t' c') (ht : t ≠ t') : g ≠ g' := fun e => by
  subst e
  unfold ArrAt at h h'
  rw [h] at h'
  injection h' with h'
  injection h' with _ h'
  exact ht h'
/-- A reader, and an attribute's two cells that the call itself laid. -/
structure AtSt (w wr : World) (R : Nat) (c : RC) (m : Nat) (x y : Value) : Prop where
  row : ArrAt wr w.heap.size 40 [x, y]
  rd : Rd wr R c m
  turned : Turned (fun b => b = R) w wr
section
variable {w wr w1 : World} {R : Nat} {c : RC} {m : Nat} {x y : Value}
theorem AtSt.call (h : AtSt w wr R c m x y) {m' : Nat} (hr : Rd w1 R c m') (ht : Turned (fun b => b = R) wr w1) : AtSt w w1 R c m' x y :=
  ⟨h.row.turned ht (fun e => arr_apart h.rd h.row t_attr e.symm), hr, turned2 h.turned ht⟩
theorem AtSt.new (h : Rd w R c m) (x y : Value) : AtSt w (w.alloc (.cells #[x, y] 40)) R c m x y := by
  have hb : Below w.heap.size w (w.alloc (.cells #[x, y] 40)) := (Below.refl _ _).alloc (Nat.le_refl _) _
  exact ⟨arrAt_new w _ [x, y], h.below hb, Turned.of_below hb⟩
theorem AtSt.a0 (h : AtSt w wr R c m x y) : wr.cell? ⟨w.heap.size, 0, none⟩ = some x := by rw [h.row.cell]; rfl
theorem AtSt.a1 (h : AtSt w wr R c m x y) : wr.cell? ⟨w.heap.size, 1, none⟩ = some y := by rw [h.row.cell]; rfl
theorem AtSt.set (h : AtSt w wr R c m x y) (x' y' : Value) : AtSt w ((wr.setCell ⟨w.heap.size, 0, none⟩ x').setCell ⟨w.heap.size, 1, none⟩ y') R c m x' y' := by
  have h1 := (h.row.set 0 x').set 1 y'
  refine ⟨h1, ?_, ?_⟩
  · exact (h.rd.turned (turned_setCell wr ⟨w.heap.size, 0, none⟩ x') (arr_apart h.rd h.row t_attr)).turned (turned_setCell _ ⟨w.heap.size, 1, none⟩ y') (arr_apart h.rd h.row t_attr)
  · refine (h.turned.trans (turned_setCell wr ⟨w.heap.size, 0, none⟩ x') fun i hi e => ?_).trans (turned_setCell _ ⟨w.heap.size, 1, none⟩ y') fun i hi e => ?_
    · have : i = w.heap.size := e; omega
    · have : i = w.heap.size := e; omega
theorem AtSt.post (h : AtSt w wr R c m x y) : Rd wr R c m ∧ Turned (fun b => b = R) w wr := ⟨h.rd, h.turned⟩
end
theorem valueP_le {d x : List UInt8} {n : Nat} (h : valueP d = some (x, n)) : 1 ≤ n ∧ n ≤ d.length := by
  unfold valueP at h
  generalize (if Lib.hasPrefix d [39] = true then (39 : UInt8) else 34) = q at h
  by_cases h1 : Lib.hasPrefix d [q] = false
  · rw [if_pos h1] at h; cases h
  rw [if_neg h1] at h
  cases e : runP [60, q] (d.drop 1) with
  | none => rw [e] at h; cases h
  | some y =>
    obtain ⟨x', n'⟩ := y
    rw [e] at h
    have h2 := runP_le e
    rw [List.length_drop] at h2
    simp only at h
    by_cases hp : Lib.hasPrefix (d.drop (1 + n')) [q] = true
    · rw [if_pos hp] at h
      injection h with h
      injection h with _ h
      have := prefix_len hp
      rw [List.length_drop] at this
      simp at this
      omega
    · rw [if_neg hp] at h; cases h
theorem nameP_le {d x : List UInt8} {n : Nat} (h : nameP d = some (x, n)) : 1 ≤ n ∧ n ≤ d.length ∧ x = d.take n ∧ nameB x = true := by
  unfold nameP at h
  split at h
  · rename_i hb
    injection h with h
    injection h with h1 h2
    subst h1 h2
    have hle := spanN_le follI d
    have := hb
    unfold nameB at this
    simp only [Bool.and_eq_true, decide_eq_true_eq, List.length_take] at this
    exact ⟨by omega, hle, rfl, hb⟩
  · cases h

set_option maxHeartbeats 1000000 in
theorem attr11_any (R : Nat) (c : RC) (k : Nat) (w : World) (h : Rd w R c k) (hk : k ≤ c.l.length) (hl : c.l.length ≤ 100000) :
    Calls Tryd.prog 59 #[.pointer (some ⟨R, 0, none⟩)] w (AttrPost w R c k (attrP (c.l.drop k))) := by
  have r0 := Lib.hid h
  clear h
  have hP := show attrP (c.l.drop k) = _ from by unfold attrP; rfl
  simp only [List.drop_drop] at hP
  have hb1 := spanN_le blI
  replace hb1 := Lib.hid hb1
  generalize hoo : attrP (c.l.drop k) = o at hP
  replace hoo := Lib.hid hoo
  replace hP := Lib.hid hP
  go_enter Tryd.func59, Tryd.ntmps59
  go_wp2_with fail
  have s0 := Lib.hid (AtSt.new r0.out (.string ⟨#[]⟩) (.string ⟨#[]⟩))
  have hname := name11m_any R c k _ s0.out.rd hk hl
  have hle := fun x n => nameP_le (d := c.l.drop k) (x := x) (n := n)
  generalize hno : nameP (c.l.drop k) = no at hname hle
  replace hno := Lib.hid hno
  cases no with
  | none =>
    clear hle
    refine hname.mono ?_; rintro e w1 ⟨rfl, k1, hk1, r1, t1⟩
    have s1 := s0.out.call r1 t1
    clear hname s0 r1 t1
    have a0 := s1.a0
    have a1 := s1.a1
    have fz := fun i => s1.row.soft i
    replace s1 := Lib.hid s1
    go_wp2_with fail
    have f0 := s1.out.set (.string ⟨#[]⟩) (.string ⟨#[]⟩)
    have b0 := f0.a0
    have b1 := f0.a1
    replace f0 := Lib.hid f0
    refine bodyPost_ret (v := .tuple #[.agg #[(.string ⟨#[]⟩), (.string ⟨#[]⟩)], (.iface 29 (.int .i64 3))]) (by simp [results, Tryd.results59, go_sem, b0, b1]) rfl ?_
    exact AttrPost.no (hP.out.trans (by rw [hno.out])) [] [] rfl ⟨k1, hk1, f0.out.post⟩
  | some y =>
    obtain ⟨nm, n⟩ := y
    obtain ⟨l1, l2, e1, e2⟩ := hle nm n rfl
    clear e1 e2
    rw [List.length_drop] at l2
    clear hle
    refine hname.mono ?_; rintro e w1 ⟨rfl, r1, t1⟩
    have s1 := Lib.hid (s0.out.call r1 t1)
    clear hname s0 r1 t1
    go_wp2_with fail
    have hb2 := hb1.out (c.l.drop (k + n))
    rw [List.length_drop] at hb2
    refine (blanks11_any R c (k + n) _ s1.out.rd (by omega) hl).mono ?_; rintro e w2 ⟨rfl, r2, t2⟩
    have s2 := Lib.hid (s1.out.call r2 t2)
    clear s1 r2 t2
    generalize hbn : spanN blI (c.l.drop (k + n)) = bn at hb2 s2
    replace hbn := Lib.hid hbn
    go_wp2_with fail
    refine (take11_any R c (k + n + bn) [61] _ s2.out.rd (by omega) hl).mono ?_; rintro e w3 ⟨rfl, r3, t3⟩
    have s3 := s2.out.call r3 t3
    clear s2 r3 t3
    cases hp : Lib.hasPrefix (c.l.drop (k + n + bn)) [61]
    · rw [hp, if_neg (by decide)] at s3
      replace hp := Lib.hid hp
      have a0 := s3.a0
      have a1 := s3.a1
      have fz := fun i => s3.row.soft i
      replace s3 := Lib.hid s3
      go_wp2_with fail
      have f0 := s3.out.set (.string ⟨#[]⟩) (.string ⟨#[]⟩)
      have b0 := f0.a0
      have b1 := f0.a1
      replace f0 := Lib.hid f0
      refine bodyPost_ret (v := .tuple #[.agg #[(.string ⟨#[]⟩), (.string ⟨#[]⟩)], (.iface 29 (.int .i64 3))]) (by simp [results, Tryd.results59, go_sem, b0, b1]) rfl ?_
      exact AttrPost.no (hP.out.trans (by rw [hno.out]; simp only [hbn.out, ← Nat.add_assoc]; rw [if_pos hp.out])) [] [] rfl ⟨_, by omega, f0.out.post⟩
    rw [hp, if_pos rfl] at s3
    have hpl := prefix_len hp
    rw [List.length_drop] at hpl
    replace hp := Lib.hid hp
    replace s3 := Lib.hid s3
    have hpl2 : k + n + bn + 1 ≤ c.l.length := by simp at hpl; omega
    clear hpl
    go_wp2_with fail
    have hb3 := hb1.out (c.l.drop (k + n + bn + 1))
    rw [List.length_drop] at hb3
    refine (blanks11_any R c (k + n + bn + 1) _ s3.out.rd (by omega) hl).mono ?_; rintro e w4 ⟨rfl, r4, t4⟩
    have s4 := Lib.hid (s3.out.call r4 t4)
    clear s3 r4 t4
    generalize hcn : spanN blI (c.l.drop (k + n + bn + 1)) = cn at hb3 s4
    replace hcn := Lib.hid hcn
    go_wp2_with fail
    have hval := value11_any R c (k + n + bn + 1 + cn) _ s4.out.rd (by omega) hl
    have hvl := fun x' n' => valueP_le (d := c.l.drop (k + n + bn + 1 + cn)) (x := x') (n := n')
    generalize hvo : valueP (c.l.drop (k + n + bn + 1 + cn)) = vo at hval hvl
    replace hvo := Lib.hid hvo
    cases vo with
    | none =>
      clear hvl
      refine hval.mono ?_; rintro e w5 ⟨rfl, k5, hk5, r5, t5⟩
      have s5 := s4.out.call r5 t5
      clear hval s4 r5 t5
      have a0 := s5.a0
      have a1 := s5.a1
      have fz := fun i => s5.row.soft i
      replace s5 := Lib.hid s5
      go_wp2_with fail
      have f0 := s5.out.set (.string ⟨nm.toArray⟩) (.string ⟨#[]⟩)
      have b0 := f0.a0
      have b1 := f0.a1
      replace f0 := Lib.hid f0
      refine bodyPost_ret (v := .tuple #[.agg #[.string ⟨nm.toArray⟩, (.string ⟨#[]⟩)], (.iface 29 (.int .i64 3))]) (by simp [results, Tryd.results59, go_sem, b0, b1]) rfl ?_
      exact AttrPost.no (hP.out.trans (by rw [hno.out]; simp only [hbn.out, ← Nat.add_assoc, hcn.out]; rw [if_neg (by rw [hp.out]; decide), hvo.out])) nm [] rfl ⟨k5, hk5, f0.out.post⟩
    | some y =>
      obtain ⟨v, m⟩ := y
      obtain ⟨l3, l4⟩ := hvl v m rfl
      rw [List.length_drop] at l4
      clear hvl
      refine hval.mono ?_; rintro e w5 ⟨rfl, r5, t5⟩
      have s5 := s4.out.call r5 t5
      clear hval s4 r5 t5
      have a0 := s5.a0
      have a1 := s5.a1
      have fz := fun i => s5.row.soft i
      replace s5 := Lib.hid s5
      go_wp2_with fail
      have f0 := s5.out.set (.string ⟨nm.toArray⟩) (.string ⟨v.toArray⟩)
      have b0 := f0.a0
      have b1 := f0.a1
      replace f0 := Lib.hid f0
      refine bodyPost_ret (v := .tuple #[.agg #[.string ⟨nm.toArray⟩, .string ⟨v.toArray⟩], .nilIface]) (by simp [results, Tryd.results59, go_sem, b0, b1]) rfl ?_
      exact AttrPost.ok (x := (nm, v)) (n := n + bn + 1 + cn + m) (hP.out.trans (by rw [hno.out]; simp only [hbn.out, ← Nat.add_assoc, hcn.out]; rw [if_neg (by rw [hp.out]; decide), hvo.out])) ⟨rfl, by have := f0.out.post; simpa only [Nat.add_assoc] using this⟩
end Go.Proofs.YtldnigkaagcciaaDoor
