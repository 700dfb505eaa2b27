/- Layers 14 and 15: the rows of an entry. -/
import Derived.Test.YtahohmdbiiknoaaGreatDoorBR14
import Derived.Test.YtahohmdbiiknoaaGreatDoorBR19
namespace Go.Proofs.YtahohmdbiiknoaaGreatDoor
open Go.RowKit

theorem row14 {w : World} {b : Nat} {x : It} {t : TypeId} (h : ArrAt w b t (itC x)) : (w.cell? ⟨b, 0, none⟩ = some (strV x.guid) ∧ w.frozen? ⟨b, 0, none⟩ = false) ∧ (w.cell? ⟨b, 1, none⟩ = some (strV x.title) ∧ w.frozen? ⟨b, 1, none⟩ = false) ∧ (w.cell? ⟨b, 2, none⟩ = some (strV x.link) ∧ w.frozen? ⟨b, 2, none⟩ = false) ∧ (w.cell? ⟨b, 3, none⟩ = some (strV x.body) ∧ w.frozen? ⟨b, 3, none⟩ = false) ∧ (w.cell? ⟨b, 4, none⟩ = some (.int .i64 x.date) ∧ w.frozen? ⟨b, 4, none⟩ = false) ∧ (w.cell? ⟨b, 5, none⟩ = some (.bool x.dated) ∧ w.frozen? ⟨b, 5, none⟩ = false) :=
  ⟨⟨h.cell 0, h.soft 0⟩, ⟨h.cell 1, h.soft 1⟩, ⟨h.cell 2, h.soft 2⟩, ⟨h.cell 3, h.soft 3⟩, ⟨h.cell 4, h.soft 4⟩, ⟨h.cell 5, h.soft 5⟩⟩
theorem row14_set {w : World} {b : Nat} {x : It} {t : TypeId} (h : ArrAt w b t (itC x)) (y : It) : ArrAt ((((((w.setCell ⟨b, 0, none⟩ (strV y.guid)).setCell ⟨b, 1, none⟩ (strV y.title)).setCell ⟨b, 2, none⟩ (strV y.link)).setCell ⟨b, 3, none⟩ (strV y.body)).setCell ⟨b, 4, none⟩ (.int .i64 y.date)).setCell ⟨b, 5, none⟩ (.bool y.dated)) b t (itC y) :=
  (((((h.set 0 _).set 1 _).set 2 _).set 3 _).set 4 _).set 5 _
theorem row14_zero {w : World} {b : Nat} {t : TypeId} (h : ArrAt w b t (itC it0)) : (w.cell? ⟨b, 0, none⟩ = some (.string ⟨#[]⟩) ∧ w.frozen? ⟨b, 0, none⟩ = false) ∧ (w.cell? ⟨b, 1, none⟩ = some (.string ⟨#[]⟩) ∧ w.frozen? ⟨b, 1, none⟩ = false) ∧ (w.cell? ⟨b, 2, none⟩ = some (.string ⟨#[]⟩) ∧ w.frozen? ⟨b, 2, none⟩ = false) ∧ (w.cell? ⟨b, 3, none⟩ = some (.string ⟨#[]⟩) ∧ w.frozen? ⟨b, 3, none⟩ = false) ∧ (w.cell? ⟨b, 4, none⟩ = some (.int .i64 0) ∧ w.frozen? ⟨b, 4, none⟩ = false) ∧ (w.cell? ⟨b, 5, none⟩ = some (.bool false) ∧ w.frozen? ⟨b, 5, none⟩ = false) := row14 h
/-- A row of an entry, set anew. -/
def setIt (w : World) (b : Nat) (y : It) : World := ((((((w.setCell ⟨b, 0, none⟩ (strV y.guid)).setCell ⟨b, 1, none⟩ (strV y.title)).setCell ⟨b, 2, none⟩ (strV y.link)).setCell ⟨b, 3, none⟩ (strV y.body)).setCell ⟨b, 4, none⟩ (.int .i64 y.date)).setCell ⟨b, 5, none⟩ (.bool y.dated))
theorem setIt_below {w0 w : World} {b : Nat} (y : It) (h : Below w0.heap.size w0 w) (hb : w0.heap.size ≤ b) : Below w0.heap.size w0 (setIt w b y) :=
  (((((h.setCell (p := ⟨b, 0, none⟩) hb _).setCell (p := ⟨b, 1, none⟩) hb _).setCell (p := ⟨b, 2, none⟩) hb _).setCell (p := ⟨b, 3, none⟩) hb _).setCell (p := ⟨b, 4, none⟩) hb _).setCell (p := ⟨b, 5, none⟩) hb _
theorem itO_is {F : List UInt8 → Option (List UInt8)} {R : List UInt8 → Int × Bool} {most : Int} {s1 s2 s3 s4 : List UInt8} (h1 : (F guidL).getD [] = s1) (h2 : (F titleL).getD [] = s2) (h3 : (F linkL).getD [] = s3) (h4 : (F descL).getD [] = s4) :
    itO F R most = if shortB ⟨s1, s2, s3, s4, 0, false⟩ most = false then .bad 6 else match F pubL with
      | none => if s1 = [] then .bad 7 else .it ⟨s1, s2, s3, s4, 0, false⟩
      | some s => if s1 = [] ∨ (R s).2 = false then .bad 7 else .it ⟨s1, s2, s3, s4, (R s).1, (R s).2⟩ := by
  subst h1 h2 h3 h4
  have hs : shortB (oneB F R) most = shortB ⟨(F guidL).getD [], (F titleL).getD [], (F linkL).getD [], (F descL).getD [], 0, false⟩ most := rfl
  unfold itO lateB
  rw [hs]
  unfold oneB
  cases F pubL with
  | none => simp
  | some s => simp
/-- The rows of one's result and of its variable. -/
structure On (w0 : World) (x : It) (w : World) : Prop where
  r0 : ArrAt w w0.heap.size 26 (itC it0)
  r1 : ArrAt w (w0.heap.size + 1) 26 (itC x)
  below : Below w0.heap.size w0 w
section
variable {w0 w w' : World} {x : It}
theorem On.next (h : On w0 x w) (hb : Below w.heap.size w w') : On w0 x w' := ⟨h.r0.next hb, h.r1.next hb, h.below.andThen hb⟩
theorem On.set (h : On w0 x w) (k : Nat) (u : Value) (y : It) (e : (itC x).set k u = itC y) : On w0 y (w.setCell ⟨w0.heap.size + 1, k, none⟩ u) :=
  ⟨h.r0.far k u (by omega), e ▸ h.r1.set k u, h.below.setCell (p := ⟨w0.heap.size + 1, k, none⟩) (Nat.le_succ _) u⟩
theorem On.new (w : World) : On w it0 ((w.alloc (.cells (itC it0).toArray 26)).alloc (.cells (itC it0).toArray 26)) := by
  have h1 := arrAt_new w 26 (itC it0)
  have h2 := arrAt_new (w.alloc (.cells (itC it0).toArray 26)) 26 (itC it0)
  rw [show (w.alloc (.cells (itC it0).toArray 26)).heap.size = w.heap.size + 1 from by simp] at h2
  exact ⟨h1.next ((Below.refl _ _).alloc (Nat.le_refl _) _), h2, ((Below.refl _ _).alloc (Nat.le_refl _) _).alloc (by simp) _⟩
end
theorem FldPost.tells {w w' : World} {o : Option (List UInt8)} {e : Ending} {s : List UInt8} (h : FldPost w o e w') (hs : o.getD [] = s) : e = .returned (.tuple #[.string ⟨s.toArray⟩, .bool o.isSome]) ∧ Below w.heap.size w w' := by
  subst hs; exact h
theorem drew_below (w : World) : Below w.heap.size w w.drew := (drawn_drew w).below _
end Go.Proofs.YtahohmdbiiknoaaGreatDoor

/- Layer 13, the reference: clock, offset, zone. -/
namespace Go.Proofs.YtahohmdbiiknoaaGreatDoor
open Go.RowKit

/-- Behind hours and minutes. -/
def clk2 (x : Nat) (u : List UInt8) (short : Bool) (t : List UInt8 × Bool) : Nat × List UInt8 × Bool :=
  if t.2 then (x + (digR 2 t.1).1, (digR 2 t.1).2.1, (digR 2 t.1).2.2 && decide ((digR 2 t.1).1 ≤ 59)) else (x, u, short)
def clk1 (h m : Nat × List UInt8 × Bool) (b : Bool) (short : Bool) : Nat × List UInt8 × Bool :=
  if h.2.2 && b && m.2.2 && decide (h.1 ≤ 23) && decide (m.1 ≤ 59) then clk2 (3600 * h.1 + 60 * m.1) m.2.1 short (sgR m.2.1 [58]) else (0, [], false)
def clkR (l : List UInt8) (short : Bool) : Nat × List UInt8 × Bool := clk1 (digR 2 l) (digR 2 (sgR (digR 2 l).2.1 [58]).1) (sgR (digR 2 l).2.1 [58]).2 short

theorem ret_tr3 {o : Nat × List UInt8 × Bool} {a : Int} {l : List UInt8} {b b' : Bool} {x : Nat} (h : o = (x, l, b)) (hx : a = x) (hb : b' = b) : Ending.returned (.tuple #[.int .i64 a, .string ⟨l.toArray⟩, .bool b']) = .returned (trV o) := by rw [h, hx, hb]; rfl

set_option maxHeartbeats 1000000 in
theorem clock13r_any (l : List UInt8) (short : Bool) (w : World) (hl : l.length ≤ 100000000) : Calls Tryz.prog 75 #[.string ⟨l.toArray⟩, .bool short] w fun e w' => e = .returned (trV (clkR l short)) ∧ Drawn w w' := by
  obtain ⟨o, ho⟩ : ∃ o, clkR l short = o := ⟨_, rfl⟩
  rw [ho]
  unfold clkR at ho
  have hH := Lib.hid (fun W : World => digits13r_any 2 l W hl (by omega))
  have bH := digR_bd 2 l
  have l1 := Nat.le_trans (digR_len 2 l) hl
  generalize digR 2 l = q at *
  obtain ⟨h, s1, a⟩ := q
  unfold trV at hH
  simp only at hH bH l1 ho
  have hB := Lib.hid (fun W : World => sign13r_any s1 [58] W l1 (by decide))
  have l2 := Nat.le_trans (sgR_len s1 [58]) l1
  generalize sgR s1 [58] = q at *
  obtain ⟨s2, b⟩ := q
  simp only at hB l2 ho
  have hM := Lib.hid (fun W : World => digits13r_any 2 s2 W l2 (by omega))
  have bM := digR_bd 2 s2
  have l3 := Nat.le_trans (digR_len 2 s2) l2
  generalize digR 2 s2 = q at *
  obtain ⟨m, s3, c⟩ := q
  unfold trV at hM
  simp only at hM bM l3 ho
  unfold clk1 at ho
  simp only at ho
  have hT := Lib.hid (fun W : World => sign13r_any s3 [58] W l3 (by decide))
  have l4 := Nat.le_trans (sgR_len s3 [58]) l3
  generalize sgR s3 [58] = q at *
  obtain ⟨s4, d⟩ := q
  simp only at hT l4
  unfold clk2 at ho
  simp only at ho
  have hX := Lib.hid (fun W : World => digits13r_any 2 s4 W l4 (by omega))
  have bX := digR_bd 2 s4
  generalize digR 2 s4 = q at *
  obtain ⟨x, s5, f⟩ := q
  unfold trV at hX
  simp only at hX bX ho
  replace ho := Lib.hid ho
  go_enter Tryz.func75, Tryz.ntmps75
  go_wp2_with fail
  refine (hH.out _).mono ?_; rintro e w1 ⟨rfl, d1⟩
  replace d1 := Lib.hid d1
  go_wp2_with fail
  refine (hB.out _).mono ?_; rintro e w2 ⟨rfl, rfl⟩
  go_wp2_with fail
  refine (hM.out _).mono ?_; rintro e w3 ⟨rfl, d3⟩
  replace d3 := Lib.hid (d1.out.trans d3)
  clear d1
  cases a
  · go_wp2_with fail
    go_ret3
    exact ⟨ret_tr (show o = (0, [], false) from ho.out.symm) rfl, d3.out⟩
  cases b
  · go_wp2_with fail
    go_ret3
    exact ⟨ret_tr (show o = (0, [], false) from ho.out.symm) rfl, d3.out⟩
  cases c
  · go_wp2_with fail
    go_ret3
    exact ⟨ret_tr (show o = (0, [], false) from ho.out.symm) rfl, d3.out⟩
  by_cases h23 : 23 < h
  · have h23' : (23 : Int) < h := by omega
    have ho2 := ho.out
    rw [decide_eq_false (show ¬ h ≤ 23 by omega)] at ho2
    replace ho2 := Lib.hid ho2
    clear ho
    go_wp2_with fail
    go_ret3
    exact ⟨ret_tr (show o = (0, [], false) from ho2.out.symm) rfl, d3.out⟩
  have h23' : ¬ ((23 : Int) < h) := by omega
  by_cases m59 : 59 < m
  · have m59' : (59 : Int) < m := by omega
    have ho2 := ho.out
    rw [decide_eq_false (show ¬ m ≤ 59 by omega), Bool.and_false] at ho2
    replace ho2 := Lib.hid ho2
    clear ho
    go_wp2_with fail
    go_ret3
    exact ⟨ret_tr (show o = (0, [], false) from ho2.out.symm) rfl, d3.out⟩
  have m59' : ¬ ((59 : Int) < m) := by omega
  have ho2 := ho.out
  rw [decide_eq_true (show h ≤ 23 by omega), decide_eq_true (show m ≤ 59 by omega)] at ho2
  simp only [Bool.and_self, if_true] at ho2
  replace ho2 := Lib.hid ho2
  clear ho
  go_wp2_with fail
  refine (hT.out _).mono ?_; rintro e w4 ⟨rfl, rfl⟩
  cases d
  · go_wp2_with fail
    go_ret3
    exact ⟨ret_tr (show o = (3600 * h + 60 * m, s3, short) from ho2.out.symm) (by omega), d3.out⟩
  · go_wp2_with fail
    refine (hX.out _).mono ?_; rintro e w5 ⟨rfl, d5⟩
    replace d5 := Lib.hid (d3.out.trans d5)
    clear d3
    cases f
    · go_wp2_with fail
      go_ret3
      exact ⟨ret_tr (show o = (3600 * h + 60 * m + x, s5, false) from ho2.out.symm) (by omega), d5.out⟩
    · go_wp2_with fail
      go_ret3
      exact ⟨ret_tr3 (show o = (3600 * h + 60 * m + x, s5, true && decide (x ≤ 59)) from ho2.out.symm) (by omega) (by rw [Bool.true_and, Bool.eq_iff_iff, decide_eq_true_eq, decide_eq_true_eq]; omega), d5.out⟩

/-- Whether all that a zone asks stands there. -/
def offK (h m : Nat × List UInt8 × Bool) (b : Bool) : Bool := h.2.2 && b && m.2.2 && m.2.1.isEmpty && decide (h.1 ≤ 23) && decide (m.1 ≤ 59)
def off1 (neg : Bool) (h m : Nat × List UInt8 × Bool) (b : Bool) : Int × Bool := (if neg then -((3600 * h.1 + 60 * m.1 : Nat) : Int) else ((3600 * h.1 + 60 * m.1 : Nat) : Int), offK h m b)
def offR (l p : List UInt8) : Int × Bool :=
  if l.isEmpty || (decide (bt l 0 ≠ 43) && decide (bt l 0 ≠ 45)) then (0, false)
  else off1 (decide (bt l 0 = 45)) (digR 2 (l.drop 1)) (digR 2 (sgR (digR 2 (l.drop 1)).2.1 p).1) (sgR (digR 2 (l.drop 1)).2.1 p).2
theorem ret_ob2 {o : Int × Bool} {a z : Int} {b : Bool} (h : o = (z, b)) (hz : a = z) : Ending.returned (.tuple #[.int .i64 a, .bool b]) = .returned (.tuple #[.int .i64 o.1, .bool o.2]) := by rw [h, hz]

theorem ret_ob3 {o : Int × Bool} {a z : Int} {b b' : Bool} (h : o = (z, b)) (hz : a = z) (hb : b' = b) : Ending.returned (.tuple #[.int .i64 a, .bool b']) = .returned (.tuple #[.int .i64 o.1, .bool o.2]) := by rw [h, hz, hb]

set_option maxHeartbeats 2000000 in
theorem offset13r_any (l p : List UInt8) (w : World) (hl : l.length ≤ 100000000) (hp : p.length ≤ 10) : Calls Tryz.prog 76 #[.string ⟨l.toArray⟩, .string ⟨p.toArray⟩] w fun e w' => e = .returned (.tuple #[.int .i64 (offR l p).1, .bool (offR l p).2]) ∧ Drawn w w' := by
  obtain ⟨o, ho⟩ : ∃ o, offR l p = o := ⟨_, rfl⟩
  rw [ho]
  unfold offR at ho
  by_cases hne : l = []
  · subst hne
    have ho2 := Lib.hid (show o = (0, false) from ho.symm)
    clear ho
    go_enter Tryz.func76, Tryz.ntmps76
    go_wp2_with fail
    go_ret2
    exact ⟨ret_ob2 ho2.out rfl, Drawn.refl _⟩
  have hem : l.isEmpty = false := by cases l; exact absurd rfl hne; rfl
  have hlen : 0 < l.length := List.length_pos_iff.2 hne
  have hlen1 : (0 : Int) < l.length := by omega
  have hlen2 : (1 : Int) ≤ l.length := by omega
  have hb0 := bt_lt l 0
  rw [hem, Bool.false_or, List.drop_one] at ho
  have hH := Lib.hid (fun W : World => digits13r_any 2 l.tail W (by rw [List.length_tail]; omega) (by omega))
  have bH := digR_bd 2 l.tail
  have l1 : (digR 2 l.tail).2.1.length ≤ 100000000 := Nat.le_trans (digR_len 2 l.tail) (by rw [List.length_tail]; omega)
  generalize digR 2 l.tail = q at *
  obtain ⟨h, s1, a⟩ := q
  unfold trV at hH
  simp only at hH bH l1 ho
  have hB := Lib.hid (fun W : World => sign13r_any s1 p W l1 hp)
  have l2 := Nat.le_trans (sgR_len s1 p) l1
  generalize sgR s1 p = q at *
  obtain ⟨s2, b⟩ := q
  simp only at hB l2 ho
  have hM := Lib.hid (fun W : World => digits13r_any 2 s2 W l2 (by omega))
  have bM := digR_bd 2 s2
  generalize digR 2 s2 = q at *
  obtain ⟨m, s3, c⟩ := q
  unfold trV at hM
  simp only at hM bM ho
  unfold off1 at ho
  simp only at ho
  obtain ⟨k, hk⟩ : ∃ k, k = offK (h, s1, a) (m, s3, c) b := ⟨_, rfl⟩
  rw [← hk] at ho
  have hk2 : k = (a && b && c && s3.isEmpty && decide (h ≤ 23) && decide (m ≤ 59)) := hk
  clear hk
  by_cases h43 : bt l 0 = 43
  · rw [h43] at ho
    have ho2 : o = (((3600 * h + 60 * m : Nat) : Int), k) := ho.symm
    replace ho2 := Lib.hid ho2
    clear ho
    go_enter Tryz.func76, Tryz.ntmps76
    go_wp2_with fail
    refine (hH.out _).mono ?_; rintro e w1 ⟨rfl, d1⟩
    replace d1 := Lib.hid d1
    go_wp2_with fail
    refine (hB.out _).mono ?_; rintro e w2 ⟨rfl, rfl⟩
    go_wp2_with fail
    refine (hM.out _).mono ?_; rintro e w3 ⟨rfl, d3⟩
    replace d3 := Lib.hid (d1.out.trans d3)
    clear d1
    replace hk2 := Lib.hid hk2
    cases a
    · have hkk := Lib.hid (show k = false from hk2.out)
      clear hk2
      go_wp2_with fail
      go_ret2
      exact ⟨ret_ob2 (by rw [ho2.out, hkk.out]) (by omega), d3.out⟩
    cases b
    · have hkk := Lib.hid (show k = false from hk2.out)
      clear hk2
      go_wp2_with fail
      go_ret2
      exact ⟨ret_ob2 (by rw [ho2.out, hkk.out]) (by omega), d3.out⟩
    cases c
    · have hkk := Lib.hid (show k = false from hk2.out)
      clear hk2
      go_wp2_with fail
      go_ret2
      exact ⟨ret_ob2 (by rw [ho2.out, hkk.out]) (by omega), d3.out⟩
    cases hs3 : s3.isEmpty
    · have hkk := hk2.out
      rw [hs3] at hkk
      replace hkk := Lib.hid (show k = false from hkk)
      clear hk2
      go_wp2_with fail
      go_ret2
      exact ⟨ret_ob2 (by rw [ho2.out, hkk.out]) (by omega), d3.out⟩
    by_cases h23 : h ≤ 23
    · have q1 : decide ((h : Int) ≤ 23) = true := by rw [decide_eq_true_eq]; omega
      have q2 : decide (h ≤ 23) = true := by rw [decide_eq_true_eq]; omega
      have hkk := hk2.out
      rw [hs3, q2] at hkk
      replace hkk := Lib.hid (show k = decide (m ≤ 59) by rw [hkk]; rfl)
      clear hk2
      go_wp2_with fail
      go_ret2
      exact ⟨ret_ob3 (by rw [ho2.out, hkk.out]) (by omega) (by rw [Bool.eq_iff_iff, decide_eq_true_eq, decide_eq_true_eq]; omega), d3.out⟩
    · have q1 : decide ((h : Int) ≤ 23) = false := by rw [decide_eq_false_iff_not]; omega
      have q2 : decide (h ≤ 23) = false := by rw [decide_eq_false_iff_not]; omega
      have hkk := hk2.out
      rw [q2, Bool.and_false, Bool.false_and] at hkk
      replace hkk := Lib.hid (show k = false from hkk)
      clear hk2
      go_wp2_with fail
      go_ret2
      exact ⟨ret_ob2 (by rw [ho2.out, hkk.out]) (by omega), d3.out⟩
  by_cases h45 : bt l 0 = 45
  · rw [h45] at ho
    have ho2 : o = (-((3600 * h + 60 * m : Nat) : Int), k) := ho.symm
    replace ho2 := Lib.hid ho2
    clear ho h43
    go_enter Tryz.func76, Tryz.ntmps76
    go_wp2_with fail
    refine (hH.out _).mono ?_; rintro e w1 ⟨rfl, d1⟩
    replace d1 := Lib.hid d1
    go_wp2_with fail
    refine (hB.out _).mono ?_; rintro e w2 ⟨rfl, rfl⟩
    go_wp2_with fail
    refine (hM.out _).mono ?_; rintro e w3 ⟨rfl, d3⟩
    replace d3 := Lib.hid (d1.out.trans d3)
    clear d1
    replace hk2 := Lib.hid hk2
    cases a
    · have hkk := Lib.hid (show k = false from hk2.out)
      clear hk2
      go_wp2_with fail
      go_ret2
      exact ⟨ret_ob2 (by rw [ho2.out, hkk.out]) (by omega), d3.out⟩
    cases b
    · have hkk := Lib.hid (show k = false from hk2.out)
      clear hk2
      go_wp2_with fail
      go_ret2
      exact ⟨ret_ob2 (by rw [ho2.out, hkk.out]) (by omega), d3.out⟩
    cases c
    · have hkk := Lib.hid (show k = false from hk2.out)
      clear hk2
      go_wp2_with fail
      go_ret2
      exact ⟨ret_ob2 (by rw [ho2.out, hkk.out]) (by omega), d3.out⟩
    cases hs3 : s3.isEmpty
    · have hkk := hk2.out
      rw [hs3] at hkk
      replace hkk := Lib.hid (show k = false from hkk)
      clear hk2
      go_wp2_with fail
      go_ret2
      exact ⟨ret_ob2 (by rw [ho2.out, hkk.out]) (by omega), d3.out⟩
    by_cases h23 : h ≤ 23
    · have q1 : decide ((h : Int) ≤ 23) = true := by rw [decide_eq_true_eq]; omega
      have q2 : decide (h ≤ 23) = true := by rw [decide_eq_true_eq]; omega
      have hkk := hk2.out
      rw [hs3, q2] at hkk
      replace hkk := Lib.hid (show k = decide (m ≤ 59) by rw [hkk]; rfl)
      clear hk2
      go_wp2_with fail
      go_ret2
      exact ⟨ret_ob3 (by rw [ho2.out, hkk.out]) (by omega) (by rw [Bool.eq_iff_iff, decide_eq_true_eq, decide_eq_true_eq]; omega), d3.out⟩
    · have q1 : decide ((h : Int) ≤ 23) = false := by rw [decide_eq_false_iff_not]; omega
      have q2 : decide (h ≤ 23) = false := by rw [decide_eq_false_iff_not]; omega
      have hkk := hk2.out
      rw [q2, Bool.and_false, Bool.false_and] at hkk
      replace hkk := Lib.hid (show k = false from hkk)
      clear hk2
      go_wp2_with fail
      go_ret2
      exact ⟨ret_ob2 (by rw [ho2.out, hkk.out]) (by omega), d3.out⟩
  · rw [decide_eq_true h43, decide_eq_true h45] at ho
    have ho2 := Lib.hid (show o = (0, false) from ho.symm)
    have j1 : (bt l 0 != 43) = true := by rw [bne_iff_ne]; exact h43
    have j2 : (bt l 0 != 45) = true := by rw [bne_iff_ne]; exact h45
    clear ho h43 h45 hk2
    go_enter Tryz.func76, Tryz.ntmps76
    go_wp2_with fail
    go_ret2
    exact ⟨ret_ob2 ho2.out rfl, Drawn.refl _⟩

theorem zone_names {l : List UInt8} {z : Int} (h : zoneNm l = some z) (w : World) : Calls Tryz.prog 81 #[.string ⟨l.toArray⟩] w fun e w' => e = .returned (.tuple #[.int .i64 (z * 3600), .bool true]) ∧ w = w' := by
  have hl := zoneNm_some h
  clear h
  rcases hl with ⟨rfl, rfl⟩ | ⟨rfl, rfl⟩ | ⟨rfl, rfl⟩ | ⟨rfl, rfl⟩ | ⟨rfl, rfl⟩ | ⟨rfl, rfl⟩ | ⟨rfl, rfl⟩ | ⟨rfl, rfl⟩ | ⟨rfl, rfl⟩ | ⟨rfl, rfl⟩ | ⟨rfl, rfl⟩ | ⟨rfl, rfl⟩
  all_goals go_enter Tryz.func81, Tryz.ntmps81
  all_goals go_wp2_with fail
  all_goals go_ret2
  all_goals exact ⟨rfl, rfl⟩
def zonR (l : List UInt8) : Int × Bool := match zoneNm l with
  | some z => (z * 3600, true)
  | none => offR l []
theorem zonR_some {l : List UInt8} {z : Int} (h : zoneNm l = some z) : zonR l = (z * 3600, true) := by unfold zonR; rw [h]
theorem zonR_none {l : List UInt8} (h : zoneNm l = none) : zonR l = offR l [] := by unfold zonR; rw [h]
theorem zone13r_any (l : List UInt8) (w : World) (hl : l.length ≤ 100000000) : Calls Tryz.prog 81 #[.string ⟨l.toArray⟩] w fun e w' => e = .returned (.tuple #[.int .i64 (zonR l).1, .bool (zonR l).2]) ∧ Drawn w w' := by
  cases hz : zoneNm l with
  | some z =>
    rw [zonR_some hz]
    exact (zone_names hz w).mono fun e w' hh => ⟨hh.1, by rw [hh.2]; exact Drawn.refl _⟩
  | none =>
    rw [zonR_none hz]
    obtain ⟨e1, e2, e3, e4, e5, e6, e7, e8, e9, e10, e11, e12⟩ := zoneNm_none hz
    have hc := offset13r_any l [] w hl (by decide)
    generalize offR l [] = q at *
    obtain ⟨z, b⟩ := q
    simp only at hc ⊢
    clear hz
    go_enter Tryz.func81, Tryz.ntmps81
    go_wp2_with fail
    refine hc.mono ?_; rintro e w1 ⟨rfl, h1⟩
    replace h1 := Lib.hid h1
    go_wp2_with fail
    go_ret2
    exact ⟨rfl, h1.out⟩
end Go.Proofs.YtahohmdbiiknoaaGreatDoor
