/- The walks of the reference's spent, Get, Sync of layer 20. -/
import Derived.Test.YtahndjgamoojkaaBR15
namespace Go.Proofs.Ytahndjgamoojkaa
open Go.RowKit

/-- A disk with an operation less ahead of its end. -/
def spentF (fuse : Int) : Int := if 0 < fuse then fuse - 1 else fuse
set_option maxHeartbeats 1000000 in
theorem refspent20_any (af al : Option Addr) (nf cf nl cl : Nat) (fuse : Int) (down : Bool) (w : World) (hf : -9223372036854775808 ≤ fuse ∧ fuse ≤ 9223372036854775807) :
    Calls Try.prog 31 #[.agg #[.slice af nf cf, .slice al nl cl, .int .i64 fuse, .bool down]] w fun e w' =>
      e = .returned (.tuple #[.agg #[.slice af nf cf, .slice al nl cl, .int .i64 (spentF fuse), .bool (down || decide (fuse = 0))], .bool (!decide (fuse = 0))]) ∧ Below w.heap.size w w' := by
  unfold spentF
  by_cases h0 : fuse = 0
  · subst h0
    simp only [decide_true, Bool.or_true, Bool.not_true]
    rw [if_neg (by omega)]
    go_enter Try.func31, Try.ntmps31
    go_wp2_with fail
    refine bodyPost_ret (v := .tuple #[.agg #[.slice af nf cf, .slice al nl cl, .int .i64 0, .bool true], .bool false]) (by simp [results, Try.results31, go_sem]) rfl ⟨by simp, ((Below.refl w.heap.size w).alloc (Nat.le_refl _) _).alloc (by simp) _⟩
  · rw [decide_eq_false h0]
    simp only [Bool.or_false, Bool.not_false]
    have g0 : (fuse == 0) = false := by simpa using h0
    by_cases h1 : 0 < fuse
    · rw [if_pos h1]
      go_enter Try.func31, Try.ntmps31
      go_wp2_with fail
      refine bodyPost_ret (v := .tuple #[.agg #[.slice af nf cf, .slice al nl cl, .int .i64 (fuse - 1), .bool down], .bool true]) (by simp [results, Try.results31, go_sem]) rfl ⟨by simp, ((Below.refl w.heap.size w).alloc (Nat.le_refl _) _).alloc (by simp) _⟩
    · rw [if_neg h1]
      go_enter Try.func31, Try.ntmps31
      go_wp2_with fail
      refine bodyPost_ret (v := .tuple #[.agg #[.slice af nf cf, .slice al nl cl, .int .i64 fuse, .bool down], .bool true]) (by simp [results, Try.results31, go_sem]) rfl ⟨by simp, ((Below.refl w.heap.size w).alloc (Nat.le_refl _) _).alloc (by simp) _⟩

theorem four_cells {w : World} {g : Nat} {t : TypeId} {a b c d : Value} (h : ArrAt w g t [a, b, c, d]) : w.cell? ⟨g, 0, none⟩ = some a ∧ w.cell? ⟨g, 1, none⟩ = some b ∧ w.cell? ⟨g, 2, none⟩ = some c ∧ w.cell? ⟨g, 3, none⟩ = some d := ⟨h.cell 0, h.cell 1, h.cell 2, h.cell 3⟩
/-- What Get comes to. -/
def getT (d : Dk20) (n : List UInt8) : List UInt8 := if right20 d.files d.loose = false ∨ d.down = true then [] else data20 (all20 d.files d.loose) n
def getC (d : Dk20) (n : List UInt8) : Int := if right20 d.files d.loose = false then 1 else if d.down = true then 14 else if pos20 (all20 d.files d.loose) n < (all20 d.files d.loose).length then 0 else 9
set_option maxHeartbeats 2000000 in
theorem refget20_any (d : Dk20) (n : List UInt8) (val : Value) (w : World) (hd : DkV w val d) (hbd : DkBd d) :
    Calls Try.prog 14 #[val, .string ⟨n.toArray⟩] w fun e w' => e = .returned (.tuple #[.string ⟨(getT d n).toArray⟩, .int .i64 (getC d n)]) ∧ Below w.heap.size w w' := by
  obtain ⟨L, os, fuse, dn⟩ := d
  have hdk := hd
  obtain ⟨fv, lv, rfl, hf, hl⟩ := hd
  obtain ⟨af, cf, rfl⟩ := hf.form
  obtain ⟨al, cl, rfl⟩ := hl.form
  have hbx := Lib.hid ((Below.refl w.heap.size w).alloc (Nat.le_refl _) (.cells (dkC (.slice af L.length cf) (.slice al os.length cl) ⟨L, os, fuse, dn⟩).toArray 25))
  have hbox := arrAt_new w 25 (dkC (.slice af L.length cf) (.slice al os.length cl) ⟨L, os, fuse, dn⟩)
  have hri := fun V (h : DkV V (.agg (dkC (.slice af L.length cf) (.slice al os.length cl) ⟨L, os, fuse, dn⟩).toArray) ⟨L, os, fuse, dn⟩) => refright20_any ⟨L, os, fuse, dn⟩ _ V h hbd
  have hfi := fun V (h : DkV V (.agg (dkC (.slice af L.length cf) (.slice al os.length cl) ⟨L, os, fuse, dn⟩).toArray) ⟨L, os, fuse, dn⟩) (hr : right20 L os = true) => reffiles20_any ⟨L, os, fuse, dn⟩ _ V h hbd hr
  unfold dkC at hbx hbox hri hfi ⊢
  simp only at hbx hbox hri hfi hdk ⊢
  obtain ⟨W, hW⟩ : ∃ W, w.alloc (.cells [Value.slice af L.length cf, .slice al os.length cl, .int .i64 fuse, .bool dn].toArray 25) = W := ⟨_, rfl⟩
  rw [hW] at hbx hbox
  have hdW := Lib.hid (hdk.next hbx.out)
  unfold dkC at hdW
  simp only at hdW
  unfold getT getC
  simp only
  obtain ⟨R, hR⟩ : ∃ R, right20 L os = R := ⟨_, rfl⟩
  rw [hR] at hri hfi ⊢
  obtain ⟨A, hA⟩ : ∃ A, all20 L os = A := ⟨_, rfl⟩
  rw [hA] at hfi ⊢
  replace hri := Lib.hid hri
  replace hfi := Lib.hid hfi
  obtain ⟨q0, q1, q2, q3⟩ := four_cells hbox
  clear hf hl hdk
  have hel : pos20 A n < A.length → data20 A n = (A.getD (pos20 A n) ([], [])).2 := fun h => by rw [data_pos A n h]; simp [List.getD, h]
  cases R with
  | false =>
    simp only [true_or, if_true]
    go_enter Try.func14, Try.ntmps14
    go_wp2_with fail
    refine (hri.out _ hdW.out).mono ?_; rintro e w1 ⟨rfl, hb1⟩
    obtain ⟨p0, p1, p2, p3⟩ := four_cells (hbox.next hb1)
    replace hbox := Lib.hid (hbox.next hb1)
    replace hdW := Lib.hid (hdW.out.next hb1)
    replace hbx := Lib.hid (hbx.out.next hb1 hbx.out.size)
    clear hb1 q0 q1 q2 q3 hri
    go_wp2_with fail
    go_ret2
    exact ⟨rfl, hbx.out⟩
  | true =>
    have hval : Val20 A := by rw [← hA]; exact (right_val hR).1.all (right_val hR).2.1
    have hfew := hval.few
    simp only [Bool.true_eq_false, false_or, if_false]
    cases dn with
    | true =>
      simp only [if_true]
      go_enter Try.func14, Try.ntmps14
      go_wp2_with fail
      refine (hri.out _ hdW.out).mono ?_; rintro e w1 ⟨rfl, hb1⟩
      obtain ⟨p0, p1, p2, p3⟩ := four_cells (hbox.next hb1)
      replace hbox := Lib.hid (hbox.next hb1)
      replace hdW := Lib.hid (hdW.out.next hb1)
      replace hbx := Lib.hid (hbx.out.next hb1 hbx.out.size)
      clear hb1 q0 q1 q2 q3 hri
      go_wp2_with fail
      go_ret2
      exact ⟨rfl, hbx.out⟩
    | false =>
      simp only [Bool.false_eq_true, if_false]
      by_cases hp : pos20 A n < A.length
      · obtain ⟨D, hD⟩ : ∃ D, (A.getD (pos20 A n) ([], [])).2 = D := ⟨_, rfl⟩
        rw [if_pos hp, hel hp, hD]
        replace hD := Lib.hid hD
        go_enter Try.func14, Try.ntmps14
        go_wp2_with fail
        refine (hri.out _ hdW.out).mono ?_; rintro e w1 ⟨rfl, hb1⟩
        obtain ⟨p0, p1, p2, p3⟩ := four_cells (hbox.next hb1)
        replace hbox := Lib.hid (hbox.next hb1)
        replace hdW := Lib.hid (hdW.out.next hb1)
        replace hbx := Lib.hid (hbx.out.next hb1 hbx.out.size)
        clear hb1 q0 q1 q2 q3 hri
        go_wp2_with fail
        refine (hfi.out _ hdW.out trivial).mono ?_; rintro e w2 ⟨v2, rfl, ho2, hb2⟩
        obtain ⟨a2, c2, rfl⟩ := own_form ho2
        replace hbx := Lib.hid (hbx.out.next hb2 hbx.out.size)
        replace ho2 := Lib.hid ho2
        clear hb2 p0 p1 p2 p3 hdW hbox
        have hfd := reffind20_any A n (.slice a2 A.length c2) w2 ho2.out.sl (by unfold maxLen; omega)
        go_wp2_with fail
        rw [find_yes hp] at hfd
        obtain ⟨b, off, cc, _, _, ev, hc⟩ := ho2.out.sl.some (by intro e; rw [e] at hp; simp at hp)
        injection ev with e1 e2 e3
        subst e1 e3
        obtain ⟨_, g0⟩ := hc (pos20 A n) hp
        have k0 : ¬ ((pos20 A n : Int) < 0) := by omega
        have k1 : (0 : Int) ≤ pos20 A n := by omega
        have k2 : (pos20 A n : Int) < A.length := by omega
        unfold strV at g0
        rw [hD.out] at g0
        clear hD
        generalize pos20 A n = k at *
        replace hfd := Lib.hid hfd
        clear hc hel hp
        refine hfd.out.mono ?_; rintro e w3 ⟨rfl, rfl⟩
        go_wp2_with fail
        go_ret2
        exact ⟨rfl, hbx.out⟩
      · rw [if_neg hp, data_no hp]
        go_enter Try.func14, Try.ntmps14
        go_wp2_with fail
        refine (hri.out _ hdW.out).mono ?_; rintro e w1 ⟨rfl, hb1⟩
        obtain ⟨p0, p1, p2, p3⟩ := four_cells (hbox.next hb1)
        replace hbox := Lib.hid (hbox.next hb1)
        replace hdW := Lib.hid (hdW.out.next hb1)
        replace hbx := Lib.hid (hbx.out.next hb1 hbx.out.size)
        clear hb1 q0 q1 q2 q3 hri
        go_wp2_with fail
        refine (hfi.out _ hdW.out trivial).mono ?_; rintro e w2 ⟨v2, rfl, ho2, hb2⟩
        obtain ⟨a2, c2, rfl⟩ := own_form ho2
        replace hbx := Lib.hid (hbx.out.next hb2 hbx.out.size)
        replace ho2 := Lib.hid ho2
        clear hb2 p0 p1 p2 p3 hdW hbox
        have hfd := reffind20_any A n (.slice a2 A.length c2) w2 ho2.out.sl (by unfold maxLen; omega)
        go_wp2_with fail
        rw [find_no hp] at hfd
        have k0 : (-1 : Int) < 0 := by omega
        replace hfd := Lib.hid hfd
        clear hel hp
        refine hfd.out.mono ?_; rintro e w3 ⟨rfl, rfl⟩
        go_wp2_with fail
        go_ret2
        exact ⟨rfl, hbx.out⟩
end Go.Proofs.Ytahndjgamoojkaa

/- The walk of the reference's Sync of layer 20. -/
namespace Go.Proofs.Ytahndjgamoojkaa
open Go.RowKit

/-- What an operation on a disk comes to: a disk, and a code. -/
def DiskPost (w : World) (x : Dk20 × Int) (e : Ending) (w' : World) : Prop := ∃ v, e = .returned (.tuple #[v, .int .i64 x.2]) ∧ DkV w' v x.1 ∧ Below w.heap.size w w'
def syncD (d : Dk20) : Dk20 × Int :=
  if right20 d.files d.loose = false then (d, 1) else if d.down = true then (d, 14)
  else if d.fuse = 0 then (⟨d.files, d.loose, d.fuse, true⟩, 14) else (⟨all20 d.files d.loose, [], spentF d.fuse, false⟩, 0)
theorem dkV_mk {w : World} {fv lv : Value} {L : List Fl20} {os : List Op20} {fz : Int} {dn : Bool} (h1 : AtSl w fv L) (h2 : OpSl w lv os) : DkV w (.agg #[fv, lv, .int .i64 fz, .bool dn]) ⟨L, os, fz, dn⟩ := ⟨fv, lv, rfl, h1, h2⟩
/-- A row of four cells, as a walk wants it. -/
theorem four_soft {w : World} {g : Nat} {t : TypeId} {a b c d : Value} (h : ArrAt w g t [a, b, c, d]) : w.frozen? ⟨g, 0, none⟩ = false ∧ w.frozen? ⟨g, 1, none⟩ = false ∧ w.frozen? ⟨g, 2, none⟩ = false ∧ w.frozen? ⟨g, 3, none⟩ = false := ⟨h.soft 0, h.soft 1, h.soft 2, h.soft 3⟩
theorem four_set {w : World} {g B : Nat} {t : TypeId} {a b c d : Value} (h : ArrAt w g t [a, b, c, d]) (a' b' c' d' : Value) (hB : B ≤ g) :
    ArrAt ((((w.setCell ⟨g, 0, none⟩ a').setCell ⟨g, 1, none⟩ b').setCell ⟨g, 2, none⟩ c').setCell ⟨g, 3, none⟩ d') g t [a', b', c', d'] ∧ Below B w ((((w.setCell ⟨g, 0, none⟩ a').setCell ⟨g, 1, none⟩ b').setCell ⟨g, 2, none⟩ c').setCell ⟨g, 3, none⟩ d') :=
  ⟨(((h.set 0 a').set 1 b').set 2 c').set 3 d', ((((Below.refl B w).setCell (p := ⟨g, 0, none⟩) hB a').setCell (p := ⟨g, 1, none⟩) hB b').setCell (p := ⟨g, 2, none⟩) hB c').setCell (p := ⟨g, 3, none⟩) hB d'⟩
theorem four_far {w : World} {g g' : Nat} {t : TypeId} {c : List Value} (h : ArrAt w g t c) (a' b' c' d' : Value) (hg : g ≠ g') :
    ArrAt ((((w.setCell ⟨g', 0, none⟩ a').setCell ⟨g', 1, none⟩ b').setCell ⟨g', 2, none⟩ c').setCell ⟨g', 3, none⟩ d') g t c :=
  (((h.far 0 a' hg).far 1 b' hg).far 2 c' hg).far 3 d' hg
theorem four_own {w : World} {g B z n : Nat} {E : TypeId} {v : Value} {xs : List Value} (h : w.ownsRow B E z v n xs) (a' b' c' d' : Value) (hg : g < B) :
    ((((w.setCell ⟨g, 0, none⟩ a').setCell ⟨g, 1, none⟩ b').setCell ⟨g, 2, none⟩ c').setCell ⟨g, 3, none⟩ d').ownsRow B E z v n xs :=
  ownsRow_setCell_below (ownsRow_setCell_below (ownsRow_setCell_below (ownsRow_setCell_below h (a := ⟨g, 0, none⟩) hg a') (a := ⟨g, 1, none⟩) hg b') (a := ⟨g, 2, none⟩) hg c') (a := ⟨g, 3, none⟩) hg d'
set_option maxHeartbeats 2000000 in
theorem refsync20_any (d : Dk20) (val : Value) (w : World) (hd : DkV w val d) (hbd : DkBd d) (hfu : -9223372036854775808 ≤ d.fuse ∧ d.fuse ≤ 9223372036854775807) :
    Calls Try.prog 12 #[val] w (DiskPost w (syncD d)) := by
  obtain ⟨L, os, fuse, dn⟩ := d
  have hdk := hd
  obtain ⟨fv, lv, rfl, hf, hl⟩ := hd
  obtain ⟨af, cf, rfl⟩ := hf.form
  obtain ⟨al, cl, rfl⟩ := hl.form
  have hri := fun V (h : DkV V (.agg (dkC (.slice af L.length cf) (.slice al os.length cl) ⟨L, os, fuse, dn⟩).toArray) ⟨L, os, fuse, dn⟩) => refright20_any ⟨L, os, fuse, dn⟩ _ V h hbd
  unfold dkC at hri ⊢
  simp only at hri hdk hfu ⊢
  obtain ⟨W, hW⟩ : ∃ W, (w.alloc (.cells [Value.slice af L.length cf, .slice al os.length cl, .int .i64 fuse, .bool dn].toArray 25)).alloc (.cells [Value.slice none 0 0, .slice none 0 0, .int .i64 0, .bool false].toArray 25) = W := ⟨_, rfl⟩
  have hbox0 := (arrAt_new w 25 [Value.slice af L.length cf, .slice al os.length cl, .int .i64 fuse, .bool dn]).next ((Below.refl _ _).alloc (Nat.le_refl _) (.cells [Value.slice none 0 0, .slice none 0 0, .int .i64 0, .bool false].toArray 25))
  have hres0 := arrAt_new (w.alloc (.cells [Value.slice af L.length cf, .slice al os.length cl, .int .i64 fuse, .bool dn].toArray 25)) 25 [Value.slice none 0 0, .slice none 0 0, .int .i64 0, .bool false]
  have hbx := Lib.hid (((Below.refl w.heap.size w).alloc (Nat.le_refl _) (.cells [Value.slice af L.length cf, .slice al os.length cl, .int .i64 fuse, .bool dn].toArray 25)).alloc (by simp) (.cells [Value.slice none 0 0, .slice none 0 0, .int .i64 0, .bool false].toArray 25))
  rw [hW] at hbx hbox0 hres0
  have hsz : (w.alloc (.cells [Value.slice af L.length cf, .slice al os.length cl, .int .i64 fuse, .bool dn].toArray 25)).heap.size = w.heap.size + 1 := by simp
  rw [hsz] at hres0
  have hdW := Lib.hid (hdk.next hbx.out)
  unfold dkC at hdW
  simp only at hdW
  unfold syncD
  simp only
  obtain ⟨R, hR⟩ : ∃ R, right20 L os = R := ⟨_, rfl⟩
  rw [hR] at hri ⊢
  replace hri := Lib.hid hri
  replace hf := Lib.hid hf
  replace hl := Lib.hid hl
  clear hsz
  cases R with
  | false =>
    simp only [if_true]
    have hdk' := Lib.hid hdk
    clear hdk
    go_enter Try.func12, Try.ntmps12
    obtain ⟨q0, q1, q2, q3⟩ := four_cells hbox0
    go_wp2_with fail
    refine (hri.out _ hdW.out).mono ?_; rintro e w1 ⟨rfl, hb1⟩
    obtain ⟨p0, p1, p2, p3⟩ := four_cells (hbox0.next hb1)
    obtain ⟨r0, r1, r2, r3⟩ := four_cells (hres0.next hb1)
    obtain ⟨s0, s1, s2, s3⟩ := four_soft (hres0.next hb1)
    have hres1 := Lib.hid (hres0.next hb1)
    replace hbx := Lib.hid (hbx.out.next hb1 hbx.out.size)
    clear hb1 q0 q1 q2 q3 hri
    go_wp2_with fail
    obtain ⟨hset, hbs⟩ := four_set (B := w.heap.size) hres1.out (.slice af L.length cf) (.slice al os.length cl) (.int .i64 fuse) (.bool dn) (Nat.le_succ _)
    obtain ⟨k0, k1, k2, k3⟩ := four_cells hset
    refine bodyPost_ret (v := .tuple #[.agg #[.slice af L.length cf, .slice al os.length cl, .int .i64 fuse, .bool dn], .int .i64 1]) (by simp [results, Try.results12, go_sem, k0, k1, k2, k3]) rfl ⟨_, rfl, ⟨_, _, rfl, hf.out.next (hbx.out.trans hbs), hl.out.next (hbx.out.trans hbs)⟩, hbx.out.trans hbs⟩
  | true =>
    simp only [Bool.true_eq_false, if_false]
    cases dn with
    | true =>
      simp only [if_true]
      have hdk' := Lib.hid hdk
      clear hdk
      go_enter Try.func12, Try.ntmps12
      obtain ⟨q0, q1, q2, q3⟩ := four_cells hbox0
      go_wp2_with fail
      refine (hri.out _ hdW.out).mono ?_; rintro e w1 ⟨rfl, hb1⟩
      obtain ⟨p0, p1, p2, p3⟩ := four_cells (hbox0.next hb1)
      obtain ⟨r0, r1, r2, r3⟩ := four_cells (hres0.next hb1)
      obtain ⟨s0, s1, s2, s3⟩ := four_soft (hres0.next hb1)
      have hres1 := Lib.hid (hres0.next hb1)
      replace hbx := Lib.hid (hbx.out.next hb1 hbx.out.size)
      clear hb1 q0 q1 q2 q3 hri
      go_wp2_with fail
      obtain ⟨hset, hbs⟩ := four_set (B := w.heap.size) hres1.out (.slice af L.length cf) (.slice al os.length cl) (.int .i64 fuse) (.bool true) (Nat.le_succ _)
      obtain ⟨k0, k1, k2, k3⟩ := four_cells hset
      refine bodyPost_ret (v := .tuple #[.agg #[.slice af L.length cf, .slice al os.length cl, .int .i64 fuse, .bool true], .int .i64 14]) (by simp [results, Try.results12, go_sem, k0, k1, k2, k3]) rfl ⟨_, rfl, ⟨_, _, rfl, hf.out.next (hbx.out.trans hbs), hl.out.next (hbx.out.trans hbs)⟩, hbx.out.trans hbs⟩
    | false =>
      simp only [Bool.false_eq_true, if_false]
      have hdk' := Lib.hid hdk
      clear hdk
      have hsp := refspent20_any af al L.length cf os.length cl fuse false
      simp only [Bool.false_or] at hsp
      by_cases h0 : fuse = 0
      · have hsp1 : ∀ W, Calls Try.prog 31 #[.agg #[.slice af L.length cf, .slice al os.length cl, .int .i64 fuse, .bool false]] W fun e w' => e = .returned (.tuple #[.agg #[.slice af L.length cf, .slice al os.length cl, .int .i64 fuse, .bool true], .bool false]) ∧ Below W.heap.size W w' := by
          intro W
          have := hsp W hfu
          rw [decide_eq_true h0] at this
          unfold spentF at this
          rw [if_neg (by omega)] at this
          exact this
        rw [if_pos h0]
        replace hsp1 := Lib.hid hsp1
        replace h0 := Lib.hid h0
        clear hsp
        go_enter Try.func12, Try.ntmps12
        obtain ⟨q0, q1, q2, q3⟩ := four_cells hbox0
        go_wp2_with fail
        refine (hri.out _ hdW.out).mono ?_; rintro e w1 ⟨rfl, hb1⟩
        obtain ⟨p0, p1, p2, p3⟩ := four_cells (hbox0.next hb1)
        obtain ⟨r0, r1, r2, r3⟩ := four_cells (hres0.next hb1)
        obtain ⟨s0, s1, s2, s3⟩ := four_soft (hres0.next hb1)
        have hres1 := Lib.hid (hres0.next hb1)
        replace hbx := Lib.hid (hbx.out.next hb1 hbx.out.size)
        have hbox1 := Lib.hid (hbox0.next hb1)
        have hd1 := Lib.hid (hdW.out.next hb1)
        clear hb1 q0 q1 q2 q3 hri s0 s1 s2 s3 r0 r1 r2 r3
        go_wp2_with fail
        refine (hsp1.out _).mono ?_; rintro e w2 ⟨rfl, hb2⟩
        obtain ⟨p0, p1, p2, p3⟩ := four_cells (hbox1.out.next hb2)
        obtain ⟨s0, s1, s2, s3⟩ := four_soft (hbox1.out.next hb2)
        obtain ⟨r0, r1, r2, r3⟩ := four_cells (hres1.out.next hb2)
        obtain ⟨t0, t1, t2, t3⟩ := four_soft (hres1.out.next hb2)
        go_wp2_with fail
        have hbx2 := hbx.out.next hb2 hbx.out.size
        obtain ⟨hsetB, hbsB⟩ := four_set (B := w.heap.size) (hbox1.out.next hb2) (.slice af L.length cf) (.slice al os.length cl) (.int .i64 fuse) (.bool true) (Nat.le_refl _)
        have hfarR := four_far (hres1.out.next hb2) (.slice af L.length cf) (.slice al os.length cl) (.int .i64 fuse) (.bool true) (g' := w.heap.size) (by omega)
        obtain ⟨hset, hbs⟩ := four_set (B := w.heap.size) hfarR (.slice af L.length cf) (.slice al os.length cl) (.int .i64 fuse) (.bool true) (Nat.le_succ _)
        refine hide_world (K := fun a w' => bodyPost _ _ _ Exit.ret a w') (R := fun W' => ArrAt W' (w.heap.size + 1) 25 [.slice af L.length cf, .slice al os.length cl, .int .i64 fuse, .bool true] ∧ Below w.heap.size w W') ⟨hset, (hbx2.trans hbsB).trans hbs⟩ ?_
        intro wf hwf
        clear hset hbs hfarR hbsB hsetB p0 p1 p2 p3 s0 s1 s2 s3 r0 r1 r2 r3 t0 t1 t2 t3
        obtain ⟨k0, k1, k2, k3⟩ := four_cells hwf.out.1
        have hbl := hwf.out.2
        refine bodyPost_ret (v := .tuple #[.agg #[.slice af L.length cf, .slice al os.length cl, .int .i64 fuse, .bool true], .int .i64 14]) (by simp [results, Try.results12, go_sem, k0, k1, k2, k3]) rfl ?_
        exact ⟨_, rfl, ⟨_, _, rfl, hf.out.next hbl, hl.out.next hbl⟩, hbl⟩
      · have hsp1 : ∀ W, Calls Try.prog 31 #[.agg #[.slice af L.length cf, .slice al os.length cl, .int .i64 fuse, .bool false]] W fun e w' => e = .returned (.tuple #[.agg #[.slice af L.length cf, .slice al os.length cl, .int .i64 (spentF fuse), .bool false], .bool true]) ∧ Below W.heap.size W w' := by
          intro W
          have := hsp W hfu
          rw [decide_eq_false h0] at this
          exact this
        rw [if_neg h0]
        obtain ⟨sf, hsf⟩ : ∃ sf, spentF fuse = sf := ⟨_, rfl⟩
        rw [hsf] at hsp1 ⊢
        have hfi := Lib.hid (fun V (h : DkV V (.agg #[.slice af L.length cf, .slice al os.length cl, .int .i64 sf, .bool false]) ⟨L, os, sf, false⟩) => reffiles20_any ⟨L, os, sf, false⟩ _ V h hbd hR)
        obtain ⟨A, hA⟩ : ∃ A, all20 L os = A := ⟨_, rfl⟩
        rw [hA] at hfi ⊢
        have hAl : A.length ≤ 8 := by rw [← hA]; exact ((right_val hR).1.all (right_val hR).2.1).few
        replace hsp1 := Lib.hid hsp1
        replace h0 := Lib.hid h0
        clear hsp
        go_enter Try.func12, Try.ntmps12
        obtain ⟨q0, q1, q2, q3⟩ := four_cells hbox0
        go_wp2_with fail
        refine (hri.out _ hdW.out).mono ?_; rintro e w1 ⟨rfl, hb1⟩
        obtain ⟨p0, p1, p2, p3⟩ := four_cells (hbox0.next hb1)
        obtain ⟨r0, r1, r2, r3⟩ := four_cells (hres0.next hb1)
        obtain ⟨s0, s1, s2, s3⟩ := four_soft (hres0.next hb1)
        have hres1 := Lib.hid (hres0.next hb1)
        replace hbx := Lib.hid (hbx.out.next hb1 hbx.out.size)
        have hbox1 := Lib.hid (hbox0.next hb1)
        have hd1 := Lib.hid (hdW.out.next hb1)
        clear hb1 q0 q1 q2 q3 hri s0 s1 s2 s3 r0 r1 r2 r3
        go_wp2_with fail
        refine (hsp1.out _).mono ?_; rintro e w2 ⟨rfl, hb2⟩
        obtain ⟨p0, p1, p2, p3⟩ := four_cells (hbox1.out.next hb2)
        obtain ⟨s0, s1, s2, s3⟩ := four_soft (hbox1.out.next hb2)
        obtain ⟨r0, r1, r2, r3⟩ := four_cells (hres1.out.next hb2)
        obtain ⟨t0, t1, t2, t3⟩ := four_soft (hres1.out.next hb2)
        have hbx2 := hbx.out.next hb2 hbx.out.size
        obtain ⟨hsetB, hbsB⟩ := four_set (B := w.heap.size) (hbox1.out.next hb2) (.slice af L.length cf) (.slice al os.length cl) (.int .i64 sf) (.bool false) (Nat.le_refl _)
        have hfarR := four_far (hres1.out.next hb2) (.slice af L.length cf) (.slice al os.length cl) (.int .i64 sf) (.bool false) (g' := w.heap.size) (by omega)
        have hbl := Lib.hid (hbx2.trans hbsB)
        replace hsetB := Lib.hid hsetB
        replace hfarR := Lib.hid hfarR
        clear hbsB hbx2
        go_wp2_with fail
        (with_reducible refine (hfi.out _ (dkV_mk (hf.out.next hbl.out) (hl.out.next hbl.out))).mono ?_)
        rintro e w3 ⟨v3, rfl, ho3, hb3⟩
        obtain ⟨a3, c3, rfl⟩ := own_form ho3
        have hbox3 := Lib.hid (hsetB.out.next hb3)
        have hres3 := Lib.hid (hfarR.out.next hb3)
        have hbx3 := Lib.hid (hbl.out.next hb3 hbl.out.size)
        have hBB := hfarR.out.lt
        have ho3b := Lib.hid (four_own (ownsRow_setCell_below (ownsRow_setCell_below ho3 (a := ⟨w.heap.size, 0, none⟩) (Nat.lt_of_succ_lt hBB) (.slice a3 A.length c3)) (a := ⟨w.heap.size, 1, none⟩) (Nat.lt_of_succ_lt hBB) (.slice none 0 0)) (.slice a3 A.length c3) (.slice none 0 0) (.int .i64 sf) (.bool false) hBB)
        clear hb3 ho3 hbl hsetB hfarR hBB p0 p1 p2 p3 s0 s1 s2 s3 r0 r1 r2 r3 t0 t1 t2 t3
        obtain ⟨p0, p1, p2, p3⟩ := four_cells hbox3.out
        obtain ⟨s0, s1, s2, s3⟩ := four_soft hbox3.out
        obtain ⟨r0, r1, r2, r3⟩ := four_cells hres3.out
        obtain ⟨t0, t1, t2, t3⟩ := four_soft hres3.out
        go_wp2_with fail
        have hfar2 := (hres3.out.far (g' := w.heap.size) 0 (.slice a3 A.length c3) (by omega)).far (g' := w.heap.size) 1 (.slice none 0 0) (by omega)
        obtain ⟨hset, hbs⟩ := four_set (B := w.heap.size) hfar2 (.slice a3 A.length c3) (.slice none 0 0) (.int .i64 sf) (.bool false) (Nat.le_succ _)
        have hbx4 := ((hbx3.out.setCell (p := ⟨w.heap.size, 0, none⟩) (Nat.le_refl _) (.slice a3 A.length c3)).setCell (p := ⟨w.heap.size, 1, none⟩) (Nat.le_refl _) (.slice none 0 0)).trans hbs
        have hsl4 : AtSl _ (.slice a3 A.length c3) A := Fls.sl ho3b.out
        refine hide_world (K := fun a w' => bodyPost _ _ _ Exit.ret a w') (R := fun W' => ArrAt W' (w.heap.size + 1) 25 [.slice a3 A.length c3, .slice none 0 0, .int .i64 sf, .bool false] ∧ Below w.heap.size w W' ∧ AtSl W' (.slice a3 A.length c3) A) ⟨hset, hbx4, hsl4⟩ ?_
        intro wf hwf
        clear hset hbs hbx4 hsl4 hfar2 p0 p1 p2 p3 s0 s1 s2 s3 r0 r1 r2 r3 t0 t1 t2 t3
        obtain ⟨k0, k1, k2, k3⟩ := four_cells hwf.out.1
        refine bodyPost_ret (v := .tuple #[.agg #[.slice a3 A.length c3, .slice none 0 0, .int .i64 sf, .bool false], .int .i64 0]) (by simp [results, Try.results12, go_sem, k0, k1, k2, k3]) rfl ?_
        exact ⟨_, rfl, ⟨_, _, rfl, hwf.out.2.2, slOf_nil _ _ _⟩, hwf.out.2.1⟩
end Go.Proofs.Ytahndjgamoojkaa
