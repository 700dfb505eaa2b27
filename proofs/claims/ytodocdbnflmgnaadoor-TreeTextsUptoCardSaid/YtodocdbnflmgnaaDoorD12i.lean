/- Layer 12: a builder takes a token within the root. -/
import Derived.Test.YtodocdbnflmgnaaDoorD12h
namespace Go.Proofs.YtodocdbnflmgnaaDoor
open Go.RowKit

set_option maxRecDepth 100000 in
set_option maxHeartbeats 8000000 in
theorem take12_in (B R : Nat) (s : Bs) (P : List (Nd × Value)) (v : Value) (x : Tk) (va : Value) (A : Addr) (w : World) (h : BdM w B R s P v) (hE : Env12 w B A) (ha : AtSl w va x.attrs) (hn : P.length ≤ 1000000) (hx : x.attrs.length * 32 ≤ 140737488355328) (hu : s.up ≠ -1) (hs : BsOk s) :
    Calls Tryd.prog 21 #[.pointer (some ⟨R, 0, none⟩), tkA x va] w (TakePost w B R A (takeB s x)) := by
  have hup : 0 ≤ s.up ∧ s.up < s.nds.length := by
    rcases hs.up with e | e
    · exact absurd e hu
    · exact e
  have hpl := h.plen
  obtain ⟨sn, su⟩ := s
  simp only at hup hu hpl
  obtain ⟨j, rfl⟩ : ∃ j : Nat, su = j := ⟨su.toNat, by omega⟩
  have hj : j < P.length := by omega
  obtain ⟨g, cv, rfl, hBg, hgl, hcap, hob, hat⟩ := h.row.at hj
  have hnj : (P[j]'hj).1 = atN sn (j : Int) := by rw [nodes_at hj, h.nds]
  rw [hnj] at hat
  obtain ⟨va0, vc0, rfl⟩ := ha.form
  have hb0 : Below w.heap.size w (boxT w x (.slice va0 x.attrs.length vc0)) := (Below.refl _ _).alloc (Nat.le_refl _) _
  have hA := h.below hb0
  have hatA := hat.next hb0
  have haA := ha.next hb0
  have hbx : ArrAt (boxT w x (.slice va0 x.attrs.length vc0)) w.heap.size 47 [.int .i64 x.kind, .string ⟨x.name.toArray⟩, .slice va0 x.attrs.length vc0, .string ⟨x.text.toArray⟩] := arrAt_new w _ _
  have hbB := h.base
  have hBA := hb0.mono hbB
  have hEA := hE.below hBA
  have c0 := hA.c0
  have c1 := hA.c1
  have y0 : (boxT w x (.slice va0 x.attrs.length vc0)).cell? ⟨w.heap.size, 0, none⟩ = some (.int .i64 x.kind) := by rw [hbx.cell]; rfl
  have y1 : (boxT w x (.slice va0 x.attrs.length vc0)).cell? ⟨w.heap.size, 1, none⟩ = some (.string ⟨x.name.toArray⟩) := by rw [hbx.cell]; rfl
  have y2 : (boxT w x (.slice va0 x.attrs.length vc0)).cell? ⟨w.heap.size, 2, none⟩ = some (.slice va0 x.attrs.length vc0) := by rw [hbx.cell]; rfl
  have y3 : (boxT w x (.slice va0 x.attrs.length vc0)).cell? ⟨w.heap.size, 3, none⟩ = some (.string ⟨x.text.toArray⟩) := by rw [hbx.cell]; rfl
  have hwA : w.heap.size < (boxT w x (.slice va0 x.attrs.length vc0)).heap.size := by simp [boxT]
  have hst : ¬ ((⟨sn, (j : Int)⟩ : Bs).up = -1 ∧ (⟨sn, (j : Int)⟩ : Bs).nds ≠ []) := fun e => hu e.1
  have hstart := fun h2 h3 => takeB_start (s := ⟨sn, j⟩) (x := x) hst h2 h3
  have hempty := fun h2 h3 => takeB_empty (s := ⟨sn, j⟩) (x := x) hst h2 h3
  have htext := fun h2 => takeB_text (s := ⟨sn, j⟩) (x := x) h2 hu
  have hend := fun h2 h3 => takeB_end (s := ⟨sn, j⟩) (x := x) h2 hu h3
  have hnone := fun h1 h2 h3 h4 => takeB_no (s := ⟨sn, j⟩) (x := x) h1 h2 h3 h4
  generalize takeB ⟨sn, j⟩ x = o at hstart hempty htext hend hnone ⊢
  have hpar := @element12_any B R ⟨sn, j⟩ P (.slice (some ⟨g, 0, none⟩) P.length cv) x (.slice va0 x.attrs.length vc0) _ hA haA hn hx
  have hq0 : ((j : Int) != -1) = true := by rw [bne_iff_ne]; exact hu
  clear h ha hE hbx hat hst hnj hob
  unfold tkA at hpar ⊢
  unfold boxT at *
  simp only at hstart hempty htext hend hnone hpar c1
  replace hb0 := Lib.hid hb0
  replace hBA := Lib.hid hBA
  replace hA := Lib.hid hA
  replace hatA := Lib.hid hatA
  replace haA := Lib.hid haA
  replace hEA := Lib.hid hEA
  replace hpar := Lib.hid hpar
  replace hstart := Lib.hid hstart
  replace hempty := Lib.hid hempty
  replace htext := Lib.hid htext
  replace hend := Lib.hid hend
  replace hnone := Lib.hid hnone
  replace hu := Lib.hid hu
  by_cases hk1 : x.kind = 1 ∧ x.name ≠ []
  · have ho := hstart.out hk1.1 hk1.2
    have q1 : (x.kind == 1) = true := by rw [beq_iff_eq]; exact hk1.1
    have q2 : x.name.isEmpty = false := by cases hq : x.name with | nil => exact absurd hq hk1.2 | cons => rfl
    clear hstart hempty htext hend hnone hk1
    replace ho := Lib.hid ho
    obtain ⟨n, hnl⟩ : ∃ n, sn.length = n := ⟨_, rfl⟩
    rw [hnl] at hpl ho
    have q9 : ((n : Int) != -1) = true := by rw [bne_iff_ne]; omega
    replace hnl := Lib.hid hnl
    go_enter Tryd.func21, Tryd.ntmps21
    go_wp2_with fail
    refine hpar.out.mono ?_; rintro e w1 ⟨rfl, ⟨P1, v1, m1⟩, b1⟩
    have hl1 : P1.length = n + 1 := by rw [m1.plen]; simp [hnl.out]
    obtain ⟨a1, cv1, rfl⟩ := own_form m1.row
    have d0 := m1.c0
    rw [hl1] at d0
    have d1 := m1.c1
    simp only at d1
    have f1 := m1.bd.soft 1
    have hM2 := m1.setUp (n : Int)
    have d2 := hM2.1.c1
    have hb2 := (hBA.out.trans b1).trans hM2.2
    have hE2 := (hEA.out.below b1).below hM2.2
    have e2 := hE2.ende
    unfold openV at e2
    simp only at d2
    clear hpar m1 b1 hE2 c0 c1 y0 y1 y2 y3 hl1
    replace hM2 := Lib.hid hM2
    replace hb2 := Lib.hid hb2
    go_wp2_with fail
    go_ret
    exact TakePost.open ho.out (by show (n : Int) ≠ -1; omega) hM2.out.1 hb2.out
  by_cases hk3 : x.kind = 3 ∧ x.name ≠ []
  · have ho := hempty.out hk3.1 hk3.2
    have q1 : (x.kind == 1) = false := by rw [beq_eq_false_iff_ne]; omega
    have q3 : (x.kind == 3) = true := by rw [beq_iff_eq]; exact hk3.1
    have q2 : x.name.isEmpty = false := by cases hq : x.name with | nil => exact absurd hq hk3.2 | cons => rfl
    clear hstart hempty htext hend hnone hk1 hk3
    replace ho := Lib.hid ho
    go_enter Tryd.func21, Tryd.ntmps21
    go_wp2_with fail
    refine hpar.out.mono ?_; rintro e w1 ⟨rfl, ⟨P1, v1, m1⟩, b1⟩
    have d1 := m1.c1
    simp only at d1
    have hb2 := hBA.out.trans b1
    have e2 := (hEA.out.below b1).ende
    unfold openV at e2
    clear hpar b1 c0 c1 y0 y1 y2 y3
    replace m1 := Lib.hid m1
    replace hb2 := Lib.hid hb2
    go_wp2_with fail
    go_ret
    exact TakePost.open ho.out hu.out m1.out hb2.out
  have hq : ((x.kind == 1) = true ∧ (x.kind == 3) = false ∧ x.name.isEmpty = true) ∨ ((x.kind == 1) = false ∧ (x.kind == 3) = true ∧ x.name.isEmpty = true) ∨ ((x.kind == 1) = false ∧ (x.kind == 3) = false) := by
    have hne : ∀ (_ : x.name.isEmpty = false), x.name ≠ [] := fun h e => by rw [e] at h; cases h
    cases e1 : (x.kind == 1)
    · cases e3 : (x.kind == 3)
      · exact Or.inr (Or.inr ⟨rfl, rfl⟩)
      · cases en : x.name.isEmpty
        · exact absurd ⟨by simpa using e3, hne en⟩ hk3
        · exact Or.inr (Or.inl ⟨rfl, rfl, rfl⟩)
    · cases en : x.name.isEmpty
      · exact absurd ⟨by simpa using e1, hne en⟩ hk1
      · exact Or.inl ⟨rfl, by rw [beq_eq_false_iff_ne]; rw [beq_iff_eq] at e1; omega, rfl⟩
  clear hpar
  by_cases hk4 : x.kind = 4
  · have ho := htext.out hk4
    have q1 : (x.kind == 1) = false := by rw [beq_eq_false_iff_ne]; omega
    have q3 : (x.kind == 3) = false := by rw [beq_eq_false_iff_ne]; omega
    have q4 : (x.kind == 4) = true := by rw [beq_iff_eq]; exact hk4
    clear hstart hempty htext hend hnone hk1 hk3 hk4 hq hpl hup hs
    replace ho := Lib.hid ho
    have f0 := hA.out.bd.soft 0
    have c0y := (hA.out.below ((Below.refl _ _).alloc (Nat.le_refl _) (.cells #[.string ⟨#[]⟩, .slice none 0 0, .string ⟨x.text.toArray⟩, .int .i64 j] 44))).c0
    have hd := drawn_drew (w.alloc (.cells #[.int .i64 x.kind, .string ⟨x.name.toArray⟩, .slice va0 x.attrs.length vc0, .string ⟨x.text.toArray⟩] 47))
    have h3 := hA.out.below (hd.below _)
    have hlow := h3.base
    have hball := hBA.out.trans (hd.below B)
    have hE3 := hEA.out.below (hd.below B)
    clear hd
    replace h3 := Lib.hid h3
    replace hball := Lib.hid hball
    replace hE3 := Lib.hid hE3
    go_enter Tryd.func21, Tryd.ntmps21
    go_wp2_with fail
    go_region_law (refine step_append1 rfl (.tmp 68) (.tmp 76) 24 44 rfl Tryd.underlying24 (.agg #[.string ⟨#[]⟩, .slice none 0 0, .string ⟨#[]⟩, .int .i64 0]) 4 64 info_node rfl (by decide) (by decide) B _ P.length (cellsN P) [.string ⟨#[]⟩, .slice none 0 0, .string ⟨x.text.toArray⟩, .int .i64 j] rfl h3.out.row (by simp [Act.eval]) (by simp [Act.eval]) (by intro u hu; simp at hu; rcases hu with rfl | rfl | rfl | rfl <;> rfl) (by omega) (by simpa using hlow) ?_; intro v1 w1 hown1 hgr1 hwh1; obtain ⟨a1, e1, rfl⟩ := own_form hown1.out; have r1 := h3.out.bd.turned (Turned.of_grown (S := fun b => (Value.slice (some ⟨g, 0, none⟩) P.length cv).ownBlock = some b) hgr1.out fun _ e => e) (own_ne_arr h3.out.row h3.out.bd t_nb); have c0' : w1.cell? ⟨R, 0, none⟩ = some _ := (by rw [r1.cell]; rfl); have f0' := r1.soft 0; replace r1 := Lib.hid r1)
    all_goals
      have hfin := h3.out.push (y := textN x j) (va := .slice none 0 0) (ats_nil _ _) hown1.out hgr1.out
      have c1z := hfin.1.c1
      have e2z := (hE3.out.below hfin.2).ende
      simp only at c1z
      unfold openV at e2z
      replace hfin := Lib.hid hfin
      go_wp2_with fail
      go_ret
      exact TakePost.open ho.out hu.out hfin.out.1 (hball.out.trans hfin.out.2)
  by_cases hk2 : x.kind = 2 ∧ x.name = (atN sn (j : Int)).name
  · have ho := hend.out hk2.1 hk2.2
    have q1 : (x.kind == 1) = false := by rw [beq_eq_false_iff_ne]; omega
    have q3 : (x.kind == 3) = false := by rw [beq_eq_false_iff_ne]; omega
    have q4 : (x.kind == 4) = false := by rw [beq_eq_false_iff_ne]; omega
    have q5 : (x.kind == 2) = true := by rw [beq_iff_eq]; exact hk2.1
    obtain ⟨t0, t1, t2, t3⟩ := hatA.out
    have q6 : (x.name == (atN sn (j : Int)).name) = true := by rw [beq_iff_eq]; exact hk2.2
    have hyu : upN sn (j : Int) = (atN sn (j : Int)).up := rfl
    rw [hyu] at ho
    clear hstart hempty htext hend hnone hk1 hk3 hk4 hk2 t1 t2 t3 hq hyu
    generalize hxn : atN sn (j : Int) = xn at hatA ho q6 t0
    clear hxn
    obtain ⟨yn, ya, yt, yu⟩ := xn
    unfold strV at t0
    simp only at ho q6 t0
    replace ho := Lib.hid ho
    have hjl : (j : Int) < P.length := by omega
    go_enter Tryd.func21, Tryd.ntmps21
    go_wp2_with fail
    go_quiet (fail)
    go_wp2_with fail
    have hd := drawn_drewN (w.alloc (.cells #[.int .i64 x.kind, .string ⟨x.name.toArray⟩, .slice va0 x.attrs.length vc0, .string ⟨x.text.toArray⟩] 47)) nq
    have hAW := hA.out.below (hd.below _)
    have hball := hBA.out.trans (hd.below B)
    have hE3 := hEA.out.below (hd.below B)
    have hatW := hatA.out.next (hd.below _)
    clear hd c0 c1 y0 y1 y2 y3 t0 hA hBA hEA hatA haA hb0
    generalize (w.alloc (.cells #[.int .i64 x.kind, .string ⟨x.name.toArray⟩, .slice va0 x.attrs.length vc0, .string ⟨x.text.toArray⟩] 47)).drewN nq = W at hAW hball hE3 hatW ⊢
    have c0W := hAW.c0
    have c1W := hAW.c1
    have f1W := hAW.bd.soft 1
    have d3W := hatW.c3
    simp only at c1W d3W
    have hM2 := hAW.setUp yu
    have hd := drawn_drew (W.setCell ⟨R, 1, none⟩ (.int .i64 yu))
    have hM3 := hM2.1.below (hd.below _)
    have hb3 := (hball.trans hM2.2).trans (hd.below B)
    have e3 := ((hE3.below hM2.2).below (hd.below B)).ende
    have c1z := hM3.c1
    simp only at c1z
    unfold openV at e3
    clear hAW hball hE3 hatW hM2 hd
    replace hM3 := Lib.hid hM3
    replace hb3 := Lib.hid hb3
    go_region
    by_cases hyu : yu = -1
    · have q7 : (yu != -1) = false := by rw [bne_eq_false_iff_eq]; exact hyu
      subst hyu
      go_wp2_with fail
      go_ret
      exact TakePost.nil ho.out rfl hM3.out hb3.out
    · have q7 : (yu != -1) = true := by rw [bne_iff_ne]; exact hyu
      replace hyu := Lib.hid hyu
      go_wp2_with fail
      go_ret
      exact TakePost.open ho.out hyu.out hM3.out hb3.out
  have ho := hnone.out hk1 hk3 (fun e => hk4 e.1) (fun e => hk2 ⟨e.1, e.2.2⟩)
  have q4 : (x.kind == 4) = false := by rw [beq_eq_false_iff_ne]; exact hk4
  obtain ⟨t0, t1, t2, t3⟩ := hatA.out
  generalize (atN sn (j : Int)).name = yn at t0 hk2
  unfold strV at t0
  have hq5 : (x.kind == 2) = false ∨ (x.kind == 2) = true ∧ (x.name == yn) = false := by
    cases e2 : (x.kind == 2)
    · exact Or.inl rfl
    · refine Or.inr ⟨rfl, ?_⟩
      rw [beq_eq_false_iff_ne]
      exact fun e => hk2 ⟨by simpa using e2, e⟩
  clear hstart hempty htext hend hnone hk1 hk3 hk4 hk2 t1 t2 t3
  replace ho := Lib.hid ho
  have hjl : (j : Int) < P.length := by omega
  rcases hq with ⟨q1, q3, q2⟩ | ⟨q1, q3, q2⟩ | ⟨q1, q3⟩
  all_goals rcases hq5 with q5 | ⟨q5, q6⟩
  all_goals
    go_enter Tryd.func21, Tryd.ntmps21
    go_wp2_with fail
    go_quiet (fail)
    go_wp2_with fail
    refine (fault12_any _).mono ?_; rintro e w' ⟨rfl, rfl⟩
    go_wp2_with fail
    go_ret
    exact TakePost.no ho.out (fault_new _ _ (by simp)) ((hBA.out.trans ((drawn_drewN _ nq).below B)).alloc (by simp; omega) _)
end Go.Proofs.YtodocdbnflmgnaaDoor
