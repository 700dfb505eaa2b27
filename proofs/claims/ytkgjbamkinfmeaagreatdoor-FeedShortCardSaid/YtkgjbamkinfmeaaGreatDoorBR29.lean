/- Layer 12: a builder takes a token. -/
import Derived.Test.YtkgjbamkinfmeaaGreatDoorBR28
import Derived.Test.YtkgjbamkinfmeaaGreatDoorBR16
import Derived.Test.YtkgjbamkinfmeaaGreatDoorBR02
namespace Go.Proofs.YtkgjbamkinfmeaaGreatDoor
open Go.RowKit

def formV : Value := .iface 30 (.int .i64 2)
def openV (A : Addr) : Value := .iface 224 (.pointer (some A))
/-- The program's own error lies as laid, ahead of what the call makes. -/
structure Env12 (w : World) (B : Nat) (A : Addr) : Prop where
  ende : w.cell? ⟨1, 0, none⟩ = some (openV A)
  low : 1 < B
theorem Env12.below {w w' : World} {B : Nat} {A : Addr} (h : Env12 w B A) (hb : Below B w w') : Env12 w' B A := ⟨(hb.cell (p := ⟨1, 0, none⟩) h.low).trans h.ende, h.low⟩
/-- What take answers of a state. -/
def sayV (A : Addr) (u : Int) : Value := if u = -1 then .nilIface else openV A
/-- What take comes to. -/
def TakePost (w : World) (B R : Nat) (A : Addr) : Option Bs → Ending → World → Prop
  | none, e, w' => ∃ f q, e = .returned (faultV f) ∧ FaultAt w' f q formV ∧ Below B w w'
  | some s', e, w' => e = .returned (sayV A s'.up) ∧ BdE w' B R s' ∧ Below B w w'
theorem TakePost.no {w w' : World} {B R f q : Nat} {A : Addr} {o : Option Bs} (ho : o = none) (h : FaultAt w' f q formV) (hb : Below B w w') : TakePost w B R A o (.returned (.iface 38 (.pointer (some ⟨f, 0, none⟩)))) w' := by subst ho; exact ⟨f, q, rfl, h, hb⟩
theorem TakePost.nil {w w' : World} {B R : Nat} {A : Addr} {o : Option Bs} {s' : Bs} {P : List (Nd × Value)} {v : Value} (ho : o = some s') (hu : s'.up = -1) (h : BdM w' B R s' P v) (hb : Below B w w') : TakePost w B R A o (.returned .nilIface) w' := by
  subst ho; exact ⟨by unfold sayV; rw [if_pos hu], ⟨P, v, h⟩, hb⟩
theorem TakePost.open {w w' : World} {B R : Nat} {A : Addr} {o : Option Bs} {s' : Bs} {P : List (Nd × Value)} {v : Value} (ho : o = some s') (hu : s'.up ≠ -1) (h : BdM w' B R s' P v) (hb : Below B w w') : TakePost w B R A o (.returned (.iface 224 (.pointer (some A)))) w' := by
  subst ho; exact ⟨by unfold sayV; rw [if_neg hu]; rfl, ⟨P, v, h⟩, hb⟩
section
variable {s : Bs} {x : Tk}
end
theorem fault_new (W : World) (f : Nat) (hf : f = W.heap.size) : FaultAt (W.alloc (.cells #[.int .i64 0, .iface 30 (.int .i64 2)] 40)) f 0 formV := by subst hf; exact arrAt_new W _ _

set_option maxRecDepth 100000 in
set_option maxHeartbeats 4000000 in
/-- Outside of the root: a second one, or none yet. -/
theorem take12_out (B R : Nat) (s : Bs) (P : List (Nd × Value)) (v : Value) (x : Tk) (va : Value) (A : Addr) (w : World) (h : BdM w B R s P v) (hE : Env12 w B A) (ha : AtSl w va x.attrs) (hn : P.length ≤ 1000000) (hx : x.attrs.length * 32 ≤ 140737488355328) (hu : s.up = -1) :
    Calls Tryz.prog 59 #[.pointer (some ⟨R, 0, none⟩), tkA x va] w (TakePost w B R A (takeB s x)) := by
  obtain ⟨a0, cv, rfl⟩ := own_form h.row
  obtain ⟨va0, vc0, rfl⟩ := ha.form
  have hb0 : Below w.heap.size w (boxT w x (.slice va0 x.attrs.length vc0)) := (Below.refl _ _).alloc (Nat.le_refl _) _
  have hA := h.below hb0
  have haA := ha.next hb0
  have hbx : ArrAt (boxT w x (.slice va0 x.attrs.length vc0)) w.heap.size 83 [.int .i64 x.kind, .string ⟨x.name.toArray⟩, .slice va0 x.attrs.length vc0, .string ⟨x.text.toArray⟩] := arrAt_new w _ _
  have hbB := h.base
  have hBA := hb0.mono hbB
  have hEA := hE.below hBA
  have c0 := hA.c0
  have c1 := hA.c1
  rw [hu] at c1
  have y0 : (boxT w x (.slice va0 x.attrs.length vc0)).cell? ⟨w.heap.size, 0, none⟩ = some (.int .i64 x.kind) := by rw [hbx.cell]; rfl
  have y1 : (boxT w x (.slice va0 x.attrs.length vc0)).cell? ⟨w.heap.size, 1, none⟩ = some (.string ⟨x.name.toArray⟩) := by rw [hbx.cell]; rfl
  have y2 : (boxT w x (.slice va0 x.attrs.length vc0)).cell? ⟨w.heap.size, 2, none⟩ = some (.slice va0 x.attrs.length vc0) := by rw [hbx.cell]; rfl
  have y3 : (boxT w x (.slice va0 x.attrs.length vc0)).cell? ⟨w.heap.size, 3, none⟩ = some (.string ⟨x.text.toArray⟩) := by rw [hbx.cell]; rfl
  have hwA : w.heap.size < (boxT w x (.slice va0 x.attrs.length vc0)).heap.size := by simp [boxT]
  have hout : s.nds ≠ [] → takeB s x = none := fun h2 => takeB_out hu h2
  have hstart := fun h1 h2 h3 => takeB_start (s := s) (x := x) h1 h2 h3
  have hempty := fun h1 h2 h3 => takeB_empty (s := s) (x := x) h1 h2 h3
  have hnone := fun h1 h2 h3 h4 => takeB_no (s := s) (x := x) h1 h2 h3 h4
  generalize takeB s x = o at hout hstart hempty hnone ⊢
  have hpl := h.plen
  have hpar := @element12_any B R s P (.slice a0 P.length cv) x (.slice va0 x.attrs.length vc0) _ hA haA hn hx
  clear h ha hE hbx
  unfold tkA at hpar ⊢
  unfold boxT at *
  replace hb0 := Lib.hid hb0
  replace hBA := Lib.hid hBA
  replace hA := Lib.hid hA
  replace haA := Lib.hid haA
  replace hEA := Lib.hid hEA
  replace hpar := Lib.hid hpar
  replace hstart := Lib.hid hstart
  replace hempty := Lib.hid hempty
  replace hnone := Lib.hid hnone
  by_cases hnn : s.nds = []
  · have hP : P = [] := List.length_eq_zero_iff.1 (by rw [hpl, hnn]; rfl)
    subst hP
    clear hout hpl
    have hst : ¬ (s.up = -1 ∧ s.nds ≠ []) := fun e => e.2 hnn
    by_cases hk1 : x.kind = 1 ∧ x.name ≠ []
    · have ho := hstart.out hst hk1.1 hk1.2
      have q1 : (x.kind == 1) = true := by rw [beq_iff_eq]; exact hk1.1
      have q2 : x.name.isEmpty = false := by cases hq : x.name with | nil => exact absurd hq hk1.2 | cons => rfl
      clear hstart hempty hnone hst hk1
      replace ho := Lib.hid ho
      replace hnn := Lib.hid hnn
      replace hu := Lib.hid hu
      go_enter Tryz.func59, Tryz.ntmps59
      go_wp2_with fail
      refine hpar.out.mono ?_; rintro e w1 ⟨rfl, ⟨P1, v1, m1⟩, b1⟩
      have hl1 : P1.length = 1 := by rw [m1.plen, hnn.out]; rfl
      obtain ⟨a1, cv1, rfl⟩ := own_form m1.row
      have d0 := m1.c0
      rw [hl1] at d0
      have d1 := m1.c1
      rw [hu.out] at d1
      have f1 := m1.bd.soft 1
      have hM2 := m1.setUp 0
      have d2 := hM2.1.c1
      have hb2 := (hBA.out.trans b1).trans hM2.2
      have hE2 := (hEA.out.below b1).below hM2.2
      have e2 := hE2.ende
      unfold openV at e2
      clear hpar m1 b1 hE2 c0 c1 y0 y1 y2 y3
      replace hM2 := Lib.hid hM2
      replace hb2 := Lib.hid hb2
      go_wp2_with fail
      go_ret
      exact TakePost.open ho.out (by rw [hnn.out]; simp) (by rw [hnn.out]; rw [hnn.out] at hM2; exact hM2.out.1) hb2.out
    by_cases hk3 : x.kind = 3 ∧ x.name ≠ []
    · have ho := hempty.out hst hk3.1 hk3.2
      have q1 : (x.kind == 1) = false := by rw [beq_eq_false_iff_ne]; omega
      have q3 : (x.kind == 3) = true := by rw [beq_iff_eq]; exact hk3.1
      have q2 : x.name.isEmpty = false := by cases hq : x.name with | nil => exact absurd hq hk3.2 | cons => rfl
      clear hstart hempty hnone hst hk1 hk3
      replace ho := Lib.hid ho
      replace hnn := Lib.hid hnn
      replace hu := Lib.hid hu
      go_enter Tryz.func59, Tryz.ntmps59
      go_wp2_with fail
      refine hpar.out.mono ?_; rintro e w1 ⟨rfl, ⟨P1, v1, m1⟩, b1⟩
      have d1 := m1.c1
      rw [hu.out] at d1
      have hb2 := hBA.out.trans b1
      clear hpar b1 c0 c1 y0 y1 y2 y3
      replace m1 := Lib.hid m1
      replace hb2 := Lib.hid hb2
      go_wp2_with fail
      go_ret
      exact TakePost.nil ho.out hu.out m1.out hb2.out
    have ho := hnone.out hk1 hk3 (fun e => e.2 hu) (fun e => e.2.1 hu)
    have hq : ((x.kind == 1) = true ∧ (x.kind == 3) = false ∧ x.name.isEmpty = true) ∨ ((x.kind == 1) = false ∧ (x.kind == 3) = true ∧ x.name.isEmpty = true) ∨ ((x.kind == 1) = false ∧ (x.kind == 3) = false) := by
      have hne : ∀ (_ : x.name.isEmpty = false), x.name ≠ [] := fun h e => by rw [e] at h; cases h
      cases e1 : (x.kind == 1)
      · cases e3 : (x.kind == 3)
        · exact Or.inr (Or.inr ⟨rfl, rfl⟩)
        · cases en : x.name.isEmpty
          · exact absurd ⟨by simpa using e3, hne en⟩ hk3
          · exact Or.inr (Or.inl ⟨rfl, rfl, rfl⟩)
      · cases en : x.name.isEmpty
        · exact absurd ⟨by simpa using e1, hne en⟩ hk1
        · exact Or.inl ⟨rfl, by rw [beq_eq_false_iff_ne]; rw [beq_iff_eq] at e1; omega, rfl⟩
    clear hstart hempty hnone hst hk1 hk3 hpar
    replace ho := Lib.hid ho
    replace hnn := Lib.hid hnn
    replace hu := Lib.hid hu
    cases q4 : (x.kind == 4)
    all_goals cases q5 : (x.kind == 2)
    all_goals rcases hq with ⟨q1, q3, q2⟩ | ⟨q1, q3, q2⟩ | ⟨q1, q3⟩
    all_goals
      go_enter Tryz.func59, Tryz.ntmps59
      go_wp2_with fail
      go_quiet (fail)
      go_wp2_with fail
      refine (fault12_any _).mono ?_; rintro e w' ⟨rfl, rfl⟩
      go_wp2_with fail
      go_ret
      exact TakePost.no ho.out (fault_new _ _ (by simp)) ((hBA.out.trans ((drawn_drewN _ nq).below B)).alloc (by simp; omega) _)
  · have ho := hout hnn
    have hlen : 0 < P.length := by rw [hpl]; exact List.length_pos_iff.2 hnn
    have hlen1 : (0 : Int) < P.length := by omega
    clear hout hpl hstart hempty hnone
    replace hnn := Lib.hid hnn
    replace ho := Lib.hid ho
    replace hu := Lib.hid hu
    go_enter Tryz.func59, Tryz.ntmps59
    go_wp2_with fail
    refine (fault12_any _).mono ?_; rintro e w' ⟨rfl, rfl⟩
    go_wp2_with fail
    go_ret
    exact TakePost.no ho.out (fault_new _ _ (by simp)) (hBA.out.trans ((Below.refl B _).alloc (Nat.le_trans hbB (Nat.le_of_lt hwA)) _))
end Go.Proofs.YtkgjbamkinfmeaaGreatDoor

/- Layer 12: a builder takes a token within the root. -/
namespace Go.Proofs.YtkgjbamkinfmeaaGreatDoor
open Go.RowKit

set_option maxRecDepth 100000 in
set_option maxHeartbeats 8000000 in
theorem take12_in (B R : Nat) (s : Bs) (P : List (Nd × Value)) (v : Value) (x : Tk) (va : Value) (A : Addr) (w : World) (h : BdM w B R s P v) (hE : Env12 w B A) (ha : AtSl w va x.attrs) (hn : P.length ≤ 1000000) (hx : x.attrs.length * 32 ≤ 140737488355328) (hu : s.up ≠ -1) (hs : BsOk s) :
    Calls Tryz.prog 59 #[.pointer (some ⟨R, 0, none⟩), tkA x va] w (TakePost w B R A (takeB s x)) := by
  have hup : 0 ≤ s.up ∧ s.up < s.nds.length := by
    rcases hs.up with e | e
    · exact absurd e hu
    · exact e
  have hpl := h.plen
  obtain ⟨sn, su⟩ := s
  simp only at hup hu hpl
  obtain ⟨j, rfl⟩ : ∃ j : Nat, su = j := ⟨su.toNat, by omega⟩
  have hj : j < P.length := by omega
  obtain ⟨g, cv, rfl, hBg, hgl, hcap, hob, hat⟩ := h.row.at hj
  have hnj : (P[j]'hj).1 = atN sn (j : Int) := by rw [nodes_at hj, h.nds]
  rw [hnj] at hat
  obtain ⟨va0, vc0, rfl⟩ := ha.form
  have hb0 : Below w.heap.size w (boxT w x (.slice va0 x.attrs.length vc0)) := (Below.refl _ _).alloc (Nat.le_refl _) _
  have hA := h.below hb0
  have hatA := hat.next hb0
  have haA := ha.next hb0
  have hbx : ArrAt (boxT w x (.slice va0 x.attrs.length vc0)) w.heap.size 83 [.int .i64 x.kind, .string ⟨x.name.toArray⟩, .slice va0 x.attrs.length vc0, .string ⟨x.text.toArray⟩] := arrAt_new w _ _
  have hbB := h.base
  have hBA := hb0.mono hbB
  have hEA := hE.below hBA
  have c0 := hA.c0
  have c1 := hA.c1
  have y0 : (boxT w x (.slice va0 x.attrs.length vc0)).cell? ⟨w.heap.size, 0, none⟩ = some (.int .i64 x.kind) := by rw [hbx.cell]; rfl
  have y1 : (boxT w x (.slice va0 x.attrs.length vc0)).cell? ⟨w.heap.size, 1, none⟩ = some (.string ⟨x.name.toArray⟩) := by rw [hbx.cell]; rfl
  have y2 : (boxT w x (.slice va0 x.attrs.length vc0)).cell? ⟨w.heap.size, 2, none⟩ = some (.slice va0 x.attrs.length vc0) := by rw [hbx.cell]; rfl
  have y3 : (boxT w x (.slice va0 x.attrs.length vc0)).cell? ⟨w.heap.size, 3, none⟩ = some (.string ⟨x.text.toArray⟩) := by rw [hbx.cell]; rfl
  have hwA : w.heap.size < (boxT w x (.slice va0 x.attrs.length vc0)).heap.size := by simp [boxT]
  have hst : ¬ ((⟨sn, (j : Int)⟩ : Bs).up = -1 ∧ (⟨sn, (j : Int)⟩ : Bs).nds ≠ []) := fun e => hu e.1
  have hstart := fun h2 h3 => takeB_start (s := ⟨sn, j⟩) (x := x) hst h2 h3
  have hempty := fun h2 h3 => takeB_empty (s := ⟨sn, j⟩) (x := x) hst h2 h3
  have htext := fun h2 => takeB_text (s := ⟨sn, j⟩) (x := x) h2 hu
  have hend := fun h2 h3 => takeB_end (s := ⟨sn, j⟩) (x := x) h2 hu h3
  have hnone := fun h1 h2 h3 h4 => takeB_no (s := ⟨sn, j⟩) (x := x) h1 h2 h3 h4
  generalize takeB ⟨sn, j⟩ x = o at hstart hempty htext hend hnone ⊢
  have hpar := @element12_any B R ⟨sn, j⟩ P (.slice (some ⟨g, 0, none⟩) P.length cv) x (.slice va0 x.attrs.length vc0) _ hA haA hn hx
  have hq0 : ((j : Int) != -1) = true := by rw [bne_iff_ne]; exact hu
  clear h ha hE hbx hat hst hnj hob
  unfold tkA at hpar ⊢
  unfold boxT at *
  simp only at hstart hempty htext hend hnone hpar c1
  replace hb0 := Lib.hid hb0
  replace hBA := Lib.hid hBA
  replace hA := Lib.hid hA
  replace hatA := Lib.hid hatA
  replace haA := Lib.hid haA
  replace hEA := Lib.hid hEA
  replace hpar := Lib.hid hpar
  replace hstart := Lib.hid hstart
  replace hempty := Lib.hid hempty
  replace htext := Lib.hid htext
  replace hend := Lib.hid hend
  replace hnone := Lib.hid hnone
  replace hu := Lib.hid hu
  by_cases hk1 : x.kind = 1 ∧ x.name ≠ []
  · have ho := hstart.out hk1.1 hk1.2
    have q1 : (x.kind == 1) = true := by rw [beq_iff_eq]; exact hk1.1
    have q2 : x.name.isEmpty = false := by cases hq : x.name with | nil => exact absurd hq hk1.2 | cons => rfl
    clear hstart hempty htext hend hnone hk1
    replace ho := Lib.hid ho
    obtain ⟨n, hnl⟩ : ∃ n, sn.length = n := ⟨_, rfl⟩
    rw [hnl] at hpl ho
    have q9 : ((n : Int) != -1) = true := by rw [bne_iff_ne]; omega
    replace hnl := Lib.hid hnl
    go_enter Tryz.func59, Tryz.ntmps59
    go_wp2_with fail
    refine hpar.out.mono ?_; rintro e w1 ⟨rfl, ⟨P1, v1, m1⟩, b1⟩
    have hl1 : P1.length = n + 1 := by rw [m1.plen]; simp [hnl.out]
    obtain ⟨a1, cv1, rfl⟩ := own_form m1.row
    have d0 := m1.c0
    rw [hl1] at d0
    have d1 := m1.c1
    simp only at d1
    have f1 := m1.bd.soft 1
    have hM2 := m1.setUp (n : Int)
    have d2 := hM2.1.c1
    have hb2 := (hBA.out.trans b1).trans hM2.2
    have hE2 := (hEA.out.below b1).below hM2.2
    have e2 := hE2.ende
    unfold openV at e2
    simp only at d2
    clear hpar m1 b1 hE2 c0 c1 y0 y1 y2 y3 hl1
    replace hM2 := Lib.hid hM2
    replace hb2 := Lib.hid hb2
    go_wp2_with fail
    go_ret
    exact TakePost.open ho.out (by show (n : Int) ≠ -1; omega) hM2.out.1 hb2.out
  by_cases hk3 : x.kind = 3 ∧ x.name ≠ []
  · have ho := hempty.out hk3.1 hk3.2
    have q1 : (x.kind == 1) = false := by rw [beq_eq_false_iff_ne]; omega
    have q3 : (x.kind == 3) = true := by rw [beq_iff_eq]; exact hk3.1
    have q2 : x.name.isEmpty = false := by cases hq : x.name with | nil => exact absurd hq hk3.2 | cons => rfl
    clear hstart hempty htext hend hnone hk1 hk3
    replace ho := Lib.hid ho
    go_enter Tryz.func59, Tryz.ntmps59
    go_wp2_with fail
    refine hpar.out.mono ?_; rintro e w1 ⟨rfl, ⟨P1, v1, m1⟩, b1⟩
    have d1 := m1.c1
    simp only at d1
    have hb2 := hBA.out.trans b1
    have e2 := (hEA.out.below b1).ende
    unfold openV at e2
    clear hpar b1 c0 c1 y0 y1 y2 y3
    replace m1 := Lib.hid m1
    replace hb2 := Lib.hid hb2
    go_wp2_with fail
    go_ret
    exact TakePost.open ho.out hu.out m1.out hb2.out
  have hq : ((x.kind == 1) = true ∧ (x.kind == 3) = false ∧ x.name.isEmpty = true) ∨ ((x.kind == 1) = false ∧ (x.kind == 3) = true ∧ x.name.isEmpty = true) ∨ ((x.kind == 1) = false ∧ (x.kind == 3) = false) := by
    have hne : ∀ (_ : x.name.isEmpty = false), x.name ≠ [] := fun h e => by rw [e] at h; cases h
    cases e1 : (x.kind == 1)
    · cases e3 : (x.kind == 3)
      · exact Or.inr (Or.inr ⟨rfl, rfl⟩)
      · cases en : x.name.isEmpty
        · exact absurd ⟨by simpa using e3, hne en⟩ hk3
        · exact Or.inr (Or.inl ⟨rfl, rfl, rfl⟩)
    · cases en : x.name.isEmpty
      · exact absurd ⟨by simpa using e1, hne en⟩ hk1
      · exact Or.inl ⟨rfl, by rw [beq_eq_false_iff_ne]; rw [beq_iff_eq] at e1; omega, rfl⟩
  clear hpar
  by_cases hk4 : x.kind = 4
  · have ho := htext.out hk4
    have q1 : (x.kind == 1) = false := by rw [beq_eq_false_iff_ne]; omega
    have q3 : (x.kind == 3) = false := by rw [beq_eq_false_iff_ne]; omega
    have q4 : (x.kind == 4) = true := by rw [beq_iff_eq]; exact hk4
    clear hstart hempty htext hend hnone hk1 hk3 hk4 hq hpl hup hs
    replace ho := Lib.hid ho
    have f0 := hA.out.bd.soft 0
    have c0y := (hA.out.below ((Below.refl _ _).alloc (Nat.le_refl _) (.cells #[.string ⟨#[]⟩, .slice none 0 0, .string ⟨x.text.toArray⟩, .int .i64 j] 56))).c0
    have hd := drawn_drew (w.alloc (.cells #[.int .i64 x.kind, .string ⟨x.name.toArray⟩, .slice va0 x.attrs.length vc0, .string ⟨x.text.toArray⟩] 83))
    have h3 := hA.out.below (hd.below _)
    have hlow := h3.base
    have hball := hBA.out.trans (hd.below B)
    have hE3 := hEA.out.below (hd.below B)
    clear hd
    replace h3 := Lib.hid h3
    replace hball := Lib.hid hball
    replace hE3 := Lib.hid hE3
    go_enter Tryz.func59, Tryz.ntmps59
    go_wp2_with fail
    go_region_law (refine step_append1 rfl (.tmp 68) (.tmp 76) 51 56 rfl Tryz.underlying51 (.agg #[.string ⟨#[]⟩, .slice none 0 0, .string ⟨#[]⟩, .int .i64 0]) 4 64 info_node rfl (by decide) (by decide) B _ P.length (cellsN P) [.string ⟨#[]⟩, .slice none 0 0, .string ⟨x.text.toArray⟩, .int .i64 j] rfl h3.out.row (by simp [Act.eval]) (by simp [Act.eval]) (by intro u hu; simp at hu; rcases hu with rfl | rfl | rfl | rfl <;> rfl) (by omega) (by simpa using hlow) ?_; intro v1 w1 hown1 hgr1 hwh1; obtain ⟨a1, e1, rfl⟩ := own_form hown1.out; have r1 := h3.out.bd.turned (Turned.of_grown (S := fun b => (Value.slice (some ⟨g, 0, none⟩) P.length cv).ownBlock = some b) hgr1.out fun _ e => e) (own_ne_arr h3.out.row h3.out.bd t_nb); have c0' : w1.cell? ⟨R, 0, none⟩ = some _ := (by rw [r1.cell]; rfl); have f0' := r1.soft 0; replace r1 := Lib.hid r1)
    all_goals
      have hfin := h3.out.push (y := textN x j) (va := .slice none 0 0) (ats_nil _ _) hown1.out hgr1.out
      have c1z := hfin.1.c1
      have e2z := (hE3.out.below hfin.2).ende
      simp only at c1z
      unfold openV at e2z
      replace hfin := Lib.hid hfin
      go_wp2_with fail
      go_ret
      exact TakePost.open ho.out hu.out hfin.out.1 (hball.out.trans hfin.out.2)
  by_cases hk2 : x.kind = 2 ∧ x.name = (atN sn (j : Int)).name
  · have ho := hend.out hk2.1 hk2.2
    have q1 : (x.kind == 1) = false := by rw [beq_eq_false_iff_ne]; omega
    have q3 : (x.kind == 3) = false := by rw [beq_eq_false_iff_ne]; omega
    have q4 : (x.kind == 4) = false := by rw [beq_eq_false_iff_ne]; omega
    have q5 : (x.kind == 2) = true := by rw [beq_iff_eq]; exact hk2.1
    obtain ⟨t0, t1, t2, t3⟩ := hatA.out
    have q6 : (x.name == (atN sn (j : Int)).name) = true := by rw [beq_iff_eq]; exact hk2.2
    have hyu : upN sn (j : Int) = (atN sn (j : Int)).up := rfl
    rw [hyu] at ho
    clear hstart hempty htext hend hnone hk1 hk3 hk4 hk2 t1 t2 t3 hq hyu
    generalize hxn : atN sn (j : Int) = xn at hatA ho q6 t0
    clear hxn
    obtain ⟨yn, ya, yt, yu⟩ := xn
    unfold strV at t0
    simp only at ho q6 t0
    replace ho := Lib.hid ho
    have hjl : (j : Int) < P.length := by omega
    go_enter Tryz.func59, Tryz.ntmps59
    go_wp2_with fail
    go_quiet (fail)
    go_wp2_with fail
    have hd := drawn_drewN (w.alloc (.cells #[.int .i64 x.kind, .string ⟨x.name.toArray⟩, .slice va0 x.attrs.length vc0, .string ⟨x.text.toArray⟩] 83)) nq
    have hAW := hA.out.below (hd.below _)
    have hball := hBA.out.trans (hd.below B)
    have hE3 := hEA.out.below (hd.below B)
    have hatW := hatA.out.next (hd.below _)
    clear hd c0 c1 y0 y1 y2 y3 t0 hA hBA hEA hatA haA hb0
    generalize (w.alloc (.cells #[.int .i64 x.kind, .string ⟨x.name.toArray⟩, .slice va0 x.attrs.length vc0, .string ⟨x.text.toArray⟩] 83)).drewN nq = W at hAW hball hE3 hatW ⊢
    have c0W := hAW.c0
    have c1W := hAW.c1
    have f1W := hAW.bd.soft 1
    have d3W := hatW.c3
    simp only at c1W d3W
    have hM2 := hAW.setUp yu
    have hd := drawn_drew (W.setCell ⟨R, 1, none⟩ (.int .i64 yu))
    have hM3 := hM2.1.below (hd.below _)
    have hb3 := (hball.trans hM2.2).trans (hd.below B)
    have e3 := ((hE3.below hM2.2).below (hd.below B)).ende
    have c1z := hM3.c1
    simp only at c1z
    unfold openV at e3
    clear hAW hball hE3 hatW hM2 hd
    replace hM3 := Lib.hid hM3
    replace hb3 := Lib.hid hb3
    go_region
    by_cases hyu : yu = -1
    · have q7 : (yu != -1) = false := by rw [bne_eq_false_iff_eq]; exact hyu
      subst hyu
      go_wp2_with fail
      go_ret
      exact TakePost.nil ho.out rfl hM3.out hb3.out
    · have q7 : (yu != -1) = true := by rw [bne_iff_ne]; exact hyu
      replace hyu := Lib.hid hyu
      go_wp2_with fail
      go_ret
      exact TakePost.open ho.out hyu.out hM3.out hb3.out
  have ho := hnone.out hk1 hk3 (fun e => hk4 e.1) (fun e => hk2 ⟨e.1, e.2.2⟩)
  have q4 : (x.kind == 4) = false := by rw [beq_eq_false_iff_ne]; exact hk4
  obtain ⟨t0, t1, t2, t3⟩ := hatA.out
  generalize (atN sn (j : Int)).name = yn at t0 hk2
  unfold strV at t0
  have hq5 : (x.kind == 2) = false ∨ (x.kind == 2) = true ∧ (x.name == yn) = false := by
    cases e2 : (x.kind == 2)
    · exact Or.inl rfl
    · refine Or.inr ⟨rfl, ?_⟩
      rw [beq_eq_false_iff_ne]
      exact fun e => hk2 ⟨by simpa using e2, e⟩
  clear hstart hempty htext hend hnone hk1 hk3 hk4 hk2 t1 t2 t3
  replace ho := Lib.hid ho
  have hjl : (j : Int) < P.length := by omega
  rcases hq with ⟨q1, q3, q2⟩ | ⟨q1, q3, q2⟩ | ⟨q1, q3⟩
  all_goals rcases hq5 with q5 | ⟨q5, q6⟩
  all_goals
    go_enter Tryz.func59, Tryz.ntmps59
    go_wp2_with fail
    go_quiet (fail)
    go_wp2_with fail
    refine (fault12_any _).mono ?_; rintro e w' ⟨rfl, rfl⟩
    go_wp2_with fail
    go_ret
    exact TakePost.no ho.out (fault_new _ _ (by simp)) ((hBA.out.trans ((drawn_drewN _ nq).below B)).alloc (by simp; omega) _)
end Go.Proofs.YtkgjbamkinfmeaaGreatDoor

/- Layer 12: Build. -/
namespace Go.Proofs.YtkgjbamkinfmeaaGreatDoor
open Go.RowKit

theorem take12_any (B R : Nat) (s : Bs) (P : List (Nd × Value)) (v : Value) (x : Tk) (va : Value) (A : Addr) (w : World) (h : BdM w B R s P v) (hE : Env12 w B A) (ha : AtSl w va x.attrs) (hn : P.length ≤ 1000000) (hx : x.attrs.length * 32 ≤ 140737488355328) (hs : BsOk s) :
    Calls Tryz.prog 59 #[.pointer (some ⟨R, 0, none⟩), tkA x va] w (TakePost w B R A (takeB s x)) := by
  by_cases hu : s.up = -1
  · exact take12_out B R s P v x va A w h hE ha hn hx hu
  · exact take12_in B R s P v x va A w h hE ha hn hx hu hs
/-- What lies there of the program's own variables. -/
structure Laid12 (w : World) (A : Addr) : Prop where
  ende : w.cell? ⟨1, 0, none⟩ = some (openV A)
  ty : EnvT w
theorem Laid12.env {w : World} {A : Addr} (h : Laid12 w A) : Env12 w w.heap.size A := ⟨h.ende, World.block_lt_of_cell? w ⟨1, 0, none⟩ h.ende⟩
theorem Laid12.below {w w' : World} {A : Addr} (h : Laid12 w A) (hb : Below w.heap.size w w') : Laid12 w' A := ⟨(h.env.below hb).ende, h.ty.below hb⟩
/-- What Build comes to. -/
def BuildPost (w : World) : Option (List Nd) → Ending → World → Prop
  | some l, e, w' => ∃ v P, e = .returned (.tuple #[v, .nilIface]) ∧ NdSl w' v P ∧ nodes P = l ∧ Below w.heap.size w w'
  | none, e, w' => ∃ f q, e = .returned (.tuple #[.slice none 0 0, faultV f]) ∧ FaultAt w' f q formV ∧ Below w.heap.size w w'
theorem BuildPost.ok {w w' : World} {o : Option (List Nd)} {l : List Nd} {v : Value} {P : List (Nd × Value)} (ho : o = some l) (h : NdSl w' v P) (hP : nodes P = l) (hb : Below w.heap.size w w') : BuildPost w o (.returned (.tuple #[v, .nilIface])) w' := by subst ho; exact ⟨v, P, rfl, h, hP, hb⟩
theorem BuildPost.no {w w' : World} {o : Option (List Nd)} {f q : Nat} (ho : o = none) (h : FaultAt w' f q formV) (hb : Below w.heap.size w w') : BuildPost w o (.returned (.tuple #[.slice none 0 0, .iface 38 (.pointer (some ⟨f, 0, none⟩))])) w' := by subst ho; exact ⟨f, q, rfl, h, hb⟩
/-- What the loop of Build keeps. -/
structure BuildAt (l : List Tk) (A : Addr) (w : World) (k : Nat) (s : Bs) (u : Value) (wr : World) : Prop where
  fold : foldB bs0 (l.take k) = some s
  ok : BsOk s
  len : s.nds.length ≤ k
  err : u = if k = 0 then openV A else sayV A s.up
  mem : BdE wr w.heap.size w.heap.size s
  below : Below w.heap.size w wr
  ne : 0 < k → s.nds ≠ []
theorem bdM_new (w : World) : BdM (w.alloc (.cells #[.slice none 0 0, .int .i64 (-1)] 124)) w.heap.size w.heap.size bs0 [] (.slice none 0 0) :=
  ⟨arrAt_new w _ [.slice none 0 0, .int .i64 (-1)], ownN_nil _ _, rfl, fun p h => by simp at h, Nat.le_refl _⟩
/-- A fault outlives what errors.As does. -/
theorem fault_kept {w w1 : World} {f q p : Nat} {v x : Value} (h : FaultAt w f q v) (hb : Below (w.heap.size + 1) (w.alloc (.cells #[.pointer none] 38)) w1) (hp : p = w.heap.size) : FaultAt (w1.setCell ⟨p, 0, none⟩ x) f q v := by
  subst hp
  have hlt := ArrAt.lt h
  have h1 : ArrAt (w.alloc (.cells #[.pointer none] 38)) f 40 [.int .i64 q, v] := ArrAt.next h ((Below.refl _ _).alloc (Nat.le_refl _) _)
  have h2 : ArrAt w1 f 40 [.int .i64 q, v] := h1.below hb (by omega)
  exact h2.far 0 x (by omega)

set_option maxRecDepth 100000 in
set_option maxHeartbeats 8000000 in
theorem build12_any (PT : List (Tk × Value)) (v : Value) (A : Addr) (w : World) (h : TkSl w v PT) (hL : Laid12 w A) (hn : PT.length ≤ 100000) (hx : ∀ p ∈ PT, p.1.attrs.length * 32 ≤ 140737488355328) :
    Calls Tryz.prog 37 #[v] w (BuildPost w (buildB (PT.map Prod.fst))) := by
  obtain ⟨o, ho⟩ : ∃ o, buildB (PT.map Prod.fst) = o := ⟨_, rfl⟩
  rw [ho]
  obtain ⟨l, hl⟩ : ∃ l, PT.map Prod.fst = l := ⟨_, rfl⟩
  rw [hl] at ho
  have hll : l.length = PT.length := by rw [← hl]; simp
  have hb0 : Below w.heap.size w (w.alloc (.cells #[.slice none 0 0, .int .i64 (-1)] 124)) := (Below.refl _ _).alloc (Nat.le_refl _) _
  have hm0 := bdM_new w
  have hst : BuildAt l A w 0 bs0 (openV A) (w.alloc (.cells #[.slice none 0 0, .int .i64 (-1)] 124)) :=
    ⟨rfl, bsOk_0, Nat.le_refl _, by simp, ⟨_, _, hm0⟩, hb0, fun e => by omega⟩
  have hends := (hL.below hb0).ende
  obtain ⟨va, vc, rfl⟩ := h.form
  unfold openV at hst hends
  clear hm0
  replace hst := Lib.hid hst
  replace hb0 := Lib.hid hb0
  replace hL := Lib.hid hL
  replace h := Lib.hid h
  replace hx := Lib.hid hx
  replace hl := Lib.hid hl
  replace hll := Lib.hid hll
  replace ho := Lib.hid ho
  go_enter Tryz.func37, Tryz.ntmps37
  go_wp2_with fail
  clear hends
  go_loopw [5, 14] (fun u ii wr => ∃ (k : Nat) (s : Bs), ii = .int .i64 k ∧ k ≤ PT.length ∧ Hid (BuildAt l A w k s u wr)) (fun _ ii _ => PT.length - (intOf ii).toNat)
  case atStart => exact ⟨0, bs0, rfl, Nat.zero_le _, hst⟩
  case round =>
    clear hst hb0
    obtain ⟨k, s, rfl, hk, hB⟩ := hrel
    by_cases hlt : k < PT.length
    · have hlt1 : (k : Int) < PT.length := by omega
      obtain ⟨b, off, cap, hcap, hbl, hve, hcl⟩ := h.out.some (by omega)
      injection hve with hve1 hve2 hve3
      clear hve2
      subst hve1 hve3
      have hsz := hB.out.below.size
      have hbw : b < wr.heap.size := by omega
      obtain ⟨d0, d1, d2, d3⟩ := (hcl k hlt).next hB.out.below
      have ats := (h.out.atsAt k hlt).next hB.out.below
      have hxk := hx.out _ (List.getElem_mem hlt)
      have hnext := foldB_next l k (by rw [hll.out]; exact hlt) hB.out.fold
      rw [show l[k]'(by rw [hll.out]; exact hlt) = (PT[k]'hlt).1 by simp [← hl.out]] at hnext
      clear hcl
      generalize PT[k]'hlt = p at d0 d1 d2 d3 ats hxk hnext
      obtain ⟨t, tv⟩ := p
      simp only at d0 d1 d2 d3 ats hxk hnext
      obtain ⟨ta, tc, rfl⟩ := ats.form
      unfold strV at d1 d3
      have hbW : Below wr.heap.size wr (wr.alloc (.cells #[.int .i64 t.kind, .string ⟨t.name.toArray⟩, .slice ta t.attrs.length tc, .string ⟨t.text.toArray⟩] 83)) := (Below.refl _ _).alloc (Nat.le_refl _) _
      obtain ⟨P, bv, m⟩ := hB.out.mem
      have mW := m.below hbW
      have envW := (hL.out.env.below hB.out.below).below (hbW.mono hsz)
      have atsW := ats.next hbW
      have hPl : P.length ≤ 1000000 := by rw [m.plen]; have := hB.out.len; omega
      have htake := take12_any w.heap.size w.heap.size s P bv t (.slice ta t.attrs.length tc) A _ mW envW atsW hPl hxk hB.out.ok
      have hbWw := hB.out.below.trans (hbW.mono hsz)
      clear m mW envW atsW ats hbW hPl hxk
      unfold tkA at htake
      replace hbWw := Lib.hid hbWw
      cases htk : takeB s t with
      | none =>
        rw [htk] at htake hnext
        have hon := Lib.hid (ho.out.symm.trans (buildB_bad l (k + 1) hnext))
        clear hnext
        replace htake := Lib.hid htake
        replace htk := Lib.hid htk
        go_wp2_with fail
        refine htake.out.mono ?_; rintro e w1 ⟨f, q, rfl, hfa, hb1⟩
        have hbw1 := hbWw.out.trans hb1
        have hT1 := (hL.out.ty.below hbw1).below ((Below.refl w1.heap.size w1).alloc (Nat.le_refl _) (.cells #[.pointer none] 38))
        have hF := arrAt_new w1 38 [.pointer none]
        have hF0 : (w1.alloc (.cells #[.pointer none] 38)).cell? ⟨w1.heap.size, 0, none⟩ = some (.pointer none) := by rw [show (#[Value.pointer none] : Array Value) = [Value.pointer none].toArray from rfl, hF.cell]; rfl
        have hF1 : (w1.alloc (.cells #[.pointer none] 38)).frozen? ⟨w1.heap.size, 0, none⟩ = false := hF.soft 0
        have hs1 := hbw1.size
        clear hF htake
        replace hfa := Lib.hid hfa
        replace hbw1 := Lib.hid hbw1
        replace hb1 := Lib.hid hb1
        replace hT1 := Lib.hid hT1
        replace hF0 := Lib.hid hF0
        replace hF1 := Lib.hid hF1
        unfold faultV
        go_wp2_with fail
        refine (as11_fault f w1.heap.size _ (.pointer none) hF0.out hF1.out hT1.out).mono ?_; rintro e w' ⟨rfl, w2, hb2, rfl⟩
        have hsz1 : (w1.alloc (.cells #[.pointer none] 38)).heap.size = w1.heap.size + 1 := by simp
        rw [hsz1] at hb2
        have hfk := fault_kept (x := .pointer (some ⟨f, 0, none⟩)) hfa.out hb2 rfl
        have hc0 : (w2.setCell ⟨w1.heap.size, 0, none⟩ (.pointer (some ⟨f, 0, none⟩))).cell? ⟨w1.heap.size, 0, none⟩ = some (.pointer (some ⟨f, 0, none⟩)) := by
          have h1 : w2.cell? ⟨w1.heap.size, 0, none⟩ = some (.pointer none) := (hb2.cell (p := ⟨w1.heap.size, 0, none⟩) (by show w1.heap.size < _; omega)).trans hF0.out
          simp [go_sem, h1]
        have hbz : Below w.heap.size w (w2.setCell ⟨w1.heap.size, 0, none⟩ (.pointer (some ⟨f, 0, none⟩))) :=
          ((hbw1.out.alloc hs1 (.cells #[.pointer none] 38)).trans (hb2.mono (by omega))).setCell (p := ⟨w1.heap.size, 0, none⟩) hs1 _
        clear hb2 hfa hT1 hF0 hF1
        generalize w2.setCell ⟨w1.heap.size, 0, none⟩ (.pointer (some ⟨f, 0, none⟩)) = W3 at hfk hc0 hbz ⊢
        replace hfk := Lib.hid hfk
        replace hbz := Lib.hid hbz
        go_wp2_with fail
        go_quiet (fail)
        go_wp2_with fail
        go_ret2
        exact BuildPost.no hon.out (hfk.out.below ((drawn_drewN W3 nq).below _)) (hbz.out.trans ((drawn_drewN W3 nq).below _))
      | some s' =>
        rw [htk] at htake hnext
        obtain ⟨hok, hne, hlen⟩ := takeB_ok hB.out.ok htk
        have hlen2 : s'.nds.length ≤ k + 1 := by have := hB.out.len; omega
        by_cases hu : s'.up = -1
        · have hsay : sayV A s'.up = .nilIface := by unfold sayV; rw [if_pos hu]
          replace hnext := Lib.hid hnext
          replace hlen := Lib.hid hlen
          replace htake := Lib.hid htake
          replace htk := Lib.hid htk
          replace hok := Lib.hid hok
          replace hne := Lib.hid hne
          replace hu := Lib.hid hu
          replace hsay := Lib.hid hsay
          go_wp2_with fail
          refine htake.out.mono ?_; rintro e w1 ⟨he, ⟨P2, v2, m2⟩, hb1⟩
          rw [hsay.out] at he
          subst he
          have hbw1 := hbWw.out.trans hb1
          have hs1 := hbw1.size
          clear htake
          replace hbw1 := Lib.hid hbw1
          replace hb1 := Lib.hid hb1
          replace m2 := Lib.hid m2
          go_wp2_with fail
          refine (as11_nil _ _).mono ?_; rintro e w2 ⟨rfl, rfl⟩
          go_wp2_with fail
          exact ⟨⟨k + 1, s', by go_num, by omega, ⟨hnext.out, hok.out, hlen2, by rw [if_neg (by omega), hsay.out], ⟨P2, v2, m2.out.below ((Below.refl _ _).alloc (Nat.le_refl _) _)⟩, hbw1.out.alloc hs1 _, fun _ => hne.out⟩⟩, by simp [intOf]; omega⟩
        · have hsay : sayV A s'.up = openV A := by unfold sayV; rw [if_neg hu]
          replace hnext := Lib.hid hnext
          replace hlen := Lib.hid hlen
          replace htake := Lib.hid htake
          replace htk := Lib.hid htk
          replace hok := Lib.hid hok
          replace hne := Lib.hid hne
          replace hu := Lib.hid hu
          replace hsay := Lib.hid hsay
          go_wp2_with fail
          refine htake.out.mono ?_; rintro e w1 ⟨he, ⟨P2, v2, m2⟩, hb1⟩
          rw [hsay.out] at he
          subst he
          have hbw1 := hbWw.out.trans hb1
          have hs1 := hbw1.size
          have hT1 := (hL.out.ty.below hbw1).below ((Below.refl w1.heap.size w1).alloc (Nat.le_refl _) (.cells #[.pointer none] 38))
          have hF := arrAt_new w1 38 [.pointer none]
          have hF0 : (w1.alloc (.cells #[.pointer none] 38)).cell? ⟨w1.heap.size, 0, none⟩ = some (.pointer none) := by rw [show (#[Value.pointer none] : Array Value) = [Value.pointer none].toArray from rfl, hF.cell]; rfl
          clear htake hF
          replace hbw1 := Lib.hid hbw1
          replace hb1 := Lib.hid hb1
          replace m2 := Lib.hid m2
          replace hT1 := Lib.hid hT1
          replace hF0 := Lib.hid hF0
          unfold openV
          go_wp2_with fail
          refine (as11_end A w1.heap.size _ (.pointer none) hF0.out hT1.out).mono ?_; rintro e w2 ⟨rfl, hb2⟩
          have hm3 := (m2.out.below ((Below.refl _ _).alloc (Nat.le_refl _) _)).below hb2
          have hbz := (hbw1.out.alloc hs1 (.cells #[.pointer none] 38)).trans (hb2.mono (by simp; omega))
          clear hb2 m2
          replace hm3 := Lib.hid hm3
          replace hbz := Lib.hid hbz
          go_wp2_with fail
          exact ⟨⟨k + 1, s', by go_num, by omega, ⟨hnext.out, hok.out, hlen2, by rw [if_neg (by omega), hsay.out]; rfl, ⟨P2, v2, hm3.out⟩, hbz.out, fun _ => hne.out⟩⟩, by simp [intOf]; omega⟩
    · have hlt2 : ¬ ((k : Int) < PT.length) := by omega
      obtain rfl : k = PT.length := by omega
      have hfold := hB.out.fold
      rw [← hll.out] at hfold
      have hbe := buildB_end l hfold
      rw [ho.out] at hbe
      have hE := (hL.out.below hB.out.below).ende
      unfold openV at hE
      have herr := hB.out.err
      obtain ⟨P, bv, m⟩ := hB.out.mem
      have hs1 := hB.out.below.size
      have hbf := hB.out.below
      have hbase : Below w.heap.size w (wr.alloc (.cells #[.int .i64 0, .iface 30 (.int .i64 2)] 40)) := hbf.alloc hs1 _
      replace hbf := Lib.hid hbf
      replace hbase := Lib.hid hbase
      by_cases hgood : 0 < PT.length ∧ s.up = -1
      · rw [if_neg (by omega)] at herr
        have hsay := herr.trans (show sayV A s.up = .nilIface by unfold sayV; rw [if_pos hgood.2])
        have hoo := Lib.hid (hbe.trans (if_pos ⟨hgood.2, hB.out.ne hgood.1⟩))
        clear herr hB
        subst hsay
        obtain ⟨ba, bc, rfl⟩ := own_form m.row
        have c0 := m.c0
        have hsl := OwnN.sl m.row fun p hp => (m.ats p hp).sl
        have hnds := m.nds
        clear m hbe hfold hgood
        replace hsl := Lib.hid hsl
        replace hnds := Lib.hid hnds
        go_wp2_with fail
        refine (is11_nil A _).mono ?_; rintro e w2 ⟨rfl, rfl⟩
        go_wp2_with fail
        go_ret2
        exact BuildPost.ok hoo.out hsl.out hnds.out hbf.out
      · have hsay := herr.trans (show (if PT.length = 0 then openV A else sayV A s.up) = .iface 224 (.pointer (some A)) by
          by_cases h0 : PT.length = 0
          · rw [if_pos h0]; rfl
          · rw [if_neg h0]
            unfold sayV
            rw [if_neg (fun e => hgood ⟨by omega, e⟩)]
            rfl)
        have hoo : o = none := by
          rw [hbe]
          by_cases h0 : PT.length = 0
          · have hl0 : l = [] := List.length_eq_zero_iff.1 (by rw [hll.out, h0])
            rw [hl0] at hfold
            injection hfold with hfold
            rw [if_neg (fun e => e.2 (by rw [← hfold]; rfl))]
          · rw [if_neg (fun e => hgood ⟨by omega, e.1⟩)]
        clear herr hB m hbe hfold hgood
        replace hoo := Lib.hid hoo
        subst hsay
        go_wp2_with fail
        refine (is11_same A _).mono ?_; rintro e w2 ⟨rfl, rfl⟩
        go_wp2_with fail
        refine (fault12_any _).mono ?_; rintro e w' ⟨rfl, rfl⟩
        go_wp2_with fail
        go_ret2
        exact BuildPost.no hoo.out (fault_new _ _ rfl) hbase.out
end Go.Proofs.YtkgjbamkinfmeaaGreatDoor
