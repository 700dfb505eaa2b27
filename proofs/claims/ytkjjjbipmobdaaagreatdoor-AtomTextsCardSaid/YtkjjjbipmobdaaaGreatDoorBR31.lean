/- Layer 12: the reference's Build. -/
import Derived.Test.YtkjjjbipmobdaaaGreatDoorBR22
import Derived.Test.YtkjjjbipmobdaaaGreatDoorBR01
import Derived.Deep.RegionHeld3
namespace Go.Proofs.YtkjjjbipmobdaaaGreatDoor
open Go.RowKit

/-- A kind is one of four, or none. -/
theorem kind_cases (k : Int) : ((k == 1) = true ∧ (k == 3) = false ∧ (k == 4) = false ∧ (k == 2) = false) ∨ ((k == 1) = false ∧ (k == 3) = true ∧ (k == 4) = false ∧ (k == 2) = false) ∨
    ((k == 1) = false ∧ (k == 3) = false ∧ (k == 4) = true ∧ (k == 2) = false) ∨ ((k == 1) = false ∧ (k == 3) = false ∧ (k == 4) = false ∧ (k == 2) = true) ∨ ((k == 1) = false ∧ (k == 3) = false ∧ (k == 4) = false ∧ (k == 2) = false) := by
  simp only [beq_iff_eq, beq_eq_false_iff_ne]
  omega
theorem empty_iff (l : List UInt8) : (l.isEmpty = true ↔ l = []) ∧ (l.isEmpty = false ↔ l ≠ []) := by cases l <;> simp
/-- What the loop of the reference's Build keeps. -/
structure RefAt12 (l : List Tk) (w : World) (k : Nat) (s : Bs) (v : Value) (wr : World) (P : List (Nd × Value)) : Prop where
  fold : foldB bs0 (l.take k) = some s
  ok : BsOk s
  len : s.nds.length ≤ k
  row : OwnN wr w.heap.size v P
  nds : nodes P = s.nds
  ats : ∀ p ∈ P, AtSl w p.2 p.1.attrs
  below : Below w.heap.size w wr
/-- What the reference's Build comes to. -/
def RefPost12 (w : World) : Option (List Nd) → Ending → World → Prop
  | some l, e, w' => ∃ v P, e = .returned (.tuple #[v, .int .i64 0]) ∧ NdSl w' v P ∧ nodes P = l ∧ Below w.heap.size w w'
  | none, e, w' => e = .returned (.tuple #[.slice none 0 0, .int .i64 2]) ∧ Below w.heap.size w w'
theorem RefPost12.ok {w w' : World} {o : Option (List Nd)} {l : List Nd} {v : Value} {P : List (Nd × Value)} (ho : o = some l) (h : NdSl w' v P) (hP : nodes P = l) (hb : Below w.heap.size w w') : RefPost12 w o (.returned (.tuple #[v, .int .i64 0])) w' := by subst ho; exact ⟨v, P, rfl, h, hP, hb⟩
theorem RefPost12.no {w w' : World} {o : Option (List Nd)} (ho : o = none) (hb : Below w.heap.size w w') : RefPost12 w o (.returned (.tuple #[.slice none 0 0, .int .i64 2])) w' := by subst ho; exact ⟨rfl, hb⟩
theorem RefAt12.push {l : List Tk} {w wr w1 : World} {k : Nat} {s : Bs} {v v1 : Value} {P : List (Nd × Value)} {y : Nd} {va : Value} {u : Int} (h : RefAt12 l w k s v wr P) (hf : foldB bs0 (l.take (k + 1)) = some ⟨s.nds ++ [y], u⟩) (hy : y.up = s.up) (hu : u = s.up ∨ u = s.nds.length) (ha : AtSl w va y.attrs)
    (ho : w1.ownsRow w.heap.size 51 4 v1 (P.length + 1) (cellsN P ++ ndV (y, va))) (hb : Below w.heap.size w w1) : RefAt12 l w (k + 1) ⟨s.nds ++ [y], u⟩ v1 w1 (P ++ [(y, va)]) := by
  refine ⟨hf, h.ok.app y u hy hu, by have := h.len; simp; omega, ?_, ?_, ?_, hb⟩
  · unfold OwnN
    rw [List.length_append, cellsN_app]
    have e : cellsN [(y, va)] = ndV (y, va) := by simp [cellsN]
    rw [e]; exact ho
  · show nodes (P ++ [(y, va)]) = s.nds ++ [y]
    unfold nodes
    rw [List.map_append, ← h.nds]
    rfl
  · intro p hp
    rcases List.mem_append.1 hp with hp | hp
    · exact h.ats p hp
    · rw [List.mem_singleton] at hp; subst hp; exact ha

theorem own_grown {W w2 : World} {B E z n : Nat} {v : Value} {xs : List Value} (h : W.ownsRow B E z v n xs) (hg : W.grownBy w2 v.ownBlock) (hB : B ≤ W.heap.size) : Below B W w2 := (Below.refl B W).grown hg hB fun k hk => (h.lt k hk).1
theorem t_nt : 51 ≠ 100 := by decide

set_option maxRecDepth 100000 in
set_option maxHeartbeats 8000000 in
theorem refbuild12_any (PT : List (Tk × Value)) (v : Value) (w : World) (h : TkSl w v PT) (hn : PT.length ≤ 100000) :
    Calls Tryz.prog 42 #[v] w (RefPost12 w (buildB (PT.map Prod.fst))) := by
  obtain ⟨o, ho⟩ : ∃ o, buildB (PT.map Prod.fst) = o := ⟨_, rfl⟩
  rw [ho]
  obtain ⟨l, hl⟩ : ∃ l, PT.map Prod.fst = l := ⟨_, rfl⟩
  rw [hl] at ho
  have hll : l.length = PT.length := by rw [← hl]; simp
  have hst : RefAt12 l w 0 bs0 (.slice none 0 0) w [] := ⟨rfl, bsOk_0, Nat.le_refl _, ownN_nil _ _, rfl, fun p h => by simp at h, Below.refl _ _⟩
  obtain ⟨va, vc, rfl⟩ := h.form
  replace hst := Lib.hid hst
  replace h := Lib.hid h
  replace hl := Lib.hid hl
  replace hll := Lib.hid hll
  replace ho := Lib.hid ho
  go_enter Tryz.func42, Tryz.ntmps42
  go_wp2_with fail
  go_loopw [4, 5, 6] (fun uu pp ii wr => ∃ (k m : Nat) (s : Bs) (a' : Option Addr) (c' : Nat) (P : List (Nd × Value)), uu = .slice a' m c' ∧ pp = .int .i64 s.up ∧ ii = .int .i64 k ∧ k ≤ PT.length ∧ Hid (m = P.length) ∧ Hid (RefAt12 l w k s uu wr P)) (fun _ _ ii _ => PT.length - (intOf ii).toNat)
  case atStart => exact ⟨0, 0, bs0, none, 0, [], rfl, rfl, rfl, Nat.zero_le _, rfl, hst⟩
  case round =>
    clear hst
    obtain ⟨k, m, ⟨sn, su⟩, a', c', P, rfl, rfl, rfl, hk, hm, hB⟩ := hrel
    have hmk : m ≤ k := by
      have h1 := hB.out.len
      have h2 := congrArg List.length hB.out.nds
      rw [nodes_len] at h2
      rw [hm.out, h2]
      exact h1
    by_cases hlt : k < PT.length
    · have hlt1 : (k : Int) < PT.length := by omega
      obtain ⟨b, off, cap, hcap, hbl, hve, hcl⟩ := h.out.some (by omega)
      injection hve with hve1 hve2 hve3
      clear hve2
      subst hve1 hve3
      have hsz := hB.out.below.size
      have hbw : b < wr.heap.size := by omega
      obtain ⟨d0, d1, d2, d3⟩ := (hcl k hlt).next hB.out.below
      have ats := h.out.atsAt k hlt
      have hnext := foldB_next l k (by rw [hll.out]; exact hlt) hB.out.fold
      rw [show l[k]'(by rw [hll.out]; exact hlt) = (PT[k]'hlt).1 by simp [← hl.out]] at hnext
      clear hcl
      generalize PT[k]'hlt = p at d0 d1 d2 d3 ats hnext
      obtain ⟨x, tv⟩ := p
      simp only at d0 d1 d2 d3 ats hnext
      obtain ⟨ta, tc, rfl⟩ := ats.form
      unfold strV at d1 d3
      have hbW : Below w.heap.size w (wr.alloc (.cells #[.int .i64 x.kind, .string ⟨x.name.toArray⟩, .slice ta x.attrs.length tc, .string ⟨x.text.toArray⟩] 100)) := hB.out.below.alloc hsz _
      have hrow : OwnN (wr.alloc (.cells #[.int .i64 x.kind, .string ⟨x.name.toArray⟩, .slice ta x.attrs.length tc, .string ⟨x.text.toArray⟩] 100)) w.heap.size (.slice a' m c') P := World.ownsRow.alloc hB.out.row _
      have hup := hB.out.ok.up
      simp only at hup
      have hbad : foldB bs0 (l.take (k + 1)) = none → o = none := fun e => ho.out.symm.trans (buildB_bad l (k + 1) e)
      replace hbad := Lib.hid hbad
      replace hbW := Lib.hid hbW
      replace hrow := Lib.hid hrow
      replace ats := Lib.hid ats
      have hwr1 : wr.heap.size < wr.heap.size + 1 := by omega
      have hen := empty_iff x.name
      have hstart := fun h1 h2 h3 => takeB_start (s := ⟨sn, su⟩) (x := x) h1 h2 h3
      have hempty := fun h1 h2 h3 => takeB_empty (s := ⟨sn, su⟩) (x := x) h1 h2 h3
      have htext := fun h2 h1 => takeB_text (s := ⟨sn, su⟩) (x := x) h2 h1
      have hend := fun h2 h1 h3 => takeB_end (s := ⟨sn, su⟩) (x := x) h2 h1 h3
      have hnone := fun h1 h2 h3 h4 => takeB_no (s := ⟨sn, su⟩) (x := x) h1 h2 h3 h4
      have hout := fun h1 h2 => takeB_out (s := ⟨sn, su⟩) (x := x) h1 h2
      simp only [← hnext] at hstart hempty htext hend hnone hout
      clear hnext
      replace hstart := Lib.hid hstart
      replace hempty := Lib.hid hempty
      replace htext := Lib.hid htext
      replace hend := Lib.hid hend
      replace hnone := Lib.hid hnone
      replace hout := Lib.hid hout
      rcases hup with rfl | hup
      · -- outside
        by_cases hnn : sn = []
        · subst hnn
          obtain rfl : m = 0 := by
            have h2 := congrArg List.length hB.out.nds
            rw [nodes_len] at h2
            rw [hm.out, h2]; rfl
          have hP0 : P.length = 0 := hm.out.symm
          have hst : ¬ ((-1 : Int) = -1 ∧ ([] : List Nd) ≠ []) := fun e => e.2 rfl
          replace hP0 := Lib.hid hP0
          have hPb : P.length ≤ 100000 := by rw [hP0.out]; omega
          rcases kind_cases x.kind with ⟨q1, q3, q4, q5⟩ | ⟨q1, q3, q4, q5⟩ | ⟨q1, q3, q4, q5⟩ | ⟨q1, q3, q4, q5⟩ | ⟨q1, q3, q4, q5⟩
          · cases q2 : x.name.isEmpty
            · have hf := hstart.out hst (by simpa using q1) (hen.2.1 q2)
              replace hf := Lib.hid hf
              clear hstart hempty htext hend hnone hout hbad hen
              go_wp2_with (at_builtin; go_must (refine wpList_appendk rfl _ _ 22 51 rfl Tryz.underlying22 (.agg #[.string ⟨#[]⟩, .slice none 0 0, .string ⟨#[]⟩, .int .i64 0]) 4 64 info_node rfl (by decide) (by decide) w.heap.size _ P.length (cellsN P) [.string ⟨x.name.toArray⟩, .slice ta x.attrs.length tc, .string ⟨#[]⟩, .int .i64 (-1)] rfl hrow.out rfl (by first | rfl | simp [Act.eval]) (by intro u hu; simp at hu; rcases hu with rfl | rfl | rfl | rfl <;> rfl) (by omega) (by simp; omega) ?_))
              intro v2 w2 h1 h2 h3
              have hbx : ArrAt (wr.alloc (.cells #[.int .i64 x.kind, .string ⟨x.name.toArray⟩, .slice ta x.attrs.length tc, .string ⟨x.text.toArray⟩] 100)) wr.heap.size 100 [.int .i64 x.kind, .string ⟨x.name.toArray⟩, .slice ta x.attrs.length tc, .string ⟨x.text.toArray⟩] := arrAt_new wr _ _
              have hbx2 := hbx.grown h2.out (Ne.symm (own_ne_arr hrow.out hbx t_nt))
              have y0 : w2.cell? ⟨wr.heap.size, 0, none⟩ = some (.int .i64 x.kind) := by rw [hbx2.cell]; rfl
              have hb2 := hbW.out.trans (own_grown hrow.out h2.out (by simp; omega))
              have hR2 := hB.out.push (y := elemN x (-1)) (va := .slice ta x.attrs.length tc) (v1 := v2) hf.out rfl (Or.inr rfl) ats.out h1.out hb2
              obtain ⟨a2, c2, rfl⟩ := own_form h1.out
              clear hbx hbx2 hb2 h1 h2 h3 hrow hbW
              replace hR2 := Lib.hid hR2
              go_wp2_with fail
              exact ⟨⟨k + 1, P.length + 1, ⟨[] ++ [elemN x (-1)], ((([] : List Nd).length : Nat) : Int)⟩, a2, c2, _, rfl, by simp [hP0.out], by go_num, by omega, Lib.hid (by simp), hR2⟩, by simp [intOf]; omega⟩
            · have hf := hnone.out (fun e => e.2 (hen.1.1 q2)) (fun e => by simp [e.1] at q3) (fun e => by simp [e.1] at q4) (fun e => by simp [e.1] at q5)
              clear hstart hempty htext hend hnone hout hrow
              go_wp2_with fail
              go_quiet (fail)
              go_wp2_with fail
              go_ret2
              exact RefPost12.no (hbad.out hf) (hbW.out.trans ((drawn_drewN _ nq).below _))
          · cases q2 : x.name.isEmpty
            · have hf := hempty.out hst (by simpa using q3) (hen.2.1 q2)
              replace hf := Lib.hid hf
              clear hstart hempty htext hend hnone hout hbad hen
              go_wp2_with (at_builtin; go_must (refine wpList_appendk rfl _ _ 22 51 rfl Tryz.underlying22 (.agg #[.string ⟨#[]⟩, .slice none 0 0, .string ⟨#[]⟩, .int .i64 0]) 4 64 info_node rfl (by decide) (by decide) w.heap.size _ P.length (cellsN P) [.string ⟨x.name.toArray⟩, .slice ta x.attrs.length tc, .string ⟨#[]⟩, .int .i64 (-1)] rfl hrow.out rfl (by first | rfl | simp [Act.eval]) (by intro u hu; simp at hu; rcases hu with rfl | rfl | rfl | rfl <;> rfl) (by omega) (by simp; omega) ?_))
              intro v2 w2 h1 h2 h3
              have hbx : ArrAt (wr.alloc (.cells #[.int .i64 x.kind, .string ⟨x.name.toArray⟩, .slice ta x.attrs.length tc, .string ⟨x.text.toArray⟩] 100)) wr.heap.size 100 [.int .i64 x.kind, .string ⟨x.name.toArray⟩, .slice ta x.attrs.length tc, .string ⟨x.text.toArray⟩] := arrAt_new wr _ _
              have hbx2 := hbx.grown h2.out (Ne.symm (own_ne_arr hrow.out hbx t_nt))
              have y0 : w2.cell? ⟨wr.heap.size, 0, none⟩ = some (.int .i64 x.kind) := by rw [hbx2.cell]; rfl
              have hb2 := hbW.out.trans (own_grown hrow.out h2.out (by simp; omega))
              have hR2 := hB.out.push (y := elemN x (-1)) (va := .slice ta x.attrs.length tc) (v1 := v2) hf.out rfl (Or.inl rfl) ats.out h1.out hb2
              obtain ⟨a2, c2, rfl⟩ := own_form h1.out
              clear hbx hbx2 hb2 h1 h2 h3 hrow hbW
              replace hR2 := Lib.hid hR2
              go_wp2_with fail
              exact ⟨⟨k + 1, P.length + 1, ⟨[] ++ [elemN x (-1)], -1⟩, a2, c2, _, rfl, rfl, by go_num, by omega, Lib.hid (by simp), hR2⟩, by simp [intOf]; omega⟩
            · have hf := hnone.out (fun e => by simp [e.1] at q1) (fun e => e.2 (hen.1.1 q2)) (fun e => by simp [e.1] at q4) (fun e => by simp [e.1] at q5)
              clear hstart hempty htext hend hnone hout hrow
              go_wp2_with fail
              go_quiet (fail)
              go_wp2_with fail
              go_ret2
              exact RefPost12.no (hbad.out hf) (hbW.out.trans ((drawn_drewN _ nq).below _))
          all_goals
            have hf := hnone.out (fun e => by simp [e.1] at q1) (fun e => by simp [e.1] at q3) (fun e => e.2 rfl) (fun e => e.2.1 rfl)
            clear hstart hempty htext hend hnone hout hrow
            go_wp2_with fail
            go_quiet (fail)
            go_wp2_with fail
            go_ret2
            exact RefPost12.no (hbad.out hf) (hbW.out.trans ((drawn_drewN _ nq).below _))
        · have hf := hout.out rfl hnn
          have hlen : 0 < m := by
            have h2 := congrArg List.length hB.out.nds
            rw [nodes_len] at h2
            rw [hm.out, h2]
            exact List.length_pos_iff.2 hnn
          have hlen0 : ((m : Int) == 0) = false := by rw [beq_eq_false_iff_ne]; omega
          rcases kind_cases x.kind with ⟨q1, q3, q4, q5⟩ | ⟨q1, q3, q4, q5⟩ | ⟨q1, q3, q4, q5⟩ | ⟨q1, q3, q4, q5⟩ | ⟨q1, q3, q4, q5⟩
          all_goals cases q2 : x.name.isEmpty
          all_goals
            clear hstart hempty htext hend hnone hout hrow
            go_wp2_with fail
            go_quiet (fail)
            go_wp2_with fail
            go_ret2
            exact RefPost12.no (hbad.out hf) (hbW.out.trans ((drawn_drewN _ nq).below _))
      · -- inside
        obtain ⟨j, rfl⟩ : ∃ j : Nat, su = j := ⟨su.toNat, by omega⟩
        have hpl : P.length = sn.length := by
          have h2 := congrArg List.length hB.out.nds
          rw [nodes_len] at h2
          exact h2
        have hj : j < P.length := by omega
        obtain ⟨g2, cv, hv, _, hgl, hcap2, _, hat⟩ := hB.out.row.at hj
        injection hv with e1 e2 e3
        subst e1 e2 e3
        have hnj : (P[j]'hj).1 = atN sn (j : Int) := by rw [nodes_at hj, hB.out.nds]
        rw [hnj] at hat
        obtain ⟨t0, _, _, t3⟩ := hat.next ((Below.refl wr.heap.size wr).alloc (Nat.le_refl _) (.cells #[.int .i64 x.kind, .string ⟨x.name.toArray⟩, .slice ta x.attrs.length tc, .string ⟨x.text.toArray⟩] 100))
        clear hat hnj
        have hju : ((j : Int)) ≠ -1 := by omega
        have hst : ¬ ((j : Int) = -1 ∧ sn ≠ []) := fun e => hju e.1
        have hjl : (j : Int) < P.length := by omega
        have hyu : upN sn (j : Int) = (atN sn (j : Int)).up := rfl
        have hPb : P.length ≤ 100000 := by omega
        replace hpl := Lib.hid hpl
        replace hju := Lib.hid hju
        unfold strV at t0
        clear hup
        rcases kind_cases x.kind with ⟨q1, q3, q4, q5⟩ | ⟨q1, q3, q4, q5⟩ | ⟨q1, q3, q4, q5⟩ | ⟨q1, q3, q4, q5⟩ | ⟨q1, q3, q4, q5⟩
        · cases q2 : x.name.isEmpty
          · have hf := hstart.out hst (by simpa using q1) (hen.2.1 q2)
            replace hf := Lib.hid hf
            clear hstart hempty htext hend hnone hout hbad hen t0 t3
            go_wp2_with (at_builtin; go_must (refine wpList_appendk rfl _ _ 22 51 rfl Tryz.underlying22 (.agg #[.string ⟨#[]⟩, .slice none 0 0, .string ⟨#[]⟩, .int .i64 0]) 4 64 info_node rfl (by decide) (by decide) w.heap.size _ P.length (cellsN P) [.string ⟨x.name.toArray⟩, .slice ta x.attrs.length tc, .string ⟨#[]⟩, .int .i64 j] rfl hrow.out rfl (by first | rfl | simp [Act.eval]) (by intro u hu; simp at hu; rcases hu with rfl | rfl | rfl | rfl <;> rfl) (by omega) (by simp; omega) ?_))
            intro v2 w2 h1 h2 h3
            have hbx : ArrAt (wr.alloc (.cells #[.int .i64 x.kind, .string ⟨x.name.toArray⟩, .slice ta x.attrs.length tc, .string ⟨x.text.toArray⟩] 100)) wr.heap.size 100 [.int .i64 x.kind, .string ⟨x.name.toArray⟩, .slice ta x.attrs.length tc, .string ⟨x.text.toArray⟩] := arrAt_new wr _ _
            have hbx2 := hbx.grown h2.out (Ne.symm (own_ne_arr hrow.out hbx t_nt))
            have y0 : w2.cell? ⟨wr.heap.size, 0, none⟩ = some (.int .i64 x.kind) := by rw [hbx2.cell]; rfl
            have hb2 := hbW.out.trans (own_grown hrow.out h2.out (by simp; omega))
            have hR2 := hB.out.push (y := elemN x j) (va := .slice ta x.attrs.length tc) (v1 := v2) hf.out rfl (Or.inr rfl) ats.out h1.out hb2
            obtain ⟨a2, c2, rfl⟩ := own_form h1.out
            clear hbx hbx2 hb2 h1 h2 h3 hrow hbW
            replace hR2 := Lib.hid hR2
            go_wp2_with fail
            exact ⟨⟨k + 1, P.length + 1, ⟨sn ++ [elemN x j], ((sn.length : Nat) : Int)⟩, a2, c2, _, rfl, by rw [← hpl.out], by go_num, by omega, Lib.hid (by simp), hR2⟩, by simp [intOf]; omega⟩
          · have hf := hnone.out (fun e => e.2 (hen.1.1 q2)) (fun e => by simp [e.1] at q3) (fun e => by simp [e.1] at q4) (fun e => by simp [e.1] at q5)
            clear hstart hempty htext hend hnone hout hrow t3
            go_wp2_with fail
            go_quiet (fail)
            go_wp2_with fail
            go_ret2
            exact RefPost12.no (hbad.out hf) (hbW.out.trans ((drawn_drewN _ nq).below _))
        · cases q2 : x.name.isEmpty
          · have hf := hempty.out hst (by simpa using q3) (hen.2.1 q2)
            replace hf := Lib.hid hf
            clear hstart hempty htext hend hnone hout hbad hen t0 t3
            go_wp2_with (at_builtin; go_must (refine wpList_appendk rfl _ _ 22 51 rfl Tryz.underlying22 (.agg #[.string ⟨#[]⟩, .slice none 0 0, .string ⟨#[]⟩, .int .i64 0]) 4 64 info_node rfl (by decide) (by decide) w.heap.size _ P.length (cellsN P) [.string ⟨x.name.toArray⟩, .slice ta x.attrs.length tc, .string ⟨#[]⟩, .int .i64 j] rfl hrow.out rfl (by first | rfl | simp [Act.eval]) (by intro u hu; simp at hu; rcases hu with rfl | rfl | rfl | rfl <;> rfl) (by omega) (by simp; omega) ?_))
            intro v2 w2 h1 h2 h3
            have hbx : ArrAt (wr.alloc (.cells #[.int .i64 x.kind, .string ⟨x.name.toArray⟩, .slice ta x.attrs.length tc, .string ⟨x.text.toArray⟩] 100)) wr.heap.size 100 [.int .i64 x.kind, .string ⟨x.name.toArray⟩, .slice ta x.attrs.length tc, .string ⟨x.text.toArray⟩] := arrAt_new wr _ _
            have hbx2 := hbx.grown h2.out (Ne.symm (own_ne_arr hrow.out hbx t_nt))
            have y0 : w2.cell? ⟨wr.heap.size, 0, none⟩ = some (.int .i64 x.kind) := by rw [hbx2.cell]; rfl
            have hb2 := hbW.out.trans (own_grown hrow.out h2.out (by simp; omega))
            have hR2 := hB.out.push (y := elemN x j) (va := .slice ta x.attrs.length tc) (v1 := v2) hf.out rfl (Or.inl rfl) ats.out h1.out hb2
            obtain ⟨a2, c2, rfl⟩ := own_form h1.out
            clear hbx hbx2 hb2 h1 h2 h3 hrow hbW
            replace hR2 := Lib.hid hR2
            go_wp2_with fail
            exact ⟨⟨k + 1, P.length + 1, ⟨sn ++ [elemN x j], (j : Int)⟩, a2, c2, _, rfl, rfl, by go_num, by omega, Lib.hid (by simp), hR2⟩, by simp [intOf]; omega⟩
          · have hf := hnone.out (fun e => by simp [e.1] at q1) (fun e => e.2 (hen.1.1 q2)) (fun e => by simp [e.1] at q4) (fun e => by simp [e.1] at q5)
            clear hstart hempty htext hend hnone hout hrow t3
            go_wp2_with fail
            go_quiet (fail)
            go_wp2_with fail
            go_ret2
            exact RefPost12.no (hbad.out hf) (hbW.out.trans ((drawn_drewN _ nq).below _))
        · have hf := htext.out (by simpa using q4) hju.out
          replace hf := Lib.hid hf
          clear hstart hempty htext hend hnone hout hbad hen t0 t3
          go_wp2_with (at_builtin; go_must (refine wpList_appendk rfl _ _ 22 51 rfl Tryz.underlying22 (.agg #[.string ⟨#[]⟩, .slice none 0 0, .string ⟨#[]⟩, .int .i64 0]) 4 64 info_node rfl (by decide) (by decide) w.heap.size _ P.length (cellsN P) [.string ⟨#[]⟩, .slice none 0 0, .string ⟨x.text.toArray⟩, .int .i64 j] rfl hrow.out rfl (by first | rfl | simp [Act.eval]) (by intro u hu; simp at hu; rcases hu with rfl | rfl | rfl | rfl <;> rfl) (by omega) (by simp; omega) ?_))
          intro v2 w2 h1 h2 h3
          have hbx : ArrAt (wr.alloc (.cells #[.int .i64 x.kind, .string ⟨x.name.toArray⟩, .slice ta x.attrs.length tc, .string ⟨x.text.toArray⟩] 100)) wr.heap.size 100 [.int .i64 x.kind, .string ⟨x.name.toArray⟩, .slice ta x.attrs.length tc, .string ⟨x.text.toArray⟩] := arrAt_new wr _ _
          have hbx2 := hbx.grown h2.out (Ne.symm (own_ne_arr hrow.out hbx t_nt))
          have y0 : w2.cell? ⟨wr.heap.size, 0, none⟩ = some (.int .i64 x.kind) := by rw [hbx2.cell]; rfl
          have hb2 := hbW.out.trans (own_grown hrow.out h2.out (by simp; omega))
          have hR2 := hB.out.push (y := textN x j) (va := .slice none 0 0) (v1 := v2) hf.out rfl (Or.inl rfl) (atSl_nil _ _ _) h1.out hb2
          obtain ⟨a2, c2, rfl⟩ := own_form h1.out
          clear hbx hbx2 hb2 h1 h2 h3 hrow hbW
          replace hR2 := Lib.hid hR2
          go_wp2_with fail
          exact ⟨⟨k + 1, P.length + 1, ⟨sn ++ [textN x j], (j : Int)⟩, a2, c2, _, rfl, rfl, by go_num, by omega, Lib.hid (by simp), hR2⟩, by simp [intOf]; omega⟩
        · cases q6 : ((atN sn (j : Int)).name == x.name)
          · have hf := hnone.out (fun e => by simp [e.1] at q1) (fun e => by simp [e.1] at q3) (fun e => by simp [e.1] at q4) (fun e => by rw [beq_eq_false_iff_ne] at q6; exact q6 e.2.2.symm)
            generalize (atN sn (j : Int)).name = yn at t0 q6
            clear hstart hempty htext hend hnone hout hrow t3
            go_wp2_with fail
            go_quiet (fail)
            go_wp2_with fail
            go_ret2
            exact RefPost12.no (hbad.out hf) (hbW.out.trans ((drawn_drewN _ nq).below _))
          · have hf := hend.out (by simpa using q5) hju.out (by rw [beq_iff_eq] at q6; exact q6.symm)
            have hok := (takeB_ok hB.out.ok ((foldB_next l k (by rw [hll.out]; exact hlt) hB.out.fold).symm.trans hf)).1
            rw [hyu] at hf hok
            clear hstart hempty htext hend hnone hout hbad hen hyu
            generalize hxn : atN sn (j : Int) = xn at t0 t3 q6 hf hok
            clear hxn
            obtain ⟨yn, ya, yt, yu⟩ := xn
            simp only at t0 t3 q6 hf hok
            replace hf := Lib.hid hf
            replace hok := Lib.hid hok
            go_wp2_with fail
            go_quiet (fail)
            go_wp2_with fail
            exact ⟨⟨k + 1, P.length, ⟨sn, yu⟩, _, _, P, rfl, rfl, by go_num, by omega, rfl, ⟨hf.out, hok.out, Nat.le_succ_of_le hB.out.len, ownsRow_drawn hrow.out (drawn_drewN _ nq), hB.out.nds, hB.out.ats, hbW.out.trans ((drawn_drewN _ nq).below _)⟩⟩, by simp [intOf]; omega⟩
        · have hf := hnone.out (fun e => by simp [e.1] at q1) (fun e => by simp [e.1] at q3) (fun e => by simp [e.1] at q4) (fun e => by simp [e.1] at q5)
          clear hstart hempty htext hend hnone hout hrow t3
          go_wp2_with fail
          go_quiet (fail)
          go_wp2_with fail
          go_ret2
          exact RefPost12.no (hbad.out hf) (hbW.out.trans ((drawn_drewN _ nq).below _))
    · have hlt2 : ¬ ((k : Int) < PT.length) := by omega
      obtain rfl : k = PT.length := by omega
      have hfold := hB.out.fold
      rw [← hll.out] at hfold
      have hbe := buildB_end l hfold
      rw [ho.out] at hbe
      simp only at hbe
      have hup := hB.out.ok.up
      simp only at hup
      have hpl : P.length = sn.length := by
        have h2 := congrArg List.length hB.out.nds
        rw [nodes_len] at h2
        exact h2
      rcases hup with rfl | hup
      · by_cases hm0 : m = 0
        · have hoo : o = none := by
            rw [hbe, if_neg]
            intro e
            exact e.2 (List.length_eq_zero_iff.1 (by rw [← hpl, ← hm.out, hm0]))
          subst hm0
          clear hbe hfold hpl
          replace hoo := Lib.hid hoo
          go_wp2_with fail
          go_ret2
          exact RefPost12.no hoo.out hB.out.below
        · have hoo : o = some sn := by
            rw [hbe, if_pos]
            refine ⟨rfl, fun e => hm0 ?_⟩
            rw [hm.out, hpl, e]; rfl
          have hlen0 : ((m : Int) == 0) = false := by rw [beq_eq_false_iff_ne]; omega
          have hsl := OwnN.sl hB.out.row fun p hp => (hB.out.ats p hp).next hB.out.below
          clear hbe hfold hpl
          replace hoo := Lib.hid hoo
          replace hsl := Lib.hid hsl
          go_wp2_with fail
          go_ret2
          exact RefPost12.ok hoo.out hsl.out hB.out.nds hB.out.below
      · have hoo : o = none := by
          rw [hbe, if_neg]
          intro e
          omega
        obtain ⟨j, rfl⟩ : ∃ j : Nat, su = j := ⟨su.toNat, by omega⟩
        clear hbe hfold hpl hup
        replace hoo := Lib.hid hoo
        go_wp2_with fail
        go_ret2
        exact RefPost12.no hoo.out hB.out.below
end Go.Proofs.YtkjjjbipmobdaaaGreatDoor

/- A held region (go_region_held3's law), operation by operation: one taken first, one that its guard holds back, a call. -/
namespace Go.Proofs.YtkjjjbipmobdaaaGreatDoor
section
variable {P : Program} {md : Region.Mode} {ops : Array Oper} {Q : Exit → Act → World → Prop} {S : World → Prop}
/-- An operation of a held region that reads alone, taken first. -/
theorem held_take {fuel : Nat} {listed : Array Bool} {a : Act} {w : World} (i : Nat) {oi : Oper} {v : Value} (hi : ops.toList[i]? = some oi)
    (hs : Region.noSelect ops = true) (hf : Region.free md ops listed i = true) (hr : (Region.ready md ops listed).contains i = true)
    (hQ : ∀ c a w, Q (.panic c) (a.put oi.dst v) w → Q (.panic c) a w) (hw : Region.wanted oi (yielded ops a.tmps) = true) (hy : ∀ w, S w → (execOp a.eval oi).run P w = .ok (.value v) w) (hS : S w)
    (h : wpAnyH P md ops Q S fuel (listed.setIfInBounds i true) (a.put oi.dst v) w) : wpAnyH P md ops Q S (fuel + 1) listed a w := by
  rw [Array.getElem?_toList] at hi
  exact wpAnyH_take hi hs hf hr hQ (Or.inl ⟨hw, hy⟩) hS h
/-- One that its guard holds back. -/
theorem held_skip {fuel : Nat} {listed : Array Bool} {a : Act} {w : World} (i : Nat) {oi : Oper} (hi : ops.toList[i]? = some oi)
    (hs : Region.noSelect ops = true) (hf : Region.free md ops listed i = true) (hr : (Region.ready md ops listed).contains i = true)
    (hQ : ∀ c a w, Q (.panic c) (a.put oi.dst undef) w → Q (.panic c) a w) (hw : Region.wanted oi (yielded ops a.tmps) = false) (hS : S w)
    (h : wpAnyH P md ops Q S fuel (listed.setIfInBounds i true) (a.put oi.dst undef) w) : wpAnyH P md ops Q S (fuel + 1) listed a w := by
  rw [Array.getElem?_toList] at hi
  exact wpAnyH_take hi hs hf hr hQ (Or.inr ⟨hw, rfl⟩) hS h
/-- A call, which alone may come up. -/
theorem held_call {fuel : Nat} {listed : Array Bool} {a : Act} {w : World} {i : Nat} {o : Oper} {rs : List Nat} (ho : ops.toList[i]? = some o)
    (h : ∀ K' : Act → World → Prop, Shut (∀ a w, S w → (S w → wpAnyH P md ops Q S fuel (listed.setIfInBounds i true) a w) → K' a w) → if Region.wanted o (yielded ops a.tmps) = true then Oper.wp P o a w K' Q else K' (a.put o.dst undef) w)
    (hs : AllReadyH P md ops Q S fuel listed a w rs) : AllReadyH P md ops Q S fuel listed a w (i :: rs) := by
  rw [Array.getElem?_toList] at ho
  exact AllReadyH.cons ho h hs
end
end Go.Proofs.YtkjjjbipmobdaaaGreatDoor
