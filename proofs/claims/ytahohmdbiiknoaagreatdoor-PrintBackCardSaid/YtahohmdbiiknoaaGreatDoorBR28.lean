/- Nodes that a call builds: append where the row is told; steps of a builder, plain. -/
import Derived.Test.YtahohmdbiiknoaaGreatDoorBR07
import Derived.Test.YtahohmdbiiknoaaGreatDoorBR22
import Derived.Test.YtahohmdbiiknoaaGreatDoorBR01
import Derived.Test.YtahohmdbiiknoaaGreatDoorBR04
import Derived.Test.YtahohmdbiiknoaaGreatDoorBR05
import Derived.Test.YtahohmdbiiknoaaGreatDoorBR14
import Derived.Test.YtahohmdbiiknoaaGreatDoorBR21
import Derived.Test.YtahohmdbiiknoaaGreatDoorBR27
namespace Go.Proofs.YtahohmdbiiknoaaGreatDoor
open Go.RowKit

theorem t_an : 112 ≠ 49 := by decide
theorem info_attr12 : (Tryz.prog.info? 112).map (fun i => (i.zero, i.size, i.bytes)) = some (some (.agg #[.string ⟨#[]⟩, .string ⟨#[]⟩]), 2, 32) := by kernel_rfl
/-- Append of attributes that can be read. -/
theorem wpList_append_at {P : Program} {ops : Array Oper} {rest : List Oper} {o : Oper} {a : Act} {Q : Exit → Act → World → Prop} {w : World} (hw : Region.wanted o (yielded ops a.tmps) = true) (s x : Operand) (t e : TypeId)
    (ho : o.op = .call { callee := .builtin .append, args := #[s, x], argTypes := #[t, t] }) (ht : P.underlying t = some (.slice e))
    (z : Value) (bytes : Nat) (hi : (P.info? e).map (fun i => (i.zero, i.size, i.bytes)) = some (some z, 2, bytes)) (hzs : z.cells.size = 2) (hby : 0 < bytes)
    (B : Nat) (v : Value) (n : Nat) (xs : List Value) (hown : w.ownsRow B e 2 v n xs) (v2 : Value) (ys : List At) (hsl : AtSl w v2 ys) (hs : a.eval s = v) (hx : a.eval x = v2)
    (hn : (n + ys.length) * bytes ≤ 140737488355328) (hB : B ≤ w.heap.size)
    (h : ∀ v' w', w'.ownsRow B e 2 v' (n + ys.length) (xs ++ cellsA ys) → Below B w w' → wpList P ops Q rest (a.put o.dst v') w') : wpList P ops Q (o :: rest) a w := by
  obtain ⟨i0, hi, hz0, hz1, hz2⟩ := info_parts hi
  have hn1 : n + ys.length ≤ (n + ys.length) * bytes := Nat.le_mul_of_pos_right _ hby
  rcases hsl with ⟨rfl, ad, c, rfl⟩ | ⟨b, off, c, _, rfl, hc⟩
  · cases ad with
    | none =>
      refine BigFrame.wpList_want hw fun K hK => ?_
      have hrun := run_append_none (P := P) (w := w) B t o.type e i0 2 ht hi v n c xs hown
      have hK' := hK _ _ (h v w (by simpa [cellsA] using hown) (Below.refl _ _))
      unfold Oper.wp
      simp [execOp, ho, resolve, invoke, builtin, hs, hx, hrun, Result.andThen]
      exact hK'
    | some ad =>
      refine BigFrame.wpList_want hw fun K hK => wp_append_own _ s x t ho B e i0 z 2 bytes ht hi hz0 hz1 hz2 hzs (by decide) v n xs hs hown ad 0 c [] hx rfl (by simp) (by simp) (by unfold maxLen; simp at hn1 hn ⊢; omega) (by simpa using hn) hB ?_
      intro v' w' h1 h2 _
      exact hK _ _ (h v' w' (by simpa [cellsA] using h1) ((Below.refl B w).grown h2 hB fun k hk => (hown.lt k hk).1))
  · refine BigFrame.wpList_want hw fun K hK => wp_append_own _ s x t ho B e i0 z 2 bytes ht hi hz0 hz1 hz2 hzs (by decide) v n xs hs hown ⟨b, off, none⟩ ys.length c (cellsA ys) hx (cellsA_len ys) ?_ (cellsA_one' ys) (by unfold maxLen; omega) hn hB ?_
    · intro j u hu
      have hj : j < (cellsA ys).length := (List.getElem?_eq_some_iff.1 hu).1
      rw [cellsA_len] at hj
      have hj2 : j / 2 < ys.length := by omega
      obtain ⟨e0, e1⟩ := cellsA_at ys (j / 2) hj2
      obtain ⟨f0, f1⟩ := hc (j / 2) hj2
      rw [addr_mid]
      rcases Nat.mod_two_eq_zero_or_one j with hm | hm
      · have ej : j / 2 * 2 = j := by omega
        rw [ej] at e0 f0
        rw [f0, ← e0, hu]
      · have ej : j / 2 * 2 + 1 = j := by omega
        rw [Nat.add_assoc, ej] at f1
        rw [ej] at e1
        rw [f1, ← e1, hu]
    · intro v' w' h1 h2 _
      exact hK _ _ (h v' w' h1 ((Below.refl B w).grown h2 hB fun k hk => (hown.lt k hk).1))
/-- A token as an argument. -/
def tkA (x : Tk) (va : Value) : Value := .agg #[.int .i64 x.kind, .string ⟨x.name.toArray⟩, va, .string ⟨x.text.toArray⟩]
section
variable {s : Bs} {x : Tk}
theorem takeB_out (h1 : s.up = -1) (h2 : s.nds ≠ []) : takeB s x = none := by unfold takeB; rw [if_pos ⟨h1, h2⟩]
theorem takeB_start (h : ¬ (s.up = -1 ∧ s.nds ≠ [])) (hk : x.kind = 1) (hn : x.name ≠ []) : takeB s x = some ⟨s.nds ++ [elemN x s.up], s.nds.length⟩ := by unfold takeB; rw [if_neg h, if_pos ⟨hk, hn⟩]
theorem takeB_empty (h : ¬ (s.up = -1 ∧ s.nds ≠ [])) (hk : x.kind = 3) (hn : x.name ≠ []) : takeB s x = some ⟨s.nds ++ [elemN x s.up], s.up⟩ := by unfold takeB; rw [if_neg h, if_neg (by omega), if_pos ⟨hk, hn⟩]
theorem takeB_text (hk : x.kind = 4) (hu : s.up ≠ -1) : takeB s x = some ⟨s.nds ++ [textN x s.up], s.up⟩ := by unfold takeB; rw [if_neg (fun e => hu e.1), if_neg (by omega), if_neg (by omega), if_pos ⟨hk, hu⟩]
theorem takeB_end (hk : x.kind = 2) (hu : s.up ≠ -1) (hn : x.name = (atN s.nds s.up).name) : takeB s x = some ⟨s.nds, upN s.nds s.up⟩ := by unfold takeB; rw [if_neg (fun e => hu e.1), if_neg (by omega), if_neg (by omega), if_neg (by omega), if_pos ⟨hk, hu, hn⟩]
theorem takeB_no (h1 : ¬ (x.kind = 1 ∧ x.name ≠ [])) (h3 : ¬ (x.kind = 3 ∧ x.name ≠ [])) (h4 : ¬ (x.kind = 4 ∧ s.up ≠ -1)) (h2 : ¬ (x.kind = 2 ∧ s.up ≠ -1 ∧ x.name = (atN s.nds s.up).name)) : takeB s x = none := by
  unfold takeB
  by_cases h : s.up = -1 ∧ s.nds ≠ []
  · rw [if_pos h]
  · rw [if_neg h, if_neg h1, if_neg h3, if_neg h4, if_neg h2]
end
/-- A token's box. -/
abbrev boxT (w : World) (x : Tk) (va : Value) : World := w.alloc (.cells #[.int .i64 x.kind, .string ⟨x.name.toArray⟩, va, .string ⟨x.text.toArray⟩] 65)
theorem foldB_app : ∀ (l m : List Tk) (s : Bs), foldB s (l ++ m) = match foldB s l with | none => none | some s' => foldB s' m
  | [], m, s => rfl
  | x :: t, m, s => by
    rw [List.cons_append, foldB, foldB]
    cases takeB s x with
    | none => rfl
    | some s' => exact foldB_app t m s'
theorem foldB_next (l : List Tk) (k : Nat) (h : k < l.length) {s : Bs} (e : foldB bs0 (l.take k) = some s) : foldB bs0 (l.take (k + 1)) = takeB s (l[k]'h) := by
  rw [List.take_add_one, List.getElem?_eq_getElem h, Option.toList_some, foldB_app, e]
  show foldB s [l[k]] = _
  rw [foldB]
  cases takeB s l[k] with
  | none => rfl
  | some s' => rfl
theorem buildB_bad (l : List Tk) (k : Nat) (e : foldB bs0 (l.take k) = none) : buildB l = none := by
  have h := foldB_app (l.take k) (l.drop k) bs0
  rw [List.take_append_drop, e] at h
  unfold buildB
  rw [h]
theorem buildB_end (l : List Tk) {s : Bs} (e : foldB bs0 (l.take l.length) = some s) : buildB l = if s.up = -1 ∧ s.nds ≠ [] then some s.nds else none := by
  rw [List.take_length] at e
  unfold buildB
  rw [e]
end Go.Proofs.YtahohmdbiiknoaaGreatDoor

/- Layer 12: the reference's Build. -/
namespace Go.Proofs.YtahohmdbiiknoaaGreatDoor
open Go.RowKit

/-- A kind is one of four, or none. -/
theorem kind_cases (k : Int) : ((k == 1) = true ∧ (k == 3) = false ∧ (k == 4) = false ∧ (k == 2) = false) ∨ ((k == 1) = false ∧ (k == 3) = true ∧ (k == 4) = false ∧ (k == 2) = false) ∨
    ((k == 1) = false ∧ (k == 3) = false ∧ (k == 4) = true ∧ (k == 2) = false) ∨ ((k == 1) = false ∧ (k == 3) = false ∧ (k == 4) = false ∧ (k == 2) = true) ∨ ((k == 1) = false ∧ (k == 3) = false ∧ (k == 4) = false ∧ (k == 2) = false) := by
  simp only [beq_iff_eq, beq_eq_false_iff_ne]
  omega
theorem empty_iff (l : List UInt8) : (l.isEmpty = true ↔ l = []) ∧ (l.isEmpty = false ↔ l ≠ []) := by cases l <;> simp
/-- What the loop of the reference's Build keeps. -/
structure RefAt12 (l : List Tk) (w : World) (k : Nat) (s : Bs) (v : Value) (wr : World) (P : List (Nd × Value)) : Prop where
  fold : foldB bs0 (l.take k) = some s
  ok : BsOk s
  len : s.nds.length ≤ k
  row : OwnN wr w.heap.size v P
  nds : nodes P = s.nds
  ats : ∀ p ∈ P, AtSl w p.2 p.1.attrs
  below : Below w.heap.size w wr
/-- What the reference's Build comes to. -/
def RefPost12 (w : World) : Option (List Nd) → Ending → World → Prop
  | some l, e, w' => ∃ v P, e = .returned (.tuple #[v, .int .i64 0]) ∧ NdSl w' v P ∧ nodes P = l ∧ Below w.heap.size w w'
  | none, e, w' => e = .returned (.tuple #[.slice none 0 0, .int .i64 2]) ∧ Below w.heap.size w w'
theorem RefPost12.ok {w w' : World} {o : Option (List Nd)} {l : List Nd} {v : Value} {P : List (Nd × Value)} (ho : o = some l) (h : NdSl w' v P) (hP : nodes P = l) (hb : Below w.heap.size w w') : RefPost12 w o (.returned (.tuple #[v, .int .i64 0])) w' := by subst ho; exact ⟨v, P, rfl, h, hP, hb⟩
theorem RefPost12.no {w w' : World} {o : Option (List Nd)} (ho : o = none) (hb : Below w.heap.size w w') : RefPost12 w o (.returned (.tuple #[.slice none 0 0, .int .i64 2])) w' := by subst ho; exact ⟨rfl, hb⟩
theorem RefAt12.push {l : List Tk} {w wr w1 : World} {k : Nat} {s : Bs} {v v1 : Value} {P : List (Nd × Value)} {y : Nd} {va : Value} {u : Int} (h : RefAt12 l w k s v wr P) (hf : foldB bs0 (l.take (k + 1)) = some ⟨s.nds ++ [y], u⟩) (hy : y.up = s.up) (hu : u = s.up ∨ u = s.nds.length) (ha : AtSl w va y.attrs)
    (ho : w1.ownsRow w.heap.size 49 4 v1 (P.length + 1) (cellsN P ++ ndV (y, va))) (hb : Below w.heap.size w w1) : RefAt12 l w (k + 1) ⟨s.nds ++ [y], u⟩ v1 w1 (P ++ [(y, va)]) := by
  refine ⟨hf, h.ok.app y u hy hu, by have := h.len; simp; omega, ?_, ?_, ?_, hb⟩
  · unfold OwnN
    rw [List.length_append, cellsN_app]
    have e : cellsN [(y, va)] = ndV (y, va) := by simp [cellsN]
    rw [e]; exact ho
  · show nodes (P ++ [(y, va)]) = s.nds ++ [y]
    unfold nodes
    rw [List.map_append, ← h.nds]
    rfl
  · intro p hp
    rcases List.mem_append.1 hp with hp | hp
    · exact h.ats p hp
    · rw [List.mem_singleton] at hp; subst hp; exact ha

theorem own_grown {W w2 : World} {B E z n : Nat} {v : Value} {xs : List Value} (h : W.ownsRow B E z v n xs) (hg : W.grownBy w2 v.ownBlock) (hB : B ≤ W.heap.size) : Below B W w2 := (Below.refl B W).grown hg hB fun k hk => (h.lt k hk).1
theorem t_nt : 49 ≠ 65 := by decide

set_option maxRecDepth 100000 in
set_option maxHeartbeats 8000000 in
theorem refbuild12_any (PT : List (Tk × Value)) (v : Value) (w : World) (h : TkSl w v PT) (hn : PT.length ≤ 100000) :
    Calls Tryz.prog 22 #[v] w (RefPost12 w (buildB (PT.map Prod.fst))) := by
  obtain ⟨o, ho⟩ : ∃ o, buildB (PT.map Prod.fst) = o := ⟨_, rfl⟩
  rw [ho]
  obtain ⟨l, hl⟩ : ∃ l, PT.map Prod.fst = l := ⟨_, rfl⟩
  rw [hl] at ho
  have hll : l.length = PT.length := by rw [← hl]; simp
  have hst : RefAt12 l w 0 bs0 (.slice none 0 0) w [] := ⟨rfl, bsOk_0, Nat.le_refl _, ownN_nil _ _, rfl, fun p h => by simp at h, Below.refl _ _⟩
  obtain ⟨va, vc, rfl⟩ := h.form
  replace hst := Lib.hid hst
  replace h := Lib.hid h
  replace hl := Lib.hid hl
  replace hll := Lib.hid hll
  replace ho := Lib.hid ho
  go_enter Tryz.func22, Tryz.ntmps22
  go_wp2_with fail
  go_loopw [4, 5, 6] (fun uu pp ii wr => ∃ (k m : Nat) (s : Bs) (a' : Option Addr) (c' : Nat) (P : List (Nd × Value)), uu = .slice a' m c' ∧ pp = .int .i64 s.up ∧ ii = .int .i64 k ∧ k ≤ PT.length ∧ Hid (m = P.length) ∧ Hid (RefAt12 l w k s uu wr P)) (fun _ _ ii _ => PT.length - (intOf ii).toNat)
  case atStart => exact ⟨0, 0, bs0, none, 0, [], rfl, rfl, rfl, Nat.zero_le _, rfl, hst⟩
  case round =>
    clear hst
    obtain ⟨k, m, ⟨sn, su⟩, a', c', P, rfl, rfl, rfl, hk, hm, hB⟩ := hrel
    have hmk : m ≤ k := by
      have h1 := hB.out.len
      have h2 := congrArg List.length hB.out.nds
      rw [nodes_len] at h2
      rw [hm.out, h2]
      exact h1
    by_cases hlt : k < PT.length
    · have hlt1 : (k : Int) < PT.length := by omega
      obtain ⟨b, off, cap, hcap, hbl, hve, hcl⟩ := h.out.some (by omega)
      injection hve with hve1 hve2 hve3
      clear hve2
      subst hve1 hve3
      have hsz := hB.out.below.size
      have hbw : b < wr.heap.size := by omega
      obtain ⟨d0, d1, d2, d3⟩ := (hcl k hlt).next hB.out.below
      have ats := h.out.atsAt k hlt
      have hnext := foldB_next l k (by rw [hll.out]; exact hlt) hB.out.fold
      rw [show l[k]'(by rw [hll.out]; exact hlt) = (PT[k]'hlt).1 by simp [← hl.out]] at hnext
      clear hcl
      generalize PT[k]'hlt = p at d0 d1 d2 d3 ats hnext
      obtain ⟨x, tv⟩ := p
      simp only at d0 d1 d2 d3 ats hnext
      obtain ⟨ta, tc, rfl⟩ := ats.form
      unfold strV at d1 d3
      have hbW : Below w.heap.size w (wr.alloc (.cells #[.int .i64 x.kind, .string ⟨x.name.toArray⟩, .slice ta x.attrs.length tc, .string ⟨x.text.toArray⟩] 65)) := hB.out.below.alloc hsz _
      have hrow : OwnN (wr.alloc (.cells #[.int .i64 x.kind, .string ⟨x.name.toArray⟩, .slice ta x.attrs.length tc, .string ⟨x.text.toArray⟩] 65)) w.heap.size (.slice a' m c') P := World.ownsRow.alloc hB.out.row _
      have hup := hB.out.ok.up
      simp only at hup
      have hbad : foldB bs0 (l.take (k + 1)) = none → o = none := fun e => ho.out.symm.trans (buildB_bad l (k + 1) e)
      replace hbad := Lib.hid hbad
      replace hbW := Lib.hid hbW
      replace hrow := Lib.hid hrow
      replace ats := Lib.hid ats
      have hwr1 : wr.heap.size < wr.heap.size + 1 := by omega
      have hen := empty_iff x.name
      have hstart := fun h1 h2 h3 => takeB_start (s := ⟨sn, su⟩) (x := x) h1 h2 h3
      have hempty := fun h1 h2 h3 => takeB_empty (s := ⟨sn, su⟩) (x := x) h1 h2 h3
      have htext := fun h2 h1 => takeB_text (s := ⟨sn, su⟩) (x := x) h2 h1
      have hend := fun h2 h1 h3 => takeB_end (s := ⟨sn, su⟩) (x := x) h2 h1 h3
      have hnone := fun h1 h2 h3 h4 => takeB_no (s := ⟨sn, su⟩) (x := x) h1 h2 h3 h4
      have hout := fun h1 h2 => takeB_out (s := ⟨sn, su⟩) (x := x) h1 h2
      simp only [← hnext] at hstart hempty htext hend hnone hout
      clear hnext
      replace hstart := Lib.hid hstart
      replace hempty := Lib.hid hempty
      replace htext := Lib.hid htext
      replace hend := Lib.hid hend
      replace hnone := Lib.hid hnone
      replace hout := Lib.hid hout
      rcases hup with rfl | hup
      · -- outside
        by_cases hnn : sn = []
        · subst hnn
          obtain rfl : m = 0 := by
            have h2 := congrArg List.length hB.out.nds
            rw [nodes_len] at h2
            rw [hm.out, h2]; rfl
          have hP0 : P.length = 0 := hm.out.symm
          have hst : ¬ ((-1 : Int) = -1 ∧ ([] : List Nd) ≠ []) := fun e => e.2 rfl
          replace hP0 := Lib.hid hP0
          have hPb : P.length ≤ 100000 := by rw [hP0.out]; omega
          rcases kind_cases x.kind with ⟨q1, q3, q4, q5⟩ | ⟨q1, q3, q4, q5⟩ | ⟨q1, q3, q4, q5⟩ | ⟨q1, q3, q4, q5⟩ | ⟨q1, q3, q4, q5⟩
          · cases q2 : x.name.isEmpty
            · have hf := hstart.out hst (by simpa using q1) (hen.2.1 q2)
              replace hf := Lib.hid hf
              clear hstart hempty htext hend hnone hout hbad hen
              go_wp2_with (at_builtin; go_must (refine wpList_appendk rfl _ _ 44 49 rfl Tryz.underlying44 (.agg #[.string ⟨#[]⟩, .slice none 0 0, .string ⟨#[]⟩, .int .i64 0]) 4 64 info_node rfl (by decide) (by decide) w.heap.size _ P.length (cellsN P) [.string ⟨x.name.toArray⟩, .slice ta x.attrs.length tc, .string ⟨#[]⟩, .int .i64 (-1)] rfl hrow.out rfl (by first | rfl | simp [Act.eval]) (by intro u hu; simp at hu; rcases hu with rfl | rfl | rfl | rfl <;> rfl) (by omega) (by simp; omega) ?_))
              intro v2 w2 h1 h2 h3
              have hbx : ArrAt (wr.alloc (.cells #[.int .i64 x.kind, .string ⟨x.name.toArray⟩, .slice ta x.attrs.length tc, .string ⟨x.text.toArray⟩] 65)) wr.heap.size 65 [.int .i64 x.kind, .string ⟨x.name.toArray⟩, .slice ta x.attrs.length tc, .string ⟨x.text.toArray⟩] := arrAt_new wr _ _
              have hbx2 := hbx.grown h2.out (Ne.symm (own_ne_arr hrow.out hbx t_nt))
              have y0 : w2.cell? ⟨wr.heap.size, 0, none⟩ = some (.int .i64 x.kind) := by rw [hbx2.cell]; rfl
              have hb2 := hbW.out.trans (own_grown hrow.out h2.out (by simp; omega))
              have hR2 := hB.out.push (y := elemN x (-1)) (va := .slice ta x.attrs.length tc) (v1 := v2) hf.out rfl (Or.inr rfl) ats.out h1.out hb2
              obtain ⟨a2, c2, rfl⟩ := own_form h1.out
              clear hbx hbx2 hb2 h1 h2 h3 hrow hbW
              replace hR2 := Lib.hid hR2
              go_wp2_with fail
              exact ⟨⟨k + 1, P.length + 1, ⟨[] ++ [elemN x (-1)], ((([] : List Nd).length : Nat) : Int)⟩, a2, c2, _, rfl, by simp [hP0.out], by go_num, by omega, Lib.hid (by simp), hR2⟩, by simp [intOf]; omega⟩
            · have hf := hnone.out (fun e => e.2 (hen.1.1 q2)) (fun e => by simp [e.1] at q3) (fun e => by simp [e.1] at q4) (fun e => by simp [e.1] at q5)
              clear hstart hempty htext hend hnone hout hrow
              go_wp2_with fail
              go_quiet (fail)
              go_wp2_with fail
              go_ret2
              exact RefPost12.no (hbad.out hf) (hbW.out.trans ((drawn_drewN _ nq).below _))
          · cases q2 : x.name.isEmpty
            · have hf := hempty.out hst (by simpa using q3) (hen.2.1 q2)
              replace hf := Lib.hid hf
              clear hstart hempty htext hend hnone hout hbad hen
              go_wp2_with (at_builtin; go_must (refine wpList_appendk rfl _ _ 44 49 rfl Tryz.underlying44 (.agg #[.string ⟨#[]⟩, .slice none 0 0, .string ⟨#[]⟩, .int .i64 0]) 4 64 info_node rfl (by decide) (by decide) w.heap.size _ P.length (cellsN P) [.string ⟨x.name.toArray⟩, .slice ta x.attrs.length tc, .string ⟨#[]⟩, .int .i64 (-1)] rfl hrow.out rfl (by first | rfl | simp [Act.eval]) (by intro u hu; simp at hu; rcases hu with rfl | rfl | rfl | rfl <;> rfl) (by omega) (by simp; omega) ?_))
              intro v2 w2 h1 h2 h3
              have hbx : ArrAt (wr.alloc (.cells #[.int .i64 x.kind, .string ⟨x.name.toArray⟩, .slice ta x.attrs.length tc, .string ⟨x.text.toArray⟩] 65)) wr.heap.size 65 [.int .i64 x.kind, .string ⟨x.name.toArray⟩, .slice ta x.attrs.length tc, .string ⟨x.text.toArray⟩] := arrAt_new wr _ _
              have hbx2 := hbx.grown h2.out (Ne.symm (own_ne_arr hrow.out hbx t_nt))
              have y0 : w2.cell? ⟨wr.heap.size, 0, none⟩ = some (.int .i64 x.kind) := by rw [hbx2.cell]; rfl
              have hb2 := hbW.out.trans (own_grown hrow.out h2.out (by simp; omega))
              have hR2 := hB.out.push (y := elemN x (-1)) (va := .slice ta x.attrs.length tc) (v1 := v2) hf.out rfl (Or.inl rfl) ats.out h1.out hb2
              obtain ⟨a2, c2, rfl⟩ := own_form h1.out
              clear hbx hbx2 hb2 h1 h2 h3 hrow hbW
              replace hR2 := Lib.hid hR2
              go_wp2_with fail
              exact ⟨⟨k + 1, P.length + 1, ⟨[] ++ [elemN x (-1)], -1⟩, a2, c2, _, rfl, rfl, by go_num, by omega, Lib.hid (by simp), hR2⟩, by simp [intOf]; omega⟩
            · have hf := hnone.out (fun e => by simp [e.1] at q1) (fun e => e.2 (hen.1.1 q2)) (fun e => by simp [e.1] at q4) (fun e => by simp [e.1] at q5)
              clear hstart hempty htext hend hnone hout hrow
              go_wp2_with fail
              go_quiet (fail)
              go_wp2_with fail
              go_ret2
              exact RefPost12.no (hbad.out hf) (hbW.out.trans ((drawn_drewN _ nq).below _))
          all_goals
            have hf := hnone.out (fun e => by simp [e.1] at q1) (fun e => by simp [e.1] at q3) (fun e => e.2 rfl) (fun e => e.2.1 rfl)
            clear hstart hempty htext hend hnone hout hrow
            go_wp2_with fail
            go_quiet (fail)
            go_wp2_with fail
            go_ret2
            exact RefPost12.no (hbad.out hf) (hbW.out.trans ((drawn_drewN _ nq).below _))
        · have hf := hout.out rfl hnn
          have hlen : 0 < m := by
            have h2 := congrArg List.length hB.out.nds
            rw [nodes_len] at h2
            rw [hm.out, h2]
            exact List.length_pos_iff.2 hnn
          have hlen0 : ((m : Int) == 0) = false := by rw [beq_eq_false_iff_ne]; omega
          rcases kind_cases x.kind with ⟨q1, q3, q4, q5⟩ | ⟨q1, q3, q4, q5⟩ | ⟨q1, q3, q4, q5⟩ | ⟨q1, q3, q4, q5⟩ | ⟨q1, q3, q4, q5⟩
          all_goals cases q2 : x.name.isEmpty
          all_goals
            clear hstart hempty htext hend hnone hout hrow
            go_wp2_with fail
            go_quiet (fail)
            go_wp2_with fail
            go_ret2
            exact RefPost12.no (hbad.out hf) (hbW.out.trans ((drawn_drewN _ nq).below _))
      · -- inside
        obtain ⟨j, rfl⟩ : ∃ j : Nat, su = j := ⟨su.toNat, by omega⟩
        have hpl : P.length = sn.length := by
          have h2 := congrArg List.length hB.out.nds
          rw [nodes_len] at h2
          exact h2
        have hj : j < P.length := by omega
        obtain ⟨g2, cv, hv, _, hgl, hcap2, _, hat⟩ := hB.out.row.at hj
        injection hv with e1 e2 e3
        subst e1 e2 e3
        have hnj : (P[j]'hj).1 = atN sn (j : Int) := by rw [nodes_at hj, hB.out.nds]
        rw [hnj] at hat
        obtain ⟨t0, _, _, t3⟩ := hat.next ((Below.refl wr.heap.size wr).alloc (Nat.le_refl _) (.cells #[.int .i64 x.kind, .string ⟨x.name.toArray⟩, .slice ta x.attrs.length tc, .string ⟨x.text.toArray⟩] 65))
        clear hat hnj
        have hju : ((j : Int)) ≠ -1 := by omega
        have hst : ¬ ((j : Int) = -1 ∧ sn ≠ []) := fun e => hju e.1
        have hjl : (j : Int) < P.length := by omega
        have hyu : upN sn (j : Int) = (atN sn (j : Int)).up := rfl
        have hPb : P.length ≤ 100000 := by omega
        replace hpl := Lib.hid hpl
        replace hju := Lib.hid hju
        unfold strV at t0
        clear hup
        rcases kind_cases x.kind with ⟨q1, q3, q4, q5⟩ | ⟨q1, q3, q4, q5⟩ | ⟨q1, q3, q4, q5⟩ | ⟨q1, q3, q4, q5⟩ | ⟨q1, q3, q4, q5⟩
        · cases q2 : x.name.isEmpty
          · have hf := hstart.out hst (by simpa using q1) (hen.2.1 q2)
            replace hf := Lib.hid hf
            clear hstart hempty htext hend hnone hout hbad hen t0 t3
            go_wp2_with (at_builtin; go_must (refine wpList_appendk rfl _ _ 44 49 rfl Tryz.underlying44 (.agg #[.string ⟨#[]⟩, .slice none 0 0, .string ⟨#[]⟩, .int .i64 0]) 4 64 info_node rfl (by decide) (by decide) w.heap.size _ P.length (cellsN P) [.string ⟨x.name.toArray⟩, .slice ta x.attrs.length tc, .string ⟨#[]⟩, .int .i64 j] rfl hrow.out rfl (by first | rfl | simp [Act.eval]) (by intro u hu; simp at hu; rcases hu with rfl | rfl | rfl | rfl <;> rfl) (by omega) (by simp; omega) ?_))
            intro v2 w2 h1 h2 h3
            have hbx : ArrAt (wr.alloc (.cells #[.int .i64 x.kind, .string ⟨x.name.toArray⟩, .slice ta x.attrs.length tc, .string ⟨x.text.toArray⟩] 65)) wr.heap.size 65 [.int .i64 x.kind, .string ⟨x.name.toArray⟩, .slice ta x.attrs.length tc, .string ⟨x.text.toArray⟩] := arrAt_new wr _ _
            have hbx2 := hbx.grown h2.out (Ne.symm (own_ne_arr hrow.out hbx t_nt))
            have y0 : w2.cell? ⟨wr.heap.size, 0, none⟩ = some (.int .i64 x.kind) := by rw [hbx2.cell]; rfl
            have hb2 := hbW.out.trans (own_grown hrow.out h2.out (by simp; omega))
            have hR2 := hB.out.push (y := elemN x j) (va := .slice ta x.attrs.length tc) (v1 := v2) hf.out rfl (Or.inr rfl) ats.out h1.out hb2
            obtain ⟨a2, c2, rfl⟩ := own_form h1.out
            clear hbx hbx2 hb2 h1 h2 h3 hrow hbW
            replace hR2 := Lib.hid hR2
            go_wp2_with fail
            exact ⟨⟨k + 1, P.length + 1, ⟨sn ++ [elemN x j], ((sn.length : Nat) : Int)⟩, a2, c2, _, rfl, by rw [← hpl.out], by go_num, by omega, Lib.hid (by simp), hR2⟩, by simp [intOf]; omega⟩
          · have hf := hnone.out (fun e => e.2 (hen.1.1 q2)) (fun e => by simp [e.1] at q3) (fun e => by simp [e.1] at q4) (fun e => by simp [e.1] at q5)
            clear hstart hempty htext hend hnone hout hrow t3
            go_wp2_with fail
            go_quiet (fail)
            go_wp2_with fail
            go_ret2
            exact RefPost12.no (hbad.out hf) (hbW.out.trans ((drawn_drewN _ nq).below _))
        · cases q2 : x.name.isEmpty
          · have hf := hempty.out hst (by simpa using q3) (hen.2.1 q2)
            replace hf := Lib.hid hf
            clear hstart hempty htext hend hnone hout hbad hen t0 t3
            go_wp2_with (at_builtin; go_must (refine wpList_appendk rfl _ _ 44 49 rfl Tryz.underlying44 (.agg #[.string ⟨#[]⟩, .slice none 0 0, .string ⟨#[]⟩, .int .i64 0]) 4 64 info_node rfl (by decide) (by decide) w.heap.size _ P.length (cellsN P) [.string ⟨x.name.toArray⟩, .slice ta x.attrs.length tc, .string ⟨#[]⟩, .int .i64 j] rfl hrow.out rfl (by first | rfl | simp [Act.eval]) (by intro u hu; simp at hu; rcases hu with rfl | rfl | rfl | rfl <;> rfl) (by omega) (by simp; omega) ?_))
            intro v2 w2 h1 h2 h3
            have hbx : ArrAt (wr.alloc (.cells #[.int .i64 x.kind, .string ⟨x.name.toArray⟩, .slice ta x.attrs.length tc, .string ⟨x.text.toArray⟩] 65)) wr.heap.size 65 [.int .i64 x.kind, .string ⟨x.name.toArray⟩, .slice ta x.attrs.length tc, .string ⟨x.text.toArray⟩] := arrAt_new wr _ _
            have hbx2 := hbx.grown h2.out (Ne.symm (own_ne_arr hrow.out hbx t_nt))
            have y0 : w2.cell? ⟨wr.heap.size, 0, none⟩ = some (.int .i64 x.kind) := by rw [hbx2.cell]; rfl
            have hb2 := hbW.out.trans (own_grown hrow.out h2.out (by simp; omega))
            have hR2 := hB.out.push (y := elemN x j) (va := .slice ta x.attrs.length tc) (v1 := v2) hf.out rfl (Or.inl rfl) ats.out h1.out hb2
            obtain ⟨a2, c2, rfl⟩ := own_form h1.out
            clear hbx hbx2 hb2 h1 h2 h3 hrow hbW
            replace hR2 := Lib.hid hR2
            go_wp2_with fail
            exact ⟨⟨k + 1, P.length + 1, ⟨sn ++ [elemN x j], (j : Int)⟩, a2, c2, _, rfl, rfl, by go_num, by omega, Lib.hid (by simp), hR2⟩, by simp [intOf]; omega⟩
          · have hf := hnone.out (fun e => by simp [e.1] at q1) (fun e => e.2 (hen.1.1 q2)) (fun e => by simp [e.1] at q4) (fun e => by simp [e.1] at q5)
            clear hstart hempty htext hend hnone hout hrow t3
            go_wp2_with fail
            go_quiet (fail)
            go_wp2_with fail
            go_ret2
            exact RefPost12.no (hbad.out hf) (hbW.out.trans ((drawn_drewN _ nq).below _))
        · have hf := htext.out (by simpa using q4) hju.out
          replace hf := Lib.hid hf
          clear hstart hempty htext hend hnone hout hbad hen t0 t3
          go_wp2_with (at_builtin; go_must (refine wpList_appendk rfl _ _ 44 49 rfl Tryz.underlying44 (.agg #[.string ⟨#[]⟩, .slice none 0 0, .string ⟨#[]⟩, .int .i64 0]) 4 64 info_node rfl (by decide) (by decide) w.heap.size _ P.length (cellsN P) [.string ⟨#[]⟩, .slice none 0 0, .string ⟨x.text.toArray⟩, .int .i64 j] rfl hrow.out rfl (by first | rfl | simp [Act.eval]) (by intro u hu; simp at hu; rcases hu with rfl | rfl | rfl | rfl <;> rfl) (by omega) (by simp; omega) ?_))
          intro v2 w2 h1 h2 h3
          have hbx : ArrAt (wr.alloc (.cells #[.int .i64 x.kind, .string ⟨x.name.toArray⟩, .slice ta x.attrs.length tc, .string ⟨x.text.toArray⟩] 65)) wr.heap.size 65 [.int .i64 x.kind, .string ⟨x.name.toArray⟩, .slice ta x.attrs.length tc, .string ⟨x.text.toArray⟩] := arrAt_new wr _ _
          have hbx2 := hbx.grown h2.out (Ne.symm (own_ne_arr hrow.out hbx t_nt))
          have y0 : w2.cell? ⟨wr.heap.size, 0, none⟩ = some (.int .i64 x.kind) := by rw [hbx2.cell]; rfl
          have hb2 := hbW.out.trans (own_grown hrow.out h2.out (by simp; omega))
          have hR2 := hB.out.push (y := textN x j) (va := .slice none 0 0) (v1 := v2) hf.out rfl (Or.inl rfl) (atSl_nil _ _ _) h1.out hb2
          obtain ⟨a2, c2, rfl⟩ := own_form h1.out
          clear hbx hbx2 hb2 h1 h2 h3 hrow hbW
          replace hR2 := Lib.hid hR2
          go_wp2_with fail
          exact ⟨⟨k + 1, P.length + 1, ⟨sn ++ [textN x j], (j : Int)⟩, a2, c2, _, rfl, rfl, by go_num, by omega, Lib.hid (by simp), hR2⟩, by simp [intOf]; omega⟩
        · cases q6 : ((atN sn (j : Int)).name == x.name)
          · have hf := hnone.out (fun e => by simp [e.1] at q1) (fun e => by simp [e.1] at q3) (fun e => by simp [e.1] at q4) (fun e => by rw [beq_eq_false_iff_ne] at q6; exact q6 e.2.2.symm)
            generalize (atN sn (j : Int)).name = yn at t0 q6
            clear hstart hempty htext hend hnone hout hrow t3
            go_wp2_with fail
            go_quiet (fail)
            go_wp2_with fail
            go_ret2
            exact RefPost12.no (hbad.out hf) (hbW.out.trans ((drawn_drewN _ nq).below _))
          · have hf := hend.out (by simpa using q5) hju.out (by rw [beq_iff_eq] at q6; exact q6.symm)
            have hok := (takeB_ok hB.out.ok ((foldB_next l k (by rw [hll.out]; exact hlt) hB.out.fold).symm.trans hf)).1
            rw [hyu] at hf hok
            clear hstart hempty htext hend hnone hout hbad hen hyu
            generalize hxn : atN sn (j : Int) = xn at t0 t3 q6 hf hok
            clear hxn
            obtain ⟨yn, ya, yt, yu⟩ := xn
            simp only at t0 t3 q6 hf hok
            replace hf := Lib.hid hf
            replace hok := Lib.hid hok
            go_wp2_with fail
            go_quiet (fail)
            go_wp2_with fail
            exact ⟨⟨k + 1, P.length, ⟨sn, yu⟩, _, _, P, rfl, rfl, by go_num, by omega, rfl, ⟨hf.out, hok.out, Nat.le_succ_of_le hB.out.len, ownsRow_drawn hrow.out (drawn_drewN _ nq), hB.out.nds, hB.out.ats, hbW.out.trans ((drawn_drewN _ nq).below _)⟩⟩, by simp [intOf]; omega⟩
        · have hf := hnone.out (fun e => by simp [e.1] at q1) (fun e => by simp [e.1] at q3) (fun e => by simp [e.1] at q4) (fun e => by simp [e.1] at q5)
          clear hstart hempty htext hend hnone hout hrow t3
          go_wp2_with fail
          go_quiet (fail)
          go_wp2_with fail
          go_ret2
          exact RefPost12.no (hbad.out hf) (hbW.out.trans ((drawn_drewN _ nq).below _))
    · have hlt2 : ¬ ((k : Int) < PT.length) := by omega
      obtain rfl : k = PT.length := by omega
      have hfold := hB.out.fold
      rw [← hll.out] at hfold
      have hbe := buildB_end l hfold
      rw [ho.out] at hbe
      simp only at hbe
      have hup := hB.out.ok.up
      simp only at hup
      have hpl : P.length = sn.length := by
        have h2 := congrArg List.length hB.out.nds
        rw [nodes_len] at h2
        exact h2
      rcases hup with rfl | hup
      · by_cases hm0 : m = 0
        · have hoo : o = none := by
            rw [hbe, if_neg]
            intro e
            exact e.2 (List.length_eq_zero_iff.1 (by rw [← hpl, ← hm.out, hm0]))
          subst hm0
          clear hbe hfold hpl
          replace hoo := Lib.hid hoo
          go_wp2_with fail
          go_ret2
          exact RefPost12.no hoo.out hB.out.below
        · have hoo : o = some sn := by
            rw [hbe, if_pos]
            refine ⟨rfl, fun e => hm0 ?_⟩
            rw [hm.out, hpl, e]; rfl
          have hlen0 : ((m : Int) == 0) = false := by rw [beq_eq_false_iff_ne]; omega
          have hsl := OwnN.sl hB.out.row fun p hp => (hB.out.ats p hp).next hB.out.below
          clear hbe hfold hpl
          replace hoo := Lib.hid hoo
          replace hsl := Lib.hid hsl
          go_wp2_with fail
          go_ret2
          exact RefPost12.ok hoo.out hsl.out hB.out.nds hB.out.below
      · have hoo : o = none := by
          rw [hbe, if_neg]
          intro e
          omega
        obtain ⟨j, rfl⟩ : ∃ j : Nat, su = j := ⟨su.toNat, by omega⟩
        clear hbe hfold hpl hup
        replace hoo := Lib.hid hoo
        go_wp2_with fail
        go_ret2
        exact RefPost12.no hoo.out hB.out.below
end Go.Proofs.YtahohmdbiiknoaaGreatDoor

/- Layer 14: the nodes of a document, plain; those of the law's own. -/
namespace Go.Proofs.YtahohmdbiiknoaaGreatDoor
open Go.RowKit

/-- The nodes of a document: none, if it is bad. -/
def docN (dep : Int) (l : List UInt8) : List Nd := (buildB (tokR dep l).ts).getD []
def wake1 : List UInt8 := [60, 114, 115, 115, 62, 60, 99, 104, 97, 110, 110, 101, 108, 62, 60, 105, 116, 101, 109, 62, 60, 103, 117, 105, 100, 62, 103, 60, 47, 103, 117, 105, 100, 62, 60, 116, 105, 116, 108, 101, 62, 32, 65, 32, 38, 97, 109, 112, 59, 108, 116, 59, 32, 66, 32, 60, 47, 116, 105, 116, 108, 101, 62, 60, 112, 117, 98, 68, 97, 116, 101, 62, 50, 32, 74, 97, 110, 32, 48, 54, 32, 49, 48, 58, 48, 52, 32, 69, 83, 84, 60, 47, 112, 117, 98, 68, 97, 116, 101, 62, 60, 47, 105, 116, 101, 109, 62, 60, 47, 99, 104, 97, 110, 110, 101, 108, 62, 60, 47, 114, 115, 115, 62]
def wake2 : List UInt8 := [60, 114, 115, 115, 62, 60, 99, 104, 97, 110, 110, 101, 108, 62, 60, 105, 116, 101, 109, 47, 62, 60, 47, 99, 104, 97, 110, 110, 101, 108, 62, 60, 47, 114, 115, 115, 62]
def wake3 : List UInt8 := [60, 102, 101, 101, 100, 47, 62]
def wakeIt : It := ⟨[103], [65, 32, 60, 32, 66], [], [], 1136214240, true⟩
theorem wake_one : itsB (docN 30 wake1) r822C 5 50 = .its [wakeIt] := by kernel_rfl
theorem wake_two : itsB (docN 30 wake1) r822C 0 50 = .bad 6 := by kernel_rfl
theorem wake_three : itsB (docN 30 wake2) r822C 5 50 = .bad 7 := by kernel_rfl
theorem wake_four : itsB (docN 30 wake3) r822C 5 50 = .bad 5 := by kernel_rfl
theorem wake_sum : sumT (docN 30 wake1) ≤ 2000000 ∧ sumT (docN 30 wake2) ≤ 2000000 ∧ sumT (docN 30 wake3) ≤ 2000000 := by
  refine ⟨?_, ?_, ?_⟩ <;> exact of_decide_eq_true (by kernel_rfl)
theorem wake_len : (docN 30 wake1).length ≤ 1000 ∧ (docN 30 wake2).length ≤ 1000 ∧ (docN 30 wake3).length ≤ 1000 := by
  refine ⟨?_, ?_, ?_⟩ <;> exact of_decide_eq_true (by kernel_rfl)
theorem docN_len (dep : Int) (l : List UInt8) : (docN dep l).length ≤ 2 * l.length := by
  unfold docN
  have h1 := (tokR_len dep l).1
  cases hb : buildB (tokR dep l).ts with
  | none => simp
  | some nds =>
    have h2 := (buildB_tree hb).2.2.1
    have h3 : cntB (tokR dep l).ts ≤ (tokR dep l).ts.length := List.countP_le_length
    show nds.length ≤ _
    omega
theorem docN_sum (dep : Int) (l : List UInt8) : sumT (docN dep l) ≤ 4 * l.length := by
  unfold docN
  have h1 := (tokR_len dep l).2
  cases hb : buildB (tokR dep l).ts with
  | none => exact Nat.zero_le _
  | some nds =>
    have h2 := (buildB_tree hb).2.2.2.1
    show sumT nds ≤ _
    omega
end Go.Proofs.YtahohmdbiiknoaaGreatDoor

/- Tokens that the call itself made, read as any others. -/
namespace Go.Proofs.YtahohmdbiiknoaaGreatDoor
open Go.RowKit

theorem cellsK_four : ∀ (P : List (Tk × Value)) (j : Nat) (h : j < P.length), (cellsK P)[j * 4]? = some (.int .i64 (P[j]'h).1.kind) ∧ (cellsK P)[j * 4 + 1]? = some (strV (P[j]'h).1.name) ∧ (cellsK P)[j * 4 + 2]? = some (P[j]'h).2 ∧ (cellsK P)[j * 4 + 3]? = some (strV (P[j]'h).1.text)
  | [], j, h => by simp at h
  | x :: t, 0, _ => ⟨rfl, rfl, rfl, rfl⟩
  | x :: t, j + 1, h => by
    have := cellsK_four t j (by simpa using h)
    have e : cellsK (x :: t) = .int .i64 x.1.kind :: strV x.1.name :: x.2 :: strV x.1.text :: cellsK t := rfl
    have e1 : ∀ i, (cellsK (x :: t))[(j + 1) * 4 + i]? = (cellsK t)[j * 4 + i]? := fun i => by
      rw [e, show (j + 1) * 4 + i = (j * 4 + i) + 1 + 1 + 1 + 1 by omega]; simp only [List.getElem?_cons_succ]
    have e0 := e1 0
    rw [Nat.add_zero, Nat.add_zero] at e0
    rw [e0, e1, e1, e1]
    simpa using this
/-- Tokens that the call itself made can be read. -/
theorem Tks.sl {w : World} {B : Nat} {v : Value} {P : List (Tk × Value)} (h : Tks w B v P) : TkSl w v P := by
  refine ⟨?_, fun p hp => Ats.sl (h.ats p hp)⟩
  have hcg := fun g hv => World.ownsRow.cells h.row (g := g) hv
  rcases h.row.2 with ⟨hv, hn⟩ | ⟨g, cap, cur, hv, _, _, hcap, _⟩
  · obtain ⟨a, c, e⟩ := own_form h.row
    have h0 : P = [] := List.length_eq_zero_iff.1 hn
    rw [hn] at e
    exact Or.inl ⟨h0, a, c, e⟩
  · have hob : v.ownBlock = some g := by rw [hv]; rfl
    refine Or.inr ⟨g, 0, cap, hcap, hv, fun j hj => ?_⟩
    obtain ⟨e0, e1, e2, e3⟩ := cellsK_four P j hj
    have hadd : ∀ i, (⟨g, 0, none⟩ : Addr).add i = ⟨g, i, none⟩ := fun i => by unfold Addr.add; split <;> simp_all
    have h0 := hcg g hob _ _ e0
    have h1 := hcg g hob _ _ e1
    have h2 := hcg g hob _ _ e2
    have h3 := hcg g hob _ _ e3
    rw [hadd] at h0 h1 h2 h3
    rw [Nat.zero_add]
    exact ⟨h0, h1, h2, h3⟩
theorem ndSl_nil (w : World) : NdSl w (.slice none 0 0) [] := ⟨Or.inl ⟨rfl, none, 0, rfl⟩, fun p hp => by cases hp⟩
theorem tkSl_nil (w : World) : TkSl w (.slice none 0 0) [] := ⟨Or.inl ⟨rfl, none, 0, rfl⟩, fun p hp => by cases hp⟩
end Go.Proofs.YtahohmdbiiknoaaGreatDoor

/- Layer 14: the nodes of a document. -/
namespace Go.Proofs.YtahohmdbiiknoaaGreatDoor
open Go.RowKit

def Doc14Post (l : List Nd) (w : World) (e : Ending) (w' : World) : Prop := ∃ v P, e = .returned v ∧ NdSl w' v P ∧ nodes P = l ∧ Below w.heap.size w w'

/-- What Build says, as nodes. -/
theorem RefPost12.nodes {w w' : World} {o : Option (List Nd)} {e : Ending} (h : RefPost12 w o e w') : ∃ v q P, e = .returned (.tuple #[v, .int .i64 q]) ∧ NdSl w' v P ∧ nodes P = o.getD [] ∧ Below w.heap.size w w' := by
  cases o with
  | some l => obtain ⟨v, P, h1, h2, h3, h4⟩ := h; exact ⟨v, 0, P, h1, h2, h3, h4⟩
  | none => exact ⟨_, 2, [], h.1, ndSl_nil _, rfl, h.2⟩
theorem TrPost.toks {w w' : World} {r : OutR} {e : Ending} (h : TrPost w r e w') : ∃ v q P, e = .returned (.tuple #[v, .int .i64 q]) ∧ TkSl w' v P ∧ P.map Prod.fst = r.ts ∧ Below w.heap.size w w' := by
  cases r with
  | toks t => obtain ⟨⟨v, P, h1, h2, h3⟩, h4⟩ := h; exact ⟨v, 0, P, h1, h2.sl, h3, h4⟩
  | bad q => exact ⟨_, q, [], h.1, tkSl_nil _, rfl, h.2⟩

end Go.Proofs.YtahohmdbiiknoaaGreatDoor
