/- The walk of layer 9's Sets. -/
import Derived.Test.YtkegealaagphgaaD09b
import Derived.Test.YtkegealaagphgaaSs
namespace Go.Proofs.Ytkegealaagphgaa
open Go.RowKit

theorem run_make_ints (x : Int) (n : Nat) (hx : x = n) (hn : n ≤ 1048576) (w : World) :
    (Instr.makeSlice 37 (.int .i64 x) (.int .i64 x)).run Try.prog w = .ok (.slice (some ⟨w.heap.size, 0, none⟩) n n) (w.alloc (.cells (List.replicate n (.int .i64 0)).toArray 3)) :=
  run_make_row 37 3 (.int .i64 0) 8 Try.underlying37 info_int rfl x n hx (by omega) (by omega) w
/-- What the loop of Sets keeps. -/
structure MidS (w wr : World) (X g n : Nat) (M : Nat → Nat) (kp : Nat) (v : Value) (L : List (List Nat)) : Prop where
  uf : UfAt wr X g n M
  tu : Turned (fun b => b = g) w wr
  low : X < w.heap.size ∧ g < w.heap.size
  pl : ∃ c, ArrAt wr w.heap.size 3 c ∧ c.length = n ∧ ∀ m, m < kp → M m = m → c[m]? = some (.int .i64 (placeN M m : Nat))
  sets : ∃ vs, Lists wr (w.heap.size + 1) v vs L
section
variable {w wr : World} {X g n kp k : Nat} {M : Nat → Nat} {v : Value} {L : List (List Nat)}
theorem MidS.start (h : UfAt w X g n M) : MidS w (w.alloc (.cells (List.replicate n (.int .i64 0)).toArray 3)) X g n M 0 (.slice none 0 0) [] := by
  have hb : Below w.heap.size w (w.alloc (.cells (List.replicate n (.int .i64 0)).toArray 3)) := (Below.refl _ _).alloc (Nat.le_refl _) _
  exact ⟨h.below hb, Turned.of_below hb, ⟨h.2.2.1, h.2.2.2.1⟩, ⟨_, arrAt_new w _ _, by simp, fun m hm => by omega⟩, ⟨[], Lists.nil _ _⟩⟩
theorem MidS.ask {w1 : World} (h : MidS w wr X g n M kp v L) (hu : UfAt w1 X g n M) (ht : Turned (fun b => b = g) wr w1) : MidS w w1 X g n M kp v L := by
  obtain ⟨c, h1, h2, h3⟩ := h.pl
  obtain ⟨vs, h4⟩ := h.sets
  have hl := h.low
  exact ⟨hu, h.tu.trans ht fun _ _ e => e, hl, ⟨c, h1.turned ht (by omega), h2, h3⟩, ⟨vs, h4.turned ht fun b e => by omega⟩⟩
theorem MidS.old (h : MidS w wr X g n M k v L) (hne : M k ≠ k) : MidS w wr X g n M (k + 1) v L := by
  obtain ⟨c, h1, h2, h3⟩ := h.pl
  refine ⟨h.uf, h.tu, h.low, ⟨c, h1, h2, fun m hm e => ?_⟩, h.sets⟩
  by_cases e2 : m = k
  · subst e2; exact absurd e hne
  · exact h3 m (by omega) e
theorem MidS.place (h : MidS w wr X g n M k v L) (hk : k < n) : (∃ u, wr.cell? ⟨w.heap.size, k, none⟩ = some u) ∧ wr.frozen? ⟨w.heap.size, k, none⟩ = false ∧ MidS w (wr.setCell ⟨w.heap.size, k, none⟩ (.int .i64 (placeN M k : Nat))) X g n M (k + 1) v L := by
  obtain ⟨c, h1, h2, h3⟩ := h.pl
  obtain ⟨vs, h4⟩ := h.sets
  have hl := h.low
  have hst := turned_setCell wr ⟨w.heap.size, k, none⟩ (.int .i64 (placeN M k : Nat))
  refine ⟨⟨c[k]'(by omega), by rw [h1.cell, List.getElem?_eq_getElem]⟩, h1.soft k, h.uf.turned hst (fun e => by have e : X = w.heap.size := e; omega) (fun e => by have e : g = w.heap.size := e; omega), ?_, hl, ⟨_, h1.set k _, by simpa using h2, fun m hm e => ?_⟩, ⟨vs, h4.turned hst fun b e => by have : b = w.heap.size := e; omega⟩⟩
  · exact ⟨h.tu.os, h.tu.tape, h.tu.output, by have := h.tu.size; simpa [World.setCell] using this, fun b hb hS => by rw [hst.block b (by have := h.tu.size; omega) (fun e => by have e : b = w.heap.size := e; omega)]; exact h.tu.block b hb hS⟩
  · rw [List.getElem?_set]
    by_cases e2 : k = m
    · subst e2; rw [if_pos rfl, if_pos (by omega)]
    · rw [if_neg e2]; exact h3 m (by omega) e
theorem MidS.got (h : MidS w wr X g n M kp v L) {m : Nat} (hm : m < kp) (e : M m = m) : wr.cell? ⟨w.heap.size, m, none⟩ = some (.int .i64 (placeN M m : Nat)) := by
  obtain ⟨c, h1, h2, h3⟩ := h.pl
  rw [h1.cell]; exact h3 m hm e
/-- What lies above the places alone has turned. -/
theorem MidS.above {w2 : World} {v2 : Value} {L2 : List (List Nat)} (h : MidS w wr X g n M kp v L) (hb : Below (w.heap.size + 1) wr w2) (hs : ∃ vs, Lists w2 (w.heap.size + 1) v2 vs L2) : MidS w w2 X g n M kp v2 L2 := by
  obtain ⟨c, h1, h2, h3⟩ := h.pl
  have hl := h.low
  have ht : Turned (fun b => w.heap.size + 1 ≤ b) wr w2 := ⟨hb.os, hb.tape, hb.output, hb.size, fun i _ hn => hb.block i (by omega)⟩
  refine ⟨h.uf.turned ht (by omega) (by omega), ?_, hl, ⟨c, h1.turned ht (by omega), h2, h3⟩, hs⟩
  exact h.tu.trans ht fun i hi h => by omega
theorem MidS.fresh {w2 : World} {v2 : Value} {vs : List Value} (h : MidS w wr X g n M kp v L) (hL : Lists wr (w.heap.size + 1) v vs L) (ho : w2.ownsRow (w.heap.size + 1) 37 1 v2 (L.length + 1) (vs ++ [.slice none 0 0])) (hb : Below (w.heap.size + 1) wr w2) (hg : wr.grownBy w2 v.ownBlock) : MidS w w2 X g n M kp v2 (L ++ [[]]) :=
  h.above hb ⟨_, hL.fresh ho hg⟩
theorem MidS.put (h : MidS w wr X g n M kp v L) {i : Nat} (hi : i < L.length) : ∃ S cap a c, v = .slice (some ⟨S, 0, none⟩) L.length cap ∧ wr.cell? ⟨S, i, none⟩ = some (.slice a (L.getD i []).length c) ∧
    wr.ownsRow (w.heap.size + 1) 3 1 (.slice a (L.getD i []).length c) (L.getD i []).length (natsV (L.getD i [])) ∧
    ∀ w2 u2, w2.ownsRow (w.heap.size + 1) 3 1 u2 ((L.getD i []).length + 1) (natsV (L.getD i []) ++ [.int .i64 (k : Nat)]) → Below (w.heap.size + 1) wr w2 → wr.grownBy w2 (Value.slice a (L.getD i []).length c).ownBlock → (u2.ownBlock = (Value.slice a (L.getD i []).length c).ownBlock ∨ ∃ b, u2.ownBlock = some b ∧ wr.heap.size ≤ b) →
      w2.cell? ⟨S, i, none⟩ = some (.slice a (L.getD i []).length c) ∧ w2.frozen? ⟨S, i, none⟩ = false ∧ MidS w (w2.setCell ⟨S, i, none⟩ u2) X g n M kp v (L.set i (L.getD i [] ++ [k])) := by
  obtain ⟨vs, hL⟩ := h.sets
  obtain ⟨S, cap, hv, hSl, _⟩ := World.ownsRow.form hL.row (by omega)
  obtain ⟨a, c, hu⟩ := own_form (hL.ins i hi)
  have hn := hL.ins i hi
  have hc : wr.cell? ⟨S, i, none⟩ = some (vs.getD i undef) := by
    have hr := hL.row
    rw [hv] at hr
    have hl := hL.len
    rw [hr.cellAt i (by omega), List.getD, List.getElem?_eq_getElem (by omega)]; rfl
  unfold Nats at hn
  rw [hu] at hn hc
  refine ⟨S, cap, a, c, hv, hc, hn, fun w2 u2 ho hb hg hw => ?_⟩
  rw [← hu] at hg hw ⊢
  obtain ⟨p1, p2, p3⟩ := hL.put hi ho hg hw hv
  exact ⟨p1, p2, h.above (hb.setCell (p := ⟨S, i, none⟩) hSl u2) ⟨_, p3⟩⟩
end
def SetsPost9 (w : World) (X g n : Nat) (M : Nat → Nat) (e : Ending) (w' : World) : Prop := ∃ v vs, e = .returned v ∧ Lists w' w.heap.size v vs (setsL n M) ∧ UfAt w' X g n M ∧ Turned (fun b => b = g) w w'
theorem sets9_nil (w : World) : Calls Try.prog 19 #[.pointer none] w fun e w' => e = .returned (.slice none 0 0) ∧ Below w.heap.size w w' := by
  have hl := Lib.hid (len9_nil w)
  have hmk := fun W => run_make_ints 0 0 rfl (by omega) W
  have hb := Lib.hid ((Below.refl w.heap.size w).alloc (Nat.le_refl _) (.cells (List.replicate 0 (.int .i64 0)).toArray 3))
  generalize hE : (List.replicate 0 (Value.int .i64 0)).toArray = E at hmk hb
  clear hE
  go_enter Try.func19, Try.ntmps19
  go_wp2_with fail
  refine hl.out.mono ?_; rintro e w' ⟨rfl, rfl⟩
  go_wp2_with fail
  refine wp_loop_rounds 1 ?_
  rw [rounds_succ]
  go_wp2_with fail
  go_ret
  exact ⟨rfl, hb.out⟩
set_option maxHeartbeats 2000000 in
set_option maxRecDepth 100000 in
theorem sets9_any {w : World} {X g n : Nat} {M : Nat → Nat} (h : UfAt w X g n M) : Calls Try.prog 19 #[.pointer (some ⟨X, 0, none⟩)] w (SetsPost9 w X g n M) := by
  have hl := Lib.hid (len9_any X g n M w h)
  have hn := h.1
  have hM := Lib.hid h.2.1
  have hmk := fun W => run_make_ints n n rfl hn W
  have hst := Lib.hid (MidS.start h)
  clear h
  generalize hE : (List.replicate n (Value.int .i64 0)).toArray = E at hmk hst
  clear hE
  go_enter Try.func19, Try.ntmps19
  go_wp2_with fail
  refine hl.out.mono ?_; rintro e w' ⟨rfl, rfl⟩
  clear hl
  go_wp2_with fail
  go_loopw [3, 13] (fun v i wr => ∃ (k m : Nat) (a : Option Addr) (c : Nat), i = .int .i64 k ∧ v = .slice a m c ∧ k ≤ n ∧ m ≤ k ∧ Hid (m = (headsL k M).length) ∧ Hid (MidS w wr X g n M k v (setsL k M))) (fun _ i _ => n - (intOf i).toNat)
  case atStart => exact ⟨0, 0, none, 0, rfl, rfl, Nat.zero_le _, Nat.le_refl _, rfl, hst.out⟩
  case round =>
    clear hst hmk
    obtain ⟨k, m, a, c, rfl, rfl, hk, hmk, hm, hr⟩ := hrel
    by_cases hlt : k < n
    · have hask := least9_any (k : Int) hr.out.uf
      unfold leastI at hask
      rw [if_pos (inB_nat hlt), Int.toNat_natCast] at hask
      have k0 : (0 : Int) ≤ k := by omega
      have k1 : (k : Int) < n := by omega
      by_cases hMk : M k = k
      · rw [hMk] at hask
        replace hask := Lib.hid hask
        replace hMk := Lib.hid hMk
        go_wp2_with fail
        refine hask.out.mono ?_; rintro e w1 ⟨rfl, q1, q2⟩
        obtain ⟨⟨u, cu⟩, fu, hp⟩ := (hr.out.ask q1 q2).place hlt
        replace hp := Lib.hid (show MidS w (w1.setCell ⟨w.heap.size, k, none⟩ (.int .i64 m)) X g n M (k + 1) (.slice a m c) (setsL k M) by rw [show placeN M k = m from hm.out.symm] at hp; exact hp)
        clear hask q1 q2 hr
        obtain ⟨vs, hL⟩ := hp.out.sets
        replace hL := Lib.hid hL
        have hml : (setsL k M).length = m := by rw [sets_len]; exact hm.out.symm
        have hrow := hL.out.row
        rw [hml] at hrow
        replace hrow := Lib.hid hrow
        have hsz : w.heap.size + 1 ≤ (w1.setCell ⟨w.heap.size, k, none⟩ (.int .i64 m)).heap.size := by
          obtain ⟨c', hc', _⟩ := hp.out.pl
          exact hc'.lt
        have hsz1 : (w1.setCell ⟨w.heap.size, k, none⟩ (.int .i64 m)).heap.size = w1.heap.size := by simp [World.setCell]
        replace hsz := Lib.hid hsz
        replace hsz1 := Lib.hid hsz1
        go_wp2_with (at_builtin; go_must (refine wpList_append1 rfl _ _ 34 37 rfl Try.underlying34 (.slice none 0 0) 24 info_sl rfl (by decide) (w.heap.size + 1) _ m _ (.slice none 0 0) hrow.out rfl (by rw [hsz1.out]; rfl) rfl (by omega) hsz.out ?_))
        intro v2 w2 ho2 hb2 hg2
        obtain ⟨S, cap, rfl, _, _⟩ := World.ownsRow.form ho2 (by omega)
        have hp2 := hp.out.fresh hL.out (by rw [hml]; exact ho2) hb2 hg2
        have hL2 : (setsL k M ++ [[]]).length = m + 1 := by rw [List.length_append, hml]; rfl
        have hgetm : (setsL k M ++ [[]]).getD m [] = [] := by rw [← hml, List.getD_eq_getElem?_getD, List.getElem?_append_right (Nat.le_refl _), Nat.sub_self]; rfl
        have cp := hp2.got (show k < k + 1 by omega) hMk.out
        rw [show placeN M k = m from hm.out.symm] at cp
        obtain ⟨S', cap', a', c', e', hcs, how, hput⟩ := hp2.put (k := k) (show m < (setsL k M ++ [[]]).length by omega)
        injection e' with e1 e2 e3
        injection e1 with e1
        injection e1 with e1
        subst e1 e3
        clear e2
        rw [hgetm] at hcs how hput
        have hset : (setsL k M ++ [[]]).set m ([] ++ [k]) = setsL (k + 1) M := by
          rw [sets_new hM.out hlt hMk.out, ← hml, List.set_append_right _ _ (Nat.le_refl _), Nat.sub_self]; rfl
        rw [hset] at hput
        have hm3 : Hid (m + 1 = (headsL (k + 1) M).length) := by
          rw [headsL_succ, if_pos hMk.out, List.length_append, ← hm.out]; rfl
        have hsz2 : w.heap.size + 1 ≤ w2.heap.size := Nat.le_trans hsz.out hb2.size
        replace hput := Lib.hid hput
        replace how := Lib.hid how
        replace hgetm := Lib.hid hgetm
        replace hL2 := Lib.hid hL2
        clear ho2 hp2 hp hL hrow hsz hsz1 hb2 hg2 hml cu fu
        have m0 : (0 : Int) ≤ m := by omega
        go_wp2_with (at_builtin; go_must (refine wpList_append1_at rfl _ _ 37 3 rfl Try.underlying37 (.int .i64 0) 8 info_int rfl (by decide) (w.heap.size + 1) _ 0 _ (.int .i64 k) how.out rfl rfl rfl (by omega) hsz2 ?_))
        intro u3 w3 ho3 hb3 hg3 hw3
        obtain ⟨a3, c3, rfl⟩ := own_form ho3
        obtain ⟨d1, d2, d3⟩ := hput.out w3 _ ho3 hb3 hg3 hw3
        replace d3 := Lib.hid d3
        clear ho3 hb3 hg3 hw3 hput how hcs cp
        go_wp2_with fail
        exact ⟨⟨k + 1, m + 1, some ⟨S, 0, none⟩, cap, by go_num, rfl, hlt, by omega, hm3.out, d3.out⟩, by simp [intOf]; omega⟩
      · have hll : M k < k := by have := hM.out.le k hlt; omega
        have hid := hM.out.idem k hlt
        obtain ⟨hpl, hset⟩ := sets_more hM.out hlt hMk
        have hm3 : Hid (m = (headsL (k + 1) M).length) := by
          rw [headsL_succ, if_neg hMk, List.append_nil]; exact hm.out
        have hml : (setsL k M).length = m := by rw [sets_len]; exact hm.out.symm
        have hold : Hid (∀ w1, MidS w w1 X g n M k (.slice a m c) (setsL k M) → MidS w w1 X g n M (k + 1) (.slice a m c) (setsL k M)) := fun w1 h => h.old hMk
        have hlen := sets_each k M (placeN M (M k))
        have hne : ¬ ((M k : Nat) : Int) = k := by omega
        replace hask := Lib.hid hask
        go_wp2_with fail
        refine hask.out.mono ?_; rintro e w1 ⟨rfl, q1, q2⟩
        have hp := hold.out w1 (hr.out.ask q1 q2)
        have cp := hp.got (show M k < k + 1 by omega) hid
        obtain ⟨S, cap, a', c', e', hcs, how, hput⟩ := hp.put (k := k) hpl
        rw [← hset] at hput
        rw [hml] at hpl e'
        have hsz2 : w.heap.size + 1 ≤ w1.heap.size := by
          obtain ⟨c', hc', _⟩ := hp.pl
          exact hc'.lt
        injection e' with e1 e2 e3
        subst e1 e3
        clear e2 hset q1 q2 hr hask hold hp hm hml hid
        generalize M k = l at cp hll hne hcs how hput hpl hlen
        generalize placeN M l = p at cp hcs how hput hpl hlen
        generalize (setsL k M).getD p [] = xs at hcs how hput hlen
        replace hput := Lib.hid hput
        replace how := Lib.hid how
        have l0 : (0 : Int) ≤ l := by omega
        have l1 : (l : Int) < n := by omega
        have p0 : (0 : Int) ≤ p := by omega
        have p1 : (p : Int) < m := by omega
        go_wp2_with (at_builtin; go_must (refine wpList_append1_at rfl _ _ 37 3 rfl Try.underlying37 (.int .i64 0) 8 info_int rfl (by decide) (w.heap.size + 1) _ xs.length _ (.int .i64 k) how.out rfl rfl rfl (by omega) hsz2 ?_))
        intro u3 w3 ho3 hb3 hg3 hw3
        obtain ⟨a3, c3, rfl⟩ := own_form ho3
        obtain ⟨d1, d2, d3⟩ := hput.out w3 _ ho3 hb3 hg3 hw3
        replace d3 := Lib.hid d3
        clear ho3 hb3 hg3 hw3 hput how hcs cp
        go_wp2_with fail
        exact ⟨⟨k + 1, m, some ⟨S, 0, none⟩, c, by go_num, rfl, hlt, by omega, hm3.out, d3.out⟩, by simp [intOf]; omega⟩
    · obtain rfl : k = n := by omega
      have hke : ¬ ((k : Int) < k) := by omega
      have hfin : Hid (SetsPost9 w X g k M (.returned (.slice a m c)) wr) := by
        obtain ⟨vs, hL⟩ := hr.out.sets
        exact ⟨_, vs, rfl, hL.mono (by omega), hr.out.uf, hr.out.tu⟩
      clear hr
      go_wp2_with fail
      go_ret
      exact hfin.out
end Go.Proofs.Ytkegealaagphgaa
