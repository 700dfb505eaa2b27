/- Layer 12: the kids of a name, the program's and the reference's; same. -/
import Derived.Test.YtodocdbnflmgnaaDoorD12b
namespace Go.Proofs.YtodocdbnflmgnaaDoor
open Go.RowKit

/-- Of the first k those that f lets through. -/
def filtTo (f : Int → Bool) (xs : List Int) (k : Nat) : List Int := (xs.take k).filter f
theorem filtTo_next (f : Int → Bool) (xs : List Int) (k : Nat) (h : k < xs.length) : filtTo f xs (k + 1) = filtTo f xs k ++ if f (xs.getD k 0) = true then [xs.getD k 0] else [] := by
  unfold filtTo
  rw [List.take_add_one, List.filter_append]
  congr 1
  simp only [List.getElem?_eq_getElem h, Option.toList_some, List.getD, Option.getD_some]
  by_cases e : f xs[k] = true
  · simp [e]
  · simp [e]
theorem filtTo_all (f : Int → Bool) (xs : List Int) : filtTo f xs xs.length = xs.filter f := by unfold filtTo; rw [List.take_length]
def nmF (l : List Nd) (nm : List UInt8) (j : Int) : Bool := (atN l j).name == nm && nm != []
theorem namedB_eq (l : List Nd) (i : Int) (nm : List UInt8) : namedB l i nm = (kidsB l i).filter (nmF l nm) := by
  unfold namedB nmF
  by_cases h : nm = []
  · subst h; simp
  · rw [if_neg h]
    congr 1
    funext j
    rw [show (nm != []) = true by rw [bne_iff_ne]; exact h, Bool.and_true]
/-- What the loop of Named keeps. -/
structure NamAt (f : Int → Bool) (xs : List Int) (w1 : World) (k : Nat) (u : Value) (wr : World) : Prop where
  own : Ints wr w1.heap.size u (filtTo f xs k)
  below : Below w1.heap.size w1 wr

set_option maxHeartbeats 2000000 in
theorem named12_any (P : List (Nd × Value)) (v : Value) (i : Int) (nm : List UInt8) (w : World) (h : NdSl w v P) (hn : P.length ≤ 1000000) :
    Calls Tryd.prog 15 #[v, .int .i64 i, .string ⟨nm.toArray⟩] w (IntsPost (namedB (nodes P) i nm) w) := by
  by_cases h0 : nm = []
  · have hk : namedB (nodes P) i nm = [] := by unfold namedB; rw [if_pos h0]
    have he : nm.isEmpty = true := by subst h0; rfl
    obtain ⟨a, c, rfl⟩ := h.form
    subst h0
    clear h
    replace hk := Lib.hid hk
    go_enter Tryd.func15, Tryd.ntmps15
    go_wp2_with fail
    go_ret
    exact IntsPost.nil hk.out (Below.refl _ _)
  have he : nm.isEmpty = false := by cases nm <;> simp_all
  have hk := namedB_eq (nodes P) i nm
  have hkid := kids12_any P v i w h hn
  have hbd : ∀ j ∈ kidsB (nodes P) i, placeB (nodes P) j = true := fun j hj => (kidsB_bd hj).1
  have hlen := kidsB_len (nodes P) i
  have hnl : (nodes P).length = P.length := by unfold nodes; simp
  rw [hnl] at hlen
  have hnmf : ∀ j, nmF (nodes P) nm j = ((atN (nodes P) j).name == nm) := fun j => by unfold nmF; rw [show (nm != []) = true by rw [bne_iff_ne]; exact h0, Bool.and_true]
  generalize kidsB (nodes P) i = xs at hk hkid hbd hlen
  generalize hf : nmF (nodes P) nm = f at hk hnmf
  clear hf
  obtain ⟨va, vc, hva⟩ := h.form
  subst hva
  replace hk := Lib.hid hk
  replace hkid := Lib.hid hkid
  replace hbd := Lib.hid hbd
  replace hnmf := Lib.hid hnmf
  replace h := Lib.hid h
  replace h0 := Lib.hid h0
  replace hnl := Lib.hid hnl
  go_enter Tryd.func15, Tryd.ntmps15
  go_wp2_with fail
  refine hkid.out.mono ?_; rintro e w1 ⟨u, rfl, hu, hb1⟩
  obtain ⟨ua, uc, rfl⟩ := own_form hu
  have hrd := hu.rd
  have hnd := h.out.next hb1
  clear hkid hu
  replace hrd := Lib.hid hrd
  replace hnd := Lib.hid hnd
  replace hb1 := Lib.hid hb1
  go_wp2_with fail
  go_loopw [7, 16] (fun u ii wr => ∃ (k m : Nat) (a' : Option Addr) (c' : Nat), ii = .int .i64 k ∧ u = .slice a' m c' ∧ k ≤ xs.length ∧ m ≤ k ∧ Hid (m = (filtTo f xs k).length) ∧ Hid (NamAt f xs w1 k u wr)) (fun _ ii _ => xs.length - (intOf ii).toNat)
  case atStart => exact ⟨0, 0, none, 0, rfl, rfl, Nat.zero_le _, Nat.le_refl _, rfl, ⟨World.ownsRow_nil _ _ _ _, Below.refl _ _⟩⟩
  case round =>
    obtain ⟨k, m, a', c', rfl, rfl, hkl, hmk, hm, hc⟩ := hrel
    by_cases hlt : k < xs.length
    · have hxne : xs ≠ [] := by intro e; rw [e] at hlt; simp at hlt
      obtain ⟨ub, uo, uc', ue, uh⟩ := (hrd.out.next hc.out.below).sl.some hxne
      injection ue with ue ue2 ue3
      clear ue2
      subst ue ue3
      have g1 := uh k hlt
      have hmem : xs.getD k 0 ∈ xs := by rw [show xs.getD k 0 = xs[k] by simp [List.getD, hlt]]; exact List.getElem_mem hlt
      have hpj := hbd.out _ hmem
      have hnx := filtTo_next f xs k hlt
      rw [hnmf.out] at hnx
      clear uh hmem hxne
      generalize xs.getD k 0 = j at g1 hpj hnx
      have hpj2 := place_iff.1 hpj
      rw [hnl.out] at hpj2
      obtain ⟨q, rfl⟩ : ∃ q : Nat, j = q := ⟨j.toNat, by omega⟩
      have hq : q < P.length := by omega
      obtain ⟨b, off, cap, hcap, hbl, hve, hcl⟩ := (hnd.out.next hc.out.below).some (by omega)
      injection hve with hve1 hve2 hve3
      clear hve2
      subst hve1 hve3
      obtain ⟨d0, d1, d2, d3⟩ := hcl q hq
      rw [nodes_at hq] at d0
      clear d1 d2 d3 hcl hpj hpj2
      generalize (atN (nodes P) (q : Int)).name = xn at d0 hnx
      unfold strV at d0
      have hsz := hc.out.below.size
      cases hc0 : (xn == nm)
      · rw [hc0, if_neg (by decide), List.append_nil] at hnx
        replace hnx := Lib.hid hnx
        go_wp2_with fail
        exact ⟨⟨k + 1, m, a', c', by go_num, rfl, by omega, by omega, Lib.hid (by rw [hnx.out]; exact hm.out), ⟨by rw [hnx.out]; exact hc.out.own, hc.out.below⟩⟩, by simp [intOf]; omega⟩
      · rw [hc0, if_pos rfl] at hnx
        replace hnx := Lib.hid hnx
        go_wp2_with (at_builtin; go_must (refine wpList_append1 rfl _ _ 36 3 rfl Tryd.underlying36 (.int .i64 0) 8 info_int rfl (by decide) w1.heap.size _ m _ (.int .i64 q) (by have := hc.out.own; unfold Ints at this; rw [← hm.out] at this; exact this) rfl (by first | rfl | simp [Act.eval]) rfl (by omega) (by omega) ?_))
        intro v2 w2 ho2 hb2 _
        have ho3 := Lib.hid (show Ints w2 w1.heap.size v2 (filtTo f xs (k + 1)) by rw [hnx.out]; rw [hm.out] at ho2; exact ints_one ho2)
        have hl := Lib.hid (show m + 1 = (filtTo f xs (k + 1)).length by rw [hnx.out, List.length_append, ← hm.out]; rfl)
        obtain ⟨a2, c2, rfl⟩ := own_form ho2
        have hb12 := Lib.hid (hc.out.below.trans hb2)
        clear ho2
        go_wp2_with fail
        exact ⟨⟨k + 1, m + 1, a2, c2, by go_num, rfl, by omega, by omega, hl, ⟨ho3.out, hb12.out⟩⟩, by simp [intOf]; omega⟩
    · have hke : ¬ ((k : Int) < xs.length) := by omega
      have hkk := Lib.hid (show k = xs.length by omega)
      go_wp2_with fail
      go_ret
      have ho := hc.out.own
      rw [hkk.out, filtTo_all] at ho
      exact IntsPost.mk hk.out (ownsRow_mono ho hb1.out.size) (hb1.out.andThen hc.out.below)

set_option maxHeartbeats 2000000 in
theorem refnamed12_any (P : List (Nd × Value)) (v : Value) (i : Int) (nm : List UInt8) (w : World) (h : NdSl w v P) (hn : P.length ≤ 1000000) :
    Calls Tryd.prog 16 #[v, .int .i64 i, .string ⟨nm.toArray⟩] w (IntsPost (namedB (nodes P) i nm) w) := by
  have hk := namedB_eq (nodes P) i nm
  have hkid := refkids12_any P v i w h hn
  have hbd : ∀ j ∈ kidsB (nodes P) i, placeB (nodes P) j = true := fun j hj => (kidsB_bd hj).1
  have hlen := kidsB_len (nodes P) i
  have hnl : (nodes P).length = P.length := by unfold nodes; simp
  rw [hnl] at hlen
  have hnmf : ∀ j, nmF (nodes P) nm j = ((atN (nodes P) j).name == nm && nm != []) := fun j => rfl
  generalize kidsB (nodes P) i = xs at hk hkid hbd hlen
  generalize hf : nmF (nodes P) nm = f at hk hnmf
  clear hf
  obtain ⟨va, vc, hva⟩ := h.form
  subst hva
  replace hk := Lib.hid hk
  replace hkid := Lib.hid hkid
  replace hbd := Lib.hid hbd
  replace hnmf := Lib.hid hnmf
  replace h := Lib.hid h
  replace hnl := Lib.hid hnl
  go_enter Tryd.func16, Tryd.ntmps16
  go_wp2_with fail
  refine hkid.out.mono ?_; rintro e w1 ⟨u, rfl, hu, hb1⟩
  obtain ⟨ua, uc, rfl⟩ := own_form hu
  have hrd := hu.rd
  have hnd := h.out.next hb1
  clear hkid hu
  replace hrd := Lib.hid hrd
  replace hnd := Lib.hid hnd
  replace hb1 := Lib.hid hb1
  go_wp2_with fail
  go_loopw [7, 9] (fun u ii wr => ∃ (k m : Nat) (a' : Option Addr) (c' : Nat), ii = .int .i64 k ∧ u = .slice a' m c' ∧ k ≤ xs.length ∧ m ≤ k ∧ Hid (m = (filtTo f xs k).length) ∧ Hid (NamAt f xs w1 k u wr)) (fun _ ii _ => xs.length - (intOf ii).toNat)
  case atStart => exact ⟨0, 0, none, 0, rfl, rfl, Nat.zero_le _, Nat.le_refl _, rfl, ⟨World.ownsRow_nil _ _ _ _, Below.refl _ _⟩⟩
  case round =>
    obtain ⟨k, m, a', c', rfl, rfl, hkl, hmk, hm, hc⟩ := hrel
    by_cases hlt : k < xs.length
    · have hxne : xs ≠ [] := by intro e; rw [e] at hlt; simp at hlt
      obtain ⟨ub, uo, uc', ue, uh⟩ := (hrd.out.next hc.out.below).sl.some hxne
      injection ue with ue ue2 ue3
      clear ue2
      subst ue ue3
      have g1 := uh k hlt
      have hmem : xs.getD k 0 ∈ xs := by rw [show xs.getD k 0 = xs[k] by simp [List.getD, hlt]]; exact List.getElem_mem hlt
      have hpj := hbd.out _ hmem
      have hnx := filtTo_next f xs k hlt
      rw [hnmf.out] at hnx
      clear uh hmem hxne
      generalize xs.getD k 0 = j at g1 hpj hnx
      have hpj2 := place_iff.1 hpj
      rw [hnl.out] at hpj2
      obtain ⟨q, rfl⟩ : ∃ q : Nat, j = q := ⟨j.toNat, by omega⟩
      have hq : q < P.length := by omega
      obtain ⟨b, off, cap, hcap, hbl, hve, hcl⟩ := (hnd.out.next hc.out.below).some (by omega)
      injection hve with hve1 hve2 hve3
      clear hve2
      subst hve1 hve3
      obtain ⟨d0, d1, d2, d3⟩ := hcl q hq
      rw [nodes_at hq] at d0
      clear d1 d2 d3 hcl hpj hpj2
      generalize (atN (nodes P) (q : Int)).name = xn at d0 hnx
      unfold strV at d0
      have hsz := hc.out.below.size
      have hlt1 : (k : Int) < xs.length := by omega
      have hex : nm.isEmpty = (nm == []) := by cases nm <;> rfl
      cases hc0 : (xn == nm)
      · rw [hc0, Bool.false_and, if_neg (by decide), List.append_nil] at hnx
        replace hnx := Lib.hid hnx
        clear hex
        go_wp2_with fail
        exact ⟨⟨k + 1, m, a', c', by go_num, rfl, by omega, by omega, Lib.hid (by rw [hnx.out]; exact hm.out), ⟨by rw [hnx.out]; exact hc.out.own, hc.out.below⟩⟩, by simp [intOf]; omega⟩
      · rw [hc0, Bool.true_and] at hnx
        cases hem : (nm != [])
        · rw [hem, if_neg (by decide), List.append_nil] at hnx
          have hem2 : nm.isEmpty = true := by rw [hex]; unfold bne at hem; simpa using hem
          have hem3 : nm = [] := by simpa using hem2
          replace hnx := Lib.hid hnx
          replace hem := Lib.hid hem
          replace hem3 := Lib.hid hem3
          clear hex
          go_wp2_with fail
          exact ⟨⟨k + 1, m, a', c', by go_num, rfl, by omega, by omega, Lib.hid (by rw [hnx.out]; exact hm.out), ⟨by rw [hnx.out]; exact hc.out.own, hc.out.below⟩⟩, by simp [intOf]; omega⟩
        · rw [hem, if_pos rfl] at hnx
          have hem2 : nm.isEmpty = false := by rw [hex]; unfold bne at hem; simpa using hem
          replace hnx := Lib.hid hnx
          replace hem := Lib.hid hem
          clear hex
          go_wp2_with (at_builtin; go_must (refine wpList_append1 rfl _ _ 36 3 rfl Tryd.underlying36 (.int .i64 0) 8 info_int rfl (by decide) w1.heap.size _ m _ (.int .i64 q) (by have := hc.out.own; unfold Ints at this; rw [← hm.out] at this; exact this) rfl (by first | rfl | simp [Act.eval]) rfl (by omega) (by omega) ?_))
          intro v2 w2 ho2 hb2 _
          have ho3 := Lib.hid (show Ints w2 w1.heap.size v2 (filtTo f xs (k + 1)) by rw [hnx.out]; rw [hm.out] at ho2; exact ints_one ho2)
          have hl := Lib.hid (show m + 1 = (filtTo f xs (k + 1)).length by rw [hnx.out, List.length_append, ← hm.out]; rfl)
          obtain ⟨a2, c2, rfl⟩ := own_form ho2
          have hb12 := Lib.hid (hc.out.below.trans hb2)
          clear ho2
          go_wp2_with fail
          exact ⟨⟨k + 1, m + 1, a2, c2, by go_num, rfl, by omega, by omega, hl, ⟨ho3.out, hb12.out⟩⟩, by simp [intOf]; omega⟩
    · have hke : ¬ ((k : Int) < xs.length) := by omega
      have hkk := Lib.hid (show k = xs.length by omega)
      go_wp2_with fail
      go_ret
      have ho := hc.out.own
      rw [hkk.out, filtTo_all] at ho
      exact IntsPost.mk hk.out (ownsRow_mono ho hb1.out.size) (hb1.out.andThen hc.out.below)

set_option maxHeartbeats 1000000 in
theorem same12i_any (xs : List Int) (v u : Value) (w : World) (hv : RdSl .i64 w v xs) (hu : RdSl .i64 w u xs) (hn : xs.length ≤ 1000000) :
    Calls Tryd.prog 12 #[v, u] w fun e w' => e = .returned (.bool true) ∧ Drawn w w' := by
  have hne : ((xs.length : Int) != (xs.length : Int)) = false := by simp
  by_cases h0 : xs = []
  · obtain ⟨a, c, rfl⟩ := hv.sl.nil h0
    obtain ⟨a', c', rfl⟩ := hu.sl.nil h0
    subst h0
    clear hv hu hne
    go_enter Tryd.func12, Tryd.ntmps12
    go_wp2_with fail
    refine wp_loop_rounds 1 ?_; rw [rounds_succ]
    go_wp2_with fail
    go_ret
    exact ⟨rfl, Drawn.refl _⟩
  obtain ⟨b1, o1, c1, rfl, g1⟩ := hv.sl.some h0
  obtain ⟨b2, o2, c2, rfl, g2⟩ := hu.sl.some h0
  clear hv hu
  replace h0 := Lib.hid h0
  replace g1 := Lib.hid g1
  replace g2 := Lib.hid g2
  go_enter Tryd.func12, Tryd.ntmps12
  go_wp2_with fail
  go_loopw [5] (fun i wr => ∃ n : Nat, i = .int .i64 n ∧ n ≤ xs.length ∧ Drawn w wr) (fun i _ => xs.length - (intOf i).toNat)
  case atStart => exact ⟨0, rfl, Nat.zero_le _, Drawn.refl _⟩
  case round =>
    obtain ⟨n, rfl, hn2, n0, rfl⟩ := hrel
    by_cases hlt : n < xs.length
    · have x1 := g1.out n hlt
      have x2 := g2.out n hlt
      generalize xs.getD n 0 = x at x1 x2
      have hlt1 : (n : Int) < xs.length := by omega
      go_wp2_with fail
      go_quiet (fail)
      go_wp2_with fail
      exact ⟨⟨n + 1, by go_num, by omega, ⟨_, rfl⟩⟩, by simp [intOf]; omega⟩
    · have hlt2 : ¬ ((n : Int) < xs.length) := by omega
      go_wp2_with fail
      go_ret
      exact ⟨rfl, ⟨_, rfl⟩⟩
end Go.Proofs.YtodocdbnflmgnaaDoor
