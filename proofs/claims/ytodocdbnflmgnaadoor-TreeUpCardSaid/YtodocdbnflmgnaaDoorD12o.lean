/- Layer 12's laws: TreeUp. -/
import Derived.Test.YtodocdbnflmgnaaDoorD12n
namespace Go.Proofs.YtodocdbnflmgnaaDoor
open Go.RowKit

theorem cnt_next (l : List Tk) (k : Nat) (h : k < l.length) : cntB (l.take (k + 1)) = cntB (l.take k) + if ((l[k]'h).kind != 2) = true then 1 else 0 := by
  unfold cntB
  rw [List.take_add_one, List.countP_append, List.getElem?_eq_getElem h, Option.toList_some, List.countP_singleton]
theorem cnt_le (l : List Tk) (k : Nat) : cntB (l.take k) ≤ k := by
  unfold cntB
  have h1 := List.countP_le_length (p := fun x : Tk => x.kind != 2) (l := l.take k)
  rw [List.length_take] at h1
  omega
theorem neq_fault (f : Nat) (W : World) : (binOp .neq 26 (.iface 55 (.pointer (some ⟨f, 0, none⟩))) .nilIface).run Tryd.prog W = .ok (.bool true) W := by kernel_rfl

set_option maxRecDepth 100000 in
set_option maxHeartbeats 4000000 in
/-- The law TreeUp. -/
theorem up12_law (PT : List (Tk × Value)) (v : Value) (A : Addr) (w : World) (h : TkSl w v PT) (hx : ∀ p ∈ PT, p.1.attrs.length * 32 ≤ 140737488355328) (hL : Laid12 w A) :
    Calls Tryd.prog 5 #[v] w (LawPost w) := by
  obtain ⟨va, vc, rfl⟩ := h.form
  by_cases hlen : 300 < PT.length
  · have hl1 : (300 : Int) < PT.length := by omega
    have ha := awake12_any A w hL
    clear h hx hL
    replace ha := Lib.hid ha
    go_enter Tryd.func5, Tryd.ntmps5
    go_wp2_with fail
    refine ha.out.mono ?_; rintro e w1 ⟨rfl, b1⟩
    go_wp2_with fail
    go_ret
    exact ⟨rfl, b1⟩
  have hl1 : ¬ ((300 : Int) < PT.length) := by omega
  have c1 := build12_any PT _ A w h hL (by omega) hx
  clear hx
  cases hb : buildB (PT.map Prod.fst) with
  | none =>
    rw [hb] at c1
    clear h
    replace c1 := Lib.hid c1
    replace hL := Lib.hid hL
    replace hb := Lib.hid hb
    go_enter Tryd.func5, Tryd.ntmps5
    go_wp2_with fail
    refine c1.out.mono ?_; rintro e w1 ⟨f, q, rfl, hfa, b1⟩
    have hne := neq_fault f
    have hL1 := hL.out.below b1
    clear c1 hfa
    replace b1 := Lib.hid b1
    unfold faultV
    go_wp2_with fail
    refine (awake12_any A w1 hL1).mono ?_; rintro e w3 ⟨rfl, b3⟩
    go_wp2_with fail
    go_ret
    exact ⟨rfl, b1.out.andThen b3⟩
  | some nds =>
    rw [hb] at c1
    obtain ⟨htree, hnn, hcnt, _, _⟩ := buildB_tree hb
    have h2 : cntB (PT.map Prod.fst) ≤ (PT.map Prod.fst).length := List.countP_le_length
    rw [List.length_map] at h2
    have hpl : nds.length ≤ 300 := by omega
    have hpos : 0 < nds.length := List.length_pos_iff.2 hnn
    obtain ⟨l, hl⟩ : ∃ l, PT.map Prod.fst = l := ⟨_, rfl⟩
    rw [hl] at hcnt
    have hll : l.length = PT.length := by rw [← hl]; simp
    have hPT : 0 < PT.length := by rw [hcnt] at hpos; rw [hl] at h2; omega
    obtain ⟨b, off, cap, hcap, hbl, hve, hcl⟩ := h.some hPT
    injection hve with hve1 hve2 hve3
    clear hve2 hb h2 hnn
    subst hve1 hve3
    replace c1 := Lib.hid c1
    replace hL := Lib.hid hL
    replace hcl := Lib.hid hcl
    replace htree := Lib.hid htree
    replace hcnt := Lib.hid hcnt
    replace hl := Lib.hid hl
    replace hll := Lib.hid hll
    clear h
    go_enter Tryd.func5, Tryd.ntmps5
    go_wp2_with fail
    refine c1.out.mono ?_; rintro e w1 ⟨v1, P, rfl, s1, e1, b1⟩
    have hPn : P.length = nds.length := by rw [← nodes_len, e1]
    obtain ⟨b2, off2, cap2, hcap2, hbl2, rfl, hc2⟩ := s1.some (by omega)
    have hs1 := b1.size
    clear c1 s1
    replace b1 := Lib.hid b1
    replace e1 := Lib.hid e1
    replace hc2 := Lib.hid hc2
    go_wp2_with fail
    go_loopw [5, 6] (fun nn ii wr => ∃ (k c : Nat), nn = .int .i64 c ∧ ii = .int .i64 k ∧ k ≤ PT.length ∧ c ≤ k ∧ Hid (c = cntB (l.take k)) ∧ wr = w1) (fun _ ii _ => PT.length - (intOf ii).toNat)
    case atStart => exact ⟨0, 0, rfl, rfl, Nat.zero_le _, Nat.le_refl _, rfl, rfl⟩
    case round =>
      obtain ⟨k, c, rfl, rfl, hk, hck, hc, rfl⟩ := hrel
      by_cases hlt : k < PT.length
      · have hlt1 : (k : Int) < PT.length := by omega
        obtain ⟨d0, _, _, _⟩ := (hcl.out k hlt).next b1.out
        have hcn := cnt_next l k (by rw [hll.out]; exact hlt)
        rw [← hc.out, show l[k]'(by rw [hll.out]; exact hlt) = (PT[k]'hlt).1 by simp [← hl.out]] at hcn
        generalize (PT[k]'hlt).1.kind = kd at d0 hcn
        have hbw : b < wr.heap.size := by omega
        cases hq : (kd != 2)
        · rw [hq, if_neg (by decide)] at hcn
          replace hcn := Lib.hid hcn
          go_wp2_with fail
          exact ⟨⟨k + 1, c, rfl, by go_num, by omega, by omega, Lib.hid hcn.out.symm, trivial⟩, by simp [intOf]; omega⟩
        · rw [hq, if_pos rfl] at hcn
          replace hcn := Lib.hid hcn
          go_wp2_with fail
          exact ⟨⟨k + 1, c + 1, by go_num, by go_num, by omega, by omega, Lib.hid hcn.out.symm, trivial⟩, by simp [intOf]; omega⟩
      · have hlt2 : ¬ ((k : Int) < PT.length) := by omega
        have hcc : c = P.length := by rw [hc.out, List.take_of_length_le (by rw [hll.out]; omega), ← hcnt.out, hPn]
        clear hc
        subst hcc
        go_wp2_with fail
        go_loopw [7] (fun ii wr2 => ∃ j : Nat, ii = .int .i64 j ∧ j ≤ P.length ∧ wr2 = wr) (fun ii _ => P.length - (intOf ii).toNat)
        case atStart => exact ⟨0, rfl, Nat.zero_le _, rfl⟩
        case round =>
          obtain ⟨j, rfl, hj, rfl⟩ := hrel
          by_cases hjl : j < P.length
          · have hjl1 : (j : Int) < P.length := by omega
            have hu := htree.out.ups j (by omega)
            obtain ⟨t0, _, _, t3⟩ := hc2.out j hjl
            rw [nodes_at hjl, e1.out] at t0 t3
            have hyu : upN nds (j : Int) = (atN nds (j : Int)).up := rfl
            rcases hu with ⟨rfl, hu⟩ | ⟨hj0, hu1, hu2⟩
            · rw [hyu] at hu
              rw [hu] at t3
              clear t0
              simp only [Nat.zero_mul, Nat.add_zero] at t3
              go_wp2_with fail
              exact ⟨⟨1, by go_num, by omega, trivial⟩, by simp [intOf]; omega⟩
            · have hel := htree.out.elem j hj0 (by omega)
              obtain ⟨u, hue⟩ : ∃ u : Nat, upN nds (j : Int) = u := ⟨(upN nds (j : Int)).toNat, by omega⟩
              rw [hue] at hel hu2
              rw [← hyu, hue] at t3
              have hul : u < P.length := by omega
              obtain ⟨s0, _, _, _⟩ := hc2.out u hul
              rw [nodes_at hul, e1.out] at s0
              have hem := (empty_iff _).2.2 hel
              generalize (atN nds (u : Int)).name = un at s0 hem
              unfold strV at s0
              clear t0 hel hyu hue hu1
              have q1 : ((j : Int) == 0) = false := by rw [beq_eq_false_iff_ne]; omega
              have q2 : ((u : Int) == -1) = false := by rw [beq_eq_false_iff_ne]; omega
              have q3 : (0 : Int) < j := by omega
              have q4 : ¬ ((u : Int) < 0) := by omega
              have q5 : ¬ ((j : Int) ≤ u) := by omega
              go_wp2_with fail
              exact ⟨⟨j + 1, by go_num, by omega, trivial⟩, by simp [intOf]; omega⟩
          · have hjl2 : ¬ ((j : Int) < P.length) := by omega
            have hL1 := hL.out.below b1.out
            go_wp2_with fail
            refine (awake12_any A _ hL1).mono ?_; rintro e w3 ⟨rfl, b3⟩
            go_wp2_with fail
            go_ret
            exact ⟨rfl, b1.out.andThen b3⟩
end Go.Proofs.YtodocdbnflmgnaaDoor
