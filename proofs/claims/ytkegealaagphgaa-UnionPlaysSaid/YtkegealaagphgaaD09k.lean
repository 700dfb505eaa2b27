/- The walk of layer 9's reference: Sets. -/
import Derived.Test.YtkegealaagphgaaD09g
import Derived.Test.YtkegealaagphgaaSs
namespace Go.Proofs.Ytkegealaagphgaa
open Go.RowKit

def RSetsPost9 (w : World) (n : Nat) (M : Nat → Nat) (e : Ending) (w' : World) : Prop := ∃ v vs, e = .returned v ∧ Lists w' w.heap.size v vs (setsL n M) ∧ Below w.heap.size w w'
section
variable {w : World} {Y h n : Nat} {M : Nat → Nat}
set_option maxHeartbeats 2000000 in
set_option maxRecDepth 100000 in
theorem rsets9_any (hr : RfAt w Y h n M) : Calls Try.prog 20 #[.pointer (some ⟨Y, 0, none⟩)] w (RSetsPost9 w n M) := by
  have hn := hr.1
  have hM := Lib.hid hr.2.1
  have hY := Lib.hid (And.intro hr.2.2.1 hr.2.2.2.1)
  have hst : Hid (∃ vs, Lists w w.heap.size (.slice none 0 0) vs (setsTo n 0 M)) := ⟨[], Lists.nil _ _⟩
  replace hr := Lib.hid hr
  go_enter Try.func20, Try.ntmps20
  go_wp2_with fail
  go_loopw [3, 4] (fun v i wr => ∃ (k m : Nat) (a : Option Addr) (c : Nat), i = .int .i64 k ∧ v = .slice a m c ∧ k ≤ n ∧ m ≤ k ∧ Hid (m = (headsL k M).length) ∧ Hid (∃ vs, Lists wr w.heap.size (.slice a m c) vs (setsTo n k M)) ∧ Hid (Below w.heap.size w wr)) (fun _ i _ => n - (intOf i).toNat)
  case atStart => exact ⟨0, 0, none, 0, rfl, rfl, Nat.zero_le _, Nat.le_refl _, rfl, hst.out, Below.refl _ _⟩
  case round =>
    clear hst
    obtain ⟨k, m, a, c, rfl, rfl, hk, hmk, hm, hL, hb⟩ := hrel
    have hR := Lib.hid (hr.out.below hb.out)
    have hlenc := Lib.hid (rlen9_any hR.out)
    by_cases hlt : k < n
    · have hask := rleast9_any (k : Int) hR.out
      unfold leastI at hask
      rw [if_pos (inB_nat hlt), Int.toNat_natCast] at hask
      have k0 : (0 : Int) ≤ k := by omega
      have k1 : (k : Int) < n := by omega
      by_cases hMk : M k = k
      · rw [hMk] at hask
        replace hask := Lib.hid hask
        replace hMk := Lib.hid hMk
        go_wp2_with fail
        refine hlenc.out.mono ?_; rintro e w' ⟨rfl, rfl⟩
        clear hlenc
        go_wp2_with fail
        refine hask.out.mono ?_; rintro e wi ⟨rfl, hd⟩
        have hbi := Lib.hid (hb.out.trans ((hd.below wr.heap.size).mono hb.out.size))
        have hRi := hr.out.below hbi.out
        replace hL : Hid (∃ vs, Lists wi w.heap.size (.slice a m c) vs (setsTo n k M)) := by
          obtain ⟨vs, hL⟩ := hL.out
          exact ⟨vs, hL.below (hd.below _)⟩
        obtain ⟨_, _, _, _, hRi⟩ := hRi
        rcases hRi with ⟨h0, _⟩ | ⟨h0, cc, O, hi, hA⟩
        · omega
        replace hi := Lib.hid hi
        replace hA := Lib.hid hA
        clear hask hd hR hb
        go_wp2_with fail
        go_loopw [5, 6] (fun u j wj => ∃ (q p : Nat) (b : Option Addr) (d : Nat), j = .int .i64 q ∧ u = .slice b p d ∧ k ≤ q ∧ q ≤ n ∧ p ≤ q ∧ Hid (p = (setL q M k).length) ∧ Hid (Nats wj wi.heap.size (.slice b p d) (setL q M k)) ∧ Hid (Below wi.heap.size wi wj)) (fun _ j _ => n - (intOf j).toNat)
        case atStart => exact ⟨k, 0, none, 0, rfl, rfl, Nat.le_refl _, hk, Nat.zero_le _, by rw [setL_head hM.out hlt]; rfl, by rw [setL_head hM.out hlt]; exact World.ownsRow_nil _ _ _ _, Below.refl _ _⟩
        case round =>
          obtain ⟨q, p, b, d, rfl, rfl, hkq, hq, hpq, hp, hN, hbj⟩ := hrel
          have hij : RefIn wr Y h n cc O := hi.out.turned (S := fun _ => False) (Turned.of_below hbj.out) (fun h => h) fun h => h
          have c0 := hij.c0
          have ck := hij.row.at hlt
          by_cases hql : q < n
          · have cq := hij.row.at hql
            have q0 : (0 : Int) ≤ q := by omega
            have q1 : (q : Int) < n := by omega
            clear hij
            by_cases e : O q = O k
            · have hMq : M q = k := by rw [(hA.out q k hql hlt).1 e]; exact hMk.out
              rw [e] at cq
              have hee : ((O k : Int) == O k) = true := by simp
              have hs := setL_succ q M k
              rw [if_pos hMq] at hs
              have hsz := hbj.out.size
              go_wp2_with fail
              go_quiet (fail)
              go_wp2_with (at_builtin; go_must (refine wpList_append1 rfl _ _ 37 3 rfl Try.underlying37 (.int .i64 0) 8 info_int rfl (by decide) wi.heap.size _ p _ (.int .i64 q) (by have hown := hN.out; unfold Nats at hown; rw [← hp.out] at hown; exact ownsRow_below hown (Drawn.below (by first | exact Drawn.refl _ | exact ⟨_, rfl⟩) _)) rfl rfl rfl (by omega) (by first | omega | (simp; omega)) ?_))
              intro v2 w2 ho2 hb2 _
              have hN2 : Hid (Nats w2 wi.heap.size v2 (setL (q + 1) M k)) := by rw [hs]; rw [hp.out] at ho2; exact nats_one ho2
              have hp2 : Hid (p + 1 = (setL (q + 1) M k).length) := by rw [hs, List.length_append, ← hp.out]; rfl
              obtain ⟨b2, d2, rfl⟩ := own_form ho2
              have hbj2 : Hid (Below wi.heap.size wi w2) := hbj.out.trans ((Drawn.below (by first | exact Drawn.refl _ | exact ⟨_, rfl⟩) _).trans hb2)
              clear ho2 hb2 hN hp
              go_wp2_with fail
              exact ⟨⟨q + 1, p + 1, b2, d2, by go_num, rfl, by omega, hql, by omega, hp2.out, hN2.out, hbj2.out⟩, by simp [intOf]; omega⟩
            · have hMq : M q ≠ k := fun e2 => e ((hA.out q k hql hlt).2 (by rw [e2]; exact hMk.out.symm))
              have hee : ((O q : Int) == O k) = false := by rw [beq_eq_false_iff_ne]; omega
              have hs := setL_succ q M k
              rw [if_neg hMq, List.append_nil] at hs
              go_wp2_with fail
              go_quiet (fail)
              go_wp2_with fail
              exact ⟨⟨q + 1, p, b, d, by go_num, rfl, by omega, hql, by omega, by rw [hs]; exact hp.out, by rw [hs]; exact ownsRow_below hN.out (Drawn.below ⟨_, rfl⟩ _), hbj.out.trans (Drawn.below ⟨_, rfl⟩ _)⟩, by simp [intOf]; omega⟩
          · obtain rfl : q = n := by omega
            have hke : ¬ ((q : Int) < q) := by omega
            obtain ⟨vs, hLi⟩ := hL.out
            have hLj := hLi.below hbj.out
            have hltb := hLi.lts
            have hml : (setsTo q k M).length = m := by rw [setsTo_len]; exact hm.out.symm
            have hrow := hLj.row
            rw [hml] at hrow
            replace hrow := Lib.hid hrow
            have hsz := Nat.le_trans hbi.out.size hbj.out.size
            have hsz1 := hbi.out.size
            clear ck
            go_wp2_with (at_builtin; go_must (refine wpList_append1 rfl _ _ 34 37 rfl Try.underlying34 (.slice none 0 0) 24 info_sl rfl (by decide) w.heap.size _ m _ (.slice b p d) hrow.out rfl rfl rfl (by omega) hsz ?_))
            intro v2 w2 ho2 hb2 hg2
            have hL2 := hLj.add hN.out hsz1 hltb (by rw [hml]; exact ho2) hg2
            rw [← setsTo_yes hMk.out] at hL2
            have hm2 : Hid (m + 1 = (headsL (k + 1) M).length) := by rw [headsL_succ, if_pos hMk.out, List.length_append, ← hm.out]; rfl
            obtain ⟨a2, c2, rfl⟩ := own_form ho2
            have hL3 : Hid (∃ vs, Lists w2 w.heap.size (.slice a2 (m + 1) c2) vs (setsTo q (k + 1) M)) := ⟨_, hL2⟩
            have hb3 := Lib.hid ((hbi.out.trans (hbj.out.mono hsz1)).trans hb2)
            clear ho2 hb2 hg2 hL2 hLj hLi hltb hrow
            go_wp2_with fail
            exact ⟨⟨k + 1, m + 1, a2, c2, by go_num, rfl, hlt, by omega, hm2.out, hL3.out, hb3.out⟩, by simp [intOf]; omega⟩
      · have hne : ((M k : Nat) : Int) ≠ k := by omega
        have hs := setsTo_no (n := n) hMk
        have hm2 : Hid (m = (headsL (k + 1) M).length) := by rw [headsL_succ, if_neg hMk, List.append_nil]; exact hm.out
        generalize M k = l at hask hne
        have hne1 : ¬ ((l : Int) = k) := hne
        replace hne := Lib.hid hne
        replace hask := Lib.hid hask
        go_wp2_with fail
        refine hlenc.out.mono ?_; rintro e w' ⟨rfl, rfl⟩
        clear hlenc
        go_wp2_with fail
        refine hask.out.mono ?_; rintro e wi ⟨rfl, hd⟩
        have hbi := Lib.hid (hb.out.trans ((hd.below wr.heap.size).mono hb.out.size))
        replace hL : Hid (∃ vs, Lists wi w.heap.size (.slice a m c) vs (setsTo n (k + 1) M)) := by
          obtain ⟨vs, hL⟩ := hL.out
          rw [hs]
          exact ⟨vs, hL.below (hd.below _)⟩
        clear hask hd hR hb
        go_wp2_with fail
        exact ⟨⟨k + 1, m, a, c, by go_num, rfl, hlt, by omega, hm2.out, hL.out, hbi.out⟩, by simp [intOf]; omega⟩
    · obtain rfl : k = n := by omega
      have hke : ¬ ((k : Int) < k) := by omega
      have hfin : Hid (RSetsPost9 w k M (.returned (.slice a m c)) wr) := by
        obtain ⟨vs, hL⟩ := hL.out
        exact ⟨_, vs, rfl, hL, hb.out⟩
      clear hL hb hR
      go_wp2_with fail
      refine hlenc.out.mono ?_; rintro e w' ⟨rfl, rfl⟩
      go_wp2_with fail
      go_ret
      exact hfin.out
end
end Go.Proofs.Ytkegealaagphgaa
