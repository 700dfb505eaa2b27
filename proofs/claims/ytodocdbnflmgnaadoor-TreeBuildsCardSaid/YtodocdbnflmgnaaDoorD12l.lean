/- Layer 12's laws: Same, of lists that are the same; the number of an error. -/
import Derived.Test.YtodocdbnflmgnaaDoorD12k
namespace Go.Proofs.YtodocdbnflmgnaaDoor
open Go.RowKit

theorem len_max {w : World} {v : Value} {l : List At} (h : AtSl w v l) (hm : l.length ≤ 9223372036854775807) : ∃ a c, v = .slice a l.length c ∧ l.length ≤ 9223372036854775807 := by
  obtain ⟨a, c, e⟩ := h.form
  exact ⟨a, c, e, hm⟩
set_option maxRecDepth 100000 in
set_option maxHeartbeats 4000000 in
theorem same12_any (va vb : Value) (P Q : List (Nd × Value)) (w : World) (ha : NdSl w va P) (hb : NdSl w vb Q) (hPQ : nodes P = nodes Q) (hn : P.length ≤ 1000000) (hmx : ∀ p ∈ P, p.1.attrs.length ≤ 9223372036854775806) :
    Calls Tryd.prog 10 #[va, vb] w fun e w' => e = .returned (.bool true) ∧ Drawn w w' := by
  have hlen : P.length = Q.length := by have := congrArg List.length hPQ; rwa [nodes_len, nodes_len] at this
  by_cases h0 : P = []
  · have h1 : Q = [] := List.length_eq_zero_iff.1 (by rw [← hlen, h0]; rfl)
    obtain ⟨a, c, rfl⟩ := ha.form
    obtain ⟨a', c', rfl⟩ := hb.form
    subst h0 h1
    clear ha hb hPQ hlen hmx
    go_enter Tryd.func10, Tryd.ntmps10
    go_wp2_with fail
    refine wp_loop_rounds 1 ?_; rw [rounds_succ]
    go_wp2_with fail
    go_ret
    exact ⟨rfl, Drawn.refl _⟩
  have hpos : 0 < P.length := List.length_pos_iff.2 h0
  obtain ⟨g1, o1, cap1, hcap1, hg1, rfl, hc1⟩ := ha.some hpos
  obtain ⟨g2, o2, cap2, hcap2, hg2, rfl, hc2⟩ := hb.some (by omega)
  have hne : ((P.length : Int) != (Q.length : Int)) = false := by rw [bne_eq_false_iff_eq]; omega
  have hat1 := ha.atsAt
  have hat2 := hb.atsAt
  have hpq : ∀ j (h1 : j < P.length) (h2 : j < Q.length), (P[j]'h1).1 = (Q[j]'h2).1 := by
    intro j h1 h2
    rw [nodes_at h1, nodes_at h2, hPQ]
  clear ha hb hPQ
  replace hc1 := Lib.hid hc1
  replace hc2 := Lib.hid hc2
  replace hat1 := Lib.hid hat1
  replace hat2 := Lib.hid hat2
  replace hpq := Lib.hid hpq
  replace h0 := Lib.hid h0
  replace hlen := Lib.hid hlen
  replace hmx := Lib.hid hmx
  go_enter Tryd.func10, Tryd.ntmps10
  go_wp2_with fail
  go_loopw [5, 6] (fun i _ wr => ∃ n : Nat, i = .int .i64 n ∧ n ≤ P.length ∧ Drawn w wr) (fun i _ _ => P.length - (intOf i).toNat)
  case atStart => exact ⟨0, rfl, Nat.zero_le _, Drawn.refl _⟩
  case round =>
    obtain ⟨n, rfl, hn2, n0, rfl⟩ := hrel
    by_cases hlt : n < P.length
    · have hltQ : n < Q.length := by have := hlen.out; omega
      have hlt1 : (n : Int) < P.length := by omega
      have hlt2 : (n : Int) < Q.length := by omega
      obtain ⟨a0, a1, a2, a3⟩ := hc1.out n hlt
      obtain ⟨b0, b1, b2, b3⟩ := hc2.out n hltQ
      have hA := hat1.out n hlt
      have hB := hat2.out n hltQ
      have hpe := hpq.out n hlt hltQ
      have hmk := hmx.out _ (List.getElem_mem hlt)
      generalize P[n]'hlt = p at a0 a1 a2 a3 hA hpe hmk
      generalize Q[n]'hltQ = q at b0 b1 b2 b3 hB hpe
      obtain ⟨t, v1⟩ := p
      obtain ⟨t', v2⟩ := q
      obtain rfl : t = t' := hpe
      obtain ⟨aa, ac, hv1⟩ := hA.form
      obtain ⟨ba, bc, hv2⟩ := hB.form
      simp only at hv1 hv2 a0 a1 a2 a3 b0 b1 b2 b3 hA hB hmk
      subst hv1 hv2
      unfold strV at a0 a2 b0 b2
      obtain ⟨tn, tas, tt, tu⟩ := t
      simp only at *
      replace hA := Lib.hid hA
      replace hB := Lib.hid hB
      go_wp2_with fail
      go_quiet (fail)
      go_wp2_with fail
      clear a0 a2 a3 b0 b2 b3
      go_loopw [6] (fun i wr => ∃ k : Nat, i = .int .i64 k ∧ k ≤ tas.length ∧ Drawn w wr) (fun i _ => tas.length - (intOf i).toNat)
      case atStart => exact ⟨0, rfl, Nat.zero_le _, ⟨n0 + nq, by simp⟩⟩
      case round =>
        obtain ⟨k, rfl, hk2, k0, rfl⟩ := hrel
        by_cases hkl : k < tas.length
        · have hne0 : tas ≠ [] := by intro e; rw [e] at hkl; simp at hkl
          obtain ⟨ga, oa, ca, hca1, hga, ea, hca⟩ := hA.out.some hne0
          obtain ⟨gb, ob, cb, hcb1, hgb, eb, hcb⟩ := hB.out.some hne0
          injection ea with ea ea2 ea3
          injection eb with eb eb2 eb3
          clear ea2 eb2
          subst ea eb ea3 eb3
          obtain ⟨x0, x1⟩ := hca k hkl
          obtain ⟨y0, y1⟩ := hcb k hkl
          clear hca hcb hA hB
          generalize tas.getD k ([], []) = z at x0 x1 y0 y1
          obtain ⟨z1, z2⟩ := z
          unfold strV at x0 x1 y0 y1
          simp only at x0 x1 y0 y1
          have hkl1 : (k : Int) < tas.length := by omega
          have hkm : (k : Int) + 1 ≤ 9223372036854775807 := by omega
          replace hne0 := Lib.hid hne0
          go_wp2_with fail
          go_quiet (fail)
          go_wp2_with fail
          refine ⟨⟨k + 1, by go_num, by omega, ?_⟩, by simp [intOf]; omega⟩
          exact ⟨_, rfl⟩
        · have hkl2 : ¬ ((k : Int) < tas.length) := by omega
          go_wp2_with fail
          exact ⟨⟨n + 1, by go_num, by omega, ⟨_, rfl⟩⟩, by simp [intOf]; omega⟩
    · have hlt2 : ¬ ((n : Int) < P.length) := by omega
      go_wp2_with fail
      go_ret
      exact ⟨rfl, ⟨_, rfl⟩⟩

theorem code12_nil (w : World) : Calls Tryd.prog 11 #[.nilIface] w fun e w' => e = .returned (.int .i64 0) ∧ w = w' := by
  go_enter Tryd.func11, Tryd.ntmps11
  go_wp2_with fail
  go_ret
  exact ⟨rfl, rfl⟩
set_option maxHeartbeats 1000000 in
theorem code12_fault (f q : Nat) (x : Int) (w : World) (h : FaultAt w f q (.iface 29 (.int .i64 x))) (h1 : 1 ≤ x) (h2 : x ≤ 15) : Calls Tryd.prog 11 #[faultV f] w fun e w' => e = .returned (.int .i64 x) ∧ w = w' := by
  have hc : w.cell? ⟨f, 1, none⟩ = some (.iface 29 (.int .i64 x)) := ArrAt.cell h 1
  clear h
  unfold faultV
  replace hc := Lib.hid hc
  go_enter Tryd.func11, Tryd.ntmps11
  go_wp2_with fail
  go_loopw [3] (fun i wr => ∃ c : Int, i = .int .i64 c ∧ 1 ≤ c ∧ c ≤ x ∧ wr = w) (fun i _ => (15 - intOf i).toNat)
  case atStart => exact ⟨1, rfl, by omega, h1, rfl⟩
  case round =>
    obtain ⟨c, rfl, hc1, hcx, rfl⟩ := hrel
    have hle : c ≤ 15 := by omega
    have hI := is11_fault f x c _ hc.out
    by_cases e : x = c
    · subst e
      rw [show (x == x) = true from beq_self_eq_true x] at hI
      replace hI := Lib.hid hI
      go_wp2_with fail
      refine hI.out.mono ?_; rintro e w' ⟨rfl, rfl⟩
      go_wp2_with fail
      go_ret
      exact ⟨rfl, rfl⟩
    · rw [show (x == c) = false from by rw [beq_eq_false_iff_ne]; exact e] at hI
      have hlt : c < x := by omega
      replace hI := Lib.hid hI
      replace e := Lib.hid e
      go_wp2_with fail
      refine hI.out.mono ?_; rintro e w' ⟨rfl, rfl⟩
      go_wp2_with fail
      exact ⟨⟨c + 1, by go_num, by omega, by omega, trivial⟩, by simp [intOf]; omega⟩
end Go.Proofs.YtodocdbnflmgnaaDoor
