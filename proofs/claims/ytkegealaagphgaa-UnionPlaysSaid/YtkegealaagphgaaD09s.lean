/- The walk of layer 9's SameSets, of two that hold the same. -/
import Derived.Test.YtkegealaagphgaaSs
namespace Go.Proofs.Ytkegealaagphgaa
open Go.RowKit

set_option maxHeartbeats 2000000 in
set_option maxRecDepth 100000 in
theorem samesets9_any {w : World} {B1 B2 : Nat} {v1 v2 : Value} {vs1 vs2 : List Value} {L : List (List Nat)} (h1 : Lists w B1 v1 vs1 L) (h2 : Lists w B2 v2 vs2 L) (hL : L.length ≤ 1048576) (hLi : ∀ i, (L.getD i []).length ≤ 1048576) :
    Calls Try.prog 18 #[v1, v2] w fun e w' => e = .returned (.bool true) ∧ Drawn w w' := by
  obtain ⟨a1, c1, rfl⟩ := h1.head
  obtain ⟨a2, c2, rfl⟩ := h2.head
  replace h1 := Lib.hid h1
  replace h2 := Lib.hid h2
  replace hLi := Lib.hid hLi
  obtain ⟨N, hN⟩ : ∃ N, L.length = N := ⟨_, rfl⟩
  rw [hN] at hL
  rw [hN]
  replace hN := Lib.hid hN
  go_enter Try.func18, Try.ntmps18
  go_wp2_with fail
  go_loopw [5] (fun i wr => ∃ k : Nat, i = .int .i64 k ∧ k ≤ N ∧ Hid (Drawn w wr)) (fun i _ => N - (intOf i).toNat)
  case atStart => exact ⟨0, rfl, Nat.zero_le _, Drawn.refl _⟩
  case round =>
    obtain ⟨k, rfl, hk, hd⟩ := hrel
    obtain ⟨D, rfl⟩ := hd.out
    by_cases hlt : k < N
    · obtain ⟨S1, p1, u1, d1, e1, cS1, r1⟩ := h1.out.at (i := k) (by rw [hN.out]; exact hlt)
      obtain ⟨S2, p2, u2, d2, e2, cS2, r2⟩ := h2.out.at (i := k) (by rw [hN.out]; exact hlt)
      rw [hN.out] at e1 e2
      injection e1 with e1 _ e1'
      injection e2 with e2 _ e2'
      subst e1 e1' e2 e2'
      have hxs := hLi.out k
      generalize L.getD k [] = xs at cS1 cS2 r1 r2 hxs
      replace r1 := Lib.hid r1
      replace r2 := Lib.hid r2
      obtain ⟨m, hm⟩ : ∃ m, xs.length = m := ⟨_, rfl⟩
      rw [hm] at cS1 cS2 hxs
      replace hm := Lib.hid hm
      have k0 : (0 : Int) ≤ k := by omega
      have k1 : (k : Int) < N := by omega
      go_wp2_with fail
      go_quiet (fail)
      go_wp2_with fail
      go_loopw [6] (fun j wj => ∃ q : Nat, j = .int .i64 q ∧ q ≤ m ∧ Hid (Drawn w wj)) (fun j _ => m - (intOf j).toNat)
      case atStart => exact ⟨0, rfl, Nat.zero_le _, ⟨D + nq, by simp⟩⟩
      case round =>
        obtain ⟨q, rfl, hq, hdj⟩ := hrel
        obtain ⟨E, rfl⟩ := hdj.out
        by_cases hql : q < m
        · obtain ⟨g1, eg1, x1⟩ := r1.out q (by rw [hm.out]; exact hql)
          obtain ⟨g2, eg2, x2⟩ := r2.out q (by rw [hm.out]; exact hql)
          subst eg1 eg2
          generalize (xs[q]'(by rw [hm.out]; exact hql)) = x at x1 x2
          have q0 : (0 : Int) ≤ q := by omega
          have q1 : (q : Int) < m := by omega
          go_wp2_with fail
          go_quiet (fail)
          go_wp2_with fail
          exact ⟨⟨q + 1, by go_num, hql, ⟨E + nq, by simp⟩⟩, by simp [intOf]; omega⟩
        · obtain rfl : q = m := by omega
          have hke : ¬ ((q : Int) < q) := by omega
          go_wp2_with fail
          exact ⟨⟨k + 1, by go_num, hlt, hdj.out⟩, by simp [intOf]; omega⟩
    · obtain rfl : k = N := by omega
      have hke : ¬ ((k : Int) < k) := by omega
      go_wp2_with fail
      go_ret
      exact ⟨rfl, hd.out⟩
end Go.Proofs.Ytkegealaagphgaa
