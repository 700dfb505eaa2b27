/- Layer 11's laws: the number of an error; the reference's Name. -/
import Derived.Test.YtldnigkaagcciaaDoorD11v
namespace Go.Proofs.YtldnigkaagcciaaDoor
open Go.RowKit

theorem code11_nil (w : World) : Calls Tryd.prog 12 #[.nilIface] w fun e w' => e = .returned (.int .i64 0) ∧ w = w' := by
  go_enter Tryd.func12, Tryd.ntmps12
  go_wp2_with fail
  go_ret
  exact ⟨rfl, rfl⟩
set_option maxHeartbeats 1000000 in
theorem code11_fault (f q : Nat) (x : Int) (w : World) (h : FaultAt w f q (.iface 29 (.int .i64 x))) (h1 : 1 ≤ x) (h2 : x ≤ 15) : Calls Tryd.prog 12 #[faultV f] w fun e w' => e = .returned (.int .i64 x) ∧ w = w' := by
  have hc : w.cell? ⟨f, 1, none⟩ = some (.iface 29 (.int .i64 x)) := ArrAt.cell h 1
  clear h
  unfold faultV
  replace hc := Lib.hid hc
  go_enter Tryd.func12, Tryd.ntmps12
  go_wp2_with fail
  go_loopw [3] (fun i wr => ∃ c : Int, i = .int .i64 c ∧ 1 ≤ c ∧ c ≤ x ∧ wr = w) (fun i _ => (15 - intOf i).toNat)
  case atStart => exact ⟨1, rfl, by omega, h1, rfl⟩
  case round =>
    obtain ⟨c, rfl, hc1, hcx, rfl⟩ := hrel
    have hle : c ≤ 15 := by omega
    have hI := is11_fault f x c _ hc.out
    by_cases e : x = c
    · subst e
      rw [show (x == x) = true from beq_self_eq_true x] at hI
      replace hI := Lib.hid hI
      go_wp2_with fail
      refine hI.out.mono ?_; rintro e w' ⟨rfl, rfl⟩
      go_wp2_with fail
      go_ret
      exact ⟨rfl, rfl⟩
    · rw [show (x == c) = false from by rw [beq_eq_false_iff_ne]; exact e] at hI
      have hlt : c < x := by omega
      replace hI := Lib.hid hI
      replace e := Lib.hid e
      go_wp2_with fail
      refine hI.out.mono ?_; rintro e w' ⟨rfl, rfl⟩
      go_wp2_with fail
      exact ⟨⟨c + 1, by go_num, by omega, by omega, trivial⟩, by simp [intOf]; omega⟩

theorem reffirst11_any (c : Int) (w : World) : Calls Tryd.prog 16 #[.int .u8 c] w fun e w' => e = .returned (.bool (leadI c)) ∧ w = w' := by
  go_enter Tryd.func16, Tryd.ntmps16
  go_wp2_with fail
  all_goals go_ret
  all_goals refine ⟨ret_bool ?_, rfl⟩
  all_goals unfold leadI
  all_goals rw [Bool.eq_iff_iff]
  all_goals simp only [Bool.or_eq_true, decide_eq_true_eq, beq_iff_eq, true_iff]
  all_goals first | omega | simp
theorem refmore11_any (c : Int) (w : World) : Calls Tryd.prog 17 #[.int .u8 c] w fun e w' => e = .returned (.bool (follI c)) ∧ w = w' := by
  have h := fun W : World => reffirst11_any c W
  unfold follI
  cases hq : leadI c
  all_goals
    rw [hq] at h
    replace h := Lib.hid h
    replace hq := Lib.hid hq
    go_enter Tryd.func17, Tryd.ntmps17
    go_wp2_with fail
    refine (h.out _).mono ?_; rintro e w' ⟨rfl, rfl⟩
    go_wp2_with fail
    all_goals go_ret
    all_goals refine ⟨ret_bool ?_, rfl⟩
    all_goals rw [Bool.eq_iff_iff]
    all_goals simp only [Bool.or_eq_true, Bool.and_eq_true, decide_eq_true_eq, beq_iff_eq, Bool.false_eq_true, false_or, Bool.true_or]
    all_goals try first | omega | simp
set_option maxHeartbeats 400000 in
theorem refname11_any (s : List UInt8) (w : World) (hs : s.length ≤ 1000000) : Calls Tryd.prog 10 #[.string ⟨s.toArray⟩] w fun e w' => e = .returned (.bool (nameB s)) ∧ w = w' := by
  by_cases h0 : s.length = 0
  · have hn : nameB s = false := by unfold nameB; simp [h0]
    have he : s.isEmpty = true := by cases s <;> simp_all
    rw [hn]
    replace hn := Lib.hid hn
    replace h0 := Lib.hid h0
    go_enter Tryd.func10, Tryd.ntmps10
    go_wp2_with fail
    go_ret
    exact ⟨rfl, rfl⟩
  have he : s.isEmpty = false := by cases s <;> simp_all
  have hp : 0 < s.length := by omega
  by_cases h1 : 64 < s.length
  · have hn : nameB s = false := by unfold nameB; rw [decide_eq_false (by omega)]; rfl
    rw [hn]
    replace hn := Lib.hid hn
    replace h0 := Lib.hid h0
    go_enter Tryd.func10, Tryd.ntmps10
    go_wp2_with fail
    go_ret
    exact ⟨rfl, rfl⟩
  have hd : decide (1 ≤ s.length ∧ s.length ≤ 64) = true := by rw [decide_eq_true_eq]; omega
  have hl := fun W : World => reffirst11_any (bt s 0) W
  have hn : nameB s = (leadI (bt s 0) && s.all fun c => follI c.toNat) := by unfold nameB; rw [hd]; simp
  rw [hn]
  replace h0 := Lib.hid h0
  clear hd hn
  cases hq : leadI (bt s 0)
  · rw [hq] at hl
    replace hl := Lib.hid hl
    replace hq := Lib.hid hq
    go_enter Tryd.func10, Tryd.ntmps10
    go_wp2_with fail
    refine (hl.out _).mono ?_; rintro e w' ⟨rfl, rfl⟩
    go_wp2_with fail
    go_ret
    exact ⟨rfl, rfl⟩
  · rw [hq] at hl
    replace hl := Lib.hid hl
    replace hq := Lib.hid hq
    rw [Bool.true_and]
    go_enter Tryd.func10, Tryd.ntmps10
    go_wp2_with fail
    refine (hl.out _).mono ?_; rintro e w' ⟨rfl, rfl⟩
    clear hl
    go_wp2_with fail
    go_loop [3] (fun i => ∃ k : Nat, i = .int .i64 k ∧ k ≤ s.length ∧ Hid (∀ j, j < k → follI (bt s j) = true)) (fun i => s.length - (intOf i).toNat)
    case atStart => exact ⟨0, rfl, Nat.zero_le _, fun j hj => by omega⟩
    case round =>
      obtain ⟨k, rfl, hk, hall⟩ := hrel
      by_cases hlt : k < s.length
      · have hf := fun W : World => refmore11_any (bt s k) W
        cases hc : follI (bt s k)
        · have hend : Hid ((s.all fun c => follI c.toNat) = false) := by
            show _ = _
            rw [Bool.eq_false_iff]
            intro ha
            have := (all_bt follI s).1 ha k hlt
            rw [hc] at this; cases this
          rw [hc] at hf
          replace hf := Lib.hid hf
          replace hc := Lib.hid hc
          go_wp2_with fail
          refine (hf.out _).mono ?_; rintro e w' ⟨rfl, rfl⟩
          go_wp2_with fail
          go_ret
          exact ⟨ret_bool hend.out.symm, rfl⟩
        · rw [hc] at hf
          replace hf := Lib.hid hf
          replace hc := Lib.hid hc
          go_wp2_with fail
          refine (hf.out _).mono ?_; rintro e w' ⟨rfl, rfl⟩
          go_wp2_with fail
          exact ⟨⟨k + 1, by go_num, by omega, fun j hj => by
            by_cases e : j = k
            · subst e; exact hc.out
            · exact hall.out j (by omega)⟩, by simp [intOf]; omega⟩
      · have hend : Hid ((s.all fun c => follI c.toNat) = true) := (all_bt follI s).2 fun j hj => hall.out j (by omega)
        have hlt2 : ¬ ((k : Int) < s.length) := by omega
        clear hall
        go_wp2_with fail
        go_ret
        exact ⟨ret_bool hend.out.symm, rfl⟩
end Go.Proofs.YtldnigkaagcciaaDoor

/- Layer 11's laws: Same, of two lists that are the same. -/
namespace Go.Proofs.YtldnigkaagcciaaDoor
open Go.RowKit

theorem cellsK_at : ∀ (P : List (Tk × Value)) (j : Nat) (h : j < P.length), (cellsK P)[j * 4]? = some (.int .i64 (P[j]'h).1.kind) ∧ (cellsK P)[j * 4 + 1]? = some (strV (P[j]'h).1.name) ∧ (cellsK P)[j * 4 + 2]? = some (P[j]'h).2 ∧ (cellsK P)[j * 4 + 3]? = some (strV (P[j]'h).1.text)
  | [], j, h => by simp at h
  | x :: t, 0, _ => ⟨rfl, rfl, rfl, rfl⟩
  | x :: t, j + 1, h => by
    have h' : j < t.length := by simpa using h
    have := cellsK_at t j h'
    have e : cellsK (x :: t) = .int .i64 x.1.kind :: strV x.1.name :: x.2 :: strV x.1.text :: cellsK t := rfl
    have e1 : ∀ i, (cellsK (x :: t))[(j + 1) * 4 + i]? = (cellsK t)[j * 4 + i]? := fun i => by
      rw [e, show (j + 1) * 4 + i = (j * 4 + i) + 1 + 1 + 1 + 1 by omega]; simp only [List.getElem?_cons_succ]
    have e0 := e1 0
    rw [Nat.add_zero, Nat.add_zero] at e0
    rw [e0, e1, e1, e1]
    simpa using this
theorem Tks.cells {w : World} {B : Nat} {v : Value} {P : List (Tk × Value)} (h : Tks w B v P) (h0 : P ≠ []) : ∃ g cap, v = .slice (some ⟨g, 0, none⟩) P.length cap ∧ g < w.heap.size ∧
    ∀ j (hj : j < P.length), w.cell? ⟨g, j * 4, none⟩ = some (.int .i64 (P[j]'hj).1.kind) ∧ w.cell? ⟨g, j * 4 + 1, none⟩ = some (strV (P[j]'hj).1.name) ∧ w.cell? ⟨g, j * 4 + 2, none⟩ = some (P[j]'hj).2 ∧ w.cell? ⟨g, j * 4 + 3, none⟩ = some (strV (P[j]'hj).1.text) := by
  have hlt := World.ownsRow.lt h.row
  rcases h.row.2 with ⟨_, hn⟩ | ⟨g, cap, cur, hv, _⟩
  · exact absurd (List.length_eq_zero_iff.1 hn) h0
  · refine ⟨g, cap, hv, (hlt g (by rw [hv]; rfl)).2, fun j hj => ?_⟩
    have hcg := World.ownsRow.cells h.row (g := g) (by rw [hv]; rfl)
    obtain ⟨e1, e2, e3, e4⟩ := cellsK_at P j hj
    have hadd : ∀ i, (⟨g, 0, none⟩ : Addr).add i = ⟨g, i, none⟩ := fun i => by unfold Addr.add; split <;> simp_all
    have h1 := hcg _ _ e1
    have h2 := hcg _ _ e2
    have h3 := hcg _ _ e3
    have h4 := hcg _ _ e4
    rw [hadd] at h1 h2 h3 h4
    exact ⟨h1, h2, h3, h4⟩
theorem Tks.form {w : World} {B : Nat} {v : Value} {P : List (Tk × Value)} (h : Tks w B v P) : ∃ a c, v = .slice a P.length c := own_form h.row
theorem Tks.atsAt {w : World} {B : Nat} {v : Value} {P : List (Tk × Value)} (h : Tks w B v P) (j : Nat) (hj : j < P.length) : Ats w B (P[j]'hj).2 (P[j]'hj).1.attrs := h.ats _ (List.getElem_mem hj)
theorem Tks.mono {w : World} {B B' : Nat} {v : Value} {P : List (Tk × Value)} (h : Tks w B v P) (hb : B' ≤ B) : Tks w B' v P := ⟨ownsRow_mono h.row hb, fun p hp => ownsRow_mono (h.ats p hp) hb⟩
theorem own_max {w : World} {B E z n : Nat} {v : Value} {xs : List Value} (h : w.ownsRow B E z v n xs) : n ≤ 9223372036854775807 := by
  rcases h.2 with ⟨_, hn⟩ | ⟨g, cap, cur, _, _, _, h1, h2, _⟩
  · omega
  · unfold maxLen at h2; omega
theorem getD_get {α : Type} (l : List α) (x : α) (j : Nat) (h : j < l.length) : l.getD j x = l[j]'h := by simp [List.getD, h]

set_option maxRecDepth 100000 in
set_option maxHeartbeats 4000000 in
theorem same11_any (B1 B2 : Nat) (va vb : Value) (P Q : List (Tk × Value)) (w : World) (ha : Tks w B1 va P) (hb : Tks w B2 vb Q) (hPQ : P.map Prod.fst = Q.map Prod.fst) (hn : P.length ≤ 1000000) :
    Calls Tryd.prog 13 #[va, vb] w fun e w' => e = .returned (.bool true) ∧ Drawn w w' := by
  have hlen : P.length = Q.length := by have := congrArg List.length hPQ; simpa using this
  by_cases h0 : P = []
  · have h1 : Q = [] := List.length_eq_zero_iff.1 (by rw [← hlen, h0]; rfl)
    obtain ⟨a, c, rfl⟩ := ha.form
    obtain ⟨a', c', rfl⟩ := hb.form
    subst h0 h1
    clear ha hb hPQ hlen
    go_enter Tryd.func13, Tryd.ntmps13
    go_wp2_with fail
    refine wp_loop_rounds 1 ?_; rw [rounds_succ]
    go_wp2_with fail
    go_ret
    exact ⟨rfl, Drawn.refl _⟩
  have h1 : Q ≠ [] := by intro e; rw [e] at hlen; exact h0 (List.length_eq_zero_iff.1 hlen)
  obtain ⟨g1, cap1, rfl, hg1, hc1⟩ := ha.cells h0
  obtain ⟨g2, cap2, rfl, hg2, hc2⟩ := hb.cells h1
  have hne : ((P.length : Int) != (Q.length : Int)) = false := by rw [bne_eq_false_iff_eq]; omega
  have hat1 := ha.atsAt
  have hat2 := hb.atsAt
  have hpq : ∀ j (h1 : j < P.length) (h2 : j < Q.length), (P[j]'h1).1 = (Q[j]'h2).1 := by
    intro j h1 h2
    have := congrArg (fun l => l[j]?) hPQ
    simpa [h1, h2] using this
  have hpos : 0 < P.length := List.length_pos_iff.2 h0
  clear ha hb hPQ
  replace hc1 := Lib.hid hc1
  replace hc2 := Lib.hid hc2
  replace hat1 := Lib.hid hat1
  replace hat2 := Lib.hid hat2
  replace hpq := Lib.hid hpq
  replace h0 := Lib.hid h0
  replace h1 := Lib.hid h1
  replace hlen := Lib.hid hlen
  go_enter Tryd.func13, Tryd.ntmps13
  go_wp2_with fail
  go_loopw [5, 6] (fun i _ wr => ∃ n : Nat, i = .int .i64 n ∧ n ≤ P.length ∧ Drawn w wr) (fun i _ _ => P.length - (intOf i).toNat)
  case atStart => exact ⟨0, rfl, Nat.zero_le _, Drawn.refl _⟩
  case round =>
    obtain ⟨n, rfl, hn2, n0, rfl⟩ := hrel
    by_cases hlt : n < P.length
    · have hltQ : n < Q.length := by have := hlen.out; omega
      have hlt1 : (n : Int) < P.length := by omega
      have hlt2 : (n : Int) < Q.length := by omega
      obtain ⟨a0, a1, a2, a3⟩ := hc1.out n hlt
      obtain ⟨b0, b1, b2, b3⟩ := hc2.out n hltQ
      have hA := hat1.out n hlt
      have hB := hat2.out n hltQ
      have hpe := hpq.out n hlt hltQ
      generalize P[n]'hlt = p at a0 a1 a2 a3 hA hpe
      generalize Q[n]'hltQ = q at b0 b1 b2 b3 hB hpe
      obtain ⟨t, v1⟩ := p
      obtain ⟨t', v2⟩ := q
      obtain rfl : t = t' := hpe
      obtain ⟨aa, ac, hv1⟩ := own_form hA
      obtain ⟨ba, bc, hv2⟩ := own_form hB
      simp only at hv1 hv2 a0 a1 a2 a3 b0 b1 b2 b3 hA hB
      subst hv1 hv2
      unfold strV at a1 a3 b1 b3
      obtain ⟨tk, tn, tas, tt⟩ := t
      simp only at *
      have hmx := own_max hA
      replace hA := Lib.hid hA
      replace hB := Lib.hid hB
      go_wp2_with fail
      go_quiet (fail)
      go_wp2_with fail
      clear a0 a1 a3 b0 b1 b3
      go_loopw [6] (fun i wr => ∃ k : Nat, i = .int .i64 k ∧ k ≤ tas.length ∧ Drawn w wr) (fun i _ => tas.length - (intOf i).toNat)
      case atStart => exact ⟨0, rfl, Nat.zero_le _, ⟨n0 + nq, by simp⟩⟩
      case round =>
        obtain ⟨k, rfl, hk2, k0, rfl⟩ := hrel
        by_cases hkl : k < tas.length
        · have hne0 : tas ≠ [] := by intro e; rw [e] at hkl; simp at hkl
          obtain ⟨ga, ca, ea, hga, _, hca⟩ := hA.out.cells hne0
          obtain ⟨gb, cb, eb, hgb, _, hcb⟩ := hB.out.cells hne0
          injection ea with ea ea2 ea3
          injection eb with eb eb2 eb3
          subst ea eb
          clear ea2 ea3 eb2 eb3
          obtain ⟨x0, x1⟩ := hca k hkl
          obtain ⟨y0, y1⟩ := hcb k hkl
          clear hca hcb hA hB
          generalize tas.getD k ([], []) = z at x0 x1 y0 y1
          obtain ⟨z1, z2⟩ := z
          unfold strV at x0 x1 y0 y1
          simp only at x0 x1 y0 y1
          have hkl1 : (k : Int) < tas.length := by omega
          have hkm : (k : Int) + 1 ≤ 9223372036854775807 := by omega
          replace hne0 := Lib.hid hne0
          go_wp2_with fail
          go_quiet (fail)
          go_wp2_with fail
          refine ⟨⟨k + 1, by go_num, by omega, ?_⟩, by simp [intOf]; omega⟩
          exact ⟨_, rfl⟩
        · have hkl2 : ¬ ((k : Int) < tas.length) := by omega
          go_wp2_with fail
          exact ⟨⟨n + 1, by go_num, by omega, ⟨_, rfl⟩⟩, by simp [intOf]; omega⟩
    · have hlt2 : ¬ ((n : Int) < P.length) := by omega
      go_wp2_with fail
      go_ret
      exact ⟨rfl, ⟨_, rfl⟩⟩
end Go.Proofs.YtldnigkaagcciaaDoor
