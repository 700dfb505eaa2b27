/- Layer 8's reference: Near, Sharing. -/
import Derived.Test.YtgldlfgidmgmfaaD08s
namespace Go.Proofs.Ytgldlfgidmgmfaa
open Go.RowKit
variable {w : World} {B Y d : Nat} {L : List (Int × Int)} {v : Value}
theorem shareL_len (L : List (Int × Int)) (s : Int) (d : Nat) : (shareL L s d).length ≤ L.length := by unfold shareL; rw [List.length_map]; exact List.length_filter_le _ _
theorem nearL_len (L : List (Int × Int)) (s : Int) (d : Nat) : (nearL L s d).length ≤ L.length := near_len L s d
theorem take_next {L : List (Int × Int)} {k : Nat} (h : k < L.length) : L.take (k + 1) = L.take k ++ [L[k]] := (List.take_append_getElem h).symm
theorem nearL_take {L : List (Int × Int)} {k : Nat} {s : Int} {d : Nat} (h : k < L.length) : nearL (L.take (k + 1)) s d = nearL (L.take k) s d ++ if distB L[k].2 s ≤ d then [L[k].1] else [] := by
  rw [take_next h]; exact near_snoc _ _ _ _ _
theorem shareL_take {L : List (Int × Int)} {k : Nat} {s : Int} {d : Nat} (h : k < L.length) : shareL (L.take (k + 1)) s d = shareL (L.take k) s d ++ if shareB L[k].2 s d = true then [L[k].1] else [] := by
  rw [take_next h]
  unfold shareL
  rw [List.filter_append, List.map_append]
  congr 1
  by_cases e : shareB L[k].2 s d = true
  · rw [if_pos e]; simp [e]
  · rw [if_neg e]; simp [e]

set_option maxHeartbeats 1000000 in
set_option maxRecDepth 100000 in
theorem refnear08_any {s : Int} (h : RefAt w B Y d L v) (hL : Nums L) (hm : L.length < 50000) (hs : (Lit.int .u64 s).wf = true) :
    Calls Try.prog 21 #[.pointer (some ⟨Y, 0, none⟩), .int .u64 s] w (ListPost (nearL L s d) w) := by
  have hbs := bd_u64 hs
  have hsub : ∀ k, (nearL (L.take k) s d).length ≤ k := fun k => Nat.le_trans (nearL_len _ s d) (by rw [List.length_take]; omega)
  rcases h.form with ⟨rfl, rfl⟩ | ⟨g, cap, rfl, hnc, hcm, hgY, hgl, hcell⟩
  · have c1 := h.c1
    clear h hL hm hs hbs hsub
    go_enter Try.func21, Try.ntmps21
    go_wp2_with fail
    go_loopw [5, 6] (fun u i wr => u = .slice none 0 0 ∧ i = .int .i64 0 ∧ wr = w) (fun _ _ _ => 0)
    case atStart => exact ⟨rfl, rfl, rfl⟩
    case round =>
      obtain ⟨rfl, rfl, rfl⟩ := hrel
      go_wp2_with fail
      go_ret
      exact ⟨_, rfl, World.ownsRow_nil _ _ _ _, Below.refl _ _⟩
  · unfold maxLen at hcm
    replace hcell := Lib.hid hcell
    replace h := Lib.hid h
    replace hsub := Lib.hid hsub
    have hbds := Lib.hid (fun p hp => (hL.bd p hp).2)
    clear hL hs
    obtain ⟨s0, s1⟩ := hbs
    go_enter Try.func21, Try.ntmps21
    go_wp2_with fail
    go_loopw [5, 6] (fun u i wr => ∃ (k m : Nat) (a' : Option Addr) (c' : Nat), i = .int .i64 k ∧ u = .slice a' m c' ∧ k ≤ L.length ∧ m ≤ k ∧ Hid (m = (nearL (L.take k) s d).length) ∧ Hid (Ints wr w.heap.size u (nearL (L.take k) s d) ∧ Below w.heap.size w wr)) (fun _ i _ => L.length - (intOf i).toNat)
    case atStart => exact ⟨0, 0, none, 0, rfl, rfl, Nat.zero_le _, Nat.le_refl _, rfl, World.ownsRow_nil _ _ _ _, Below.refl _ _⟩
    case round =>
      obtain ⟨k, m, a', c', rfl, rfl, hk, hmk, hmm, hc⟩ := hrel
      have hr := h.out.below hc.out.2
      have c0 := hr.c0
      have c1 := hr.c1
      by_cases hlt : k < L.length
      · rcases hr.form with ⟨e, _⟩ | ⟨g', cap', e, _, _, _, _, hcell'⟩
        · cases e
        injection e with e1 e2 e3
        injection e1 with e1
        injection e1 with e1
        subst e1
        clear e2 e3
        obtain ⟨d0, d1⟩ := hcell' k hlt
        have hstep := nearL_take (s := s) (d := d) hlt
        have hbx := hbds.out _ (List.getElem_mem hlt)
        generalize L[k] = p at d0 d1 hstep hbx
        obtain ⟨x, t⟩ := p
        obtain ⟨t0, t1⟩ := hbx
        have hsz := hc.out.2.size
        have k0 : (0 : Int) ≤ k := by omega
        have k1 : (k : Int) < L.length := by omega
        clear hr hcell' hcell
        dsimp only at d0 d1 hstep t0 t1
        have hcall := Lib.hid (fun W => refdist_any t s W t0 t1 s0 s1)
        generalize distB t s = r at hcall hstep
        by_cases hd : r ≤ (d : Int)
        · rw [if_pos hd] at hstep
          replace hstep := Lib.hid hstep
          go_wp2_with fail
          go_quiet ((go_at_call 24; exact Calls.drawn_at (hcall.out _)))
          go_wp2_with (at_builtin; go_must (refine wpList_append1 rfl _ _ 43 3 rfl Try.underlying43 (.int .i64 0) 8 info_int rfl (by decide) w.heap.size _ m _ (.int .i64 x) (by have hown := hc.out.1; unfold Ints at hown; rw [← hmm.out] at hown; exact ownsRow_below hown (Drawn.below (by first | exact Drawn.refl _ | exact ⟨_, rfl⟩) _)) rfl rfl rfl (by omega) (by first | omega | (simp; omega)) ?_))
          intro v2 w2 ho2 hb2 _
          have ho3 := Lib.hid (show Ints w2 w.heap.size v2 (nearL (L.take (k + 1)) s d) by rw [hstep.out]; rw [hmm.out] at ho2; exact ints_one ho2)
          have hl := Lib.hid (show m + 1 = (nearL (L.take (k + 1)) s d).length by rw [hstep.out, List.length_append, ← hmm.out]; rfl)
          obtain ⟨a2, c2, rfl⟩ := own_form ho2
          have hb12 := Lib.hid (hc.out.2.trans ((Drawn.below (by first | exact Drawn.refl _ | exact ⟨_, rfl⟩) _).trans hb2))
          clear ho2 hb2
          go_wp2_with fail
          exact ⟨⟨k + 1, m + 1, a2, c2, by go_num, by trivial, by omega, by omega, hl, ⟨ho3.out, hb12.out⟩⟩, by simp [intOf]; omega⟩
        · rw [if_neg hd, List.append_nil] at hstep
          replace hstep := Lib.hid hstep
          go_wp2_with fail
          go_quiet ((go_at_call 24; exact Calls.drawn_at (hcall.out _)))
          go_wp2_with fail
          exact ⟨⟨k + 1, m, a', c', by go_num, by trivial, by omega, by omega, Lib.hid (by rw [hstep.out]; exact hmm.out), ⟨by rw [hstep.out]; exact ownsRow_below hc.out.1 (Drawn.below (by first | exact Drawn.refl _ | exact ⟨_, rfl⟩) _), hc.out.2.trans (Drawn.below (by first | exact Drawn.refl _ | exact ⟨_, rfl⟩) _)⟩⟩, by simp [intOf]; omega⟩

      · have hkk := Lib.hid (show k = L.length by omega)
        have hke : ¬ ((k : Int) < L.length) := by omega
        clear hr hcell
        go_wp2_with fail
        go_ret
        refine ⟨_, rfl, ?_, hc.out.2⟩
        have := hc.out.1
        rw [hkk.out, List.take_length] at this
        exact this

set_option maxHeartbeats 1000000 in
set_option maxRecDepth 100000 in
theorem refsharing_any {s : Int} (h : RefAt w B Y d L v) (hL : Nums L) (hm : L.length < 50000) (hs : (Lit.int .u64 s).wf = true) :
    Calls Try.prog 23 #[.pointer (some ⟨Y, 0, none⟩), .int .u64 s] w (ListPost (shareL L s d) w) := by
  have hbs := bd_u64 hs
  have hsub : ∀ k, (shareL (L.take k) s d).length ≤ k := fun k => Nat.le_trans (shareL_len _ s d) (by rw [List.length_take]; omega)
  rcases h.form with ⟨rfl, rfl⟩ | ⟨g, cap, rfl, hnc, hcm, hgY, hgl, hcell⟩
  · have c1 := h.c1
    clear h hL hm hs hbs hsub
    go_enter Try.func23, Try.ntmps23
    go_wp2_with fail
    go_loopw [5, 6] (fun u i wr => u = .slice none 0 0 ∧ i = .int .i64 0 ∧ wr = w) (fun _ _ _ => 0)
    case atStart => exact ⟨rfl, rfl, rfl⟩
    case round =>
      obtain ⟨rfl, rfl, rfl⟩ := hrel
      go_wp2_with fail
      go_ret
      exact ⟨_, rfl, World.ownsRow_nil _ _ _ _, Below.refl _ _⟩
  · unfold maxLen at hcm
    replace hcell := Lib.hid hcell
    replace h := Lib.hid h
    replace hsub := Lib.hid hsub
    have hbds := Lib.hid (fun p hp => (hL.bd p hp).2)
    clear hL hs
    obtain ⟨s0, s1⟩ := hbs
    go_enter Try.func23, Try.ntmps23
    go_wp2_with fail
    go_loopw [5, 6] (fun u i wr => ∃ (k m : Nat) (a' : Option Addr) (c' : Nat), i = .int .i64 k ∧ u = .slice a' m c' ∧ k ≤ L.length ∧ m ≤ k ∧ Hid (m = (shareL (L.take k) s d).length) ∧ Hid (Ints wr w.heap.size u (shareL (L.take k) s d) ∧ Below w.heap.size w wr)) (fun _ i _ => L.length - (intOf i).toNat)
    case atStart => exact ⟨0, 0, none, 0, rfl, rfl, Nat.zero_le _, Nat.le_refl _, rfl, World.ownsRow_nil _ _ _ _, Below.refl _ _⟩
    case round =>
      obtain ⟨k, m, a', c', rfl, rfl, hk, hmk, hmm, hc⟩ := hrel
      have hr := h.out.below hc.out.2
      have c0 := hr.c0
      have c1 := hr.c1
      by_cases hlt : k < L.length
      · rcases hr.form with ⟨e, _⟩ | ⟨g', cap', e, _, _, _, _, hcell'⟩
        · cases e
        injection e with e1 e2 e3
        injection e1 with e1
        injection e1 with e1
        subst e1
        clear e2 e3
        obtain ⟨d0, d1⟩ := hcell' k hlt
        have hstep := shareL_take (s := s) (d := d) hlt
        have hbx := hbds.out _ (List.getElem_mem hlt)
        generalize L[k] = p at d0 d1 hstep hbx
        obtain ⟨x, t⟩ := p
        obtain ⟨t0, t1⟩ := hbx
        have hsz := hc.out.2.size
        have k0 : (0 : Int) ≤ k := by omega
        have k1 : (k : Int) < L.length := by omega
        clear hr hcell' hcell
        dsimp only at d0 d1 hstep t0 t1
        have hcall := Lib.hid (fun W => refshared_any t s d W t0 t1 s0 s1)
        generalize shareB t s d = q at hcall hstep
        by_cases hd : q = true
        · rw [if_pos hd] at hstep
          subst hd
          replace hstep := Lib.hid hstep
          go_wp2_with fail
          go_quiet ((go_at_call 38; exact Calls.drawn_at (hcall.out _)))
          go_wp2_with (at_builtin; go_must (refine wpList_append1 rfl _ _ 43 3 rfl Try.underlying43 (.int .i64 0) 8 info_int rfl (by decide) w.heap.size _ m _ (.int .i64 x) (by have hown := hc.out.1; unfold Ints at hown; rw [← hmm.out] at hown; exact ownsRow_below hown (Drawn.below (by first | exact Drawn.refl _ | exact ⟨_, rfl⟩) _)) rfl rfl rfl (by omega) (by first | omega | (simp; omega)) ?_))
          intro v2 w2 ho2 hb2 _
          have ho3 := Lib.hid (show Ints w2 w.heap.size v2 (shareL (L.take (k + 1)) s d) by rw [hstep.out]; rw [hmm.out] at ho2; exact ints_one ho2)
          have hl := Lib.hid (show m + 1 = (shareL (L.take (k + 1)) s d).length by rw [hstep.out, List.length_append, ← hmm.out]; rfl)
          obtain ⟨a2, c2, rfl⟩ := own_form ho2
          have hb12 := Lib.hid (hc.out.2.trans ((Drawn.below (by first | exact Drawn.refl _ | exact ⟨_, rfl⟩) _).trans hb2))
          clear ho2 hb2
          go_wp2_with fail
          exact ⟨⟨k + 1, m + 1, a2, c2, by go_num, by trivial, by omega, by omega, hl, ⟨ho3.out, hb12.out⟩⟩, by simp [intOf]; omega⟩
        · rw [if_neg hd, List.append_nil] at hstep
          rw [Bool.not_eq_true] at hd
          subst hd
          replace hstep := Lib.hid hstep
          go_wp2_with fail
          go_quiet ((go_at_call 38; exact Calls.drawn_at (hcall.out _)))
          go_wp2_with fail
          exact ⟨⟨k + 1, m, a', c', by go_num, by trivial, by omega, by omega, Lib.hid (by rw [hstep.out]; exact hmm.out), ⟨by rw [hstep.out]; exact ownsRow_below hc.out.1 (Drawn.below (by first | exact Drawn.refl _ | exact ⟨_, rfl⟩) _), hc.out.2.trans (Drawn.below (by first | exact Drawn.refl _ | exact ⟨_, rfl⟩) _)⟩⟩, by simp [intOf]; omega⟩

      · have hkk := Lib.hid (show k = L.length by omega)
        have hke : ¬ ((k : Int) < L.length) := by omega
        clear hr hcell
        go_wp2_with fail
        go_ret
        refine ⟨_, rfl, ?_, hc.out.2⟩
        have := hc.out.1
        rw [hkk.out, List.take_length] at this
        exact this
end Go.Proofs.Ytgldlfgidmgmfaa
