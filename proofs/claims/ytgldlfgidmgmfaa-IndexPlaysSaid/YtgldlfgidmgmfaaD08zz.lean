/- Layer 8's law IndexPlays. -/
import Derived.Test.YtgldlfgidmgmfaaD08z
import Derived.Deep.RegionHeld3
namespace Go.Proofs.Ytgldlfgidmgmfaa
open Go.RowKit

/-- Steps that came in. -/
def OpSl (w : World) (v : Value) (os : List (Int × Int × Int)) : Prop :=
  (os = [] ∧ ∃ a c, v = .slice a 0 c) ∨ ∃ b off c, v = .slice (some ⟨b, off, none⟩) os.length c ∧ b < w.heap.size ∧ ∀ j (hj : j < os.length),
    w.cell? ⟨b, off + j * 3, none⟩ = some (.int .i64 (os[j]'hj).1) ∧ w.cell? ⟨b, off + j * 3 + 1, none⟩ = some (.int .i64 (os[j]'hj).2.1) ∧ w.cell? ⟨b, off + j * 3 + 2, none⟩ = some (.int .u64 (os[j]'hj).2.2)
theorem OpSl.form {w : World} {v : Value} {os : List (Int × Int × Int)} (h : OpSl w v os) : ∃ a c, v = .slice a os.length c := by
  rcases h with ⟨rfl, a, c, rfl⟩ | ⟨b, off, c, rfl, _⟩
  · exact ⟨a, c, rfl⟩
  · exact ⟨_, c, rfl⟩
def OpsWf (os : List (Int × Int × Int)) : Prop := ∀ p ∈ os, (Lit.int .i64 p.2.1).wf = true ∧ (Lit.int .u64 p.2.2).wf = true
theorem pl_begin {w0 w : World} {d X : Nat} (h : Own1 w0.heap.size w X d [] 0) (hb : Below w0.heap.size w0 w) (hd : d < 16) : Calls Try.prog 8 #[.int .i64 d] w fun e w' => ∃ Y, e = .returned (.tuple #[.pointer (some ⟨Y, 0, none⟩), .int .i64 0]) ∧ Hid (Pl0 w0 d X Y 0 [] [] w') := by
  obtain ⟨fx, h1, h2⟩ := h
  refine (refnew_yes d w hd).mono ?_
  rintro e w' ⟨Y, rfl, g1, g2⟩
  exact ⟨Y, rfl, fx, _, 0, Nat.le_refl _, h1.below g2, g1.mono hb.size, h2, fun hf => by have := h1.lt hf; have := g1.low; omega, fun b hb => (by cases hb), hb.trans (g2.mono hb.size)⟩

theorem pl_drew {w0 w : World} {d X Y O m : Nat} {o : List Value} {Lx Ly : List (Int × Int)} (h : Hid (Pl w0 d X Y O o m Lx Ly w)) : Hid (Pl w0 d X Y O o m Lx Ly w.drew) := Lib.hid (h.out.next (Drawn.below ⟨1, rfl⟩ _))
section
variable {w0 w : World} {d X Y O m : Nat} {L Lx Ly : List (Int × Int)} {kd id0 sg : Int} {va vb : Value} {zs : List Int}
theorem pl_cells (h : Hid (Pl w0 d X Y O [.int .i64 kd, .int .i64 id0, .int .u64 sg] m Lx Ly w)) : w.cell? ⟨O, 0, none⟩ = some (.int .i64 kd) ∧ w.cell? ⟨O, 1, none⟩ = some (.int .i64 id0) ∧ w.cell? ⟨O, 2, none⟩ = some (.int .u64 sg) := by
  refine ⟨?_, ?_, ?_⟩ <;> rw [h.out.cells.cell] <;> rfl
theorem pl_keep (h : Hid (Pl w0 d X Y O [.int .i64 kd, .int .i64 id0, .int .u64 sg] m Lx Ly w)) : w.cell? ⟨O, 1, none⟩ = some (.int .i64 id0) ∧ w.cell? ⟨O, 2, none⟩ = some (.int .u64 sg) := (pl_cells h).2
theorem pl_keep1 (h : Hid (PlOne w0 d X Y O [.int .i64 kd, .int .i64 id0, .int .u64 sg] m L va zs w)) : w.cell? ⟨O, 1, none⟩ = some (.int .i64 id0) ∧ w.cell? ⟨O, 2, none⟩ = some (.int .u64 sg) := pl_keep (Lib.hid h.out.1)
theorem pl_keep2 (h : Hid (PlTwo w0 d X Y O [.int .i64 kd, .int .i64 id0, .int .u64 sg] m L va vb zs w)) : w.cell? ⟨O, 1, none⟩ = some (.int .i64 id0) ∧ w.cell? ⟨O, 2, none⟩ = some (.int .u64 sg) := pl_keep (Lib.hid h.out.1)
end
theorem way_add {w0 : World} {d X Y : Nat} {o : List Value} {L : List (Int × Int)} (hL : Nums L) (hl : L.length < 30000) {id s : Int} (hid : (Lit.int .i64 id).wf = true) (hs : (Lit.int .u64 s).wf = true) : ∃ (b : Bool) (L' : List (Int × Int)), Nums L' ∧ L'.length ≤ L.length + 1 ∧
    (∀ O w m Ly, Hid (Pl w0 d X Y O o m L Ly w) → m < 30000 → Calls Try.prog 11 #[.pointer (some ⟨X, 0, none⟩), .int .i64 id, .int .u64 s] w fun e w' => e = .returned (.bool b) ∧ Hid (Pl w0 d X Y O o (m + 1) L' Ly w')) ∧
    (∀ O w m Lx, Hid (Pl w0 d X Y O o m Lx L w) → Calls Try.prog 12 #[.pointer (some ⟨Y, 0, none⟩), .int .i64 id, .int .u64 s] w fun e w' => e = .returned (.bool b) ∧ Hid (Pl w0 d X Y O o m Lx L' w')) :=
  pl_add hL hl hid hs
theorem way_drop {w0 : World} {d X Y : Nat} {o : List Value} {L : List (Int × Int)} (hL : Nums L) (hl : L.length < 30000) {id : Int} (hid : (Lit.int .i64 id).wf = true) : ∃ (b : Bool) (L' : List (Int × Int)), Nums L' ∧ L'.length ≤ L.length + 1 ∧
    (∀ O w m Ly, Hid (Pl w0 d X Y O o m L Ly w) → m < 30000 → Calls Try.prog 13 #[.pointer (some ⟨X, 0, none⟩), .int .i64 id] w fun e w' => e = .returned (.bool b) ∧ Hid (Pl w0 d X Y O o (m + 1) L' Ly w')) ∧
    (∀ O w m Lx, Hid (Pl w0 d X Y O o m Lx L w) → Calls Try.prog 14 #[.pointer (some ⟨Y, 0, none⟩), .int .i64 id] w fun e w' => e = .returned (.bool b) ∧ Hid (Pl w0 d X Y O o m Lx L' w')) :=
  pl_drop hL hl hid

set_option maxHeartbeats 1000000 in
set_option maxRecDepth 100000 in
theorem plays08_law (d : Int) (os : List (Int × Int × Int)) (v : Value) (w : World) (hv : OpSl w v os) (hn : os.length ≤ maxLen) (hwf : OpsWf os) :
    Calls Try.prog 3 #[.int .i64 d, v] w (LawPost w) := by
  unfold maxLen at hn
  obtain ⟨a, c, rfl⟩ := hv.form
  replace hv := Lib.hid hv
  replace hwf := Lib.hid hwf
  by_cases hd : mayB d = true
  case neg =>
    have c1 := Lib.hid (new_no d w hd)
    have c2 := Lib.hid (fun W => refnew_no d W hd)
    clear hd hwf hv
    go_enter Try.func3, Try.ntmps3
    go_wp2_with fail
    refine c1.out.mono ?_; rintro e w1 ⟨rfl, rfl⟩
    go_wp2_with fail
    refine (c2.out _).mono ?_; rintro e w1 ⟨rfl, rfl⟩
    go_wp2_with fail
    refine (code_arg _).mono ?_; rintro e w1 ⟨rfl, rfl⟩
    go_wp2_with fail
    refine (awake8_any _).mono ?_; rintro e w1 ⟨rfl, hb⟩
    replace hb := Lib.hid hb
    go_wp2_with fail
    refine (code_arg _).mono ?_; rintro e w2 ⟨rfl, rfl⟩
    go_wp2_with fail
    go_ret
    exact ⟨rfl, hb.out⟩
  obtain ⟨n, rfl, h16⟩ := may_form hd
  clear hd
  have c1 := Lib.hid (own_new (d := n) w h16 (Nat.le_refl w.heap.size))
  go_enter Try.func3, Try.ntmps3
  go_wp2_with fail
  refine c1.out.mono ?_; rintro e w1 ⟨X, rfl, ho, hb⟩
  have c2 := Lib.hid (pl_begin ho hb h16)
  clear ho hb c1
  go_wp2_with fail
  refine c2.out.mono ?_; rintro e w2 ⟨Y, rfl, hp⟩
  clear c2
  go_wp2_with fail
  refine (code_nil _).mono ?_; rintro e w1 ⟨rfl, rfl⟩
  go_wp2_with fail
  go_loopw [9] (fun i wr => ∃ (k : Nat) (L : List (Int × Int)), i = .int .i64 k ∧ k ≤ os.length ∧ k ≤ 120 ∧ L.length ≤ k ∧ Hid (Nums L) ∧ Hid (Pl0 w n X Y k L L wr)) (fun i _ => os.length - (intOf i).toNat)
  case atStart => exact ⟨0, [], rfl, Nat.zero_le _, Nat.zero_le _, Nat.le_refl _, ⟨List.Pairwise.nil, fun p hp => by simp at hp⟩, hp.out⟩
  case round =>
    clear hp
    obtain ⟨k, L, rfl, hk, hk2, hll, hL, hp⟩ := hrel
    by_cases hlt : k < os.length
    · by_cases h12 : k < 120
      · rcases hv.out with ⟨rfl, _⟩ | ⟨b, off, c', e, hbl, hcell⟩
        · simp at hlt
        injection e with e1 e2 e3
        clear e2
        subst e1 e3
        obtain ⟨d0, d1, d2⟩ := hcell k hlt
        obtain ⟨wf1, wf2⟩ := hwf.out _ (List.getElem_mem hlt)
        generalize os[k] = q at d0 d1 d2 wf1 wf2
        obtain ⟨kd, id0, sg⟩ := q
        dsimp only at d0 d1 d2 wf1 wf2
        have hbe : ∀ j, wr.cell? ⟨b, j, none⟩ = w.cell? ⟨b, j, none⟩ := fun j => World.cell?_of_block (hp.out.below.block b hbl)
        rw [← hbe] at d0 d1 d2
        clear hcell hbe
        replace wf1 := Lib.hid wf1
        replace wf2 := Lib.hid wf2
        by_cases hk0 : kd = 0
        · subst hk0
          have hpl := Lib.hid (hp.out.with (O := wr.heap.size) (o := [.int .i64 0, .int .i64 id0, .int .u64 sg]) ((Below.refl wr.heap.size wr).alloc (Nat.le_refl _) (.cells #[.int .i64 0, .int .i64 id0, .int .u64 sg] 36)) (arrAt_new wr _ _) (Nat.le_refl _))
          obtain ⟨rb, L2, hL2, hl2, hx, hy⟩ := way_add hL.out (by omega) wf1.out wf2.out (w0 := w) (d := n) (X := X) (Y := Y) (o := [.int .i64 0, .int .i64 id0, .int .u64 sg])
          replace hL2 := Lib.hid hL2
          replace hx := Lib.hid hx
          replace hy := Lib.hid hy
          go_wp2_with fail
          generalize wr.alloc (.cells #[.int .i64 0, .int .i64 id0, .int .u64 sg] 36) = wa at hpl ⊢
          generalize wr.heap.size = O at hpl ⊢
          clear hp d0 d1 d2
          have hpd := pl_drew hpl
          have hm0 : k < 30000 := by omega
          go_region_held3 (fun W => W.cell? ⟨O, 1, none⟩ = some (.int .i64 id0) ∧ W.cell? ⟨O, 2, none⟩ = some (.int .u64 sg)) (first | exact pl_keep (by assumption) | exact pl_keep (pl_drew (by assumption)) | exact pl_keep1 (by assumption) | exact pl_keep2 (by assumption)) (first
            | (go_at_call 11; (with_reducible refine (hx.out _ _ _ _ (by assumption) hm0).mono ?_); rintro e w' ⟨rfl, hq1⟩)
            | (go_at_call 12; (with_reducible refine (hy.out _ _ _ _ (by assumption)).mono ?_); rintro e w' ⟨rfl, hq2⟩))
          clear hx hy hpl hpd
          have hm3 : k + 1 < 30000 := by omega
          have hl3 : L2.length < 30000 := by omega
          have hl4 : L2.length ≤ 1000000 := by omega
          obtain ⟨sv, sb, hgx, hgy⟩ := pl_get (w0 := w) (d := n) (X := X) (Y := Y) (O := O) (o := [.int .i64 0, .int .i64 id0, .int .u64 sg]) (L := L2) hL2.out (by omega) wf1.out
          replace hgx := Lib.hid (hgx _ _ _ hq2)
          replace hgy := Lib.hid (hgy _ _ _ hq2)
          obtain ⟨q0, q1, q2⟩ := pl_cells hq2
          go_wp2_with fail
          refine hgx.out.mono ?_; rintro e w5 ⟨rfl, rfl⟩
          clear hgx
          go_wp2_with fail
          refine hgy.out.mono ?_; rintro e w5 ⟨rfl, rfl⟩
          clear hgy q0 q1 q2
          go_wp2_with fail
          have hqd := pl_drew hq2
          go_region_held3 (fun W => W.cell? ⟨O, 1, none⟩ = some (.int .i64 id0) ∧ W.cell? ⟨O, 2, none⟩ = some (.int .u64 sg)) (first | exact pl_keep (by assumption) | exact pl_keep (pl_drew (by assumption)) | exact pl_keep1 (by assumption) | exact pl_keep2 (by assumption)) (first
            | (go_at_call 17; (with_reducible refine (pl_xlen (by assumption)).mono ?_); rintro e w' ⟨rfl, hg1⟩)
            | (go_at_call 18; (with_reducible refine (pl_ylen (by assumption)).mono ?_); rintro e w' ⟨rfl, hg2⟩)
            | (go_at_call 20; (with_reducible refine (pl_xnear hm3 wf2.out (by assumption)).mono ?_); rintro e w' ⟨va, rfl, hg3⟩)
            | (go_at_call 21; (with_reducible refine (pl_ynear hL2.out hl3 wf2.out (by assumption)).mono ?_); rintro e w' ⟨vb, rfl, hg4⟩)
            | (go_at_call 22; (with_reducible refine (pl_xshare hm3 wf2.out (by assumption)).mono ?_); rintro e w' ⟨va, rfl, hg5⟩)
            | (go_at_call 23; (with_reducible refine (pl_yshare hL2.out hl3 wf2.out (by assumption)).mono ?_); rintro e w' ⟨vb, rfl, hg6⟩)
            | (go_at_call 19; (with_reducible first | refine (pl_same_near hl4 (by assumption)).mono ?_ | refine (pl_same_share hl4 (by assumption)).mono ?_); rintro e w' ⟨rfl, hg7⟩))
          go_wp2_with fail
          exact ⟨⟨k + 1, L2, by go_num, by omega, by omega, by omega, hL2, hg7.out.back⟩, by simp [intOf]; omega⟩
        · by_cases hk1 : kd = 1
          · subst hk1
            clear hk0
            have hpl := Lib.hid (hp.out.with (O := wr.heap.size) (o := [.int .i64 1, .int .i64 id0, .int .u64 sg]) ((Below.refl wr.heap.size wr).alloc (Nat.le_refl _) (.cells #[.int .i64 1, .int .i64 id0, .int .u64 sg] 36)) (arrAt_new wr _ _) (Nat.le_refl _))
            obtain ⟨rb, L2, hL2, hl2, hx, hy⟩ := way_drop hL.out (by omega) wf1.out (w0 := w) (d := n) (X := X) (Y := Y) (o := [.int .i64 1, .int .i64 id0, .int .u64 sg])
            replace hL2 := Lib.hid hL2
            replace hx := Lib.hid hx
            replace hy := Lib.hid hy
            go_wp2_with fail
            generalize wr.alloc (.cells #[.int .i64 1, .int .i64 id0, .int .u64 sg] 36) = wa at hpl ⊢
            generalize wr.heap.size = O at hpl ⊢
            clear hp d0 d1 d2
            have hpd := pl_drew hpl
            have hm0 : k < 30000 := by omega
            go_region_held3 (fun W => W.cell? ⟨O, 1, none⟩ = some (.int .i64 id0) ∧ W.cell? ⟨O, 2, none⟩ = some (.int .u64 sg)) (first | exact pl_keep (by assumption) | exact pl_keep (pl_drew (by assumption)) | exact pl_keep1 (by assumption) | exact pl_keep2 (by assumption)) (first
              | (go_at_call 13; (with_reducible refine (hx.out _ _ _ _ (by assumption) hm0).mono ?_); rintro e w' ⟨rfl, hq1⟩)
              | (go_at_call 14; (with_reducible refine (hy.out _ _ _ _ (by assumption)).mono ?_); rintro e w' ⟨rfl, hq2⟩))
            clear hx hy hpl hpd
            have hm3 : k + 1 < 30000 := by omega
            have hl3 : L2.length < 30000 := by omega
            have hl4 : L2.length ≤ 1000000 := by omega
            obtain ⟨sv, sb, hgx, hgy⟩ := pl_get (w0 := w) (d := n) (X := X) (Y := Y) (O := O) (o := [.int .i64 1, .int .i64 id0, .int .u64 sg]) (L := L2) hL2.out (by omega) wf1.out
            replace hgx := Lib.hid (hgx _ _ _ hq2)
            replace hgy := Lib.hid (hgy _ _ _ hq2)
            obtain ⟨q0, q1, q2⟩ := pl_cells hq2
            go_wp2_with fail
            refine hgx.out.mono ?_; rintro e w5 ⟨rfl, rfl⟩
            clear hgx
            go_wp2_with fail
            refine hgy.out.mono ?_; rintro e w5 ⟨rfl, rfl⟩
            clear hgy q0 q1 q2
            go_wp2_with fail
            have hqd := pl_drew hq2
            go_region_held3 (fun W => W.cell? ⟨O, 1, none⟩ = some (.int .i64 id0) ∧ W.cell? ⟨O, 2, none⟩ = some (.int .u64 sg)) (first | exact pl_keep (by assumption) | exact pl_keep (pl_drew (by assumption)) | exact pl_keep1 (by assumption) | exact pl_keep2 (by assumption)) (first
              | (go_at_call 17; (with_reducible refine (pl_xlen (by assumption)).mono ?_); rintro e w' ⟨rfl, hg1⟩)
              | (go_at_call 18; (with_reducible refine (pl_ylen (by assumption)).mono ?_); rintro e w' ⟨rfl, hg2⟩)
              | (go_at_call 20; (with_reducible refine (pl_xnear hm3 wf2.out (by assumption)).mono ?_); rintro e w' ⟨va, rfl, hg3⟩)
              | (go_at_call 21; (with_reducible refine (pl_ynear hL2.out hl3 wf2.out (by assumption)).mono ?_); rintro e w' ⟨vb, rfl, hg4⟩)
              | (go_at_call 22; (with_reducible refine (pl_xshare hm3 wf2.out (by assumption)).mono ?_); rintro e w' ⟨va, rfl, hg5⟩)
              | (go_at_call 23; (with_reducible refine (pl_yshare hL2.out hl3 wf2.out (by assumption)).mono ?_); rintro e w' ⟨vb, rfl, hg6⟩)
              | (go_at_call 19; (with_reducible first | refine (pl_same_near hl4 (by assumption)).mono ?_ | refine (pl_same_share hl4 (by assumption)).mono ?_); rintro e w' ⟨rfl, hg7⟩))
            go_wp2_with fail
            exact ⟨⟨k + 1, L2, by go_num, by omega, by omega, by omega, hL2, hg7.out.back⟩, by simp [intOf]; omega⟩
          · have k0 : (kd == 0) = false := by simpa using hk0
            have k1 : (kd == 1) = false := by simpa using hk1
            clear hk0 hk1
            have hpl := Lib.hid (hp.out.with (O := wr.heap.size) (o := [.int .i64 kd, .int .i64 id0, .int .u64 sg]) ((Below.refl wr.heap.size wr).alloc (Nat.le_refl _) (.cells #[.int .i64 kd, .int .i64 id0, .int .u64 sg] 36)) (arrAt_new wr _ _) (Nat.le_refl _))
            have hL2 := hL
            have q0' : Hid True := trivial
            obtain ⟨sv, sb, hgx, hgy⟩ := pl_get (w0 := w) (d := n) (X := X) (Y := Y) (O := wr.heap.size) (o := [.int .i64 kd, .int .i64 id0, .int .u64 sg]) (L := L) hL2.out (by omega) wf1.out
            replace hgx := Lib.hid (hgx _ _ _ hpl)
            replace hgy := Lib.hid (hgy _ _ _ hpl)
            go_wp2_with fail
            refine hgx.out.mono ?_; rintro e w5 ⟨rfl, rfl⟩
            clear hgx
            go_wp2_with fail
            refine hgy.out.mono ?_; rintro e w5 ⟨rfl, rfl⟩
            clear hgy q0'
            go_wp2_with fail
            generalize wr.alloc (.cells #[.int .i64 kd, .int .i64 id0, .int .u64 sg] 36) = wa at hpl ⊢
            generalize wr.heap.size = O at hpl ⊢
            clear hp d0 d1 d2
            have hm3 : k + 1 < 30000 := by omega
            have hl3 : L.length < 30000 := by omega
            have hl4 : L.length ≤ 1000000 := by omega
            replace hpl := Lib.hid (hpl.out.more (Nat.le_succ k))
            have hqd := pl_drew hpl
            go_region_held3 (fun W => W.cell? ⟨O, 1, none⟩ = some (.int .i64 id0) ∧ W.cell? ⟨O, 2, none⟩ = some (.int .u64 sg)) (first | exact pl_keep (by assumption) | exact pl_keep (pl_drew (by assumption)) | exact pl_keep1 (by assumption) | exact pl_keep2 (by assumption)) (first
              | (go_at_call 17; (with_reducible refine (pl_xlen (by assumption)).mono ?_); rintro e w' ⟨rfl, hg1⟩)
              | (go_at_call 18; (with_reducible refine (pl_ylen (by assumption)).mono ?_); rintro e w' ⟨rfl, hg2⟩)
              | (go_at_call 20; (with_reducible refine (pl_xnear hm3 wf2.out (by assumption)).mono ?_); rintro e w' ⟨va, rfl, hg3⟩)
              | (go_at_call 21; (with_reducible refine (pl_ynear hL2.out hl3 wf2.out (by assumption)).mono ?_); rintro e w' ⟨vb, rfl, hg4⟩)
              | (go_at_call 22; (with_reducible refine (pl_xshare hm3 wf2.out (by assumption)).mono ?_); rintro e w' ⟨va, rfl, hg5⟩)
              | (go_at_call 23; (with_reducible refine (pl_yshare hL2.out hl3 wf2.out (by assumption)).mono ?_); rintro e w' ⟨vb, rfl, hg6⟩)
              | (go_at_call 19; (with_reducible first | refine (pl_same_near hl4 (by assumption)).mono ?_ | refine (pl_same_share hl4 (by assumption)).mono ?_); rintro e w' ⟨rfl, hg7⟩))
            go_wp2_with fail
            exact ⟨⟨k + 1, L, by go_num, by omega, by omega, by omega, hL2, hg7.out.back⟩, by simp [intOf]; omega⟩
      · have hke : decide ((k : Int) < 120) = false := decide_eq_false (by omega)
        have hke2 : ¬ ((k : Int) < 120) := by omega
        go_wp2_with fail
        refine (awake8_any _).mono ?_; rintro e w2 ⟨rfl, hb⟩
        replace hb := Lib.hid (hp.out.below.andThen hb)
        go_wp2_with fail
        go_ret
        exact ⟨rfl, hb.out⟩
    · have hke : ¬ ((k : Int) < os.length) := by omega
      go_wp2_with fail
      refine (awake8_any _).mono ?_; rintro e w2 ⟨rfl, hb⟩
      replace hb := Lib.hid (hp.out.below.andThen hb)
      go_wp2_with fail
      go_ret
      exact ⟨rfl, hb.out⟩
end Go.Proofs.Ytgldlfgidmgmfaa
