/- Layer 8's law IndexOrder. -/
import Derived.Test.YtgldlfgidmgmfaaD08m
namespace Go.Proofs.Ytgldlfgidmgmfaa
open Go.RowKit Go.Maps

/-- Two indexes that the law itself made. -/
def Two (B : Nat) (w : World) (d X : Nat) (Lx : List (Int × Int)) (mx Y : Nat) (Ly : List (Int × Int)) (my : Nat) : Prop :=
  ∃ fx fy, IdxAt w X d Lx mx fx ∧ IdxAt w Y d Ly my fy ∧ (∀ b, fx b → B ≤ b) ∧ (∀ b, fy b → B ≤ b) ∧ ∀ b, fx b → ¬ fy b
section
variable {B d X mx Y my : Nat} {w w' : World} {Lx Ly : List (Int × Int)}
theorem Two.swap (h : Two B w d X Lx mx Y Ly my) : Two B w d Y Ly my X Lx mx := by
  obtain ⟨fx, fy, h1, h2, h3, h4, h5⟩ := h
  exact ⟨fy, fx, h2, h1, h4, h3, fun b hy hx => h5 b hx hy⟩
theorem Two.x (h : Two B w d X Lx mx Y Ly my) : Own1 B w X d Lx mx := by obtain ⟨fx, fy, h1, _, h3, _⟩ := h; exact ⟨fx, h1, h3⟩
theorem Two.y (h : Two B w d X Lx mx Y Ly my) : Own1 B w Y d Ly my := h.swap.x
theorem Two.below (h : Two B w d X Lx mx Y Ly my) (hb : Below w.heap.size w w') : Two B w' d X Lx mx Y Ly my := by
  obtain ⟨fx, fy, h1, h2, h3, h4, h5⟩ := h
  exact ⟨fx, fy, h1.below hb, h2.below hb, h3, h4, h5⟩
theorem Two.turn {fx fx' : Nat → Prop} {fy : Nat → Prop} {Lx' : List (Int × Int)} {mx' : Nat} (h2 : IdxAt w Y d Ly my fy) (h3 : ∀ b, fx b → B ≤ b) (h4 : ∀ b, fy b → B ≤ b) (h5 : ∀ b, fx b → ¬ fy b) (hB : B ≤ w.heap.size)
    (g1 : IdxAt w' X d Lx' mx' fx') (g2 : Turned fx w w') (g3 : ∀ b, fx' b → fx b ∨ w.heap.size ≤ b) : Two B w' d X Lx' mx' Y Ly my ∧ Below B w w' := by
  refine ⟨⟨fx', fy, g1, h2.turned g2 fun b hb hx => h5 b hx hb, fun b hb => ?_, h4, fun b hb hy => ?_⟩, g2.below (fun i _ hi => h3 i hi) hB⟩
  · rcases g3 b hb with h' | h'
    · exact h3 b h'
    · omega
  · rcases g3 b hb with h' | h'
    · exact h5 b h' hy
    · have := h2.lt hy; omega
theorem Two.add (h : Two B w d X Lx mx Y Ly my) (hB : B ≤ w.heap.size) {id s : Int} (hid : (Lit.int .i64 id).wf = true) (hs : (Lit.int .u64 s).wf = true) (hm : mx < 40000) (hn : ¬ ∃ t, (id, t) ∈ Lx) :
    Calls Try.prog 11 #[.pointer (some ⟨X, 0, none⟩), .int .i64 id, .int .u64 s] w fun e w' => e = .returned (.bool true) ∧ Two B w' d X (addL Lx id s) (mx + 1) Y Ly my ∧ Below B w w' := by
  obtain ⟨fx, fy, h1, h2, h3, h4, h5⟩ := h
  refine (add_any X d Lx mx fx id s w h1 hid hs (by omega)).mono ?_
  rintro e w' (⟨hex, _⟩ | ⟨_, rfl, fp', g1, g2, g3⟩)
  · exact absurd hex hn
  · exact ⟨rfl, Two.turn h2 h3 h4 h5 hB g1 g2 g3⟩
theorem Two.drop (h : Two B w d X Lx mx Y Ly my) (hB : B ≤ w.heap.size) {id : Int} (hid : (Lit.int .i64 id).wf = true) (hm : mx < 40000) (hn : ∃ t, (id, t) ∈ Lx) :
    Calls Try.prog 13 #[.pointer (some ⟨X, 0, none⟩), .int .i64 id] w fun e w' => e = .returned (.bool true) ∧ Two B w' d X (dropL Lx id) mx Y Ly my ∧ Below B w w' := by
  obtain ⟨fx, fy, h1, h2, h3, h4, h5⟩ := h
  refine (idrop_any X d Lx mx fx id w h1 hid (by omega)).mono ?_
  rintro e w' (⟨hn', _⟩ | ⟨_, rfl, fp', g1, g2, g3⟩)
  · exact absurd hn hn'
  · exact ⟨rfl, Two.turn h2 h3 h4 h5 hB g1 g2 g3⟩
end
theorem new_two {B d X mx : Nat} {w : World} {L : List (Int × Int)} (h : Own1 B w X d L mx) (hB : B ≤ w.heap.size) (hd : d < 16) : Calls Try.prog 7 #[.int .i64 d] w fun e w' => ∃ Y, e = .returned (.tuple #[.pointer (some ⟨Y, 0, none⟩), .nilIface]) ∧ Two B w' d X L mx Y [] 0 ∧ Below w.heap.size w w' := by
  obtain ⟨fx, h1, h2⟩ := h
  refine (new_yes d w hd).mono ?_
  rintro e w' ⟨Y, fy, rfl, g, hf, hb⟩
  exact ⟨Y, rfl, ⟨fx, fy, h1.below hb, g, h2, fun b hb' => Nat.le_trans hB (hf b hb'), fun b hx hy => by have := h1.lt hx; have := hf b hy; omega⟩, hb⟩

/-- The numbers from the j-th on. -/
def rest8 (xs : List Int) (q : Int) : List (Int × Int) := (pairs xs xs.length).drop (q + 1).toNat
theorem rest8_next (xs : List Int) (k : Nat) (hk : k < xs.length) : rest8 xs ((k : Int) - 1) = ((k : Int), xs.getD k 0) :: rest8 xs k := by
  unfold rest8
  rw [show ((k : Int) - 1 + 1).toNat = k by omega, show ((k : Int) + 1).toNat = k + 1 by omega, List.drop_eq_getElem_cons (by rw [pairs_len]; exact hk)]
  congr 1
  unfold pairs
  simp
theorem rest8_above {xs : List Int} {k : Nat} {p : Int × Int} (h : p ∈ rest8 xs k) : (k : Int) < p.1 := by
  unfold rest8 at h
  rw [show ((k : Int) + 1).toNat = k + 1 by omega] at h
  obtain ⟨j, hj, rfl⟩ := List.mem_iff_getElem.1 h
  rw [List.getElem_drop]
  unfold pairs
  simp
  omega
theorem posL_zero {L : List (Int × Int)} {id : Int} (h : ∀ p ∈ L, id ≤ p.1) : posL L id = 0 := by
  unfold posL
  rw [List.countP_eq_zero]
  intro x hx
  obtain ⟨p, hp, rfl⟩ := List.mem_map.1 hx
  have := h p hp
  simpa using this
theorem addL_front {L : List (Int × Int)} {id s : Int} (h : ∀ p ∈ L, id < p.1) : addL L id s = (id, s) :: L := by
  unfold addL
  rw [posL_zero fun p hp => Int.le_of_lt (h p hp)]; rfl
theorem dropL_front {L : List (Int × Int)} {id s : Int} (h : ∀ p ∈ L, id < p.1) : dropL ((id, s) :: L) id = L := by
  unfold dropL
  rw [posL_zero fun p hp => by
    rcases List.mem_cons.1 hp with rfl | hp
    · exact Int.le_refl _
    · exact Int.le_of_lt (h p hp)]
  rfl
theorem rest8_free {xs : List Int} {k : Nat} : ¬ ∃ t, ((k : Int), t) ∈ rest8 xs k := fun ⟨_, ht⟩ => Int.lt_irrefl _ (rest8_above ht)
theorem rest8_all (xs : List Int) : rest8 xs (-1) = pairs xs xs.length := rfl
theorem rest8_none (xs : List Int) : rest8 xs ((xs.length : Int) - 1) = [] := by
  unfold rest8
  rw [show ((xs.length : Int) - 1 + 1).toNat = xs.length by omega, List.drop_of_length_le (by rw [pairs_len]; exact Nat.le_refl _)]

set_option maxHeartbeats 1000000 in
set_option maxRecDepth 100000 in
theorem order08_law (d s : Int) (xs : List Int) (v : Value) (w : World) (hv : IntSl .u64 w v xs) (hlow : SlBelow w.heap.size v) (hn : xs.length ≤ maxLen) (hx : ∀ x ∈ xs, (Lit.int .u64 x).wf = true) (hs : (Lit.int .u64 s).wf = true) :
    Calls Try.prog 5 #[.int .i64 d, v, .int .u64 s] w (LawPost w) := by
  unfold maxLen at hn
  obtain ⟨a, c, rfl⟩ := hv.form
  have hr := Lib.hid (show RdSl .u64 w (.slice a xs.length c) xs from ⟨hv, hlow⟩)
  clear hv hlow
  by_cases hd : mayB d = true
  case neg =>
    have c1 := Lib.hid (fun W => new_no d W hd)
    have hn2 : ∀ W, (binOp .neq 25 (.iface 29 (.int .i64 1)) .nilIface).run Try.prog W = .ok (.bool true) W := fun W => by kernel_rfl
    clear hd hs hx
    go_enter Try.func5, Try.ntmps5
    go_wp2_with fail
    refine (c1.out _).mono ?_; rintro e w1 ⟨rfl, rfl⟩
    go_wp2_with fail
    refine (c1.out _).mono ?_; rintro e w1 ⟨rfl, rfl⟩
    go_wp2_with fail
    refine (awake8_any _).mono ?_; rintro e w1 ⟨rfl, hb⟩
    replace hb := Lib.hid hb
    go_wp2_with fail
    go_ret
    exact ⟨rfl, hb.out⟩
  obtain ⟨n, rfl, h16⟩ := may_form hd
  clear hd
  have c1 := Lib.hid (own_new (d := n) w h16 (Nat.le_refl w.heap.size))
  have hn1 : ∀ W, (binOp .neq 25 .nilIface .nilIface).run Try.prog W = .ok (.bool false) W := fun W => by kernel_rfl
  by_cases hl : 100 < xs.length
  · clear hs hx
    go_enter Try.func5, Try.ntmps5
    go_wp2_with fail
    refine c1.out.mono ?_; rintro e w1 ⟨X, rfl, ho, hb⟩
    replace hb := Lib.hid hb
    replace ho := Lib.hid ho
    go_wp2_with fail
    refine (new_two ho.out hb.out.size h16).mono ?_; rintro e w2 ⟨Y, rfl, ho2, hb2⟩
    replace hb := Lib.hid (hb.out.andThen hb2)
    clear ho ho2 hb2
    go_wp2_with fail
    refine (awake8_any _).mono ?_; rintro e w3 ⟨rfl, hb2⟩
    replace hb := Lib.hid (hb.out.andThen hb2)
    clear hb2
    go_wp2_with fail
    go_ret
    exact ⟨rfl, hb.out⟩
  have hl' : xs.length ≤ 100 := by omega
  replace hx := Lib.hid hx
  have h100 : decide ((100 : Int) < (xs.length : Int)) = false := decide_eq_false (by omega)
  go_enter Try.func5, Try.ntmps5
  go_wp2_with fail
  refine c1.out.mono ?_; rintro e w1 ⟨X, rfl, ho, hb⟩
  replace ho := Lib.hid ho
  replace hb := Lib.hid hb
  clear c1
  go_wp2_with fail
  refine (new_two ho.out hb.out.size h16).mono ?_; rintro e w2 ⟨Y, rfl, ho2, hb2⟩
  replace ho := Lib.hid ho2
  replace hb := Lib.hid (hb.out.andThen hb2)
  clear ho2 hb2
  go_wp2_with fail
  go_loopw [11] (fun i wr => ∃ k : Nat, i = .int .i64 k ∧ k ≤ xs.length ∧ Hid (Two w.heap.size wr n X (pairs xs k) k Y [] 0 ∧ Below w.heap.size w wr)) (fun i _ => xs.length - (intOf i).toNat)
  case atStart => exact ⟨0, rfl, Nat.zero_le _, ho.out, hb.out⟩
  case round =>
    clear ho hb
    obtain ⟨k, rfl, hk, hq⟩ := hrel
    by_cases hlt : k < xs.length
    · have hne : xs ≠ [] := by intro e; subst e; simp at hlt
      obtain ⟨b1, o1, c1', e1, g1⟩ := (hr.out.next hq.out.2).sl.some hne
      injection e1 with e1 e1a e1b
      clear e1a
      subst e1 e1b
      replace g1 := g1 k hlt
      have hxw : (Lit.int .u64 (xs.getD k 0)).wf = true := hx.out _ (by rw [List.getD, List.getElem?_eq_getElem hlt]; exact List.getElem_mem hlt)
      have hadd := Two.add hq.out.1 hq.out.2.size (id := (k : Int)) (s := xs.getD k 0) (wf_i64 (by omega)) hxw (by omega) pairs_free
      rw [add_pairs] at hadd
      clear hxw hne
      generalize xs.getD k 0 = x at g1 hadd
      replace hadd := Lib.hid hadd
      have k0 : (0 : Int) ≤ k := by omega
      have k1 : (k : Int) < xs.length := by omega
      go_wp2_with fail
      refine hadd.out.mono ?_; rintro e w3 ⟨rfl, ho3, hb3⟩
      have hq3 := Lib.hid (And.intro ho3 (hq.out.2.trans hb3))
      clear ho3 hb3 hadd
      go_wp2_with fail
      exact ⟨⟨k + 1, by go_num, by omega, hq3.out⟩, by simp [intOf]; omega⟩
    · obtain rfl : k = xs.length := by omega
      have hke : ¬ ((xs.length : Int) < (xs.length : Int)) := by omega
      obtain ⟨wo, hwo⟩ : ∃ wo : World, wr = wo := ⟨_, rfl⟩
      rw [hwo] at hq ⊢
      clear hwo
      go_wp2_with fail
      go_loopw [12] (fun i wr => ∃ (q : Int) (my : Nat), i = .int .i64 q ∧ -1 ≤ q ∧ q < xs.length ∧ (my : Int) + 2 * (q + 1) = 2 * xs.length ∧ Hid (Two w.heap.size wr n X (pairs xs xs.length) xs.length Y (rest8 xs q) my ∧ Below w.heap.size w wr)) (fun i _ => (intOf i + 1).toNat)
      case atStart => exact ⟨(xs.length : Int) - 1, 0, rfl, by omega, by omega, by omega, by rw [rest8_none]; exact hq.out.1, hq.out.2⟩
      case round =>
        clear hq
        obtain ⟨q, my, rfl, hq1, hq2, hmy, hq⟩ := hrel
        by_cases hq0 : 0 ≤ q
        · obtain ⟨k, rfl⟩ := Int.eq_ofNat_of_zero_le hq0
          have hlt2 : k < xs.length := by omega
          have hne : xs ≠ [] := by intro e; subst e; simp at hlt2
          obtain ⟨b1, o1, c1', e1, g1⟩ := (hr.out.next hq.out.2).sl.some hne
          injection e1 with e1 e1a e1b
          clear e1a
          subst e1 e1b
          replace g1 := g1 k hlt2
          have hbl : b1 < w.heap.size := hr.out.low ⟨b1, o1, none⟩ _ _ rfl (by omega)
          have hxw : (Lit.int .u64 (xs.getD k 0)).wf = true := hx.out _ (by rw [List.getD, List.getElem?_eq_getElem hlt2]; exact List.getElem_mem hlt2)
          have hnx := rest8_next xs k hlt2
          clear hne
          have hkw := wf_i64 (x := (k : Int)) (by omega)
          generalize xs.getD k 0 = x at g1 hxw hnx
          replace hxw := Lib.hid hxw
          replace hnx := Lib.hid hnx
          replace hkw := Lib.hid hkw
          have k0 : (0 : Int) ≤ k := by omega
          have k1 : (k : Int) < xs.length := by omega
          go_wp2_with fail
          refine (Two.add (Two.swap hq.out.1) hq.out.2.size hkw.out hs (by omega) rest8_free).mono ?_; rintro e w3 ⟨rfl, ho3, hb3⟩
          rw [addL_front fun p hp => rest8_above hp] at ho3
          have g2 := (hb3.cell (p := ⟨b1, o1 + k, none⟩) hbl).trans g1
          have hq3 := Lib.hid (And.intro ho3 (hq.out.2.trans hb3))
          clear ho3 hb3 g1
          go_wp2_with fail
          refine (Two.drop hq3.out.1 hq3.out.2.size hkw.out (by omega) ⟨s, by simp⟩).mono ?_; rintro e w4 ⟨rfl, ho3, hb3⟩
          rw [dropL_front fun p hp => rest8_above hp] at ho3
          have g3 := (hb3.cell (p := ⟨b1, o1 + k, none⟩) hbl).trans g2
          have hq4 := Lib.hid (And.intro ho3 (hq3.out.2.trans hb3))
          clear ho3 hb3 g2 hq3
          go_wp2_with fail
          refine (Two.add hq4.out.1 hq4.out.2.size hkw.out hxw.out (by omega) rest8_free).mono ?_; rintro e w5 ⟨rfl, ho3, hb3⟩
          rw [addL_front fun p hp => rest8_above hp, ← hnx.out] at ho3
          have hq5 := Lib.hid (And.intro ho3.swap (hq4.out.2.trans hb3))
          clear ho3 hb3 g3 hq4
          go_wp2_with fail
          exact ⟨⟨(k : Int) - 1, my + 1 + 1, rfl, by omega, by omega, by omega, hq5.out⟩, by simp [intOf] <;> omega⟩
        · obtain rfl : q = -1 := by omega
          rw [rest8_all] at hq
          have hnl := near_len (pairs xs xs.length) s n
          have hsl : (shareL (pairs xs xs.length) s n).length ≤ (pairs xs xs.length).length := by unfold shareL; rw [List.length_map]; exact List.length_filter_le _ _
          rw [pairs_len] at hnl hsl
          go_wp2_with fail
          refine (awake8_any _).mono ?_; rintro e w3 ⟨rfl, hb2⟩
          have hq3 := Lib.hid (And.intro (Two.below hq.out.1 hb2) (hq.out.2.andThen hb2))
          clear hb2 hq
          go_wp2_with fail
          refine (own_near (Two.x hq3.out.1) hs (by omega)).mono ?_; rintro e w4 ⟨v4, rfl, ho4, hb2⟩
          have hq4 := Lib.hid (And.intro (Two.below hq3.out.1 hb2) (hq3.out.2.andThen hb2))
          replace ho4 := Lib.hid ho4.rd
          clear hb2 hq3
          go_wp2_with fail
          refine (own_near (Two.y hq4.out.1) hs (by omega)).mono ?_; rintro e w5 ⟨v5, rfl, ho5, hb2⟩
          have hq5 := Lib.hid (And.intro (Two.below hq4.out.1 hb2) (hq4.out.2.andThen hb2))
          replace ho4 := Lib.hid (ho4.out.next hb2)
          replace ho5 := Lib.hid ho5.rd
          clear hb2 hq4
          go_wp2_with fail
          refine (same8_any _ _ _ _ ho4.out.sl ho5.out.sl (by omega)).mono ?_; rintro e w6 ⟨rfl, hd6⟩
          have hq6 := Lib.hid (And.intro (Two.below hq5.out.1 (hd6.below _)) (hq5.out.2.andThen (hd6.below _)))
          clear hd6 hq5 ho4 ho5
          go_wp2_with fail
          refine (own_sharing (Two.x hq6.out.1) hs (by omega)).mono ?_; rintro e w7 ⟨v4, rfl, ho4, hb2⟩
          have hq7 := Lib.hid (And.intro (Two.below hq6.out.1 hb2) (hq6.out.2.andThen hb2))
          replace ho4 := Lib.hid ho4.rd
          clear hb2 hq6
          go_wp2_with fail
          refine (own_sharing (Two.y hq7.out.1) hs (by omega)).mono ?_; rintro e w8 ⟨v5, rfl, ho5, hb2⟩
          have hq8 := Lib.hid (And.intro (Two.below hq7.out.1 hb2) (hq7.out.2.andThen hb2))
          replace ho4 := Lib.hid (ho4.out.next hb2)
          replace ho5 := Lib.hid ho5.rd
          clear hb2 hq7
          go_wp2_with fail
          refine (same8_any _ _ _ _ ho4.out.sl ho5.out.sl (by omega)).mono ?_; rintro e w9 ⟨rfl, hd9⟩
          have hq9 := Lib.hid (And.intro (Two.below hq8.out.1 (hd9.below _)) (hq8.out.2.andThen (hd9.below _)))
          clear hd9 hq8 ho4 ho5
          go_wp2_with fail
          refine (own_len (Two.x hq9.out.1)).mono ?_; rintro e w10 ⟨rfl, rfl⟩
          go_wp2_with fail
          refine (own_len (Two.y hq9.out.1)).mono ?_; rintro e w10 ⟨rfl, rfl⟩
          go_wp2_with fail
          go_ret
          exact ⟨rfl, hq9.out.2⟩
end Go.Proofs.Ytgldlfgidmgmfaa
