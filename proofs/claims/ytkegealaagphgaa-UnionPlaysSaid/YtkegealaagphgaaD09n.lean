/- Layer 9's law UnionPlays. -/
import Derived.Test.YtkegealaagphgaaD09l
import Derived.Test.YtkegealaagphgaaD09h
import Derived.Test.YtkegealaagphgaaD09i
import Derived.Test.YtkegealaagphgaaD09k
import Derived.Test.YtkegealaagphgaaD09s
import Derived.Test.YtkegealaagphgaaTw
import Derived.Test.YtkegealaagphgaaHl
namespace Go.Proofs.Ytkegealaagphgaa
open Go.RowKit

/-- A forest and the reference's, side by side. -/
structure Pb9 (w0 : World) (X g Y h n : Nat) (M Mr : Nat → Nat) (w : World) : Prop where
  uf : UfAt w X g n M
  rf : RfAt w Y h n Mr
  far : w0.heap.size ≤ X ∧ w0.heap.size ≤ g ∧ w0.heap.size ≤ Y ∧ w0.heap.size ≤ h
  apart : g ≠ Y ∧ g ≠ h ∧ h ≠ X
  below : Below w0.heap.size w0 w
/-- A pair of numbers beside them. -/
structure Pl9 (w0 : World) (b o : Nat) (A B : Int) (X g Y h n : Nat) (M Mr : Nat → Nat) (w : World) : Prop where
  pb : Pb9 w0 X g Y h n M Mr w
  low : b < w0.heap.size
  cells : w.cell? ⟨b, o, none⟩ = some (.int .i64 A) ∧ w.cell? ⟨b, o + 1, none⟩ = some (.int .i64 B)
section
variable {w0 w w' : World} {b o X g Y h n : Nat} {A B : Int} {M Mr M' : Nat → Nat}
theorem Pb9.turnF (p : Pb9 w0 X g Y h n M Mr w) (hu : UfAt w' X g n M') (ht : Turned (fun b => b = g) w w') : Pb9 w0 X g Y h n M' Mr w' :=
  ⟨hu, p.rf.turned ht (fun e => p.apart.1 e.symm) (fun e => p.apart.2.1 e.symm), p.far, p.apart, p.below.trans (turned_one ht p.far.2.1 p.below.size)⟩
theorem Pb9.turnR (p : Pb9 w0 X g Y h n M Mr w) (hu : RfAt w' Y h n M') (ht : Turned (fun b => b = h) w w') : Pb9 w0 X g Y h n M M' w' :=
  ⟨p.uf.turned ht (fun e => p.apart.2.2 e.symm) (fun e => p.apart.2.1 e), hu, p.far, p.apart, p.below.trans (turned_one ht p.far.2.2.2 p.below.size)⟩
theorem Pb9.next (p : Pb9 w0 X g Y h n M Mr w) (hb : Below w.heap.size w w') : Pb9 w0 X g Y h n M Mr w' :=
  ⟨p.uf.below hb, p.rf.below hb, p.far, p.apart, p.below.trans (hb.mono p.below.size)⟩
theorem Pl9.of (p : Pl9 w0 b o A B X g Y h n M Mr w) {M2 M3 : Nat → Nat} (q : Pb9 w0 X g Y h n M2 M3 w') (hb : Below w0.heap.size w w') : Pl9 w0 b o A B X g Y h n M2 M3 w' :=
  have e : ∀ k, w'.cell? ⟨b, k, none⟩ = w.cell? ⟨b, k, none⟩ := fun k => World.cell?_of_block (hb.block b p.low)
  ⟨q, p.low, by rw [e, e]; exact p.cells⟩
theorem Pl9.turnF (p : Pl9 w0 b o A B X g Y h n M Mr w) (hu : UfAt w' X g n M') (ht : Turned (fun b => b = g) w w') : Pl9 w0 b o A B X g Y h n M' Mr w' := p.of (p.pb.turnF hu ht) (turned_one ht p.pb.far.2.1 p.pb.below.size)
theorem Pl9.turnR (p : Pl9 w0 b o A B X g Y h n M Mr w) (hu : RfAt w' Y h n M') (ht : Turned (fun b => b = h) w w') : Pl9 w0 b o A B X g Y h n M M' w' := p.of (p.pb.turnR hu ht) (turned_one ht p.pb.far.2.2.2 p.pb.below.size)
theorem Pl9.next (p : Pl9 w0 b o A B X g Y h n M Mr w) (hb : Below w.heap.size w w') : Pl9 w0 b o A B X g Y h n M Mr w' := p.of (p.pb.next hb) (hb.mono p.pb.below.size)
theorem pl9_drew (p : Hid (Pl9 w0 b o A B X g Y h n M Mr w)) : Hid (Pl9 w0 b o A B X g Y h n M Mr w.drew) := p.out.next ((drawn_drew w).below _)
theorem pl9_keep (p : Hid (Pl9 w0 b o A B X g Y h n M Mr w)) : w.cell? ⟨b, o, none⟩ = some (.int .i64 A) ∧ w.cell? ⟨b, o + 1, none⟩ = some (.int .i64 B) := p.out.cells
theorem pl9_same (x y : Int) (s : Bool) (hs : sameB n M x y = s) (p : Hid (Pl9 w0 b o A B X g Y h n M Mr w)) : Calls Try.prog 9 #[.pointer (some ⟨X, 0, none⟩), .int .i64 x, .int .i64 y] w fun e w' => e = .returned (.bool s) ∧ Hid (Pl9 w0 b o A B X g Y h n M Mr w') := by
  subst hs
  refine (same9_any x y p.out.pb.uf).mono ?_
  rintro e w' ⟨rfl, hu, ht⟩
  exact ⟨rfl, p.out.turnF hu ht⟩
theorem pl9_rsame (x y : Int) (s : Bool) (hs : sameB n Mr x y = s) (p : Hid (Pl9 w0 b o A B X g Y h n M Mr w)) : Calls Try.prog 10 #[.pointer (some ⟨Y, 0, none⟩), .int .i64 x, .int .i64 y] w fun e w' => e = .returned (.bool s) ∧ Hid (Pl9 w0 b o A B X g Y h n M Mr w') := by
  subst hs
  refine (rsame9_any x y p.out.pb.rf).mono ?_
  rintro e w' ⟨rfl, hd⟩
  exact ⟨rfl, p.out.next (hd.below _)⟩
theorem pl9_join (x y : Int) (s : Bool) (hs : joinB9 n M x y = s) (hM : joinI n M x y = M') (p : Hid (Pl9 w0 b o A B X g Y h n M Mr w)) : Calls Try.prog 11 #[.pointer (some ⟨X, 0, none⟩), .int .i64 x, .int .i64 y] w fun e w' => e = .returned (.bool s) ∧ Hid (Pl9 w0 b o A B X g Y h n M' Mr w') := by
  subst hs hM
  refine (join9_any x y p.out.pb.uf).mono ?_
  rintro e w' ⟨rfl, hu, ht⟩
  exact ⟨rfl, p.out.turnF hu ht⟩
theorem pl9_rjoin (x y : Int) (s : Bool) (hs : joinB9 n Mr x y = s) (hM : joinI n Mr x y = M') (p : Hid (Pl9 w0 b o A B X g Y h n M Mr w)) : Calls Try.prog 12 #[.pointer (some ⟨Y, 0, none⟩), .int .i64 x, .int .i64 y] w fun e w' => e = .returned (.bool s) ∧ Hid (Pl9 w0 b o A B X g Y h n M M' w') := by
  subst hs hM
  refine (rjoin9_any x y p.out.pb.rf).mono ?_
  rintro e w' ⟨rfl, hu, ht⟩
  exact ⟨rfl, p.out.turnR hu ht⟩
theorem pl9_least (x s : Int) (hs : leastI n M x = s) (p : Hid (Pl9 w0 b o A B X g Y h n M Mr w)) : Calls Try.prog 13 #[.pointer (some ⟨X, 0, none⟩), .int .i64 x] w fun e w' => e = .returned (.int .i64 s) ∧ Hid (Pl9 w0 b o A B X g Y h n M Mr w') := by
  subst hs
  refine (least9_any x p.out.pb.uf).mono ?_
  rintro e w' ⟨rfl, hu, ht⟩
  exact ⟨rfl, p.out.turnF hu ht⟩
theorem pl9_rleast (x s : Int) (hs : leastI n Mr x = s) (p : Hid (Pl9 w0 b o A B X g Y h n M Mr w)) : Calls Try.prog 14 #[.pointer (some ⟨Y, 0, none⟩), .int .i64 x] w fun e w' => e = .returned (.int .i64 s) ∧ Hid (Pl9 w0 b o A B X g Y h n M Mr w') := by
  subst hs
  refine (rleast9_any x p.out.pb.rf).mono ?_
  rintro e w' ⟨rfl, hd⟩
  exact ⟨rfl, p.out.next (hd.below _)⟩
theorem pb9_begin {w1 w2 : World} (hu : UfAt w1 X g n M) (h1 : w0.heap.size ≤ X ∧ w0.heap.size ≤ g) (hb1 : Below w0.heap.size w0 w1) (hr : RfAt w2 Y h n Mr) (h2 : w1.heap.size ≤ Y ∧ w1.heap.size ≤ h) (hb2 : Below w1.heap.size w1 w2) : Pb9 w0 X g Y h n M Mr w2 := by
  have hX := hu.2.2.1
  have hg := hu.2.2.2.1
  have := hb1.size
  exact ⟨hu.below hb2, hr, ⟨h1.1, h1.2, by omega, by omega⟩, ⟨by omega, by omega, by omega⟩, hb1.andThen hb2⟩
end
theorem sets_small (n : Nat) (M : Nat → Nat) (hn : n ≤ 1048576) : (setsL n M).length ≤ 1048576 ∧ ∀ i, ((setsL n M).getD i []).length ≤ 1048576 :=
  ⟨by have := heads_le n M; rw [sets_len]; omega, fun i => by have := sets_each n M i; omega⟩
set_option maxHeartbeats 2000000 in
set_option maxRecDepth 100000 in
theorem plays09_law (x : Int) (os : List (Int × Int)) (v : Value) (w : World) (hx : (Lit.int .u8 x).wf = true) (hv : TwSl w v os) (hn : os.length ≤ maxLen) :
    Calls Try.prog 3 #[.int .u8 x, v] w (LawPost w) := by
  unfold maxLen at hn
  obtain ⟨a, c, rfl⟩ := hv.form
  obtain ⟨x0, x1⟩ := bd_u8 hx
  clear hx
  obtain ⟨N, hN⟩ : ∃ N : Nat, x % 61 = N := ⟨(x % 61).toNat, by omega⟩
  have hN60 : N ≤ 60 := by omega
  have k1 := Lib.hid (new9_yes N w (by omega))
  have k2 := Lib.hid (fun W => rnew9_yes N W (by omega))
  replace hv := Lib.hid hv
  go_enter Try.func3, Try.ntmps3
  go_wp2_with fail
  refine k1.out.mono ?_; rintro e w1 ⟨X, g, rfl, hu, hXg, hb⟩
  replace hu := Lib.hid hu
  replace hb := Lib.hid hb
  clear k1
  go_wp2_with fail
  refine (k2.out _).mono ?_; rintro e w2 ⟨Y, h, rfl, hr, hYh, hb2⟩
  have hp := Lib.hid (pb9_begin hu.out hXg hb.out hr hYh hb2)
  clear hu hb hr hb2 hYh hXg k2
  go_wp2_with fail
  go_loopw [7] (fun i wr => ∃ (k : Nat) (M : Nat → Nat), i = .int .i64 k ∧ k ≤ os.length ∧ k ≤ 150 ∧ Hid (Pb9 w X g Y h N M M wr)) (fun i _ => os.length - (intOf i).toNat)
  case atStart => exact ⟨0, _, rfl, Nat.zero_le _, Nat.zero_le _, hp.out⟩
  case round =>
    clear hp
    obtain ⟨k, M, rfl, hk, hk2, hp⟩ := hrel
    by_cases hlt : k < os.length ∧ k < 150
    · obtain ⟨hlt, h15⟩ := hlt
      obtain ⟨b, off, rfl, hbl, d0, d1⟩ := hv.out.at hp.out.below hlt
      generalize os[k] = q at d0 d1
      obtain ⟨A, B⟩ := q
      dsimp only at d0 d1
      have hpl : Hid (Pl9 w b (off + k * 2) A B X g Y h N M M wr) := ⟨hp.out, hbl, d0, d1⟩
      clear hp
      obtain ⟨s, hs⟩ : ∃ s, sameB N M A B = s := ⟨_, rfl⟩
      obtain ⟨t, ht⟩ : ∃ t, joinB9 N M A B = t := ⟨_, rfl⟩
      obtain ⟨M', hM'⟩ : ∃ M', joinI N M A B = M' := ⟨_, rfl⟩
      obtain ⟨l1, hl1⟩ : ∃ l, leastI N M' A = l := ⟨_, rfl⟩
      obtain ⟨l2, hl2⟩ : ∃ l, leastI N M' B = l := ⟨_, rfl⟩
      replace hs := Lib.hid hs
      replace ht := Lib.hid ht
      replace hM' := Lib.hid hM'
      replace hl1 := Lib.hid hl1
      replace hl2 := Lib.hid hl2
      have k0 : (0 : Int) ≤ k := by omega
      have k1 : (k : Int) < os.length := by omega
      have k2 : (k : Int) < 150 := by omega
      go_wp2_with fail
      clear hN
      have hpd := pl9_drew hpl
      have hss : (s != s) = false := by simp
      have htt : (t != t) = false := by simp
      have hll1 : (l1 != l1) = false := by simp
      have hll2 : (l2 != l2) = false := by simp
      simp only [List.append_eq, List.cons_append, List.nil_append]
      refine wp_region_held_drew (S := fun W => W.cell? ⟨b, off + k * 2, none⟩ = some (.int .i64 A) ∧ W.cell? ⟨b, off + k * 2 + 1, none⟩ = some (.int .i64 B)) (by kernel_rfl) (pl9_keep hpd) (fun hHeld => ?_)
      refine held_take 0 (v := ?_) rfl (by kernel_rfl) (by kernel_rfl) (by kernel_rfl) (fun _ _ _ h => h) (by rfl) ?_ (by assumption) ?_
      rotate_left
      · (intro w hSw; (try dsimp only at hSw); go_simp; all_goals (with_reducible rfl))
      try simp only [Act.put, List.setIfInBounds_toArray, List.set_cons_zero, List.set_cons_succ]
      refine held_take 1 (v := ?_) rfl (by kernel_rfl) (by kernel_rfl) (by kernel_rfl) (fun _ _ _ h => h) (by rfl) ?_ (by assumption) ?_
      rotate_left
      · (intro w hSw; (try dsimp only at hSw); go_simp; all_goals (with_reducible rfl))
      try simp only [Act.put, List.setIfInBounds_toArray, List.set_cons_zero, List.set_cons_succ]
      refine held_take 2 (v := ?_) rfl (by kernel_rfl) (by kernel_rfl) (by kernel_rfl) (fun _ _ _ h => h) (by rfl) ?_ (by assumption) ?_
      rotate_left
      · (intro w hSw; (try dsimp only at hSw); go_simp; all_goals (with_reducible rfl))
      try simp only [Act.put, List.setIfInBounds_toArray, List.set_cons_zero, List.set_cons_succ]
      refine held_take 3 (v := ?_) rfl (by kernel_rfl) (by kernel_rfl) (by kernel_rfl) (fun _ _ _ h => h) (by rfl) ?_ (by assumption) ?_
      rotate_left
      · (intro w hSw; (try dsimp only at hSw); go_simp; all_goals (with_reducible rfl))
      try simp only [Act.put, List.setIfInBounds_toArray, List.set_cons_zero, List.set_cons_succ]
      refine held_take 4 (v := ?_) rfl (by kernel_rfl) (by kernel_rfl) (by kernel_rfl) (fun _ _ _ h => h) (by rfl) ?_ (by assumption) ?_
      rotate_left
      · (intro w hSw; (try dsimp only at hSw); go_simp; all_goals (with_reducible rfl))
      try simp only [Act.put, List.setIfInBounds_toArray, List.set_cons_zero, List.set_cons_succ]
      refine held_take 5 (v := ?_) rfl (by kernel_rfl) (by kernel_rfl) (by kernel_rfl) (fun _ _ _ h => h) (by rfl) ?_ (by assumption) ?_
      rotate_left
      · (intro w hSw; (try dsimp only at hSw); go_simp; all_goals (with_reducible rfl))
      try simp only [Act.put, List.setIfInBounds_toArray, List.set_cons_zero, List.set_cons_succ]
      refine held_take 6 (v := ?_) rfl (by kernel_rfl) (by kernel_rfl) (by kernel_rfl) (fun _ _ _ h => h) (by rfl) ?_ (by assumption) ?_
      rotate_left
      · (intro w hSw; (try dsimp only at hSw); go_simp; all_goals (with_reducible rfl))
      try simp only [Act.put, List.setIfInBounds_toArray, List.set_cons_zero, List.set_cons_succ]
      refine held_take 7 (v := ?_) rfl (by kernel_rfl) (by kernel_rfl) (by kernel_rfl) (fun _ _ _ h => h) (by rfl) ?_ (by assumption) ?_
      rotate_left
      · (intro w hSw; (try dsimp only at hSw); go_simp; all_goals (with_reducible rfl))
      try simp only [Act.put, List.setIfInBounds_toArray, List.set_cons_zero, List.set_cons_succ]
      refine held_take 8 (v := ?_) rfl (by kernel_rfl) (by kernel_rfl) (by kernel_rfl) (fun _ _ _ h => h) (by rfl) ?_ (by assumption) ?_
      rotate_left
      · (intro w hSw; (try dsimp only at hSw); go_simp; all_goals (with_reducible rfl))
      try simp only [Act.put, List.setIfInBounds_toArray, List.set_cons_zero, List.set_cons_succ]
      refine held_take 9 (v := ?_) rfl (by kernel_rfl) (by kernel_rfl) (by kernel_rfl) (fun _ _ _ h => h) (by rfl) ?_ (by assumption) ?_
      rotate_left
      · (intro w hSw; (try dsimp only at hSw); go_simp; all_goals (with_reducible rfl))
      try simp only [Act.put, List.setIfInBounds_toArray, List.set_cons_zero, List.set_cons_succ]
      refine held_take 10 (v := ?_) rfl (by kernel_rfl) (by kernel_rfl) (by kernel_rfl) (fun _ _ _ h => h) (by rfl) ?_ (by assumption) ?_
      rotate_left
      · (intro w hSw; (try dsimp only at hSw); go_simp; all_goals (with_reducible rfl))
      try simp only [Act.put, List.setIfInBounds_toArray, List.set_cons_zero, List.set_cons_succ]
      refine held_take 12 (v := ?_) rfl (by kernel_rfl) (by kernel_rfl) (by kernel_rfl) (fun _ _ _ h => h) (by rfl) ?_ (by assumption) ?_
      rotate_left
      · (intro w hSw; (try dsimp only at hSw); go_simp; all_goals (with_reducible rfl))
      try simp only [Act.put, List.setIfInBounds_toArray, List.set_cons_zero, List.set_cons_succ]
      refine held_take 13 (v := ?_) rfl (by kernel_rfl) (by kernel_rfl) (by kernel_rfl) (fun _ _ _ h => h) (by rfl) ?_ (by assumption) ?_
      rotate_left
      · (intro w hSw; (try dsimp only at hSw); go_simp; all_goals (with_reducible rfl))
      try simp only [Act.put, List.setIfInBounds_toArray, List.set_cons_zero, List.set_cons_succ]
      refine held_take 14 (v := ?_) rfl (by kernel_rfl) (by kernel_rfl) (by kernel_rfl) (fun _ _ _ h => h) (by rfl) ?_ (by assumption) ?_
      rotate_left
      · (intro w hSw; (try dsimp only at hSw); go_simp; all_goals (with_reducible rfl))
      try simp only [Act.put, List.setIfInBounds_toArray, List.set_cons_zero, List.set_cons_succ]
      refine held_take 15 (v := ?_) rfl (by kernel_rfl) (by kernel_rfl) (by kernel_rfl) (fun _ _ _ h => h) (by rfl) ?_ (by assumption) ?_
      rotate_left
      · (intro w hSw; (try dsimp only at hSw); go_simp; all_goals (with_reducible rfl))
      try simp only [Act.put, List.setIfInBounds_toArray, List.set_cons_zero, List.set_cons_succ]
      refine held_take 16 (v := ?_) rfl (by kernel_rfl) (by kernel_rfl) (by kernel_rfl) (fun _ _ _ h => h) (by rfl) ?_ (by assumption) ?_
      rotate_left
      · (intro w hSw; (try dsimp only at hSw); go_simp; all_goals (with_reducible rfl))
      try simp only [Act.put, List.setIfInBounds_toArray, List.set_cons_zero, List.set_cons_succ]
      refine held_take 17 (v := ?_) rfl (by kernel_rfl) (by kernel_rfl) (by kernel_rfl) (fun _ _ _ h => h) (by rfl) ?_ (by assumption) ?_
      rotate_left
      · (intro w hSw; (try dsimp only at hSw); go_simp; all_goals (with_reducible rfl))
      try simp only [Act.put, List.setIfInBounds_toArray, List.set_cons_zero, List.set_cons_succ]
      refine held_take 18 (v := ?_) rfl (by kernel_rfl) (by kernel_rfl) (by kernel_rfl) (fun _ _ _ h => h) (by rfl) ?_ (by assumption) ?_
      rotate_left
      · (intro w hSw; (try dsimp only at hSw); go_simp; all_goals (with_reducible rfl))
      try simp only [Act.put, List.setIfInBounds_toArray, List.set_cons_zero, List.set_cons_succ]
      refine held_take 19 (v := ?_) rfl (by kernel_rfl) (by kernel_rfl) (by kernel_rfl) (fun _ _ _ h => h) (by rfl) ?_ (by assumption) ?_
      rotate_left
      · (intro w hSw; (try dsimp only at hSw); go_simp; all_goals (with_reducible rfl))
      try simp only [Act.put, List.setIfInBounds_toArray, List.set_cons_zero, List.set_cons_succ]
      refine held_take 20 (v := ?_) rfl (by kernel_rfl) (by kernel_rfl) (by kernel_rfl) (fun _ _ _ h => h) (by rfl) ?_ (by assumption) ?_
      rotate_left
      · (intro w hSw; (try dsimp only at hSw); go_simp; all_goals (with_reducible rfl))
      try simp only [Act.put, List.setIfInBounds_toArray, List.set_cons_zero, List.set_cons_succ]
      refine held_take 21 (v := ?_) rfl (by kernel_rfl) (by kernel_rfl) (by kernel_rfl) (fun _ _ _ h => h) (by rfl) ?_ (by assumption) ?_
      rotate_left
      · (intro w hSw; (try dsimp only at hSw); go_simp; all_goals (with_reducible rfl))
      try simp only [Act.put, List.setIfInBounds_toArray, List.set_cons_zero, List.set_cons_succ]
      refine held_take 22 (v := ?_) rfl (by kernel_rfl) (by kernel_rfl) (by kernel_rfl) (fun _ _ _ h => h) (by rfl) ?_ (by assumption) ?_
      rotate_left
      · (intro w hSw; (try dsimp only at hSw); go_simp; all_goals (with_reducible rfl))
      try simp only [Act.put, List.setIfInBounds_toArray, List.set_cons_zero, List.set_cons_succ]
      refine wpAnyH_ready (rs := [11]) (by kernel_rfl) (by simp) ?_
      refine held_call rfl (fun K hK => ?_) AllReadyH.nil
      go_simp
      go_at_call 9
      (with_reducible refine (pl9_same A B s hs.out (by assumption)).mono ?_)
      rintro e w' ⟨rfl, hq1⟩
      refine hK.out _ _ (pl9_keep hq1) (fun hHeld => ?_)
      clear hK K
      try simp only [Act.put, List.setIfInBounds_toArray, List.set_cons_zero, List.set_cons_succ]
      refine wpAnyH_ready (rs := [23]) (by kernel_rfl) (by simp) ?_
      refine held_call rfl (fun K hK => ?_) AllReadyH.nil
      go_simp
      go_at_call 10
      (with_reducible refine (pl9_rsame A B s hs.out (by assumption)).mono ?_)
      rintro e w' ⟨rfl, hq2⟩
      refine hK.out _ _ (pl9_keep hq2) (fun hHeld => ?_)
      clear hK K
      try simp only [Act.put, List.setIfInBounds_toArray, List.set_cons_zero, List.set_cons_succ]
      refine held_take 24 (v := ?_) rfl (by kernel_rfl) (by kernel_rfl) (by kernel_rfl) (fun _ _ _ h => h) (by rfl) ?_ (by assumption) ?_
      rotate_left
      · (intro w hSw; (try dsimp only at hSw); go_simp; all_goals (with_reducible rfl))
      try simp only [Act.put, List.setIfInBounds_toArray, List.set_cons_zero, List.set_cons_succ]
      refine held_take 25 (v := ?_) rfl (by kernel_rfl) (by kernel_rfl) (by kernel_rfl) (fun _ _ _ h => h) (by rfl) ?_ (by assumption) ?_
      rotate_left
      · (intro w hSw; (try dsimp only at hSw); go_simp; all_goals (with_reducible rfl))
      try simp only [Act.put, List.setIfInBounds_toArray, List.set_cons_zero, List.set_cons_succ]
      refine held_take 26 (v := ?_) rfl (by kernel_rfl) (by kernel_rfl) (by kernel_rfl) (fun _ _ _ h => h) (by rfl) ?_ (by assumption) ?_
      rotate_left
      · (intro w hSw; (try dsimp only at hSw); go_simp; all_goals (with_reducible rfl))
      try simp only [Act.put, List.setIfInBounds_toArray, List.set_cons_zero, List.set_cons_succ]
      refine held_take 27 (v := ?_) rfl (by kernel_rfl) (by kernel_rfl) (by kernel_rfl) (fun _ _ _ h => h) (by rfl) ?_ (by assumption) ?_
      rotate_left
      · (intro w hSw; (try dsimp only at hSw); go_simp; all_goals (with_reducible rfl))
      try simp only [Act.put, List.setIfInBounds_toArray, List.set_cons_zero, List.set_cons_succ]
      refine held_take 28 (v := ?_) rfl (by kernel_rfl) (by kernel_rfl) (by kernel_rfl) (fun _ _ _ h => h) (by rfl) ?_ (by assumption) ?_
      rotate_left
      · (intro w hSw; (try dsimp only at hSw); go_simp; all_goals (with_reducible rfl))
      try simp only [Act.put, List.setIfInBounds_toArray, List.set_cons_zero, List.set_cons_succ]
      refine held_take 29 (v := ?_) rfl (by kernel_rfl) (by kernel_rfl) (by kernel_rfl) (fun _ _ _ h => h) (by rfl) ?_ (by assumption) ?_
      rotate_left
      · (intro w hSw; (try dsimp only at hSw); go_simp; all_goals (with_reducible rfl))
      try simp only [Act.put, List.setIfInBounds_toArray, List.set_cons_zero, List.set_cons_succ]
      refine held_take 30 (v := ?_) rfl (by kernel_rfl) (by kernel_rfl) (by kernel_rfl) (fun _ _ _ h => h) (by rfl) ?_ (by assumption) ?_
      rotate_left
      · (intro w hSw; (try dsimp only at hSw); go_simp; all_goals (with_reducible rfl))
      try simp only [Act.put, List.setIfInBounds_toArray, List.set_cons_zero, List.set_cons_succ]
      refine held_take 31 (v := ?_) rfl (by kernel_rfl) (by kernel_rfl) (by kernel_rfl) (fun _ _ _ h => h) (by rfl) ?_ (by assumption) ?_
      rotate_left
      · (intro w hSw; (try dsimp only at hSw); go_simp; all_goals (with_reducible rfl))
      try simp only [Act.put, List.setIfInBounds_toArray, List.set_cons_zero, List.set_cons_succ]
      refine held_take 32 (v := ?_) rfl (by kernel_rfl) (by kernel_rfl) (by kernel_rfl) (fun _ _ _ h => h) (by rfl) ?_ (by assumption) ?_
      rotate_left
      · (intro w hSw; (try dsimp only at hSw); go_simp; all_goals (with_reducible rfl))
      try simp only [Act.put, List.setIfInBounds_toArray, List.set_cons_zero, List.set_cons_succ]
      refine held_take 33 (v := ?_) rfl (by kernel_rfl) (by kernel_rfl) (by kernel_rfl) (fun _ _ _ h => h) (by rfl) ?_ (by assumption) ?_
      rotate_left
      · (intro w hSw; (try dsimp only at hSw); go_simp; all_goals (with_reducible rfl))
      try simp only [Act.put, List.setIfInBounds_toArray, List.set_cons_zero, List.set_cons_succ]
      refine held_take 34 (v := ?_) rfl (by kernel_rfl) (by kernel_rfl) (by kernel_rfl) (fun _ _ _ h => h) (by rfl) ?_ (by assumption) ?_
      rotate_left
      · (intro w hSw; (try dsimp only at hSw); go_simp; all_goals (with_reducible rfl))
      try simp only [Act.put, List.setIfInBounds_toArray, List.set_cons_zero, List.set_cons_succ]
      refine held_take 35 (v := ?_) rfl (by kernel_rfl) (by kernel_rfl) (by kernel_rfl) (fun _ _ _ h => h) (by rfl) ?_ (by assumption) ?_
      rotate_left
      · (intro w hSw; (try dsimp only at hSw); go_simp; all_goals (with_reducible rfl))
      try simp only [Act.put, List.setIfInBounds_toArray, List.set_cons_zero, List.set_cons_succ]
      refine held_take 36 (v := ?_) rfl (by kernel_rfl) (by kernel_rfl) (by kernel_rfl) (fun _ _ _ h => h) (by rfl) ?_ (by assumption) ?_
      rotate_left
      · (intro w hSw; (try dsimp only at hSw); go_simp; all_goals (with_reducible rfl))
      try simp only [Act.put, List.setIfInBounds_toArray, List.set_cons_zero, List.set_cons_succ]
      refine held_take 38 (v := ?_) rfl (by kernel_rfl) (by kernel_rfl) (by kernel_rfl) (fun _ _ _ h => h) (by rfl) ?_ (by assumption) ?_
      rotate_left
      · (intro w hSw; (try dsimp only at hSw); go_simp; all_goals (with_reducible rfl))
      try simp only [Act.put, List.setIfInBounds_toArray, List.set_cons_zero, List.set_cons_succ]
      refine held_take 39 (v := ?_) rfl (by kernel_rfl) (by kernel_rfl) (by kernel_rfl) (fun _ _ _ h => h) (by rfl) ?_ (by assumption) ?_
      rotate_left
      · (intro w hSw; (try dsimp only at hSw); go_simp; all_goals (with_reducible rfl))
      try simp only [Act.put, List.setIfInBounds_toArray, List.set_cons_zero, List.set_cons_succ]
      refine held_take 40 (v := ?_) rfl (by kernel_rfl) (by kernel_rfl) (by kernel_rfl) (fun _ _ _ h => h) (by rfl) ?_ (by assumption) ?_
      rotate_left
      · (intro w hSw; (try dsimp only at hSw); go_simp; all_goals (with_reducible rfl))
      try simp only [Act.put, List.setIfInBounds_toArray, List.set_cons_zero, List.set_cons_succ]
      refine held_take 41 (v := ?_) rfl (by kernel_rfl) (by kernel_rfl) (by kernel_rfl) (fun _ _ _ h => h) (by rfl) ?_ (by assumption) ?_
      rotate_left
      · (intro w hSw; (try dsimp only at hSw); go_simp; all_goals (with_reducible rfl))
      try simp only [Act.put, List.setIfInBounds_toArray, List.set_cons_zero, List.set_cons_succ]
      refine held_take 42 (v := ?_) rfl (by kernel_rfl) (by kernel_rfl) (by kernel_rfl) (fun _ _ _ h => h) (by rfl) ?_ (by assumption) ?_
      rotate_left
      · (intro w hSw; (try dsimp only at hSw); go_simp; all_goals (with_reducible rfl))
      try simp only [Act.put, List.setIfInBounds_toArray, List.set_cons_zero, List.set_cons_succ]
      refine held_take 43 (v := ?_) rfl (by kernel_rfl) (by kernel_rfl) (by kernel_rfl) (fun _ _ _ h => h) (by rfl) ?_ (by assumption) ?_
      rotate_left
      · (intro w hSw; (try dsimp only at hSw); go_simp; all_goals (with_reducible rfl))
      try simp only [Act.put, List.setIfInBounds_toArray, List.set_cons_zero, List.set_cons_succ]
      refine held_take 44 (v := ?_) rfl (by kernel_rfl) (by kernel_rfl) (by kernel_rfl) (fun _ _ _ h => h) (by rfl) ?_ (by assumption) ?_
      rotate_left
      · (intro w hSw; (try dsimp only at hSw); go_simp; all_goals (with_reducible rfl))
      try simp only [Act.put, List.setIfInBounds_toArray, List.set_cons_zero, List.set_cons_succ]
      refine held_take 45 (v := ?_) rfl (by kernel_rfl) (by kernel_rfl) (by kernel_rfl) (fun _ _ _ h => h) (by rfl) ?_ (by assumption) ?_
      rotate_left
      · (intro w hSw; (try dsimp only at hSw); go_simp; all_goals (with_reducible rfl))
      try simp only [Act.put, List.setIfInBounds_toArray, List.set_cons_zero, List.set_cons_succ]
      refine held_take 46 (v := ?_) rfl (by kernel_rfl) (by kernel_rfl) (by kernel_rfl) (fun _ _ _ h => h) (by rfl) ?_ (by assumption) ?_
      rotate_left
      · (intro w hSw; (try dsimp only at hSw); go_simp; all_goals (with_reducible rfl))
      try simp only [Act.put, List.setIfInBounds_toArray, List.set_cons_zero, List.set_cons_succ]
      refine held_take 47 (v := ?_) rfl (by kernel_rfl) (by kernel_rfl) (by kernel_rfl) (fun _ _ _ h => h) (by rfl) ?_ (by assumption) ?_
      rotate_left
      · (intro w hSw; (try dsimp only at hSw); go_simp; all_goals (with_reducible rfl))
      try simp only [Act.put, List.setIfInBounds_toArray, List.set_cons_zero, List.set_cons_succ]
      refine held_take 48 (v := ?_) rfl (by kernel_rfl) (by kernel_rfl) (by kernel_rfl) (fun _ _ _ h => h) (by rfl) ?_ (by assumption) ?_
      rotate_left
      · (intro w hSw; (try dsimp only at hSw); go_simp; all_goals (with_reducible rfl))
      try simp only [Act.put, List.setIfInBounds_toArray, List.set_cons_zero, List.set_cons_succ]
      refine wpAnyH_ready (rs := [37]) (by kernel_rfl) (by simp) ?_
      refine held_call rfl (fun K hK => ?_) AllReadyH.nil
      go_simp
      go_at_call 11
      (with_reducible refine (pl9_join A B t ht.out hM'.out (by assumption)).mono ?_)
      rintro e w' ⟨rfl, hq3⟩
      refine hK.out _ _ (pl9_keep hq3) (fun hHeld => ?_)
      clear hK K
      try simp only [Act.put, List.setIfInBounds_toArray, List.set_cons_zero, List.set_cons_succ]
      refine wpAnyH_ready (rs := [49]) (by kernel_rfl) (by simp) ?_
      refine held_call rfl (fun K hK => ?_) AllReadyH.nil
      go_simp
      go_at_call 12
      (with_reducible refine (pl9_rjoin A B t ht.out hM'.out (by assumption)).mono ?_)
      rintro e w' ⟨rfl, hq4⟩
      refine hK.out _ _ (pl9_keep hq4) (fun hHeld => ?_)
      clear hK K
      try simp only [Act.put, List.setIfInBounds_toArray, List.set_cons_zero, List.set_cons_succ]
      refine held_take 50 (v := ?_) rfl (by kernel_rfl) (by kernel_rfl) (by kernel_rfl) (fun _ _ _ h => h) (by rfl) ?_ (by assumption) ?_
      rotate_left
      · (intro w hSw; (try dsimp only at hSw); go_simp; all_goals (with_reducible rfl))
      try simp only [Act.put, List.setIfInBounds_toArray, List.set_cons_zero, List.set_cons_succ]
      refine held_take 51 (v := ?_) rfl (by kernel_rfl) (by kernel_rfl) (by kernel_rfl) (fun _ _ _ h => h) (by rfl) ?_ (by assumption) ?_
      rotate_left
      · (intro w hSw; (try dsimp only at hSw); go_simp; all_goals (with_reducible rfl))
      try simp only [Act.put, List.setIfInBounds_toArray, List.set_cons_zero, List.set_cons_succ]
      refine held_take 52 (v := ?_) rfl (by kernel_rfl) (by kernel_rfl) (by kernel_rfl) (fun _ _ _ h => h) (by rfl) ?_ (by assumption) ?_
      rotate_left
      · (intro w hSw; (try dsimp only at hSw); go_simp; all_goals (with_reducible rfl))
      try simp only [Act.put, List.setIfInBounds_toArray, List.set_cons_zero, List.set_cons_succ]
      refine held_take 53 (v := ?_) rfl (by kernel_rfl) (by kernel_rfl) (by kernel_rfl) (fun _ _ _ h => h) (by rfl) ?_ (by assumption) ?_
      rotate_left
      · (intro w hSw; (try dsimp only at hSw); go_simp; all_goals (with_reducible rfl))
      try simp only [Act.put, List.setIfInBounds_toArray, List.set_cons_zero, List.set_cons_succ]
      refine held_take 54 (v := ?_) rfl (by kernel_rfl) (by kernel_rfl) (by kernel_rfl) (fun _ _ _ h => h) (by rfl) ?_ (by assumption) ?_
      rotate_left
      · (intro w hSw; (try dsimp only at hSw); go_simp; all_goals (with_reducible rfl))
      try simp only [Act.put, List.setIfInBounds_toArray, List.set_cons_zero, List.set_cons_succ]
      refine held_take 55 (v := ?_) rfl (by kernel_rfl) (by kernel_rfl) (by kernel_rfl) (fun _ _ _ h => h) (by rfl) ?_ (by assumption) ?_
      rotate_left
      · (intro w hSw; (try dsimp only at hSw); go_simp; all_goals (with_reducible rfl))
      try simp only [Act.put, List.setIfInBounds_toArray, List.set_cons_zero, List.set_cons_succ]
      refine held_take 56 (v := ?_) rfl (by kernel_rfl) (by kernel_rfl) (by kernel_rfl) (fun _ _ _ h => h) (by rfl) ?_ (by assumption) ?_
      rotate_left
      · (intro w hSw; (try dsimp only at hSw); go_simp; all_goals (with_reducible rfl))
      try simp only [Act.put, List.setIfInBounds_toArray, List.set_cons_zero, List.set_cons_succ]
      refine held_take 57 (v := ?_) rfl (by kernel_rfl) (by kernel_rfl) (by kernel_rfl) (fun _ _ _ h => h) (by rfl) ?_ (by assumption) ?_
      rotate_left
      · (intro w hSw; (try dsimp only at hSw); go_simp; all_goals (with_reducible rfl))
      try simp only [Act.put, List.setIfInBounds_toArray, List.set_cons_zero, List.set_cons_succ]
      refine held_take 58 (v := ?_) rfl (by kernel_rfl) (by kernel_rfl) (by kernel_rfl) (fun _ _ _ h => h) (by rfl) ?_ (by assumption) ?_
      rotate_left
      · (intro w hSw; (try dsimp only at hSw); go_simp; all_goals (with_reducible rfl))
      try simp only [Act.put, List.setIfInBounds_toArray, List.set_cons_zero, List.set_cons_succ]
      refine held_take 60 (v := ?_) rfl (by kernel_rfl) (by kernel_rfl) (by kernel_rfl) (fun _ _ _ h => h) (by rfl) ?_ (by assumption) ?_
      rotate_left
      · (intro w hSw; (try dsimp only at hSw); go_simp; all_goals (with_reducible rfl))
      try simp only [Act.put, List.setIfInBounds_toArray, List.set_cons_zero, List.set_cons_succ]
      refine held_take 61 (v := ?_) rfl (by kernel_rfl) (by kernel_rfl) (by kernel_rfl) (fun _ _ _ h => h) (by rfl) ?_ (by assumption) ?_
      rotate_left
      · (intro w hSw; (try dsimp only at hSw); go_simp; all_goals (with_reducible rfl))
      try simp only [Act.put, List.setIfInBounds_toArray, List.set_cons_zero, List.set_cons_succ]
      refine held_take 62 (v := ?_) rfl (by kernel_rfl) (by kernel_rfl) (by kernel_rfl) (fun _ _ _ h => h) (by rfl) ?_ (by assumption) ?_
      rotate_left
      · (intro w hSw; (try dsimp only at hSw); go_simp; all_goals (with_reducible rfl))
      try simp only [Act.put, List.setIfInBounds_toArray, List.set_cons_zero, List.set_cons_succ]
      refine held_take 63 (v := ?_) rfl (by kernel_rfl) (by kernel_rfl) (by kernel_rfl) (fun _ _ _ h => h) (by rfl) ?_ (by assumption) ?_
      rotate_left
      · (intro w hSw; (try dsimp only at hSw); go_simp; all_goals (with_reducible rfl))
      try simp only [Act.put, List.setIfInBounds_toArray, List.set_cons_zero, List.set_cons_succ]
      refine held_take 64 (v := ?_) rfl (by kernel_rfl) (by kernel_rfl) (by kernel_rfl) (fun _ _ _ h => h) (by rfl) ?_ (by assumption) ?_
      rotate_left
      · (intro w hSw; (try dsimp only at hSw); go_simp; all_goals (with_reducible rfl))
      try simp only [Act.put, List.setIfInBounds_toArray, List.set_cons_zero, List.set_cons_succ]
      refine held_take 65 (v := ?_) rfl (by kernel_rfl) (by kernel_rfl) (by kernel_rfl) (fun _ _ _ h => h) (by rfl) ?_ (by assumption) ?_
      rotate_left
      · (intro w hSw; (try dsimp only at hSw); go_simp; all_goals (with_reducible rfl))
      try simp only [Act.put, List.setIfInBounds_toArray, List.set_cons_zero, List.set_cons_succ]
      refine wpAnyH_ready (rs := [59]) (by kernel_rfl) (by simp) ?_
      refine held_call rfl (fun K hK => ?_) AllReadyH.nil
      go_simp
      go_at_call 13
      (with_reducible refine (pl9_least A l1 hl1.out (by assumption)).mono ?_)
      rintro e w' ⟨rfl, hq5⟩
      refine hK.out _ _ (pl9_keep hq5) (fun hHeld => ?_)
      clear hK K
      try simp only [Act.put, List.setIfInBounds_toArray, List.set_cons_zero, List.set_cons_succ]
      refine wpAnyH_ready (rs := [66]) (by kernel_rfl) (by simp) ?_
      refine held_call rfl (fun K hK => ?_) AllReadyH.nil
      go_simp
      go_at_call 14
      (with_reducible refine (pl9_rleast A l1 hl1.out (by assumption)).mono ?_)
      rintro e w' ⟨rfl, hq6⟩
      refine hK.out _ _ (pl9_keep hq6) (fun hHeld => ?_)
      clear hK K
      try simp only [Act.put, List.setIfInBounds_toArray, List.set_cons_zero, List.set_cons_succ]
      refine held_take 67 (v := ?_) rfl (by kernel_rfl) (by kernel_rfl) (by kernel_rfl) (fun _ _ _ h => h) (by rfl) ?_ (by assumption) ?_
      rotate_left
      · (intro w hSw; (try dsimp only at hSw); go_simp; all_goals (with_reducible rfl))
      try simp only [Act.put, List.setIfInBounds_toArray, List.set_cons_zero, List.set_cons_succ]
      refine held_take 68 (v := ?_) rfl (by kernel_rfl) (by kernel_rfl) (by kernel_rfl) (fun _ _ _ h => h) (by rfl) ?_ (by assumption) ?_
      rotate_left
      · (intro w hSw; (try dsimp only at hSw); go_simp; all_goals (with_reducible rfl))
      try simp only [Act.put, List.setIfInBounds_toArray, List.set_cons_zero, List.set_cons_succ]
      refine held_take 69 (v := ?_) rfl (by kernel_rfl) (by kernel_rfl) (by kernel_rfl) (fun _ _ _ h => h) (by rfl) ?_ (by assumption) ?_
      rotate_left
      · (intro w hSw; (try dsimp only at hSw); go_simp; all_goals (with_reducible rfl))
      try simp only [Act.put, List.setIfInBounds_toArray, List.set_cons_zero, List.set_cons_succ]
      refine held_take 70 (v := ?_) rfl (by kernel_rfl) (by kernel_rfl) (by kernel_rfl) (fun _ _ _ h => h) (by rfl) ?_ (by assumption) ?_
      rotate_left
      · (intro w hSw; (try dsimp only at hSw); go_simp; all_goals (with_reducible rfl))
      try simp only [Act.put, List.setIfInBounds_toArray, List.set_cons_zero, List.set_cons_succ]
      refine held_take 71 (v := ?_) rfl (by kernel_rfl) (by kernel_rfl) (by kernel_rfl) (fun _ _ _ h => h) (by rfl) ?_ (by assumption) ?_
      rotate_left
      · (intro w hSw; (try dsimp only at hSw); go_simp; all_goals (with_reducible rfl))
      try simp only [Act.put, List.setIfInBounds_toArray, List.set_cons_zero, List.set_cons_succ]
      refine held_take 72 (v := ?_) rfl (by kernel_rfl) (by kernel_rfl) (by kernel_rfl) (fun _ _ _ h => h) (by rfl) ?_ (by assumption) ?_
      rotate_left
      · (intro w hSw; (try dsimp only at hSw); go_simp; all_goals (with_reducible rfl))
      try simp only [Act.put, List.setIfInBounds_toArray, List.set_cons_zero, List.set_cons_succ]
      refine held_take 73 (v := ?_) rfl (by kernel_rfl) (by kernel_rfl) (by kernel_rfl) (fun _ _ _ h => h) (by rfl) ?_ (by assumption) ?_
      rotate_left
      · (intro w hSw; (try dsimp only at hSw); go_simp; all_goals (with_reducible rfl))
      try simp only [Act.put, List.setIfInBounds_toArray, List.set_cons_zero, List.set_cons_succ]
      refine held_take 74 (v := ?_) rfl (by kernel_rfl) (by kernel_rfl) (by kernel_rfl) (fun _ _ _ h => h) (by rfl) ?_ (by assumption) ?_
      rotate_left
      · (intro w hSw; (try dsimp only at hSw); go_simp; all_goals (with_reducible rfl))
      try simp only [Act.put, List.setIfInBounds_toArray, List.set_cons_zero, List.set_cons_succ]
      refine held_take 75 (v := ?_) rfl (by kernel_rfl) (by kernel_rfl) (by kernel_rfl) (fun _ _ _ h => h) (by rfl) ?_ (by assumption) ?_
      rotate_left
      · (intro w hSw; (try dsimp only at hSw); go_simp; all_goals (with_reducible rfl))
      try simp only [Act.put, List.setIfInBounds_toArray, List.set_cons_zero, List.set_cons_succ]
      refine held_take 77 (v := ?_) rfl (by kernel_rfl) (by kernel_rfl) (by kernel_rfl) (fun _ _ _ h => h) (by rfl) ?_ (by assumption) ?_
      rotate_left
      · (intro w hSw; (try dsimp only at hSw); go_simp; all_goals (with_reducible rfl))
      try simp only [Act.put, List.setIfInBounds_toArray, List.set_cons_zero, List.set_cons_succ]
      refine held_take 78 (v := ?_) rfl (by kernel_rfl) (by kernel_rfl) (by kernel_rfl) (fun _ _ _ h => h) (by rfl) ?_ (by assumption) ?_
      rotate_left
      · (intro w hSw; (try dsimp only at hSw); go_simp; all_goals (with_reducible rfl))
      try simp only [Act.put, List.setIfInBounds_toArray, List.set_cons_zero, List.set_cons_succ]
      refine held_take 79 (v := ?_) rfl (by kernel_rfl) (by kernel_rfl) (by kernel_rfl) (fun _ _ _ h => h) (by rfl) ?_ (by assumption) ?_
      rotate_left
      · (intro w hSw; (try dsimp only at hSw); go_simp; all_goals (with_reducible rfl))
      try simp only [Act.put, List.setIfInBounds_toArray, List.set_cons_zero, List.set_cons_succ]
      refine held_take 80 (v := ?_) rfl (by kernel_rfl) (by kernel_rfl) (by kernel_rfl) (fun _ _ _ h => h) (by rfl) ?_ (by assumption) ?_
      rotate_left
      · (intro w hSw; (try dsimp only at hSw); go_simp; all_goals (with_reducible rfl))
      try simp only [Act.put, List.setIfInBounds_toArray, List.set_cons_zero, List.set_cons_succ]
      refine held_take 81 (v := ?_) rfl (by kernel_rfl) (by kernel_rfl) (by kernel_rfl) (fun _ _ _ h => h) (by rfl) ?_ (by assumption) ?_
      rotate_left
      · (intro w hSw; (try dsimp only at hSw); go_simp; all_goals (with_reducible rfl))
      try simp only [Act.put, List.setIfInBounds_toArray, List.set_cons_zero, List.set_cons_succ]
      refine held_take 82 (v := ?_) rfl (by kernel_rfl) (by kernel_rfl) (by kernel_rfl) (fun _ _ _ h => h) (by rfl) ?_ (by assumption) ?_
      rotate_left
      · (intro w hSw; (try dsimp only at hSw); go_simp; all_goals (with_reducible rfl))
      try simp only [Act.put, List.setIfInBounds_toArray, List.set_cons_zero, List.set_cons_succ]
      refine wpAnyH_ready (rs := [76]) (by kernel_rfl) (by simp) ?_
      refine held_call rfl (fun K hK => ?_) AllReadyH.nil
      go_simp
      go_at_call 13
      (with_reducible refine (pl9_least B l2 hl2.out (by assumption)).mono ?_)
      rintro e w' ⟨rfl, hq7⟩
      refine hK.out _ _ (pl9_keep hq7) (fun hHeld => ?_)
      clear hK K
      try simp only [Act.put, List.setIfInBounds_toArray, List.set_cons_zero, List.set_cons_succ]
      refine wpAnyH_ready (rs := [83]) (by kernel_rfl) (by simp) ?_
      refine held_call rfl (fun K hK => ?_) AllReadyH.nil
      go_simp
      go_at_call 14
      (with_reducible refine (pl9_rleast B l2 hl2.out (by assumption)).mono ?_)
      rintro e w' ⟨rfl, hq8⟩
      refine hK.out _ _ (pl9_keep hq8) (fun hHeld => ?_)
      clear hK K
      try simp only [Act.put, List.setIfInBounds_toArray, List.set_cons_zero, List.set_cons_succ]
      refine held_take 84 (v := ?_) rfl (by kernel_rfl) (by kernel_rfl) (by kernel_rfl) (fun _ _ _ h => h) (by rfl) ?_ (by assumption) ?_
      rotate_left
      · (intro w hSw; (try dsimp only at hSw); go_simp; all_goals (with_reducible rfl))
      try simp only [Act.put, List.setIfInBounds_toArray, List.set_cons_zero, List.set_cons_succ]
      refine held_take 85 (v := ?_) rfl (by kernel_rfl) (by kernel_rfl) (by kernel_rfl) (fun _ _ _ h => h) (by rfl) ?_ (by assumption) ?_
      rotate_left
      · (intro w hSw; (try dsimp only at hSw); go_simp; all_goals (with_reducible rfl))
      try simp only [Act.put, List.setIfInBounds_toArray, List.set_cons_zero, List.set_cons_succ]
      refine wpAnyH_done (by kernel_rfl) ?_ _
      go_wp2_with fail
      exact ⟨⟨k + 1, M', by go_num, by omega, by omega, hq8.out.pb⟩, by simp [intOf]; omega⟩
    · by_cases hle : os.length ≤ 150
      · obtain rfl : k = os.length := by omega
        have hke : ¬ ((os.length : Int) < os.length) := by omega
        clear hlt hle
        have hsm := sets_small N M (by omega)
        have c0 := Lib.hid (awake9_any wr)
        go_wp2_with fail
        refine c0.out.mono ?_; rintro e w3 ⟨rfl, hb⟩
        replace hp := Lib.hid (hp.out.next hb)
        clear hb c0
        have cl1 := Lib.hid (len9_any X g N M w3 hp.out.uf)
        have cl2 := Lib.hid (rlen9_any hp.out.rf)
        have c1 := Lib.hid (sets9_any hp.out.uf)
        go_wp2_with fail
        refine cl1.out.mono ?_; rintro e w' ⟨rfl, rfl⟩
        go_wp2_with fail
        refine cl2.out.mono ?_; rintro e w' ⟨rfl, rfl⟩
        go_wp2_with fail
        refine c1.out.mono ?_; rintro e w4 ⟨v1, vs1, rfl, hl1, hu, ht⟩
        replace hp := Lib.hid (hp.out.turnF hu ht)
        replace hl1 := Lib.hid hl1
        clear hu ht c1 cl1 cl2
        have c2 := Lib.hid (rsets9_any hp.out.rf)
        go_wp2_with fail
        refine c2.out.mono ?_; rintro e w5 ⟨v2, vs2, rfl, hl2, hb⟩
        replace hp := Lib.hid (hp.out.next hb)
        replace hl1 := Lib.hid (hl1.out.below hb)
        clear hb c2
        have c3 := Lib.hid (samesets9_any hl1.out hl2 hsm.1 hsm.2)
        clear hl2 hsm
        go_wp2_with fail
        refine c3.out.mono ?_; rintro e w6 ⟨rfl, hd⟩
        replace hp := Lib.hid (hp.out.next (hd.below _))
        clear hd c3
        go_wp2_with fail
        go_ret
        exact ⟨rfl, hp.out.below⟩
      · obtain rfl : k = 150 := by omega
        have hle2 : (150 : Int) < os.length := by omega
        clear hlt hle
        have hsm := sets_small N M (by omega)
        have c0 := Lib.hid (awake9_any wr)
        go_wp2_with fail
        refine c0.out.mono ?_; rintro e w3 ⟨rfl, hb⟩
        replace hp := Lib.hid (hp.out.next hb)
        clear hb c0
        have cl1 := Lib.hid (len9_any X g N M w3 hp.out.uf)
        have cl2 := Lib.hid (rlen9_any hp.out.rf)
        have c1 := Lib.hid (sets9_any hp.out.uf)
        go_wp2_with fail
        refine cl1.out.mono ?_; rintro e w' ⟨rfl, rfl⟩
        go_wp2_with fail
        refine cl2.out.mono ?_; rintro e w' ⟨rfl, rfl⟩
        go_wp2_with fail
        refine c1.out.mono ?_; rintro e w4 ⟨v1, vs1, rfl, hl1, hu, ht⟩
        replace hp := Lib.hid (hp.out.turnF hu ht)
        replace hl1 := Lib.hid hl1
        clear hu ht c1 cl1 cl2
        have c2 := Lib.hid (rsets9_any hp.out.rf)
        go_wp2_with fail
        refine c2.out.mono ?_; rintro e w5 ⟨v2, vs2, rfl, hl2, hb⟩
        replace hp := Lib.hid (hp.out.next hb)
        replace hl1 := Lib.hid (hl1.out.below hb)
        clear hb c2
        have c3 := Lib.hid (samesets9_any hl1.out hl2 hsm.1 hsm.2)
        clear hl2 hsm
        go_wp2_with fail
        refine c3.out.mono ?_; rintro e w6 ⟨rfl, hd⟩
        replace hp := Lib.hid (hp.out.next (hd.below _))
        clear hd c3
        go_wp2_with fail
        go_ret
        exact ⟨rfl, hp.out.below⟩
end Go.Proofs.Ytkegealaagphgaa
