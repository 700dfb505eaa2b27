/- Layer 9's law UnionOrder. -/
import Derived.Test.YtkegealaagphgaaD09l
import Derived.Test.YtkegealaagphgaaD09r
import Derived.Test.YtkegealaagphgaaD09s
import Derived.Test.YtkegealaagphgaaTw
import Derived.Deep.RegionHeld3
namespace Go.Proofs.Ytkegealaagphgaa
open Go.RowKit

/-- Two forests, side by side. -/
structure Two9 (w0 : World) (X g Y h n : Nat) (M M2 : Nat → Nat) (w : World) : Prop where
  uf : UfAt w X g n M
  uf2 : UfAt w Y h n M2
  far : w0.heap.size ≤ X ∧ w0.heap.size ≤ g ∧ w0.heap.size ≤ Y ∧ w0.heap.size ≤ h
  apart : g ≠ Y ∧ g ≠ h ∧ h ≠ X
  below : Below w0.heap.size w0 w
/-- A pair of numbers beside them. -/
structure Pt9 (w0 : World) (b o : Nat) (A B : Int) (X g Y h n : Nat) (M M2 : Nat → Nat) (w : World) : Prop where
  pb : Two9 w0 X g Y h n M M2 w
  low : b < w0.heap.size
  cells : w.cell? ⟨b, o, none⟩ = some (.int .i64 A) ∧ w.cell? ⟨b, o + 1, none⟩ = some (.int .i64 B)
section
variable {w0 w w' : World} {b o X g Y h n : Nat} {A B : Int} {M M2 M' : Nat → Nat}
theorem Two9.turn1 (p : Two9 w0 X g Y h n M M2 w) (hu : UfAt w' X g n M') (ht : Turned (fun b => b = g) w w') : Two9 w0 X g Y h n M' M2 w' :=
  ⟨hu, p.uf2.turned ht (fun e => p.apart.1 e.symm) (fun e => p.apart.2.1 e.symm), p.far, p.apart, p.below.trans (turned_one ht p.far.2.1 p.below.size)⟩
theorem Two9.turn2 (p : Two9 w0 X g Y h n M M2 w) (hu : UfAt w' Y h n M') (ht : Turned (fun b => b = h) w w') : Two9 w0 X g Y h n M M' w' :=
  ⟨p.uf.turned ht (fun e => p.apart.2.2 e.symm) (fun e => p.apart.2.1 e), hu, p.far, p.apart, p.below.trans (turned_one ht p.far.2.2.2 p.below.size)⟩
theorem Two9.next (p : Two9 w0 X g Y h n M M2 w) (hb : Below w.heap.size w w') : Two9 w0 X g Y h n M M2 w' :=
  ⟨p.uf.below hb, p.uf2.below hb, p.far, p.apart, p.below.trans (hb.mono p.below.size)⟩
theorem Pt9.of (p : Pt9 w0 b o A B X g Y h n M M2 w) {M3 M4 : Nat → Nat} (q : Two9 w0 X g Y h n M3 M4 w') (hb : Below w0.heap.size w w') : Pt9 w0 b o A B X g Y h n M3 M4 w' :=
  have e : ∀ k, w'.cell? ⟨b, k, none⟩ = w.cell? ⟨b, k, none⟩ := fun k => World.cell?_of_block (hb.block b p.low)
  ⟨q, p.low, by rw [e, e]; exact p.cells⟩
theorem Pt9.turn1 (p : Pt9 w0 b o A B X g Y h n M M2 w) (hu : UfAt w' X g n M') (ht : Turned (fun b => b = g) w w') : Pt9 w0 b o A B X g Y h n M' M2 w' := p.of (p.pb.turn1 hu ht) (turned_one ht p.pb.far.2.1 p.pb.below.size)
theorem Pt9.turn2 (p : Pt9 w0 b o A B X g Y h n M M2 w) (hu : UfAt w' Y h n M') (ht : Turned (fun b => b = h) w w') : Pt9 w0 b o A B X g Y h n M M' w' := p.of (p.pb.turn2 hu ht) (turned_one ht p.pb.far.2.2.2 p.pb.below.size)
theorem Pt9.next (p : Pt9 w0 b o A B X g Y h n M M2 w) (hb : Below w.heap.size w w') : Pt9 w0 b o A B X g Y h n M M2 w' := p.of (p.pb.next hb) (hb.mono p.pb.below.size)
theorem pt9_drew (p : Hid (Pt9 w0 b o A B X g Y h n M M2 w)) : Hid (Pt9 w0 b o A B X g Y h n M M2 w.drew) := p.out.next ((drawn_drew w).below _)
theorem pt9_keep (p : Hid (Pt9 w0 b o A B X g Y h n M M2 w)) : w.cell? ⟨b, o, none⟩ = some (.int .i64 A) ∧ w.cell? ⟨b, o + 1, none⟩ = some (.int .i64 B) := p.out.cells
theorem pt9_join1 (x y : Int) (hM : joinI n M x y = M') (p : Hid (Pt9 w0 b o A B X g Y h n M M2 w)) : Calls Try.prog 11 #[.pointer (some ⟨X, 0, none⟩), .int .i64 x, .int .i64 y] w fun e w' => (∃ s, e = .returned (.bool s)) ∧ Hid (Pt9 w0 b o A B X g Y h n M' M2 w') := by
  subst hM
  refine (join9_any x y p.out.pb.uf).mono ?_
  rintro e w' ⟨rfl, hu, ht⟩
  exact ⟨⟨_, rfl⟩, p.out.turn1 hu ht⟩
theorem pt9_join2 (x y : Int) (hM : joinI n M2 x y = M') (p : Hid (Pt9 w0 b o A B X g Y h n M M2 w)) : Calls Try.prog 11 #[.pointer (some ⟨Y, 0, none⟩), .int .i64 x, .int .i64 y] w fun e w' => (∃ s, e = .returned (.bool s)) ∧ Hid (Pt9 w0 b o A B X g Y h n M M' w') := by
  subst hM
  refine (join9_any x y p.out.pb.uf2).mono ?_
  rintro e w' ⟨rfl, hu, ht⟩
  exact ⟨⟨_, rfl⟩, p.out.turn2 hu ht⟩
theorem two9_begin {w1 w2 : World} (hu : UfAt w1 X g n M) (h1 : w0.heap.size ≤ X ∧ w0.heap.size ≤ g) (hb1 : Below w0.heap.size w0 w1) (hr : UfAt w2 Y h n M2) (h2 : w1.heap.size ≤ Y ∧ w1.heap.size ≤ h) (hb2 : Below w1.heap.size w1 w2) : Two9 w0 X g Y h n M M2 w2 := by
  have hX := hu.2.2.1
  have hg := hu.2.2.2.1
  have := hb1.size
  exact ⟨hu.below hb2, hr, ⟨h1.1, h1.2, by omega, by omega⟩, ⟨by omega, by omega, by omega⟩, hb1.andThen hb2⟩
end
theorem sets_small9 (n : Nat) (M : Nat → Nat) (hn : n ≤ 1048576) : (setsL n M).length ≤ 1048576 ∧ ∀ i, ((setsL n M).getD i []).length ≤ 1048576 :=
  ⟨by have := heads_le n M; rw [sets_len]; omega, fun i => by have := sets_each n M i; omega⟩
set_option maxHeartbeats 2000000 in
set_option maxRecDepth 100000 in
theorem order09_law (x : Int) (os : List (Int × Int)) (v : Value) (w : World) (hx : (Lit.int .u8 x).wf = true) (hv : TwSl w v os) (hn : os.length ≤ maxLen) :
    Calls Try.prog 4 #[.int .u8 x, v] w (LawPost w) := by
  unfold maxLen at hn
  obtain ⟨a, c, rfl⟩ := hv.form
  obtain ⟨x0, x1⟩ := bd_u8 hx
  clear hx
  obtain ⟨N, hN⟩ : ∃ N : Nat, x % 61 = N := ⟨(x % 61).toNat, by omega⟩
  have hN60 : N ≤ 60 := by omega
  have k1 := Lib.hid (new9_yes N w (by omega))
  have k2 := Lib.hid (fun W => new9_yes N W (by omega))
  replace hv := Lib.hid hv
  obtain ⟨m, hm, hml, hm15⟩ : ∃ m : Nat, (if (os.length : Int) ≤ 150 then (os.length : Int) else 150) = m ∧ m ≤ os.length ∧ m ≤ 150 := by
    by_cases h : (os.length : Int) ≤ 150
    · exact ⟨os.length, by rw [if_pos h], by omega, by omega⟩
    · exact ⟨150, by rw [if_neg h]; rfl, by omega, by omega⟩
  go_enter Try.func4, Try.ntmps4
  go_wp2_with fail
  refine k1.out.mono ?_; rintro e w1 ⟨X, g, rfl, hu, hXg, hb⟩
  replace hu := Lib.hid hu
  replace hb := Lib.hid hb
  clear k1
  go_wp2_with fail
  refine (k2.out _).mono ?_; rintro e w2 ⟨Y, h, rfl, hr, hYh, hb2⟩
  have hp := Lib.hid (two9_begin hu.out hXg hb.out hr hYh hb2)
  clear hu hb hr hb2 hYh hXg k2
  go_wp2_with fail
  go_loopw [7] (fun i wr => ∃ (k : Nat) (M : Nat → Nat), i = .int .i64 k ∧ k ≤ os.length ∧ k ≤ 150 ∧ Hid (Gen9 N os (fun j => j < k) M) ∧ Hid (Two9 w X g Y h N M (fun i => i) wr)) (fun i _ => os.length - (intOf i).toNat)
  case atStart => exact ⟨0, _, rfl, Nat.zero_le _, Nat.zero_le _, (Gen9.start N os).congr fun j _ => ⟨fun h => h.elim, fun h => by omega⟩, hp.out⟩
  case round =>
    clear hp
    obtain ⟨k, M, rfl, hk, hk2, hG, hp⟩ := hrel
    by_cases hlt : k < os.length ∧ k < 150
    · obtain ⟨hlt, h15⟩ := hlt
      obtain ⟨b, off, rfl, hbl, d0, d1⟩ := hv.out.at hp.out.below hlt
      obtain ⟨A, B, hq⟩ : ∃ A B, os[k] = (A, B) := ⟨_, _, rfl⟩
      have hG2 := Lib.hid ((hG.out.join hlt hq).congr (J' := fun j => j < k + 1) fun j _ => by omega)
      rw [hq] at d0 d1
      dsimp only at d0 d1
      have hpl : Hid (Pt9 w b (off + k * 2) A B X g Y h N M (fun i => i) wr) := ⟨hp.out, hbl, d0, d1⟩
      clear hp hG hq
      obtain ⟨M', hM'⟩ : ∃ M', joinI N M A B = M' := ⟨_, rfl⟩
      rw [hM'] at hG2
      replace hM' := Lib.hid hM'
      have k0 : (0 : Int) ≤ k := by omega
      have k1 : (k : Int) < os.length := by omega
      have k2 : (k : Int) < 150 := by omega
      go_wp2_with fail
      have hpd := pt9_drew hpl
      go_region_held3 (fun W => W.cell? ⟨b, off + k * 2, none⟩ = some (.int .i64 A) ∧ W.cell? ⟨b, off + k * 2 + 1, none⟩ = some (.int .i64 B)) (first | exact pt9_keep (by assumption) | exact pt9_keep (pt9_drew (by assumption))) (first
        | (go_at_call 11; (with_reducible refine (pt9_join1 A B hM'.out (by assumption)).mono ?_); rintro e w' ⟨⟨s, rfl⟩, hq1⟩))
      go_wp2_with fail
      exact ⟨⟨k + 1, M', by go_num, by omega, by omega, hG2.out, hq1.out.pb⟩, by simp [intOf]; omega⟩
    · by_cases hle : os.length ≤ 150
      · obtain rfl : k = os.length := by omega
        have hle1 : (os.length : Int) ≤ 150 := by omega
        have hke : ¬ ((os.length : Int) < os.length) := by omega
        clear hm hml hm15 hlt
        go_wp2_with fail
        go_loopw [8] (fun i wr => ∃ (j : Nat) (z : Int) (M2 : Nat → Nat), i = .int .i64 z ∧ z = (j : Int) - 1 ∧ j ≤ os.length ∧ Hid (Gen9 N os (fun t => j ≤ t ∧ t < os.length) M2) ∧ Hid (Two9 w X g Y h N M M2 wr)) (fun i _ => (intOf i + 1).toNat)
        case atStart => exact ⟨os.length, _, _, rfl, rfl, Nat.le_refl _, (Gen9.start N os).congr fun j _ => ⟨fun h => h.elim, fun h => by omega⟩, hp.out⟩
        case round =>
          clear hp
          obtain ⟨j, z, M2, rfl, hz, hj, hG2, hp⟩ := hrel
          by_cases hj0 : j = 0
          · subst hj0
            have hz0 : ¬ (0 : Int) ≤ z := by omega
            replace hz := Lib.hid hz
            have hse : setsL N M = setsL N M2 := sets_congr (hG.out.unique (hG2.out.congr fun t _ => by omega))
            have hsm := sets_small9 N M (by omega)
            clear hG hG2
            have c0 := Lib.hid (awake9_any wr)
            go_wp2_with fail
            refine c0.out.mono ?_; rintro e w3 ⟨rfl, hb⟩
            replace hp := Lib.hid (hp.out.next hb)
            clear hb c0
            have c1 := Lib.hid (sets9_any hp.out.uf)
            go_wp2_with fail
            refine c1.out.mono ?_; rintro e w4 ⟨v1, vs1, rfl, hl1, hu, ht⟩
            have hlt2 := hp.out.uf2.2.2.2.1
            have hlt1 := hp.out.uf.2.2.2.1
            replace hp := Lib.hid (hp.out.turn1 hu ht)
            replace hl1 := Lib.hid hl1
            have hsz := ht.size
            clear hu ht c1
            have c2 := Lib.hid (sets9_any hp.out.uf2)
            go_wp2_with fail
            refine c2.out.mono ?_; rintro e w5 ⟨v2, vs2, rfl, hl2, hu, ht⟩
            replace hp := Lib.hid (hp.out.turn2 hu ht)
            replace hl1 := Lib.hid (hl1.out.turned ht fun b e => by omega)
            rw [← hse] at hl2
            clear hu ht c2
            have c3 := Lib.hid (samesets9_any hl1.out hl2 hsm.1 hsm.2)
            clear hl2 hsm
            go_wp2_with fail
            refine c3.out.mono ?_; rintro e w6 ⟨rfl, hd⟩
            replace hp := Lib.hid (hp.out.next (hd.below _))
            clear hd c3
            go_wp2_with fail
            go_ret
            exact ⟨rfl, hp.out.below⟩
          · obtain ⟨k, rfl⟩ : ∃ k, j = k + 1 := ⟨j - 1, by omega⟩
            obtain rfl : z = k := by omega
            clear hz hj0
            have hltk : k < os.length := by omega
            obtain ⟨b, off, rfl, hbl, d0, d1⟩ := hv.out.at hp.out.below hltk
            obtain ⟨A, B, hq⟩ : ∃ A B, os[k] = (A, B) := ⟨_, _, rfl⟩
            obtain ⟨M3, hM3⟩ : ∃ M3, joinI N M2 B A = M3 := ⟨_, rfl⟩
            obtain ⟨M4, hM4⟩ : ∃ M4, joinI N M3 A B = M4 := ⟨_, rfl⟩
            have hG3 := hG2.out.join hltk hq
            rw [joinI_comm, hM3] at hG3
            have hG4 := hG3.join hltk hq
            rw [hM4] at hG4
            replace hG4 := Lib.hid (hG4.congr (J' := fun t => k ≤ t ∧ t < os.length) fun t _ => by omega)
            rw [hq] at d0 d1
            dsimp only at d0 d1
            have hpl : Hid (Pt9 w b (off + k * 2) A B X g Y h N M M2 wr) := ⟨hp.out, hbl, d0, d1⟩
            clear hp hG2 hq hG3
            replace hM3 := Lib.hid hM3
            replace hM4 := Lib.hid hM4
            have k0 : (0 : Int) ≤ k := by omega
            have k1 : (k : Int) < os.length := by omega
            go_wp2_with fail
            have hpd := pt9_drew hpl
            go_region_held3 (fun W => W.cell? ⟨b, off + k * 2, none⟩ = some (.int .i64 A) ∧ W.cell? ⟨b, off + k * 2 + 1, none⟩ = some (.int .i64 B)) (first | exact pt9_keep (by assumption) | exact pt9_keep (pt9_drew (by assumption))) (first
              | (go_at_call 11; (with_reducible refine (pt9_join2 B A hM3.out (by assumption)).mono ?_); rintro e w' ⟨⟨s, rfl⟩, hq1⟩))
            clear hpl hpd d0 d1
            obtain ⟨d0, d1⟩ := pt9_keep hq1
            go_wp2_with fail
            have hpd := pt9_drew hq1
            go_region_held3 (fun W => W.cell? ⟨b, off + k * 2, none⟩ = some (.int .i64 A) ∧ W.cell? ⟨b, off + k * 2 + 1, none⟩ = some (.int .i64 B)) (first | exact pt9_keep (by assumption) | exact pt9_keep (pt9_drew (by assumption))) (first
              | (go_at_call 11; (with_reducible refine (pt9_join2 A B hM4.out (by assumption)).mono ?_); rintro e w' ⟨⟨s2, rfl⟩, hq2⟩))
            go_wp2_with fail
            exact ⟨⟨k, _, M4, rfl, by omega, by omega, hG4.out, hq2.out.pb⟩, by simp only [intOf]; omega⟩
      · obtain rfl : k = 150 := by omega
        have hle1 : ¬ (os.length : Int) ≤ 150 := by omega
        have hle2 : (150 : Int) < os.length := by omega
        clear hm hml hm15 hlt
        go_wp2_with fail
        go_loopw [8] (fun i wr => ∃ (j : Nat) (z : Int) (M2 : Nat → Nat), i = .int .i64 z ∧ z = (j : Int) - 1 ∧ j ≤ 150 ∧ Hid (Gen9 N os (fun t => j ≤ t ∧ t < 150) M2) ∧ Hid (Two9 w X g Y h N M M2 wr)) (fun i _ => (intOf i + 1).toNat)
        case atStart => exact ⟨150, _, _, rfl, rfl, Nat.le_refl _, (Gen9.start N os).congr fun j _ => ⟨fun h => h.elim, fun h => by omega⟩, hp.out⟩
        case round =>
          clear hp
          obtain ⟨j, z, M2, rfl, hz, hj, hG2, hp⟩ := hrel
          by_cases hj0 : j = 0
          · subst hj0
            have hz0 : ¬ (0 : Int) ≤ z := by omega
            replace hz := Lib.hid hz
            have hse : setsL N M = setsL N M2 := sets_congr (hG.out.unique (hG2.out.congr fun t _ => by omega))
            have hsm := sets_small9 N M (by omega)
            clear hG hG2
            have c0 := Lib.hid (awake9_any wr)
            go_wp2_with fail
            refine c0.out.mono ?_; rintro e w3 ⟨rfl, hb⟩
            replace hp := Lib.hid (hp.out.next hb)
            clear hb c0
            have c1 := Lib.hid (sets9_any hp.out.uf)
            go_wp2_with fail
            refine c1.out.mono ?_; rintro e w4 ⟨v1, vs1, rfl, hl1, hu, ht⟩
            have hlt2 := hp.out.uf2.2.2.2.1
            have hlt1 := hp.out.uf.2.2.2.1
            replace hp := Lib.hid (hp.out.turn1 hu ht)
            replace hl1 := Lib.hid hl1
            have hsz := ht.size
            clear hu ht c1
            have c2 := Lib.hid (sets9_any hp.out.uf2)
            go_wp2_with fail
            refine c2.out.mono ?_; rintro e w5 ⟨v2, vs2, rfl, hl2, hu, ht⟩
            replace hp := Lib.hid (hp.out.turn2 hu ht)
            replace hl1 := Lib.hid (hl1.out.turned ht fun b e => by omega)
            rw [← hse] at hl2
            clear hu ht c2
            have c3 := Lib.hid (samesets9_any hl1.out hl2 hsm.1 hsm.2)
            clear hl2 hsm
            go_wp2_with fail
            refine c3.out.mono ?_; rintro e w6 ⟨rfl, hd⟩
            replace hp := Lib.hid (hp.out.next (hd.below _))
            clear hd c3
            go_wp2_with fail
            go_ret
            exact ⟨rfl, hp.out.below⟩
          · obtain ⟨k, rfl⟩ : ∃ k, j = k + 1 := ⟨j - 1, by omega⟩
            obtain rfl : z = k := by omega
            clear hz hj0
            have hltk : k < os.length := by omega
            obtain ⟨b, off, rfl, hbl, d0, d1⟩ := hv.out.at hp.out.below hltk
            obtain ⟨A, B, hq⟩ : ∃ A B, os[k] = (A, B) := ⟨_, _, rfl⟩
            obtain ⟨M3, hM3⟩ : ∃ M3, joinI N M2 B A = M3 := ⟨_, rfl⟩
            obtain ⟨M4, hM4⟩ : ∃ M4, joinI N M3 A B = M4 := ⟨_, rfl⟩
            have hG3 := hG2.out.join hltk hq
            rw [joinI_comm, hM3] at hG3
            have hG4 := hG3.join hltk hq
            rw [hM4] at hG4
            replace hG4 := Lib.hid (hG4.congr (J' := fun t => k ≤ t ∧ t < 150) fun t _ => by omega)
            rw [hq] at d0 d1
            dsimp only at d0 d1
            have hpl : Hid (Pt9 w b (off + k * 2) A B X g Y h N M M2 wr) := ⟨hp.out, hbl, d0, d1⟩
            clear hp hG2 hq hG3
            replace hM3 := Lib.hid hM3
            replace hM4 := Lib.hid hM4
            have k0 : (0 : Int) ≤ k := by omega
            have k1 : (k : Int) < os.length := by omega
            go_wp2_with fail
            have hpd := pt9_drew hpl
            go_region_held3 (fun W => W.cell? ⟨b, off + k * 2, none⟩ = some (.int .i64 A) ∧ W.cell? ⟨b, off + k * 2 + 1, none⟩ = some (.int .i64 B)) (first | exact pt9_keep (by assumption) | exact pt9_keep (pt9_drew (by assumption))) (first
              | (go_at_call 11; (with_reducible refine (pt9_join2 B A hM3.out (by assumption)).mono ?_); rintro e w' ⟨⟨s, rfl⟩, hq1⟩))
            clear hpl hpd d0 d1
            obtain ⟨d0, d1⟩ := pt9_keep hq1
            go_wp2_with fail
            have hpd := pt9_drew hq1
            go_region_held3 (fun W => W.cell? ⟨b, off + k * 2, none⟩ = some (.int .i64 A) ∧ W.cell? ⟨b, off + k * 2 + 1, none⟩ = some (.int .i64 B)) (first | exact pt9_keep (by assumption) | exact pt9_keep (pt9_drew (by assumption))) (first
              | (go_at_call 11; (with_reducible refine (pt9_join2 A B hM4.out (by assumption)).mono ?_); rintro e w' ⟨⟨s2, rfl⟩, hq2⟩))
            go_wp2_with fail
            exact ⟨⟨k, _, M4, rfl, by omega, by omega, hG4.out, hq2.out.pb⟩, by simp only [intOf]; omega⟩
end Go.Proofs.Ytkegealaagphgaa
