/- The walk of the law ShingleMoves. -/
import Derived.Test.YtmallpkbjpfajaaD04m
import Derived.Deep.RegionHeld3
import Derived.IntWalk
namespace Go.Proofs.Ytmallpkbjpfajaa
open Go.RowKit

/-- What the two calls in one statement keep. -/
structure Keep4 (w0 : World) (v : Value) (xs : List (List UInt8)) (w : World) : Prop where
  sl : StrSl w v xs
  low : SlBelow w.heap.size v
  below : Below w0.heap.size w0 w
theorem Keep4.next {w0 w w' : World} {v : Value} {xs : List (List UInt8)} (h : Keep4 w0 v xs w) (hb : Below w.heap.size w w') : Keep4 w0 v xs w' := ⟨h.sl.below hb h.low, h.low.mono hb.size, h.below.andThen hb⟩
theorem keep4_drew {w0 w : World} {v : Value} {xs : List (List UInt8)} (h : Hid (Keep4 w0 v xs w)) : Hid (Keep4 w0 v xs w.drew) := Lib.hid (h.out.next (Drawn.below ⟨1, rfl⟩ _))
def MovePost (w0 : World) (v0 : Value) (xs : List (List UInt8)) (ss : List (List UInt8)) (w : World) (e : Ending) (w' : World) : Prop := ∃ a c, e = .returned (.slice a ss.length c) ∧ Hid (StrSl w' (.slice a ss.length c) ss ∧ SlBelow w'.heap.size (.slice a ss.length c)) ∧ Hid (Below w.heap.size w w') ∧ Hid (Keep4 w0 v0 xs w')
theorem move4_one {w0 w : World} {v : Value} {xs : List (List UInt8)} {n : Int} (h : Hid (Keep4 w0 v xs w)) (hn : xs.length ≤ 301) (hl : sumLen xs ≤ 3000) (hn0 : 1 ≤ n) (hn1 : n ≤ 9) :
    Calls Try.prog 9 #[v, .int .i64 n] w (MovePost w0 v xs (shinB xs n) w) := by
  refine (shingles_any xs v n w h.out.sl h.out.low (by omega) (by omega) (by omega) (by omega)).mono ?_
  rintro e w' ⟨v', rfl, ho, hb⟩
  obtain ⟨a, c, hv⟩ := own_form ho
  subst hv
  exact ⟨a, c, rfl, Lib.hid ⟨ho.sl, ho.low⟩, Lib.hid hb, Lib.hid (h.out.next hb)⟩
theorem move4_two {w0 w : World} {b off c : Nat} {xs : List (List UInt8)} {n : Int} (h : Hid (Keep4 w0 (.slice (some ⟨b, off, none⟩) xs.length c) xs w)) (h2 : 2 ≤ xs.length) (hn : xs.length ≤ 301) (hl : sumLen xs ≤ 3000) (hn0 : 1 ≤ n) (hn1 : n ≤ 9) :
    Calls Try.prog 9 #[.slice (some ⟨b, off + 1, none⟩) (xs.length - 1) (c - 1), .int .i64 n] w (MovePost w0 (.slice (some ⟨b, off, none⟩) xs.length c) xs (shinB xs.tail n) w) := by
  rw [← List.drop_one]
  have h0 : xs ≠ [] := by intro e; subst e; simp at h2
  have hsub := strSl_sub h.out.sl h0 1 xs.length (c - 1) (by omega) (Nat.le_refl _) (by have := h.out.sl.cap.2 h0; omega)
  rw [List.take_of_length_le (by simp)] at hsub
  have hb : b < w.heap.size := h.out.low _ _ _ rfl (by omega)
  have hsl : sumLen (xs.drop 1) ≤ sumLen xs := by have := sumLen_part xs 1 xs.length; rwa [List.take_of_length_le (by simp)] at this
  refine (shingles_any (xs.drop 1) _ n w hsub (fun a n c' e _ => by injection e with e _ _; injection e with e; subst e; exact hb) (by simp; omega) (by omega) (by omega) (by omega)).mono ?_
  rintro e w' ⟨v', rfl, ho, hb⟩
  obtain ⟨a, c, hv⟩ := own_form ho
  subst hv
  exact ⟨a, c, rfl, Lib.hid ⟨ho.sl, ho.low⟩, Lib.hid hb, Lib.hid (h.out.next hb)⟩

/-- What the last statement keeps. -/
structure Fin4 (w0 : World) (v : Value) (xs : List (List UInt8)) (b o : Nat) (x : List UInt8) (w : World) : Prop where
  keep : Keep4 w0 v xs w
  lt : b < w.heap.size
  cell : w.cell? ⟨b, o, none⟩ = some (.string ⟨x.toArray⟩)
theorem Fin4.next {w0 w w' : World} {v : Value} {xs : List (List UInt8)} {b o : Nat} {x : List UInt8} (h : Fin4 w0 v xs b o x w) (hb : Below w.heap.size w w') : Fin4 w0 v xs b o x w' :=
  ⟨h.keep.next hb, Nat.lt_of_lt_of_le h.lt hb.size, (hb.cell (p := ⟨b, o, none⟩) h.lt).trans h.cell⟩
theorem fin4_drew {w0 w : World} {v : Value} {xs : List (List UInt8)} {b o : Nat} {x : List UInt8} (h : Hid (Fin4 w0 v xs b o x w)) : Hid (Fin4 w0 v xs b o x w.drew) := Lib.hid (h.out.next (Drawn.below ⟨1, rfl⟩ _))
theorem fin4_cell {w0 w : World} {v : Value} {xs : List (List UInt8)} {b o : Nat} {x : List UInt8} (h : Hid (Fin4 w0 v xs b o x w)) : w.cell? ⟨b, o, none⟩ = some (.string ⟨x.toArray⟩) := h.out.cell
theorem fin4_awake {w0 w : World} {v : Value} {xs : List (List UInt8)} {b o : Nat} {x : List UInt8} (h : Hid (Fin4 w0 v xs b o x w)) : Calls Try.prog 8 #[] w fun e w' => e = .returned (.bool true) ∧ Hid (Fin4 w0 v xs b o x w') :=
  (awake4_any w).mono fun _ _ ⟨he, hb⟩ => ⟨he, Lib.hid (h.out.next hb)⟩
theorem fin4_join {w0 w : World} {xs : List (List UInt8)} {b o : Nat} {x : List UInt8} {b0 off c : Nat} {n : Int} (h : Hid (Fin4 w0 (.slice (some ⟨b0, off, none⟩) xs.length c) xs b o x w)) (h2 : 2 ≤ xs.length) (hn : xs.length ≤ 301) (hl : sumLen xs ≤ 3000) (hn1 : 1 ≤ n) (hn2 : n < xs.length) (hx : Hid (x = joinB (xs.take n.toNat))) :
    Calls Try.prog 15 #[.slice (some ⟨b0, off, none⟩) n.toNat c] w fun e w' => e = .returned (.string ⟨x.toArray⟩) ∧ w = w' := by
  have h0 : xs ≠ [] := by intro e; subst e; simp at h2
  have hsub := strSl_sub h.out.keep.sl h0 0 n.toNat c (by omega) (by omega) (by have := h.out.keep.sl.cap.2 h0; omega)
  rw [List.drop_zero, Nat.sub_zero, Nat.add_zero] at hsub
  have hp := part_len xs 0 n.toNat
  rw [List.drop_zero] at hp
  rw [hx.out]
  exact refjoin_any _ _ w hsub (by omega) (by simp; omega)

set_option maxRecDepth 100000 in
set_option maxHeartbeats 400000 in
theorem moves04_law (xs : List (List UInt8)) (v : Value) (k : Int) (w : World) (hv : StrSl w v xs) (hlow : SlBelow w.heap.size v) (hs : xs.length ≤ maxLen) (hk : (Lit.int .u8 k).wf = true) : Calls Try.prog 6 #[v, .int .u8 k] w (LawPost w) := by
  obtain ⟨hk0, hk1⟩ := u8_bd hk
  clear hk
  by_cases h2 : (xs.length : Int) ≤ 1 + k % 9
  · obtain ⟨a, c, rfl⟩ := hv.form
    replace hv := Lib.hid hv
    replace hlow := Lib.hid hlow
    go_enter Try.func6, Try.ntmps6
    go_wp2_with fail
    refine (great4_any xs _ w hv.out hs).mono ?_
    rintro e w1 ⟨b, rfl, rfl, hgr⟩
    clear hgr
    cases b
    all_goals
      go_wp2_with fail
      refine (awake4_any w).mono ?_
      rintro e w1 ⟨rfl, hb⟩
      go_wp2_with fail
      go_ret
      exact ⟨rfl, hb⟩
  have hne : xs ≠ [] := by intro e; subst e; simp at h2; omega
  obtain ⟨b, off, c, rfl, _⟩ := hv.some hne
  have hcap := hv.cap.2 hne
  have hkp := Lib.hid (show Keep4 w (.slice (some ⟨b, off, none⟩) xs.length c) xs w from ⟨hv, hlow, Below.refl _ _⟩)
  clear hlow hne
  replace hv := Lib.hid hv
  go_enter Try.func6, Try.ntmps6
  go_wp2_with fail
  refine (great4_any xs _ w hv.out hs).mono ?_
  rintro e w1 ⟨b, rfl, rfl, hgr⟩
  cases b
  case true =>
    clear hgr
    go_wp2_with fail
    refine (awake4_any w).mono ?_
    rintro e w1 ⟨rfl, hb⟩
    go_wp2_with fail
    go_ret
    exact ⟨rfl, hb⟩
  obtain ⟨hn, hl⟩ := hgr rfl
  clear hgr hs
  replace hl := Lib.hid hl
  go_wp2_with fail
  have hm0 : 1 ≤ 1 + k % 9 := by omega
  have hm1 : 1 + k % 9 ≤ 9 := by omega
  generalize 1 + k % 9 = m at hm0 hm1 h2
  have hx2 : 2 ≤ xs.length := by omega
  have hx1 : (1 : Int) ≤ xs.length := by omega
  have hx3 : (xs.length : Int) ≤ c := by omega
  have hx4 : 1 < c := by omega
  have hx5 : ¬ (c = 1) := by omega
  clear hk0 hk1
  go_region_held3 (fun _ => True) (first | trivial)
    (first
      | (go_at_call 9; ((with_reducible refine (move4_one (keep4_drew hkp) hn hl.out hm0 hm1).mono ?_); rintro e w' ⟨a1, c1, rfl, ho1, hb1, hkp1⟩))
      | (go_at_call 9; ((with_reducible refine (move4_two (by assumption) hx2 hn hl.out hm0 hm1).mono ?_); rintro e w' ⟨a2, c2, rfl, ho2, hb2, hkp2⟩)))
  have hc1 := cnt_many xs.length m h2 hm0
  have hc2 : (cnt xs.tail.length m : Int) + 1 = cnt xs.length m := by
    by_cases h3 : m < (xs.tail.length : Int)
    · have := cnt_many xs.tail.length m h3 hm0
      simp at *; omega
    · have h4 : (xs.tail.length : Int) = m := by simp at *; omega
      have h5 : cnt xs.tail.length m = 1 := by unfold cnt; rw [if_neg (by omega)]; omega
      simp at *; omega
  have hmv : ∀ n, n < (shinB xs.tail m).length → (shinB xs m).getD (n + 1) [] = (shinB xs.tail m).getD n [] := by
    intro n hn'
    rw [shinB_len] at hn'
    rw [shinB_getD _ _ _ hn', shinB_getD _ _ _ (by omega), shin_tail]
  have hz : (shinB xs m).getD 0 [] = joinB (xs.take m.toNat) := by rw [shinB_getD _ _ _ (by omega), shin_zero]
  have hlen : (shinB xs m).length = (shinB xs.tail m).length + 1 := by rw [shinB_len, shinB_len]; omega
  have hsm : (shinB xs m).length ≤ 301 := by have := cnt_le xs.length m; rw [shinB_len]; omega
  have hi1 := Lib.hid (ho1.out.1.below hb2.out ho1.out.2)
  have hl1 := Lib.hid (ho1.out.2.mono hb2.out.size)
  have hi2 := Lib.hid ho2.out.1
  have hl2 := Lib.hid ho2.out.2
  clear hc1 hc2 ho1 ho2 hb1 hb2 hkp1 hkp hx1 hx3 hx4 hx5
  rw [hlen] at hi1 hl1 hsm ⊢
  generalize shinB xs m = S at *
  generalize shinB xs.tail m = T at *
  have hSne : S ≠ [] := by intro e; subst e; simp at hlen
  obtain ⟨b1, o1, d1, e1, h1⟩ := hi1.out.some hSne
  injection e1 with e1 e1'' e1'
  clear e1''
  subst e1 e1'
  have hS1 := Lib.hid h1
  have hS0 := hl1.out _ _ _ rfl (by omega)
  have hfin := Lib.hid (show Fin4 w _ xs b1 o1 (joinB (xs.take m.toNat)) w' from ⟨hkp2.out, hS0, by have := h1 0 (by omega); rw [hz] at this; exact this⟩)
  replace hmv := Lib.hid hmv
  rw [hlen] at hS1
  clear h1 hz hlen hS0 hSne hl1 hl2 hi1
  go_wp2_with fail
  go_loopw [8] (fun i wr => ∃ n : Nat, i = .int .i64 n ∧ n ≤ T.length ∧ Drawn w' wr) (fun i _ => T.length - (intOf i).toNat)
  case atStart => exact ⟨0, rfl, Nat.zero_le _, Drawn.refl _⟩
  case round =>
    obtain ⟨n, rfl, hnl, n0, rfl⟩ := hrel
    by_cases hlt : n < T.length
    · have hne : T ≠ [] := by intro e; subst e; simp at hlt
      obtain ⟨b2, o2, d2, e2, h2'⟩ := hi2.out.some hne
      injection e2 with e2 e2'' e2'
      clear e2''
      subst e2 e2'
      have g1 := hS1.out (n + 1) (by omega)
      have g2 := h2' n hlt
      rw [hmv.out n hlt] at g1
      generalize T.getD n [] = x at g1 g2
      unfold strV at g1 g2
      clear h2' hne
      have s1 : (0 : Int) ≤ (n : Int) + 1 := by omega
      have s2 : ((n : Int) + 1).toNat = n + 1 := by omega
      have s3 : (n : Int) + 1 < (T.length : Int) + 1 := by omega
      have s4 := IntWalk.i64_in ((n : Int) + 1) (by omega)
      go_wp2_with fail
      go_quiet (fail)
      clear s2 s4
      go_wp2_with fail
      exact ⟨⟨n + 1, by go_num, by omega, ⟨_, rfl⟩⟩, by simp [intOf]; omega⟩
    · have hke : ¬ ((n : Int) < T.length) := by omega
      replace hfin := Lib.hid (hfin.out.next (Drawn.below ⟨n0, rfl⟩ _))
      obtain ⟨x, hx⟩ : ∃ x, x = joinB (xs.take m.toNat) := ⟨_, rfl⟩
      rw [← hx] at hfin
      replace hx := Lib.hid hx
      have hm2 : m < xs.length := by omega
      have hm3 : m ≤ c := by omega
      have hm4 : (0 : Int) < (T.length : Int) + 1 := by omega
      have hm5 : 0 ≤ m := by omega
      have hm6 : m ≤ xs.length := by omega
      generalize w'.drewN n0 = wq at hfin ⊢
      clear hS1 hmv hi2 hkp2
      go_wp2_with fail

      go_region_held3 (fun W => W.cell? ⟨b1, o1, none⟩ = some (.string ⟨x.toArray⟩)) (first | exact fin4_cell (by assumption) | exact fin4_cell (fin4_drew (by assumption)))
        (first
          | (go_at_call 8; ((with_reducible refine (fin4_awake (fin4_drew hfin)).mono ?_); rintro e w' ⟨rfl, hf1⟩))
          | (go_at_call 15; ((with_reducible refine (fin4_join (by assumption) hx2 hn hl.out hm0 hm2 hx).mono ?_); rintro e w' ⟨rfl, rfl⟩)))
      all_goals
        go_wp2_with fail
        go_ret
        exact ⟨rfl, (Hid.out (by assumption : Hid (Fin4 _ _ _ _ _ _ _))).keep.below⟩
end Go.Proofs.Ytmallpkbjpfajaa
