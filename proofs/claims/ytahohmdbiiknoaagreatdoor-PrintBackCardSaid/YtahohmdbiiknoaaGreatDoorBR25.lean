/- The reference of layer 11: inner. -/
import Derived.Test.YtahohmdbiiknoaaGreatDoorBR24
import Derived.Test.YtahohmdbiiknoaaGreatDoorBR01
namespace Go.Proofs.YtahohmdbiiknoaaGreatDoor
open Go.RowKit

theorem t1_eq (l : List UInt8) (k : Nat) : (l.take (k + 1)).drop k = (l.drop k).take 1 := by rw [List.drop_take]; congr 1; omega
theorem SnM.more {w : World} {B R : Nat} {c : SC} {k : Nat} {s : Sc} {P : List (Tk × Value)} (h : SnM w B R c k s P) (x : List UInt8) : Hid (SnM (w.setCell ⟨R, 4, none⟩ (.string ⟨(s.text ++ x).toArray⟩)) B R { c with tx := s.text ++ x } k (moreT s x) P) := h.text (s.text ++ x)

set_option maxRecDepth 100000 in
set_option maxHeartbeats 4000000 in
/-- What is no sign: a byte of the text. -/
theorem rinner_one (B R : Nat) (c : SC) (k : Nat) (s : Sc) (P : List (Tk × Value)) (w : World) (h : Hid (SnM w B R c k s P)) (hk : k < c.l.length) (hl : c.l.length ≤ 100000) (ht : s.text.length ≤ 400000)
    (p1 : Lib.hasPrefix (c.l.drop k) [60, 47] = false) (p2 : Lib.hasPrefix (c.l.drop k) [60, 33, 45, 45] = false) (p3 : Lib.hasPrefix (c.l.drop k) [60, 33, 91, 67, 68, 65, 84, 65, 91] = false) (p4 : Lib.hasPrefix (c.l.drop k) [60] = false) (p5 : Lib.hasPrefix (c.l.drop k) [38] = false) :
    Calls Tryz.prog 35 #[.pointer (some ⟨R, 0, none⟩)] w (SpPost w B R c.l c.dep k (.go (moreT s ((c.l.drop k).take 1)) 1)) := by
  replace p1 := Lib.hid p1
  replace p2 := Lib.hid p2
  replace p3 := Lib.hid p3
  replace p4 := Lib.hid p4
  replace p5 := Lib.hid p5
  have hb := Lib.hid (SnM.toBelow h (SnM.sf h).out)
  go_enter Tryz.func35, Tryz.ntmps35
  go_wp2_with fail
  refine (sf_has (SnM.sf h) [60, 47] (by omega) hl (by decide)).mono ?_
  rintro e w1 ⟨rfl, r1⟩
  rw [p1.out]
  have s1 := SnM.call h r1.out
  have b1 := Lib.hid (hb.out.trans (SnM.toBelow h r1.out))
  clear r1 hb
  go_wp2_with fail
  refine (sf_has (SnM.sf s1) [60, 33, 45, 45] (by omega) hl (by decide)).mono ?_
  rintro e w2 ⟨rfl, r2⟩
  rw [p2.out]
  have s2 := SnM.call s1 r2.out
  have b2 := Lib.hid (b1.out.trans (SnM.toBelow s1 r2.out))
  clear r2 s1 b1
  go_wp2_with fail
  refine (sf_has (SnM.sf s2) [60, 33, 91, 67, 68, 65, 84, 65, 91] (by omega) hl (by decide)).mono ?_
  rintro e w3 ⟨rfl, r3⟩
  rw [p3.out]
  have s3 := SnM.call s2 r3.out
  have b3 := Lib.hid (b2.out.trans (SnM.toBelow s2 r3.out))
  clear r3 s2 b2
  go_wp2_with fail
  refine (sf_has (SnM.sf s3) [60] (by omega) hl (by decide)).mono ?_
  rintro e w4 ⟨rfl, r4⟩
  rw [p4.out]
  have s4 := SnM.call s3 r4.out
  have b4 := Lib.hid (b3.out.trans (SnM.toBelow s3 r4.out))
  clear r4 s3 b3
  go_wp2_with fail
  refine (sf_has (SnM.sf s4) [38] (by omega) hl (by decide)).mono ?_
  rintro e w5 ⟨rfl, r5⟩
  rw [p5.out]
  have s5 := SnM.call s4 r5.out
  have b5 := Lib.hid (b4.out.trans (SnM.toBelow s4 r5.out))
  clear r5 s4 b4
  have s6 := SnM.below s5 (Drawn.below (drawn_drewN w5 1) _)
  have hSc : (w5.drewN 1).cell? ⟨R, 0, none⟩ = some (.string ⟨c.l.toArray⟩) ∧ (w5.drewN 1).cell? ⟨R, 1, none⟩ = some (.int .i64 k) ∧ (w5.drewN 1).cell? ⟨R, 4, none⟩ = some (.string ⟨s.text.toArray⟩) ∧ (w5.drewN 1).frozen? ⟨R, 4, none⟩ = false :=
    ⟨s6.out.rd.c0, s6.out.rd.c1, by have := s6.out.rd.c4; rw [s6.out.tx] at this; exact this, s6.out.rd.fz 4⟩
  have w0 : IntKind.i64.wrap ((k : Int) + 1) = (k : Int) + 1 := by rw [IntKind.wrap_i64]; omega
  have n1 : (0 : Int) ≤ (k : Int) := by omega
  have n2 : (k : Int) ≤ (k : Int) + 1 := by omega
  have n3 : (k : Int) + 1 ≤ c.l.length := by omega
  have n4 : k + 1 ≤ c.l.length := hk
  have hcat : ¬ (9223372036854775807 < s.text.length + 1) := by omega
  have t1 := t1_eq c.l k
  have t1l : ((c.l.drop k).take 1).length = 1 := by rw [List.length_take, List.length_drop]; omega
  obtain ⟨x, hx⟩ : ∃ x, (c.l.drop k).take 1 = x := ⟨_, rfl⟩
  rw [hx] at t1 t1l
  rw [hx]
  replace hx := Lib.hid hx
  go_wp2_with fail
  refine zgo_begin 22 (fun W => W.cell? ⟨R, 0, none⟩ = some (.string ⟨c.l.toArray⟩) ∧ W.cell? ⟨R, 1, none⟩ = some (.int .i64 k) ∧ W.cell? ⟨R, 4, none⟩ = some (.string ⟨s.text.toArray⟩) ∧ W.frozen? ⟨R, 4, none⟩ = false) (by kernel_rfl) hSc ?_
  intro hHeld
  refine zgo_take 0 (v := ?_) rfl (by kernel_rfl) (by kernel_rfl) (by kernel_rfl) (by kernel_rfl) (fun _ _ _ h => h) (by rfl) ?_ (by assumption) ?_
  rotate_left
  · (intro w hSw; (try dsimp only at hSw); go_simp; all_goals (with_reducible rfl))
  try simp only [Act.put, List.setIfInBounds_toArray, List.set_cons_zero, List.set_cons_succ]
  refine zgo_take 1 (v := ?_) rfl (by kernel_rfl) (by kernel_rfl) (by kernel_rfl) (by kernel_rfl) (fun _ _ _ h => h) (by rfl) ?_ (by assumption) ?_
  rotate_left
  · (intro w hSw; (try dsimp only at hSw); go_simp; all_goals (with_reducible rfl))
  try simp only [Act.put, List.setIfInBounds_toArray, List.set_cons_zero, List.set_cons_succ]
  refine zgo_take 2 (v := ?_) rfl (by kernel_rfl) (by kernel_rfl) (by kernel_rfl) (by kernel_rfl) (fun _ _ _ h => h) (by rfl) ?_ (by assumption) ?_
  rotate_left
  · (intro w hSw; (try dsimp only at hSw); go_simp; all_goals (with_reducible rfl))
  try simp only [Act.put, List.setIfInBounds_toArray, List.set_cons_zero, List.set_cons_succ]
  refine zgo_take 3 (v := ?_) rfl (by kernel_rfl) (by kernel_rfl) (by kernel_rfl) (by kernel_rfl) (fun _ _ _ h => h) (by rfl) ?_ (by assumption) ?_
  rotate_left
  · (intro w hSw; (try dsimp only at hSw); go_simp; all_goals (with_reducible rfl))
  try simp only [Act.put, List.setIfInBounds_toArray, List.set_cons_zero, List.set_cons_succ]
  refine zgo_take 4 (v := ?_) rfl (by kernel_rfl) (by kernel_rfl) (by kernel_rfl) (by kernel_rfl) (fun _ _ _ h => h) (by rfl) ?_ (by assumption) ?_
  rotate_left
  · (intro w hSw; (try dsimp only at hSw); go_simp; all_goals (with_reducible rfl))
  try simp only [Act.put, List.setIfInBounds_toArray, List.set_cons_zero, List.set_cons_succ]
  refine zgo_take 5 (v := ?_) rfl (by kernel_rfl) (by kernel_rfl) (by kernel_rfl) (by kernel_rfl) (fun _ _ _ h => h) (by rfl) ?_ (by assumption) ?_
  rotate_left
  · (intro w hSw; (try dsimp only at hSw); go_simp; all_goals (with_reducible rfl))
  try simp only [Act.put, List.setIfInBounds_toArray, List.set_cons_zero, List.set_cons_succ]
  refine zgo_take 6 (v := ?_) rfl (by kernel_rfl) (by kernel_rfl) (by kernel_rfl) (by kernel_rfl) (fun _ _ _ h => h) (by rfl) ?_ (by assumption) ?_
  rotate_left
  · (intro w hSw; (try dsimp only at hSw); go_simp; all_goals (with_reducible rfl))
  try simp only [Act.put, List.setIfInBounds_toArray, List.set_cons_zero, List.set_cons_succ]
  refine zgo_take 7 (v := ?_) rfl (by kernel_rfl) (by kernel_rfl) (by kernel_rfl) (by kernel_rfl) (fun _ _ _ h => h) (by rfl) ?_ (by assumption) ?_
  rotate_left
  · (intro w hSw; (try dsimp only at hSw); go_simp; all_goals (with_reducible rfl))
  try simp only [Act.put, List.setIfInBounds_toArray, List.set_cons_zero, List.set_cons_succ]
  refine zgo_take 8 (v := ?_) rfl (by kernel_rfl) (by kernel_rfl) (by kernel_rfl) (by kernel_rfl) (fun _ _ _ h => h) (by rfl) ?_ (by assumption) ?_
  rotate_left
  · (intro w hSw; (try dsimp only at hSw); go_simp; all_goals (with_reducible rfl))
  try simp only [Act.put, List.setIfInBounds_toArray, List.set_cons_zero, List.set_cons_succ]
  refine zgo_take 9 (v := ?_) rfl (by kernel_rfl) (by kernel_rfl) (by kernel_rfl) (by kernel_rfl) (fun _ _ _ h => h) (by rfl) ?_ (by assumption) ?_
  rotate_left
  · (intro w hSw; (try dsimp only at hSw); go_simp; all_goals (with_reducible rfl))
  try simp only [Act.put, List.setIfInBounds_toArray, List.set_cons_zero, List.set_cons_succ]
  refine zgo_take 10 (v := ?_) rfl (by kernel_rfl) (by kernel_rfl) (by kernel_rfl) (by kernel_rfl) (fun _ _ _ h => h) (by rfl) ?_ (by assumption) ?_
  rotate_left
  · (intro w hSw; (try dsimp only at hSw); go_simp; all_goals (with_reducible rfl))
  try simp only [Act.put, List.setIfInBounds_toArray, List.set_cons_zero, List.set_cons_succ]
  refine zgo_take 11 (v := ?_) rfl (by kernel_rfl) (by kernel_rfl) (by kernel_rfl) (by kernel_rfl) (fun _ _ _ h => h) (by rfl) ?_ (by assumption) ?_
  rotate_left
  · (intro w hSw; (try dsimp only at hSw); go_simp; all_goals (with_reducible rfl))
  try simp only [Act.put, List.setIfInBounds_toArray, List.set_cons_zero, List.set_cons_succ]
  refine zgo_take 12 (v := ?_) rfl (by kernel_rfl) (by kernel_rfl) (by kernel_rfl) (by kernel_rfl) (fun _ _ _ h => h) (by rfl) ?_ (by assumption) ?_
  rotate_left
  · (intro w hSw; (try dsimp only at hSw); go_simp; all_goals (with_reducible rfl))
  try simp only [Act.put, List.setIfInBounds_toArray, List.set_cons_zero, List.set_cons_succ]
  refine zgo_take 13 (v := ?_) rfl (by kernel_rfl) (by kernel_rfl) (by kernel_rfl) (by kernel_rfl) (fun _ _ _ h => h) (by rfl) ?_ (by assumption) ?_
  rotate_left
  · (intro w hSw; (try dsimp only at hSw); go_simp; all_goals (with_reducible rfl))
  try simp only [Act.put, List.setIfInBounds_toArray, List.set_cons_zero, List.set_cons_succ]
  refine zgo_take 14 (v := ?_) rfl (by kernel_rfl) (by kernel_rfl) (by kernel_rfl) (by kernel_rfl) (fun _ _ _ h => h) (by rfl) ?_ (by assumption) ?_
  rotate_left
  · (intro w hSw; (try dsimp only at hSw); go_simp; all_goals (with_reducible rfl))
  try simp only [Act.put, List.setIfInBounds_toArray, List.set_cons_zero, List.set_cons_succ]
  refine zgo_take 15 (v := ?_) rfl (by kernel_rfl) (by kernel_rfl) (by kernel_rfl) (by kernel_rfl) (fun _ _ _ h => h) (by rfl) ?_ (by assumption) ?_
  rotate_left
  · (intro w hSw; (try dsimp only at hSw); go_simp; all_goals (with_reducible rfl))
  try simp only [Act.put, List.setIfInBounds_toArray, List.set_cons_zero, List.set_cons_succ]
  refine zgo_take 16 (v := ?_) rfl (by kernel_rfl) (by kernel_rfl) (by kernel_rfl) (by kernel_rfl) (fun _ _ _ h => h) (by rfl) ?_ (by assumption) ?_
  rotate_left
  · (intro w hSw; (try dsimp only at hSw); go_simp; all_goals (with_reducible rfl))
  try simp only [Act.put, List.setIfInBounds_toArray, List.set_cons_zero, List.set_cons_succ]
  refine zgo_take 17 (v := ?_) rfl (by kernel_rfl) (by kernel_rfl) (by kernel_rfl) (by kernel_rfl) (fun _ _ _ h => h) (by rfl) ?_ (by assumption) ?_
  rotate_left
  · (intro w hSw; (try dsimp only at hSw); go_simp; all_goals (with_reducible rfl))
  try simp only [Act.put, List.setIfInBounds_toArray, List.set_cons_zero, List.set_cons_succ]
  refine zgo_take 18 (v := ?_) rfl (by kernel_rfl) (by kernel_rfl) (by kernel_rfl) (by kernel_rfl) (fun _ _ _ h => h) (by rfl) ?_ (by assumption) ?_
  rotate_left
  · (intro w hSw; (try dsimp only at hSw); go_simp; all_goals (with_reducible rfl))
  try simp only [Act.put, List.setIfInBounds_toArray, List.set_cons_zero, List.set_cons_succ]
  refine zgo_take 19 (v := ?_) rfl (by kernel_rfl) (by kernel_rfl) (by kernel_rfl) (by kernel_rfl) (fun _ _ _ h => h) (by rfl) ?_ (by assumption) ?_
  rotate_left
  · (intro w hSw; (try dsimp only at hSw); go_simp; all_goals (with_reducible rfl))
  try simp only [Act.put, List.setIfInBounds_toArray, List.set_cons_zero, List.set_cons_succ]
  refine zgo_take 20 (v := ?_) rfl (by kernel_rfl) (by kernel_rfl) (by kernel_rfl) (by kernel_rfl) (fun _ _ _ h => h) (by rfl) ?_ (by assumption) ?_
  rotate_left
  · (intro w hSw; (try dsimp only at hSw); go_simp; all_goals (with_reducible rfl))
  try simp only [Act.put, List.setIfInBounds_toArray, List.set_cons_zero, List.set_cons_succ]
  refine zgo_take 21 (v := ?_) rfl (by kernel_rfl) (by kernel_rfl) (by kernel_rfl) (by kernel_rfl) (fun _ _ _ h => h) (by rfl) ?_ (by assumption) ?_
  rotate_left
  · (intro w hSw; (try dsimp only at hSw); go_simp; all_goals (with_reducible rfl))
  try simp only [Act.put, List.setIfInBounds_toArray, List.set_cons_zero, List.set_cons_succ]
  refine zgo_last (by kernel_rfl) (by kernel_rfl) rfl (fun K hK => ?_)
  obtain ⟨_, _, hH4, hF4⟩ := hHeld
  go_simp
  refine hK.out _ _ ?_
  clear hK K
  have s7 := SnM.below (s5.out.more x) (Drawn.below (drawn_drew _) _)
  have b7 := Lib.hid ((b5.out.trans (s5.out.setB 4 (.string ⟨(s.text ++ x).toArray⟩))).trans ((drawn_drew _).below B))
  have d1 := s7.out.rd.c1
  have d1f := s7.out.rd.fz 1
  have s8 := SnM.call s7 (sf_put (SnM.sf s7) (k + 1) (x := (k : Int) + 1) (by omega)).out
  have b8 := Lib.hid (b7.out.trans (SnM.toBelow s7 (sf_put (SnM.sf s7) (k + 1) (x := (k : Int) + 1) (by omega)).out))
  clear hH4 hF4 hSc
  go_wp2_with fail
  go_ret
  rw [hx.out]
  exact SpPost.go (c' := { c with tx := s.text ++ x }) rfl rfl rfl s8 b8.out

set_option maxRecDepth 100000 in
set_option maxHeartbeats 4000000 in
theorem rinner_any (B R : Nat) (c : SC) (k : Nat) (s : Sc) (P : List (Tk × Value)) (w : World) (h : Hid (SnM w B R c k s P)) (hk : k < c.l.length) (hl : c.l.length ≤ 100000) (hb : s.toks.length ≤ 900000) (ho : s.opn.length ≤ 100000) (ht : s.text.length ≤ 400000) :
    Calls Tryz.prog 35 #[.pointer (some ⟨R, 0, none⟩)] w (SpPost w B R c.l c.dep k (innerR c.dep s (c.l.drop k))) := by
  have hP := show innerR c.dep s (c.l.drop k) = _ from by unfold innerR; rfl
  simp only [List.drop_drop] at hP
  by_cases pp : Lib.hasPrefix (c.l.drop k) [60, 47] = false ∧ Lib.hasPrefix (c.l.drop k) [60, 33, 45, 45] = false ∧ Lib.hasPrefix (c.l.drop k) [60, 33, 91, 67, 68, 65, 84, 65, 91] = false ∧ Lib.hasPrefix (c.l.drop k) [60] = false ∧ Lib.hasPrefix (c.l.drop k) [38] = false
  · obtain ⟨p1, p2, p3, p4, p5⟩ := pp
    rw [p1, p2, p3, p4, p5] at hP
    rw [hP]
    exact rinner_one B R c k s P w h hk hl ht p1 p2 p3 p4 p5
  replace pp := Lib.hid pp
  generalize hoo : innerR c.dep s (c.l.drop k) = o at hP
  replace hoo := Lib.hid hoo
  have hb0 := Lib.hid (SnM.toBelow h (SnM.sf h).out)
  replace hP := Lib.hid hP
  go_enter Tryz.func35, Tryz.ntmps35
  go_wp2_with fail
  refine (sf_has (SnM.sf h) [60, 47] (by omega) hl (by decide)).mono ?_
  rintro e w1 ⟨rfl, r1⟩
  have s1 := SnM.call h r1.out
  have b1 := Lib.hid (hb0.out.trans (SnM.toBelow h r1.out))
  clear r1 hb0
  cases p1 : Lib.hasPrefix (c.l.drop k) [60, 47]
  case true =>
    replace hP := Lib.hid (hP.out.trans (if_pos p1))
    have hpl := prefix_len p1
    rw [List.length_drop] at hpl
    have hpl2 : k + 2 ≤ c.l.length := by simp at hpl; omega
    clear hpl
    replace p1 := Lib.hid p1
    have hend := rend_any B R c k s P w1 s1 hpl2 hl hb ho
    obtain ⟨r, hr⟩ : ∃ r, endR s (c.l.drop k) = r := ⟨_, rfl⟩
    rw [hr] at hend
    replace hP := Lib.hid (hP.out.trans hr)
    replace hr := Lib.hid hr
    go_wp2_with fail
    refine hend.mono ?_
    clear hend
    cases r with
    | bad q =>
      rintro e w2 ⟨rfl, rfl, b2⟩
      have b3 := Lib.hid (b1.out.trans b2)
      clear b2
      go_wp2_with fail
      go_ret
      exact SpPost.bad hP.out b3.out
    | stop => exact fun e w2 h => h.elim
    | go s' n =>
      rintro e w2 ⟨rfl, ⟨c', P', e1, e2, s2⟩, b2⟩
      have b3 := Lib.hid (b1.out.trans b2)
      clear b2
      go_wp2_with fail
      go_ret
      exact SpPost.go hP.out e1 e2 s2 b3.out
  case false =>
  replace hP := Lib.hid (hP.out.trans (if_neg (by rw [p1]; decide)))
  replace p1 := Lib.hid p1
  go_wp2_with fail
  refine (sf_has (SnM.sf s1) [60, 33, 45, 45] (by omega) hl (by decide)).mono ?_
  rintro e w2 ⟨rfl, r2⟩
  have s2 := SnM.call s1 r2.out
  have b2 := Lib.hid (b1.out.trans (SnM.toBelow s1 r2.out))
  clear r2 s1 b1
  cases p2 : Lib.hasPrefix (c.l.drop k) [60, 33, 45, 45]
  case true =>
    replace hP := Lib.hid (hP.out.trans (if_pos p2))
    have hpl := prefix_len p2
    rw [List.length_drop] at hpl
    have hpl2 : k + 4 ≤ c.l.length := by simp at hpl; omega
    clear hpl
    replace p2 := Lib.hid p2
    have hcm := rcomment_any R c k w2 s2.out.rd hpl2 hl
    obtain ⟨r, hr⟩ : ∃ r, commR (c.l.drop k) = r := ⟨_, rfl⟩
    rw [hr] at hcm
    replace hP := Lib.hid (hP.out.trans (by rw [hr]))
    replace hr := Lib.hid hr
    go_wp2_with fail
    refine hcm.mono ?_
    clear hcm
    rintro e w3 ⟨rfl, k', r3, hk'⟩
    have s3 := SnM.call s2 r3
    have b3 := Lib.hid (b2.out.trans (SnM.toBelow s2 r3))
    clear r3 s2 b2
    cases r with
    | none =>
      clear hk'
      go_wp2_with fail
      go_ret
      exact SpPost.bad hP.out b3.out
    | some n =>
      have hk2 := hk' n rfl
      clear hk'
      subst hk2
      go_wp2_with fail
      go_ret
      exact SpPost.go hP.out rfl rfl s3 b3.out
  case false =>
  replace hP := Lib.hid (hP.out.trans (if_neg (by rw [p2]; decide)))
  replace p2 := Lib.hid p2
  go_wp2_with fail
  refine (sf_has (SnM.sf s2) [60, 33, 91, 67, 68, 65, 84, 65, 91] (by omega) hl (by decide)).mono ?_
  rintro e w3 ⟨rfl, r3⟩
  have s3 := SnM.call s2 r3.out
  have b3 := Lib.hid (b2.out.trans (SnM.toBelow s2 r3.out))
  clear r3 s2 b2
  cases p3 : Lib.hasPrefix (c.l.drop k) [60, 33, 91, 67, 68, 65, 84, 65, 91]
  case true =>
    replace hP := Lib.hid (hP.out.trans (if_pos p3))
    have hpl := prefix_len p3
    rw [List.length_drop] at hpl
    have hpl2 : k + 9 ≤ c.l.length := by simp at hpl; omega
    clear hpl
    replace p3 := Lib.hid p3
    have k1 := s3.out.rd.c1
    have k1f := s3.out.rd.fz 1
    have s4 := SnM.call s3 (sf_put (SnM.sf s3) (k + 9) (x := (k : Int) + 9) (by omega)).out
    have b4 := Lib.hid (b3.out.trans (SnM.toBelow s3 (sf_put (SnM.sf s3) (k + 9) (x := (k : Int) + 9) (by omega)).out))
    have hun := runtil_any R c (k + 9) [93, 93, 62] _ s4.out.rd hpl2 hl (by decide)
    have hul := fun x n => untilR_le (t := [93, 93, 62]) (d := c.l.drop (k + 9)) (x := x) (n := n)
    obtain ⟨r, hr⟩ : ∃ r, untilR [93, 93, 62] (c.l.drop (k + 9)) = r := ⟨_, rfl⟩
    rw [hr] at hun hul
    replace hP := Lib.hid (hP.out.trans (by rw [hr]))
    replace hr := Lib.hid hr
    go_wp2_with fail
    refine hun.mono ?_
    clear hun k1 k1f
    cases r with
    | none =>
      rintro e w5 ⟨⟨x, rfl, hx⟩, k', r5⟩
      have s5 := SnM.call s4 r5
      have b5 := Lib.hid (b4.out.trans (SnM.toBelow s4 r5))
      clear r5 s4 b4 s3 b3 hul
      have d4 := s5.out.rd.c4
      rw [s5.out.tx] at d4
      have d4f := s5.out.rd.fz 4
      have s6 := s5.out.more x
      have b6 := Lib.hid (b5.out.trans (s5.out.setB 4 (.string ⟨(s.text ++ x).toArray⟩)))
      go_wp2_with fail
      go_ret
      exact SpPost.bad hP.out b6.out
    | some y =>
      obtain ⟨x, n⟩ := y
      obtain ⟨_, u2, u3⟩ := hul x n rfl
      rw [List.length_drop] at u2
      have hx : x.length ≤ 100000 := by omega
      clear hul
      rintro e w5 ⟨rfl, r5⟩
      have s5 := SnM.call s4 r5
      have b5 := Lib.hid (b4.out.trans (SnM.toBelow s4 r5))
      clear r5 s4 b4 s3 b3
      have d4 := s5.out.rd.c4
      rw [s5.out.tx] at d4
      have d4f := s5.out.rd.fz 4
      have s6 := s5.out.more x
      have b6 := Lib.hid (b5.out.trans (s5.out.setB 4 (.string ⟨(s.text ++ x).toArray⟩)))
      go_wp2_with fail
      go_ret
      exact SpPost.go (n := 9 + n) (c' := { c with tx := s.text ++ x }) hP.out rfl rfl (by rw [show k + (9 + n) = k + 9 + n by omega]; exact s6) b6.out
  case false =>
  replace hP := Lib.hid (hP.out.trans (if_neg (by rw [p3]; decide)))
  replace p3 := Lib.hid p3
  go_wp2_with fail
  refine (sf_has (SnM.sf s3) [60] (by omega) hl (by decide)).mono ?_
  rintro e w4 ⟨rfl, r4⟩
  have s4 := SnM.call s3 r4.out
  have b4 := Lib.hid (b3.out.trans (SnM.toBelow s3 r4.out))
  clear r4 s3 b3
  cases p4 : Lib.hasPrefix (c.l.drop k) [60]
  case true =>
    replace hP := Lib.hid (hP.out.trans (if_pos p4))
    have hleads : leadsB (c.l.drop (k + 1)) = (decide (k + 1 < c.l.length) && leadI (bt c.l (k + 1))) := by
      unfold leadsB
      rw [bt_drop, List.length_drop, Nat.add_zero]
      congr 1
      rw [decide_eq_decide]; omega
    rw [hleads] at hP
    clear hleads
    replace p4 := Lib.hid p4
    have c0 := s4.out.rd.c0
    have c1 := s4.out.rd.c1
    have s5 : ∀ n : Nat, Hid (SnM (w4.drewN n) B R c k s P) := fun n => SnM.below s4 (Drawn.below (drawn_drewN w4 n) _)
    have b5 : ∀ n : Nat, Hid (Below B w (w4.drewN n)) := fun n => b4.out.trans (Drawn.below (drawn_drewN w4 n) B)
    by_cases hlt : k + 1 < c.l.length
    · have hlt1 : (k : Int) + 1 < c.l.length := by omega
      have hle := fun W : World => rfirst_any (bt c.l (k + 1)) W
      rw [decide_eq_true hlt, Bool.true_and] at hP
      cases hld : leadI (bt c.l (k + 1))
      · rw [hld] at hP hle
        replace hP := Lib.hid (hP.out.trans (if_neg (by decide)))
        replace hle := Lib.hid hle
        replace hld := Lib.hid hld
        go_wp2_with fail
        go_quiet ((go_at_call 50; exact Calls.drawn_at (hle.out _)))
        go_wp2_with fail
        go_ret
        exact SpPost.bad hP.out (b5 _).out
      · rw [hld] at hP hle
        replace hP := Lib.hid (hP.out.trans (if_pos rfl))
        replace hle := Lib.hid hle
        replace hld := Lib.hid hld
        go_wp2_with fail
        go_quiet ((go_at_call 50; exact Calls.drawn_at (hle.out _)))
        go_wp2_with fail
        refine (rbegin_any B R c k s P _ (s5 _) hk hl hb ho).mono ?_
        obtain ⟨r, hr⟩ : ∃ r, beginR c.dep s (c.l.drop k) = r := ⟨_, rfl⟩
        rw [hr]
        replace hP := Lib.hid (hP.out.trans hr)
        replace hr := Lib.hid hr
        clear c0 c1 s4
        cases r with
        | bad q =>
          rintro e w6 ⟨rfl, b6⟩
          have b7 := Lib.hid ((b5 _).out.trans b6)
          clear b6
          go_wp2_with fail
          go_ret
          exact SpPost.bad hP.out b7.out
        | stop => exact fun e w2 h => h.elim
        | go s' n =>
          rintro e w6 ⟨rfl, ⟨c', P', e1, e2, s6⟩, b6⟩
          have b7 := Lib.hid ((b5 _).out.trans b6)
          clear b6
          go_wp2_with fail
          go_ret
          exact SpPost.go hP.out e1 e2 s6 b7.out
    · have hlt1 : decide ((k : Int) + 1 < c.l.length) = false := by rw [decide_eq_false_iff_not]; omega
      rw [decide_eq_false hlt, Bool.false_and] at hP
      replace hP := Lib.hid (hP.out.trans (if_neg (by decide)))
      replace hlt := Lib.hid hlt
      go_wp2_with fail
      go_quiet (fail)
      go_wp2_with fail
      go_ret
      exact SpPost.bad hP.out (b5 _).out
  case false =>
  replace hP := Lib.hid (hP.out.trans (if_neg (by rw [p4]; decide)))
  replace p4 := Lib.hid p4
  go_wp2_with fail
  refine (sf_has (SnM.sf s4) [38] (by omega) hl (by decide)).mono ?_
  rintro e w5 ⟨rfl, r5⟩
  have s5 := SnM.call s4 r5.out
  have b5 := Lib.hid (b4.out.trans (SnM.toBelow s4 r5.out))
  clear r5 s4 b4
  cases p5 : Lib.hasPrefix (c.l.drop k) [38]
  case false => exact absurd ⟨p1.out, p2.out, p3.out, p4.out, p5⟩ pp.out
  replace hP := Lib.hid (hP.out.trans (if_pos p5))
  have h38 := ((pre_one _ _).1 p5).2
  rw [bt_drop, Nat.add_zero] at h38
  replace p5 := Lib.hid p5
  have hnm := rnamed_any R c k w5 s5.out.rd hk h38 hl
  have hrb := fun x n => refP_bd (d := c.l.drop k) (x := x) (n := n)
  obtain ⟨r, hr⟩ : ∃ r, refP (c.l.drop k) = r := ⟨_, rfl⟩
  rw [hr] at hnm hrb
  replace hP := Lib.hid (hP.out.trans (by rw [hr]))
  replace hr := Lib.hid hr
  replace h38 := Lib.hid h38
  go_wp2_with fail
  refine hnm.mono ?_
  clear hnm
  cases r with
  | none =>
    rintro e w6 ⟨⟨x, rfl, hx⟩, k', r6⟩
    have s6 := SnM.call s5 r6
    have b6 := Lib.hid (b5.out.trans (SnM.toBelow s5 r6))
    clear r6 s5 b5 hrb
    have d4 := s6.out.rd.c4
    rw [s6.out.tx] at d4
    have d4f := s6.out.rd.fz 4
    have b7 := Lib.hid (b6.out.trans (s6.out.setB 4 (.string ⟨(s.text ++ x).toArray⟩)))
    go_wp2_with fail
    go_ret
    exact SpPost.bad hP.out b7.out
  | some y =>
    obtain ⟨x, n⟩ := y
    obtain ⟨_, u2, u3⟩ := hrb x n rfl
    clear hrb
    rintro e w6 ⟨rfl, r6⟩
    have s6 := SnM.call s5 r6
    have b6 := Lib.hid (b5.out.trans (SnM.toBelow s5 r6))
    clear r6 s5 b5
    have d4 := s6.out.rd.c4
    rw [s6.out.tx] at d4
    have d4f := s6.out.rd.fz 4
    have s7 := s6.out.more x
    have b7 := Lib.hid (b6.out.trans (s6.out.setB 4 (.string ⟨(s.text ++ x).toArray⟩)))
    go_wp2_with fail
    go_ret
    exact SpPost.go (c' := { c with tx := s.text ++ x }) hP.out rfl rfl s7 b7.out
end Go.Proofs.YtahohmdbiiknoaaGreatDoor

/- The reference of layer 11: outer. -/
namespace Go.Proofs.YtahohmdbiiknoaaGreatDoor
open Go.RowKit

theorem rhas_at {w0 w : World} {R : Nat} {c : SC} {k : Nat} (h : Hid (Sf w0 w R c k)) (p : List UInt8) (hk : k ≤ c.l.length) (hl : c.l.length ≤ 100000) (hp : p.length ≤ 100) (b : Bool) (hb : Lib.hasPrefix (c.l.drop k) p = b) (n : Nat) :
    Calls Tryz.prog 32 #[.pointer (some ⟨R, 0, none⟩), .string ⟨p.toArray⟩] (w.drewN n) fun e w' => e = .returned (.bool b) ∧ ∃ m, w' = w.drewN m :=
  (rhas_any R c k p (w.drewN n) (sf_drawn h n).out.1 hk hl hp).mono fun _ _ h => ⟨by rw [← hb]; exact h.1, by obtain ⟨m, rfl⟩ := h.2; exact ⟨n + m, by simp⟩⟩

set_option maxRecDepth 100000 in
set_option maxHeartbeats 4000000 in
theorem router_any (B R : Nat) (c : SC) (k : Nat) (s : Sc) (P : List (Tk × Value)) (w : World) (h : Hid (SnM w B R c k s P)) (hk : k < c.l.length) (hl : c.l.length ≤ 100000) (hb : s.toks.length ≤ 900000) (ho : s.opn.length ≤ 100000) :
    Calls Tryz.prog 36 #[.pointer (some ⟨R, 0, none⟩)] w (SpPost w B R c.l c.dep k (outerR c.dep s (c.l.drop k))) := by
  have hP := show outerR c.dep s (c.l.drop k) = _ from by unfold outerR; rfl
  generalize hoo : outerR c.dep s (c.l.drop k) = o at hP
  replace hoo := Lib.hid hoo
  replace hP := Lib.hid hP
  go_enter Tryz.func36, Tryz.ntmps36
  go_wp2_with fail
  refine (sf_blanks (SnM.sf h) (by omega) hl).mono ?_
  rintro e w1 ⟨rfl, r1⟩
  have s1 := SnM.call h r1.out
  have b1 := Lib.hid (SnM.toBelow h r1.out)
  clear r1
  obtain ⟨n, hn⟩ : ∃ n, spanN blI (c.l.drop k) = n := ⟨_, rfl⟩
  rw [hn] at s1
  rw [hn]
  have hP2 := hP.out
  rw [hn] at hP2
  replace hP := Lib.hid hP2
  clear hP2
  replace hn := Lib.hid hn
  by_cases hn0 : 0 < n
  · replace hP := Lib.hid (hP.out.trans (if_pos hn0))
    have hn1 : (0 : Int) < n := by omega
    go_wp2_with fail
    go_ret
    exact SpPost.go hP.out rfl rfl s1 b1.out
  obtain rfl : n = 0 := by omega
  replace hP := Lib.hid (hP.out.trans (if_neg hn0))
  rw [Nat.add_zero] at s1
  clear hn0
  go_wp2_with fail
  refine (sf_has (SnM.sf s1) [60, 33, 45, 45] (by omega) hl (by decide)).mono ?_
  rintro e w2 ⟨rfl, r2⟩
  have s2 := SnM.call s1 r2.out
  have b2 := Lib.hid (b1.out.trans (SnM.toBelow s1 r2.out))
  clear r2 s1 b1
  cases p2 : Lib.hasPrefix (c.l.drop k) [60, 33, 45, 45]
  case true =>
    replace hP := Lib.hid (hP.out.trans (if_pos p2))
    have hpl := prefix_len p2
    rw [List.length_drop] at hpl
    have hpl2 : k + 4 ≤ c.l.length := by simp at hpl; omega
    clear hpl
    replace p2 := Lib.hid p2
    have hcm := rcomment_any R c k w2 s2.out.rd hpl2 hl
    obtain ⟨r, hr⟩ : ∃ r, commR (c.l.drop k) = r := ⟨_, rfl⟩
    rw [hr] at hcm
    replace hP := Lib.hid (hP.out.trans (by rw [hr]))
    replace hr := Lib.hid hr
    go_wp2_with fail
    refine hcm.mono ?_
    clear hcm
    rintro e w3 ⟨rfl, k', r3, hk'⟩
    have s3 := SnM.call s2 r3
    have b3 := Lib.hid (b2.out.trans (SnM.toBelow s2 r3))
    clear r3 s2 b2
    cases r with
    | none =>
      clear hk'
      go_wp2_with fail
      go_ret
      exact SpPost.bad hP.out b3.out
    | some n =>
      have hk2 := hk' n rfl
      clear hk'
      subst hk2
      go_wp2_with fail
      go_ret
      exact SpPost.go hP.out rfl rfl s3 b3.out
  case false =>
  replace hP := Lib.hid (hP.out.trans (if_neg (by rw [p2]; decide)))
  replace p2 := Lib.hid p2
  have c0 := s2.out.rd.c0
  have c1 := s2.out.rd.c1
  have c6 := s2.out.rd.c6
  rw [s2.out.rt] at c6
  have s5 : ∀ n : Nat, Hid (SnM (w2.drewN n) B R c k s P) := fun n => SnM.below s2 (Drawn.below (drawn_drewN w2 n) _)
  have b5 : ∀ n : Nat, Hid (Below B w (w2.drewN n)) := fun n => b2.out.trans (Drawn.below (drawn_drewN w2 n) B)
  have hE : elemB (c.l.drop k) = (Lib.hasPrefix (c.l.drop k) [60] && (decide (k + 1 < c.l.length) && leadI (bt c.l (k + 1)))) := by
    unfold elemB leadsB
    rw [List.drop_drop, bt_drop, List.length_drop, Nat.add_zero]
    congr 2
    rw [decide_eq_decide]; omega
  rw [hE] at hP
  clear hE
  cases hrt : s.rooted
  case true =>
    replace hP := Lib.hid (hP.out.trans (if_neg (by rintro ⟨e, _⟩; rw [hrt] at e; cases e)))
    rw [hrt] at c6
    have hh := rhas_at (SnM.sf s2) [60] (by omega) hl (by decide) _ rfl
    replace hh := Lib.hid hh
    replace hrt := Lib.hid hrt
    go_wp2_with fail
    go_quiet ((go_at_call 32; exact hh.out _))
    go_wp2_with fail
    go_ret
    exact SpPost.bad hP.out (b5 _).out
  case false =>
    rw [hrt] at c6
    cases p4 : Lib.hasPrefix (c.l.drop k) [60]
    case false =>
      replace hP := Lib.hid (hP.out.trans (if_neg (by rintro ⟨_, e⟩; rw [p4] at e; cases e)))
      have hh := rhas_at (SnM.sf s2) [60] (by omega) hl (by decide) _ p4
      replace hh := Lib.hid hh
      replace hrt := Lib.hid hrt
      replace p4 := Lib.hid p4
      go_wp2_with fail
      go_quiet ((go_at_call 32; exact hh.out _))
      go_wp2_with fail
      go_ret
      exact SpPost.bad hP.out (b5 _).out
    case true =>
      have hh := rhas_at (SnM.sf s2) [60] (by omega) hl (by decide) _ p4
      replace hh := Lib.hid hh
      by_cases hlt : k + 1 < c.l.length
      · have hlt1 : (k : Int) + 1 < c.l.length := by omega
        have hle := fun W : World => rfirst_any (bt c.l (k + 1)) W
        cases hld : leadI (bt c.l (k + 1))
        · replace hP := Lib.hid (hP.out.trans (if_neg (by rintro ⟨_, e⟩; rw [hld] at e; simp at e)))
          rw [hld] at hle
          replace hle := Lib.hid hle
          replace hld := Lib.hid hld
          replace hrt := Lib.hid hrt
          replace p4 := Lib.hid p4
          go_wp2_with fail
          go_quiet (first | (go_at_call 32; exact hh.out _) | (go_at_call 50; exact Calls.drawn_at (hle.out _)))
          go_wp2_with fail
          go_ret
          exact SpPost.bad hP.out (b5 _).out
        · replace hP := Lib.hid (hP.out.trans (if_pos ⟨hrt, by rw [p4, decide_eq_true hlt, hld]; rfl⟩))
          rw [hld] at hle
          replace hle := Lib.hid hle
          replace hld := Lib.hid hld
          replace hrt := Lib.hid hrt
          replace p4 := Lib.hid p4
          go_wp2_with fail
          go_quiet (first | (go_at_call 32; exact hh.out _) | (go_at_call 50; exact Calls.drawn_at (hle.out _)))
          go_wp2_with fail
          refine (rbegin_any B R c k s P _ (s5 _) hk hl hb ho).mono ?_
          obtain ⟨r, hr⟩ : ∃ r, beginR c.dep s (c.l.drop k) = r := ⟨_, rfl⟩
          rw [hr]
          replace hP := Lib.hid (hP.out.trans hr)
          replace hr := Lib.hid hr
          clear c0 c1 c6 s2
          cases r with
          | bad q =>
            rintro e w6 ⟨rfl, b6⟩
            have b7 := Lib.hid ((b5 _).out.trans b6)
            clear b6
            go_wp2_with fail
            go_ret
            exact SpPost.bad hP.out b7.out
          | stop => exact fun e w2 h => h.elim
          | go s' n =>
            rintro e w6 ⟨rfl, ⟨c', P', e1, e2, s6⟩, b6⟩
            have b7 := Lib.hid ((b5 _).out.trans b6)
            clear b6
            go_wp2_with fail
            go_ret
            exact SpPost.go hP.out e1 e2 s6 b7.out
      · have hlt1 : decide ((k : Int) + 1 < c.l.length) = false := by rw [decide_eq_false_iff_not]; omega
        replace hP := Lib.hid (hP.out.trans (if_neg (by rintro ⟨_, e⟩; rw [decide_eq_false hlt] at e; simp at e)))
        replace hlt := Lib.hid hlt
        replace hrt := Lib.hid hrt
        replace p4 := Lib.hid p4
        go_wp2_with fail
        go_quiet ((go_at_call 32; exact hh.out _))
        go_wp2_with fail
        go_ret
        exact SpPost.bad hP.out (b5 _).out
end Go.Proofs.YtahohmdbiiknoaaGreatDoor

/- The walks of utf.follow, utf.cut, utf.Next and of the reference's lead and Next. -/
namespace Go.Proofs.YtahohmdbiiknoaaGreatDoor
open Go.RowKit

theorem fl_ret {c x y z : Int} (h : fl c = (x, y, z)) : Ending.returned (.tuple #[.int .i64 x, .int .u8 y, .int .u8 z]) = .returned (.tuple #[.int .i64 (fl c).1, .int .u8 (fl c).2.1, .int .u8 (fl c).2.2]) := by rw [h]

set_option maxHeartbeats 400000 in
theorem reflead_any (c : Int) (w : World) (h0 : 0 ≤ c) (h1 : c ≤ 255) :
    Calls Tryz.prog 66 #[.int .u8 c] w fun e w' => e = .returned (.tuple #[.int .i64 (fl c).1, .int .u8 (fl c).2.1, .int .u8 (fl c).2.2]) ∧ w = w' := by
  go_enter Tryz.func66, Tryz.ntmps66
  go_wp2
  all_goals go_ret3
  all_goals refine ⟨fl_ret ?_, rfl⟩
  all_goals try simp only [beq_iff_eq, beq_eq_false_iff_ne, ne_eq] at *
  all_goals (unfold fl; repeat (first | rw [if_pos (by omega)] | rw [if_neg (by omega)]))

/-- What a loop over the bytes behind a lead keeps. -/
structure CutAt (l : List UInt8) (n : Int) (k : Nat) (lo hi r : Int) : Prop where
  one : 1 ≤ k
  kn : (k : Int) ≤ n + 1
  kl : k ≤ l.length
  lo0 : 0 ≤ lo
  lo1 : lo ≤ 255
  hi0 : 0 ≤ hi
  hi1 : hi ≤ 255
  r0 : 0 ≤ r
  r1 : (k = 1 ∧ r < 32) ∨ (k = 2 ∧ r < 2048) ∨ (k = 3 ∧ r < 131072) ∨ (k = 4 ∧ r < 8388608)
  go : cutGo l n (5 - k) k lo hi r = cutS l

theorem CutAt.step {l : List UInt8} {n : Int} {k : Nat} {lo hi r : Int} (h : CutAt l n k lo hi r) (hn : n ≤ 3) (h0 : (k : Int) ≤ n) (h1 : ¬ ((k : Int) = l.length)) (h2 : lo ≤ bt l k) (h3 : bt l k ≤ hi) :
    CutAt l n (k + 1) 128 191 (r * 64 + bt l k % 64) := by
  have hkl := h.kl
  have hr := h.r1
  have hr0 := h.r0
  refine ⟨by omega, by omega, by omega, by omega, by omega, by omega, by omega, by omega, by omega, ?_⟩
  rw [← h.go, cutGo_step h0 (by omega) (by omega) h2 h3]
theorem CutAt.bad {l : List UInt8} {n : Int} {k : Nat} {lo hi r : Int} (h : CutAt l n k lo hi r) (hn : n ≤ 3) (h0 : (k : Int) ≤ n) (h1 : (k : Int) = l.length ∨ bt l k < lo ∨ hi < bt l k) :
    cutS l = (65533, (k : Int), false) := by
  rw [← h.go, cutGo_bad h0 (by omega) (by omega)]
theorem CutAt.out {l : List UInt8} {n : Int} {k : Nat} {lo hi r : Int} (h : CutAt l n k lo hi r) (hn : n ≤ 3) (h0 : (k : Int) ≤ n) (h1 : (k : Int) = l.length) :
    cutS l = (65533, (l.length : Int), false) := by
  rw [h.bad hn h0 (Or.inl h1), h1]
theorem CutAt.done {l : List UInt8} {n : Int} {k : Nat} {lo hi r : Int} (h : CutAt l n k lo hi r) (hn : n ≤ 3) (h0 : n < (k : Int)) :
    cutS l = (r, n + 1, true) := by
  have := h.kn
  rw [← h.go, cutGo_done h0 (by omega)]
theorem CutAt.start {l : List UInt8} {n lo hi : Int} (h0 : l ≠ []) (_hx : 128 ≤ bt l 0) (hf : fl (bt l 0) = (n, lo, hi)) (hn : 1 ≤ n) (r : Int) (hr : r = bt l 0 % (2 ^ (6 - n.toNat) : Nat)) (hr0 : 0 ≤ r) (hr1 : r < 32) : CutAt l n 1 lo hi r := by
  have hl := len_pos h0
  rcases fl_cases (bt l 0) with ⟨hf', hc⟩ | ⟨n', lo', hi', hf', c1, c2, c3, c4, c5, c6, hc⟩
  · rw [hf'] at hf; simp at hf; omega
  rw [hf'] at hf; simp at hf
  obtain ⟨rfl, rfl, rfl⟩ := hf
  refine ⟨by omega, by omega, by omega, by omega, by omega, by omega, by omega, hr0, by omega, ?_⟩
  unfold cutS
  rw [if_neg h0, if_neg (by omega), hf', if_neg (by simp only; omega), ← hr]

theorem cut_ret {l : List UInt8} {x y : Int} {z : Bool} (h : cutS l = (x, y, z)) : Ending.returned (.tuple #[.int .i32 x, .int .i64 y, .bool z]) = .returned (.tuple #[.int .i32 (cutS l).1, .int .i64 (cutS l).2.1, .bool (cutS l).2.2]) := by rw [h]
theorem next_ret {l : List UInt8} {x y : Int} {z : Bool} (h : cutS l = (x, y, z)) : Ending.returned (.tuple #[.int .i32 x, .int .i64 y]) = .returned (.tuple #[.int .i32 (cutS l).1, .int .i64 (cutS l).2.1]) := by rw [h]

theorem cutS_lo {l : List UInt8} (h : l ≠ []) (hx : bt l 0 < 128) : cutS l = (bt l 0, 1, true) := by unfold cutS; rw [if_neg h, if_pos hx]
theorem cutS_not {l : List UInt8} (h : l ≠ []) (hx : 128 ≤ bt l 0) {lo hi : Int} (hf : fl (bt l 0) = (0, lo, hi)) : cutS l = (65533, 1, false) := by unfold cutS; rw [if_neg h, if_neg (by omega), if_pos (by rw [hf])]

set_option maxRecDepth 100000 in
set_option maxHeartbeats 400000 in
theorem refnext_any (l : List UInt8) (w : World) (hs : l.length ≤ maxLen) :
    Calls Tryz.prog 47 #[.string ⟨l.toArray⟩] w fun e w' => e = .returned (.tuple #[.int .i32 (cutS l).1, .int .i64 (cutS l).2.1]) ∧ Drawn w w' := by
  unfold maxLen at hs
  by_cases h0 : l = []
  · subst h0
    go_enter Tryz.func47, Tryz.ntmps47
    go_wp2_with fail
    go_ret2
    exact ⟨rfl, Drawn.refl _⟩
  have hl := len_pos h0
  have he : l.isEmpty = false := by cases l <;> simp_all
  have hb := bt_lt l 0
  replace h0 := Lib.hid h0
  by_cases hx : bt l 0 < 128
  · go_enter Tryz.func47, Tryz.ntmps47
    go_wp2_with fail
    go_ret2
    exact ⟨next_ret (cutS_lo h0.out hx), Drawn.refl _⟩
  obtain ⟨n, lo, hi, hf⟩ : ∃ n lo hi, fl (bt l 0) = (n, lo, hi) := ⟨_, _, _, rfl⟩
  have hn : n = 0 ∨ n = 1 ∨ n = 2 ∨ n = 3 := by
    rcases fl_cases (bt l 0) with ⟨hf', hc⟩ | ⟨n', lo', hi', hf', c1, c2, c3, c4, c5, c6, hc⟩ <;> (rw [hf] at hf'; simp at hf'; omega)
  replace hf := Lib.hid hf
  obtain ⟨m, hm⟩ : ∃ m : Int, m = n := ⟨n, rfl⟩
  have hm0 : m ≤ n ∧ n ≤ m := by omega
  replace hm := Lib.hid hm
  have e1 : bits .and .i32 (bt l 0) 31 = bt l 0 % 32 := bits_mask .i32 31 (by decide) wraps_i32 5 (by decide) _ (by omega) (by omega)
  have e2 : bits .and .i32 (bt l 0) 15 = bt l 0 % 16 := bits_mask .i32 31 (by decide) wraps_i32 4 (by decide) _ (by omega) (by omega)
  have e3 : bits .and .i32 (bt l 0) 7 = bt l 0 % 8 := bits_mask .i32 31 (by decide) wraps_i32 3 (by decide) _ (by omega) (by omega)
  rcases hn with rfl | rfl | rfl | rfl
  · go_enter Tryz.func47, Tryz.ntmps47
    go_wp2_with fail
    refine (reflead_any _ _ (by omega) (by omega)).mono ?_; rintro e w' ⟨rfl, rfl⟩
    rw [hf.out]
    go_wp2_with fail
    go_ret2
    exact ⟨next_ret (cutS_not h0.out (by omega) hf.out), Drawn.refl _⟩
  all_goals
    go_enter Tryz.func47, Tryz.ntmps47
    go_wp2_with fail
    refine (reflead_any _ _ (by omega) (by omega)).mono ?_; rintro e w' ⟨rfl, rfl⟩
    rw [hf.out]
    go_wp2_with fail
  all_goals clear e1 e2 e3
  all_goals
    go_loop [5, 6, 7, 8] (fun s6 s7 r i => ∃ k : Nat, ∃ lo hi rr : Int, CutAt l m k lo hi rr ∧ i = .int .i64 k ∧ s6 = .int .u8 lo ∧ s7 = .int .u8 hi ∧ r = .int .i32 rr) (fun _ _ _ i => 4 - (intOf i).toNat)
    case atStart =>
      refine ⟨1, lo, hi, _, ?_, rfl, rfl, rfl, rfl⟩
      rw [hm.out]
      exact CutAt.start h0.out (by omega) hf.out (by omega) _ rfl (by omega) (by first | omega | (simp; omega))
    case round =>
      obtain ⟨k, lo, hi, rr, hc, rfl, rfl, rfl, rfl⟩ := hrel
      have hbk := bt_lt l k
      obtain ⟨q1, q2, q3, q4, q5, q6, q7, q8, q9, q10⟩ := id hc
      clear q10
      go_wp2
      all_goals rw [hm.out] at hc
      case roundEnd =>
        exact ⟨⟨k + 1, 128, 191, _, hm.out ▸ hc.step (by omega) (by assumption) (by assumption) (by assumption) (by omega), by go_num, rfl, rfl, rfl⟩, by simp [intOf]; omega⟩
      all_goals go_ret2
      all_goals try simp only [beq_iff_eq] at *
      all_goals first
        | exact ⟨next_ret (hc.done (by omega) (by omega)), Drawn.refl _⟩
        | exact ⟨next_ret (hc.bad (by omega) (by omega) (by omega)), Drawn.refl _⟩
        | exact ⟨next_ret (hc.out (by omega) (by omega) (by omega)), Drawn.refl _⟩
end Go.Proofs.YtahohmdbiiknoaaGreatDoor
