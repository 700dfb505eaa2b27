/- The reference of layer 11: value. -/
import Derived.Test.YtahohmdbiiknoaaGreatDoorBR21
import Derived.Test.YtahohmdbiiknoaaGreatDoorBR01
import Derived.Test.YtahohmdbiiknoaaGreatDoorBR07
import Derived.Deep.RegionLaw
import Derived.Deep.AppendLies
namespace Go.Proofs.YtahohmdbiiknoaaGreatDoor
open Go.RowKit

theorem pre_one (d : List UInt8) (q : UInt8) : Lib.hasPrefix d [q] = true ↔ 0 < d.length ∧ bt d 0 = (q.toNat : Int) := by
  cases d with
  | nil => simp [Lib.hasPrefix]
  | cons c t =>
    rw [bt_u8]
    simp only [Lib.hasPrefix, List.isPrefixOf, Bool.and_true, beq_iff_eq, List.length_cons]
    exact ⟨fun e => ⟨by omega, e.symm⟩, fun e => e.2.symm⟩
theorem u8_of_bt (l : List UInt8) (m : Nat) : u8 (bt l m) = l.getD m 0 := by unfold bt; simp [u8]
theorem ix_two (q c : UInt8) : 0 ≤ Lib.indexByte [60, q] c ↔ c = 60 ∨ c = q := by rw [indexByte_mem]; simp
theorem valueP_no {d : List UInt8} (h : d.length = 0 ∨ bt d 0 ≠ 34 ∧ bt d 0 ≠ 39) : valueP d = none := by
  unfold valueP
  rw [if_pos]
  rw [Bool.eq_false_iff]
  intro e
  have := (pre_one _ _).1 e
  rcases h with h | h
  · omega
  · revert this
    split
    · rintro ⟨_, e2⟩; exact h.2 e2
    · rintro ⟨_, e2⟩; exact h.1 e2
theorem valueP_eq {d : List UInt8} {q : UInt8} (hq : q = 34 ∨ q = 39) (h0 : 0 < d.length) (hb : bt d 0 = (q.toNat : Int)) : valueP d = match runP [60, q] (d.drop 1) with
    | none => none
    | some (x, n) => if Lib.hasPrefix (d.drop (1 + n)) [q] then some (x, 1 + n + 1) else none := by
  have hp : Lib.hasPrefix d [q] = true := (pre_one _ _).2 ⟨h0, hb⟩
  have h39 : (if Lib.hasPrefix d [39] = true then (39 : UInt8) else 34) = q := by
    rcases hq with rfl | rfl
    · rw [if_neg]
      intro e
      have := ((pre_one _ _).1 e).2
      rw [hb] at this
      revert this; decide
    · rw [if_pos hp]
  unfold valueP
  rw [h39, hp]
  rfl
theorem value_stop {d acc : List UInt8} {q : UInt8} {j : Nat} (hq : q = 34 ∨ q = 39) (h0 : 0 < d.length) (hb : bt d 0 = (q.toNat : Int)) (h : RunAt [60, q] (d.drop 1) j acc) (e : runF [60, q] acc ((d.drop 1).drop j) = .stop) :
    valueP d = if Lib.hasPrefix (d.drop (1 + j)) [q] then some (acc, 1 + j + 1) else none := by rw [valueP_eq hq h0 hb, h.stop e]
theorem value_bad {d acc : List UInt8} {q : UInt8} {j : Nat} (hq : q = 34 ∨ q = 39) (h0 : 0 < d.length) (hb : bt d 0 = (q.toNat : Int)) (h : RunAt [60, q] (d.drop 1) j acc) (e : runF [60, q] acc ((d.drop 1).drop j) = .bad ()) :
    valueP d = none := by rw [valueP_eq hq h0 hb, h.bad e]
/-- What the loop of value keeps. -/
structure VaAt (l : List UInt8) (k m : Nat) (q : UInt8) (acc : List UInt8) : Prop where
  lo : k + 1 ≤ m
  hi : m ≤ l.length
  run : RunAt [60, q] ((l.drop k).drop 1) (m - (k + 1)) acc
  qq : q = 34 ∨ q = 39
  hb : bt l k = (q.toNat : Int)
section
variable {l acc : List UInt8} {k m : Nat} {q : UInt8}
theorem VaAt.d0 (h : VaAt l k m q acc) : 0 < (l.drop k).length ∧ bt (l.drop k) 0 = (q.toNat : Int) := by
  have := h.lo; have := h.hi
  exact ⟨by rw [List.length_drop]; omega, by rw [bt_drop]; exact h.hb⟩
theorem VaAt.dd (h : VaAt l k m q acc) : ((l.drop k).drop 1).drop (m - (k + 1)) = l.drop m := by
  rw [List.drop_drop, List.drop_drop]; congr 1; have := h.lo; omega
theorem VaAt.len (h : VaAt l k m q acc) : acc.length ≤ 4 * m := by have := h.run.len; omega
theorem runF_here {ends acc l : List UInt8} {m : Nat} (hm : m < l.length) :
    (0 ≤ Lib.indexByte ends (l.getD m 0) → runF ends acc (l.drop m) = .stop) ∧
    (Lib.indexByte ends (l.getD m 0) < 0 → bt l m ≠ 38 → runF ends acc (l.drop m) = .go (acc ++ [l.getD m 0]) 1) ∧
    (Lib.indexByte ends (l.getD m 0) < 0 → bt l m = 38 → runF ends acc (l.drop m) = match refP (l.drop m) with | none => .bad () | some (x, n) => .go (acc ++ x) n) := runF_at hm
theorem bt_gd (l : List UInt8) (m : Nat) (q : UInt8) : bt l m = (q.toNat : Int) ↔ l.getD m 0 = q := by
  rw [bt_get0']
  constructor
  · intro h; exact UInt8.toNat_inj.1 (by omega)
  · intro h; rw [h]
/-- At its end. -/
theorem VaAt.out (h : VaAt l k m q acc) (hm : ¬ m < l.length) : valueP (l.drop k) = none := by
  have hd := h.dd
  have e : runF [60, q] acc (((l.drop k).drop 1).drop (m - (k + 1))) = .stop := by rw [hd, List.drop_eq_nil_of_le (by omega)]; rfl
  rw [value_stop h.qq h.d0.1 h.d0.2 h.run e, if_neg]
  intro e2
  have := ((pre_one _ _).1 e2).1
  rw [List.length_drop, List.length_drop] at this
  have := h.lo
  omega
theorem VaAt.hit (h : VaAt l k m q acc) (hm : m < l.length) (e : bt l m = (q.toNat : Int)) : valueP (l.drop k) = some (acc, m + 1 - k) := by
  have hd := h.dd
  have hlo := h.lo
  have e1 := (runF_here (ends := [60, q]) (acc := acc) hm).1 ((ix_two _ _).2 (Or.inr ((bt_gd _ _ _).1 e)))
  rw [← hd] at e1
  rw [value_stop h.qq h.d0.1 h.d0.2 h.run e1, if_pos]
  · congr 2; omega
  · rw [pre_one, List.drop_drop, bt_drop, List.length_drop]
    rw [show k + (1 + (m - (k + 1))) + 0 = m by omega]
    exact ⟨by omega, e⟩
theorem VaAt.lt (h : VaAt l k m q acc) (hm : m < l.length) (e : bt l m = 60) : valueP (l.drop k) = none := by
  have hd := h.dd
  have hlo := h.lo
  have e1 := (runF_here (ends := [60, q]) (acc := acc) hm).1 ((ix_two _ _).2 (Or.inl ((bt_gd _ _ _).1 e)))
  rw [← hd] at e1
  rw [value_stop h.qq h.d0.1 h.d0.2 h.run e1, if_neg]
  rw [pre_one, List.drop_drop, bt_drop]
  rw [show k + (1 + (m - (k + 1))) + 0 = m by omega, e]
  rintro ⟨_, h2⟩
  rcases h.qq with h3 | h3 <;> (rw [h3] at h2; revert h2; decide)
theorem VaAt.ref (h : VaAt l k m q acc) (hm : m < l.length) (e : bt l m = 38) : (refP (l.drop m) = none → valueP (l.drop k) = none) ∧ ∀ x n, refP (l.drop m) = some (x, n) → VaAt l k (m + n) q (acc ++ x) := by
  have hd := h.dd
  have hlo := h.lo
  have hneg : Lib.indexByte [60, q] (l.getD m 0) < 0 := by
    have := ix_two q (l.getD m 0)
    have e3 := (bt_gd l m 38).1 e
    rw [e3] at this ⊢
    have h4 : ¬ ((38 : UInt8) = 60 ∨ (38 : UInt8) = q) := by rcases h.qq with h3 | h3 <;> (rw [h3]; decide)
    have : ¬ 0 ≤ Lib.indexByte [60, q] 38 := fun x => h4 (this.1 x)
    omega
  have e1 := (runF_here (ends := [60, q]) (acc := acc) hm).2.2 hneg e
  refine ⟨fun hr => ?_, fun x n hr => ?_⟩
  · rw [hr, ← hd] at e1
    exact value_bad h.qq h.d0.1 h.d0.2 h.run e1
  · have hb := refP_bd hr
    rw [List.length_drop] at hb
    rw [hr, ← hd] at e1
    have hs := h.run.step e1 (by rw [List.length_append]; omega)
    exact ⟨by omega, by omega, by rw [show m + n - (k + 1) = m - (k + 1) + n by omega]; exact hs, h.qq, h.hb⟩
theorem VaAt.one (h : VaAt l k m q acc) (hm : m < l.length) (e0 : bt l m ≠ (q.toNat : Int)) (e1 : bt l m ≠ 60) (e2 : bt l m ≠ 38) : VaAt l k (m + 1) q (acc ++ [u8 (bt l m)]) := by
  have hd := h.dd
  have hlo := h.lo
  have hneg : Lib.indexByte [60, q] (l.getD m 0) < 0 := by
    have := ix_two q (l.getD m 0)
    have h4 : ¬ (l.getD m 0 = 60 ∨ l.getD m 0 = q) := by
      rintro (h3 | h3)
      · exact e1 ((bt_gd _ _ _).2 h3)
      · exact e0 ((bt_gd _ _ _).2 h3)
    have : ¬ 0 ≤ Lib.indexByte [60, q] (l.getD m 0) := fun x => h4 (this.1 x)
    omega
  have e3 := (runF_here (ends := [60, q]) (acc := acc) hm).2.1 hneg e2
  rw [← hd] at e3
  have hs := h.run.step e3 (by simp)
  rw [u8_of_bt]
  exact ⟨by omega, by omega, by rw [show m + 1 - (k + 1) = m - (k + 1) + 1 by omega]; exact hs, h.qq, h.hb⟩
end

set_option maxRecDepth 100000 in
set_option maxHeartbeats 4000000 in
theorem rvalue_any (R : Nat) (c : SC) (k : Nat) (w : World) (h : Sn w R c k) (hk : k ≤ c.l.length) (hl : c.l.length ≤ 100000) :
    Calls Tryz.prog 93 #[.pointer (some ⟨R, 0, none⟩)] w (RtPost w R c k (valueP (c.l.drop k))) := by
  have c1 := h.c1
  have c0 := h.c0
  have f1 := h.fz 1
  have hst := sf_start h
  clear h
  by_cases hkl : ¬ k < c.l.length
  · have he : ((k : Int) == c.l.length) = true := by rw [beq_iff_eq]; omega
    have he2 : (k == c.l.length) = true := by rw [beq_iff_eq]; omega
    have hP := valueP_no (d := c.l.drop k) (Or.inl (by rw [List.length_drop]; omega))
    rw [hP]
    replace hP := Lib.hid hP
    have hkl2 : k = c.l.length := by omega
    replace hkl := Lib.hid hkl
    replace hkl2 := Lib.hid hkl2
    go_enter Tryz.func93, Tryz.ntmps93
    go_wp2_with fail
    go_quiet (fail)
    go_wp2_with fail
    go_ret2
    exact RtPost.no [] (by decide) rfl (sf_drawn hst _)
  replace hkl : k < c.l.length := by omega
  have he : ((k : Int) == c.l.length) = false := by rw [beq_eq_false_iff_ne]; omega
  have he2 : (k == c.l.length) = false := by rw [beq_eq_false_iff_ne]; omega
  have hkl1 : (k : Int) < c.l.length := by omega
  by_cases hq : bt c.l k ≠ 34 ∧ bt c.l k ≠ 39
  · have hP := valueP_no (d := c.l.drop k) (Or.inr (by rw [bt_drop]; exact hq))
    rw [hP]
    replace hP := Lib.hid hP
    have q1 : (bt c.l k == 34) = false := by rw [beq_eq_false_iff_ne]; exact hq.1
    have q2 : (bt c.l k == 39) = false := by rw [beq_eq_false_iff_ne]; exact hq.2
    have n1 : (bt c.l k != 34) = true := by rw [bne_iff_ne]; exact hq.1
    have n2 : (bt c.l k != 39) = true := by rw [bne_iff_ne]; exact hq.2
    have m1 : decide (bt c.l k = 34) = false := by rw [decide_eq_false_iff_not]; exact hq.1
    have m2 : decide (bt c.l k = 39) = false := by rw [decide_eq_false_iff_not]; exact hq.2
    obtain ⟨p1, p2⟩ := hq
    go_enter Tryz.func93, Tryz.ntmps93
    go_wp2_with fail
    go_quiet (fail)
    go_wp2_with fail
    go_ret2
    exact RtPost.no [] (by decide) rfl (sf_drawn hst _)
  obtain ⟨q, hqq, hqb⟩ : ∃ q : UInt8, (q = 34 ∨ q = 39) ∧ bt c.l k = (q.toNat : Int) := by
    by_cases e : bt c.l k = 34
    · exact ⟨34, Or.inl rfl, e⟩
    · exact ⟨39, Or.inr rfl, by
        by_cases e2 : bt c.l k = 39
        · exact e2
        · exact absurd ⟨e, e2⟩ hq⟩
  clear hq
  have hva : Hid (VaAt c.l k (k + 1) q []) := ⟨Nat.le_refl _, by omega, by rw [Nat.sub_self]; exact RunAt.zero _ _, hqq, hqb⟩
  have hcv := fun (W : World) (a : Int) => run_str_new (P := Tryz.prog) W 51 9 5 5 Tryz.underlying51 Tryz.underlying5 Tryz.underlying9 [a] 1 1 rfl
  simp only [List.map_cons, List.map_nil] at hcv
  obtain ⟨Q, hQ⟩ : ∃ Q : Int, (q.toNat : Int) = Q := ⟨_, rfl⟩
  rw [hQ] at hqb
  have hQ2 : Q = 34 ∨ Q = 39 := by
    rcases hqq with rfl | rfl
    · exact Or.inl hQ.symm
    · exact Or.inr hQ.symm
  replace hqq := Lib.hid hqq
  replace hQ := Lib.hid hQ
  obtain ⟨o, ho⟩ : ∃ o, valueP (c.l.drop k) = o := ⟨_, rfl⟩
  rw [ho]
  replace ho := Lib.hid ho
  rcases hQ2 with rfl | rfl
  all_goals
    go_enter Tryz.func93, Tryz.ntmps93
    go_wp2_with fail
    go_quiet (fail)
    go_wp2_with fail
    go_quiet (fail)
    have hs1 : ∀ n : Nat, Hid (Sf w ((w.drewN n).setCell ⟨R, 1, none⟩ (.int .i64 ((k : Int) + 1))) R c (k + 1)) := fun n => sf_put (sf_drawn hst n) (k + 1) (by omega)
    go_wp2_with fail
    go_loopw [5] (fun v wr => ∃ m acc, v = .string ⟨acc.toArray⟩ ∧ Hid (VaAt c.l k m q acc) ∧ Hid (Sf w wr R c m)) (fun v wr => c.l.length - (intOf ((wr.cell? ⟨R, 1, none⟩).getD undef)).toNat)
    case atStart => exact ⟨k + 1, [], rfl, hva, by simpa using hs1 _⟩
    case round =>
      clear hst hs1 c0 c1 f1 hva
      obtain ⟨m, acc, rfl, hv, hs⟩ := hrel
      have c0 := hs.out.1.c0
      have c1 := hs.out.1.c1
      have f1 := hs.out.1.fz 1
      have hlo := hv.out.lo
      have hhi := hv.out.hi
      have hlen := hv.out.len
      by_cases hlt : m < c.l.length
      · have hlt1 : (m : Int) < c.l.length := by omega
        have hs0 : ∀ n : Nat, Hid (Sf w (wr.drewN n) R c m) := fun n => sf_drawn hs n
        have hs2 : ∀ n : Nat, Hid (Sf w ((wr.drewN n).setCell ⟨R, 1, none⟩ (.int .i64 ((m : Int) + 1))) R c (m + 1)) := fun n => sf_put (sf_drawn hs n) (m + 1) (by omega)
        by_cases e1 : bt c.l m = (q.toNat : Int)
        · have hP := hv.out.hit hlt e1
          rw [ho.out] at hP
          replace hP := Lib.hid hP
          rw [hQ.out] at e1
          go_wp2_with fail
          go_quiet (fail)
          go_wp2_with fail
          go_quiet (fail)
          go_wp2_with fail
          go_ret2
          exact RtPost.ok hP.out (by rw [show k + (m + 1 - k) = m + 1 by omega]; simpa using hs2 _)
        have e1b : (bt c.l m == (q.toNat : Int)) = false := by rw [beq_eq_false_iff_ne]; exact e1
        rw [hQ.out] at e1b
        by_cases e2 : bt c.l m = 60
        · have hP := hv.out.lt hlt e2
          rw [ho.out] at hP
          replace hP := Lib.hid hP
          replace e1 := Lib.hid e1
          clear e1b
          go_wp2_with fail
          go_quiet (fail)
          go_wp2_with fail
          go_quiet (fail)
          go_wp2_with fail
          go_ret2
          exact RtPost.no [] (by decide) hP.out (by simpa using hs0 _)
        have e2b : (bt c.l m == 60) = false := by rw [beq_eq_false_iff_ne]; exact e2
        by_cases e3 : bt c.l m = 38
        · have hP := hv.out.ref hlt e3
          rw [ho.out] at hP
          have href := fun n : Nat => rnamed_any R c m (wr.drewN n) (hs0 n).out.1 hlt e3 hl
          have hrb := fun x n => refP_bd (d := c.l.drop m) (x := x) (n := n)
          generalize refP (c.l.drop m) = r at hP href hrb
          clear e1 e1b e2b
          replace e2 := Lib.hid e2
          cases r with
          | none =>
            have hPn := Lib.hid (hP.1 rfl)
            clear hP
            replace href := Lib.hid href
            clear hrb
            go_wp2_with fail
            go_quiet (fail)
            go_wp2_with fail
            go_quiet (fail)
            go_wp2_with fail
            refine (href.out _).mono ?_
            rintro e w' ⟨⟨x, rfl, hx⟩, k', hk'⟩
            have hfin := sf_turn (hs0 _) hk'
            replace hk' := Lib.hid hk'
            go_wp2_with fail
            go_ret2
            exact RtPost.no [] (by decide) hPn.out hfin
          | some y =>
            obtain ⟨x, n⟩ := y
            obtain ⟨b1, b2, b3⟩ := hrb x n rfl
            have hPs := Lib.hid (hP.2 x n rfl)
            clear hP
            replace href := Lib.hid href
            clear hrb
            go_wp2_with fail
            go_quiet (fail)
            go_wp2_with fail
            go_quiet (fail)
            go_wp2_with fail
            refine (href.out _).mono ?_
            rintro e w' ⟨rfl, hk'⟩
            have hfin := sf_turn (hs0 _) hk'
            have d1 := hk'.1.c1
            replace hk' := Lib.hid hk'
            go_wp2_with fail
            exact ⟨⟨m + n, _, rfl, hPs, hfin⟩, by rw [c1, d1]; simp [intOf]; omega⟩
        · have e3b : (bt c.l m == 38) = false := by rw [beq_eq_false_iff_ne]; exact e3
          have hP := Lib.hid (hv.out.one hlt e1 e2 e3)
          clear e1 e2 e3
          have hcv2 := fun n : Nat => hcv (wr.drewN n) (bt c.l m)
          have hsz : ∀ n : Nat, (wr.drewN n).heap.size = wr.heap.size := fun n => rfl
          simp only [hsz] at hcv2
          have hs3 : ∀ n : Nat, Hid (Sf w ((wr.drewN n).alloc (.cells [Value.int .u8 (bt c.l m)].toArray 5)) R c m) := fun n => sf_below (hs0 n) ((Below.refl _ _).alloc (Nat.le_refl _) _)
          have k1 := fun n => (hs3 n).out.1.c1
          have g1 := fun n => (hs3 n).out.1.fz 1
          clear hcv hs2
          go_wp2_with fail
          go_quiet (fail)
          go_wp2_with fail
          go_quiet (fail)
          go_wp2_with fail
          have hs4 := fun n => sf_put (hs3 n) (m + 1) (x := (m : Int) + 1) (by omega)
          exact ⟨⟨m + 1, _, rfl, hP, hs4 _⟩, by rw [c1, (hs4 _).out.1.c1]; simp [intOf]; omega⟩
      · have hlt1 : decide ((m : Int) < c.l.length) = false := by rw [decide_eq_false_iff_not]; omega
        have hP := hv.out.out hlt
        rw [ho.out] at hP
        replace hP := Lib.hid hP
        go_wp2_with fail
        go_quiet (fail)
        go_wp2_with fail
        go_ret2
        exact RtPost.no [] (by decide) hP.out (sf_drawn hs _)
end Go.Proofs.YtahohmdbiiknoaaGreatDoor

/- The reference of layer 11: attr, comment. -/
namespace Go.Proofs.YtahohmdbiiknoaaGreatDoor
open Go.RowKit

/-- The shared contracts, at a world behind the first. -/
theorem sf_blanks {w0 w : World} {R : Nat} {c : SC} {k : Nat} (h : Hid (Sf w0 w R c k)) (hk : k ≤ c.l.length) (hl : c.l.length ≤ 100000) :
    Calls Tryz.prog 53 #[.pointer (some ⟨R, 0, none⟩)] w fun e w' => e = .returned (.int .i64 (spanN blI (c.l.drop k))) ∧ Hid (Sf w0 w' R c (k + spanN blI (c.l.drop k))) :=
  (rblanks_any R c k w h.out.1 hk hl).mono fun _ _ q => ⟨q.1, sf_turn h q.2⟩
theorem sf_has {w0 w : World} {R : Nat} {c : SC} {k : Nat} (h : Hid (Sf w0 w R c k)) (p : List UInt8) (hk : k ≤ c.l.length) (hl : c.l.length ≤ 100000) (hp : p.length ≤ 100) :
    Calls Tryz.prog 32 #[.pointer (some ⟨R, 0, none⟩), .string ⟨p.toArray⟩] w fun e w' => e = .returned (.bool (Lib.hasPrefix (c.l.drop k) p)) ∧ Hid (Sf w0 w' R c k) :=
  (rhas_any R c k p w h.out.1 hk hl hp).mono fun _ _ q => ⟨q.1, sf_on h q.2⟩
theorem sf_name {w0 w : World} {R : Nat} {c : SC} {k : Nat} (h : Hid (Sf w0 w R c k)) (hk : k ≤ c.l.length) (hl : c.l.length ≤ 100000) :
    Calls Tryz.prog 67 #[.pointer (some ⟨R, 0, none⟩)] w fun e w' => (∃ (x : List UInt8) (b : Bool), e = .returned (.tuple #[.string ⟨x.toArray⟩, .bool b]) ∧ Hid (nameP (c.l.drop k) = if b then some (x, x.length) else none) ∧ Hid (Sf w0 w' R c (k + x.length)) ∧ k + x.length ≤ c.l.length) := by
  refine (rnamem_any R c k w h.out.1 hk hl).mono fun e w' q => ?_
  have hle := spanN_le follI (c.l.drop k)
  have hlen : ((c.l.drop k).take (spanN follI (c.l.drop k))).length = spanN follI (c.l.drop k) := by rw [List.length_take]; omega
  refine ⟨_, _, q.1, ?_, ?_, ?_⟩
  · show nameP _ = _
    unfold nameP
    rw [hlen]
  · rw [hlen]; exact sf_turn h q.2
  · rw [hlen]
    rw [List.length_drop] at hle
    omega

/-- A call's result in a box of its own, and the reader. -/
structure AtSf (w0 w : World) (R : Nat) (c : SC) (k : Nat) (x y : Value) : Prop where
  row : ArrAt w w0.heap.size 112 [x, y]
  rd : Sn w R c k
  turned : Turned (fun b => b = R) w0 w
theorem t_attr11 : 62 ≠ 112 := by decide
section
variable {w0 w w' : World} {R : Nat} {c : SC} {k : Nat} {x y : Value}
theorem AtSf.new (h : Sn w R c k) (x y : Value) : Hid (AtSf w (w.alloc (.cells #[x, y] 112)) R c k x y) := by
  have hb : Below w.heap.size w (w.alloc (.cells #[x, y] 112)) := (Below.refl _ _).alloc (Nat.le_refl _) _
  exact ⟨arrAt_new w _ [x, y], h.below hb, Turned.of_below hb⟩
theorem AtSf.call {k' : Nat} (h : Hid (AtSf w0 w R c k x y)) (hs : Sf w w' R c k') : Hid (AtSf w0 w' R c k' x y) :=
  ⟨h.out.row.turned hs.2 (fun e => arr_apart h.out.rd h.out.row t_attr11 e.symm), hs.1, turned2 h.out.turned hs.2⟩
theorem AtSf.sf (h : Hid (AtSf w0 w R c k x y)) : Hid (Sf w w R c k) := sf_start h.out.rd
theorem AtSf.a0 (h : Hid (AtSf w0 w R c k x y)) : w.cell? ⟨w0.heap.size, 0, none⟩ = some x := by rw [h.out.row.cell]; rfl
theorem AtSf.a1 (h : Hid (AtSf w0 w R c k x y)) : w.cell? ⟨w0.heap.size, 1, none⟩ = some y := by rw [h.out.row.cell]; rfl
theorem AtSf.set (h : Hid (AtSf w0 w R c k x y)) (x' y' : Value) : Hid (AtSf w0 ((w.setCell ⟨w0.heap.size, 0, none⟩ x').setCell ⟨w0.heap.size, 1, none⟩ y') R c k x' y') := by
  have h := h.out
  refine ⟨(h.row.set 0 x').set 1 y', (h.rd.turned (turned_setCell w ⟨w0.heap.size, 0, none⟩ x') (arr_apart h.rd h.row t_attr11)).turned (turned_setCell _ ⟨w0.heap.size, 1, none⟩ y') (arr_apart h.rd h.row t_attr11), ?_⟩
  refine (h.turned.trans (turned_setCell w ⟨w0.heap.size, 0, none⟩ x') fun i hi e => ?_).trans (turned_setCell _ ⟨w0.heap.size, 1, none⟩ y') fun i hi e => ?_
  · have : i = w0.heap.size := e; omega
  · have : i = w0.heap.size := e; omega
theorem AtSf.post (h : Hid (AtSf w0 w R c k x y)) : Sf w0 w R c k := ⟨h.out.rd, h.out.turned⟩
end
/-- An attribute that was read, or none. -/
def RaPost (w : World) (R : Nat) (c : SC) (k : Nat) : Option (At × Nat) → Ending → World → Prop
  | some (x, n), e, w' => e = .returned (.tuple #[.agg #[strV x.1, strV x.2], .bool true]) ∧ Sf w w' R c (k + n)
  | none, e, w' => (∃ s1 s2 : List UInt8, e = .returned (.tuple #[.agg #[strV s1, strV s2], .bool false])) ∧ ∃ k', Sf w w' R c k'
theorem RaPost.ok {w w' : World} {R : Nat} {c : SC} {k n : Nat} {x : At} {o : Option (At × Nat)} {e : Ending} (ho : o = some (x, n)) (he : e = .returned (.tuple #[.agg #[strV x.1, strV x.2], .bool true])) (h : Sf w w' R c (k + n)) : RaPost w R c k o e w' := by subst ho; exact ⟨he, h⟩
theorem RaPost.no {w w' : World} {R : Nat} {c : SC} {k k' : Nat} {o : Option (At × Nat)} {e : Ending} (ho : o = none) (s1 s2 : List UInt8) (he : e = .returned (.tuple #[.agg #[strV s1, strV s2], .bool false])) (h : Sf w w' R c k') : RaPost w R c k o e w' := by subst ho; exact ⟨⟨s1, s2, he⟩, k', h⟩

set_option maxHeartbeats 2000000 in
theorem rattr_any (R : Nat) (c : SC) (k : Nat) (w : World) (h : Sn w R c k) (hk : k ≤ c.l.length) (hl : c.l.length ≤ 100000) :
    Calls Tryz.prog 87 #[.pointer (some ⟨R, 0, none⟩)] w (RaPost w R c k (attrP (c.l.drop k))) := by
  have hRl := h.lt
  have r0 := Lib.hid h
  clear h
  have hP := show attrP (c.l.drop k) = _ from by unfold attrP; rfl
  simp only [List.drop_drop] at hP
  have hb1 := spanN_le blI
  replace hb1 := Lib.hid hb1
  generalize hoo : attrP (c.l.drop k) = o at hP
  replace hoo := Lib.hid hoo
  replace hP := Lib.hid hP
  go_enter Tryz.func87, Tryz.ntmps87
  go_wp2_with fail
  have s0 := AtSf.new r0.out (.string ⟨#[]⟩) (.string ⟨#[]⟩)
  refine (sf_name (AtSf.sf s0) hk hl).mono ?_
  rintro e w1 ⟨nm, nb, rfl, hN, hs1, hk1⟩
  have s1 := AtSf.call s0 hs1.out
  clear s0
  replace hs1 := Lib.hid hs1
  have a0 := AtSf.a0 s1
  have a1 := AtSf.a1 s1
  have fz := fun i => s1.out.row.soft i
  cases nb with
  | false =>
    replace hN := Lib.hid (hN.out.trans (if_neg (by decide)))
    go_wp2_with fail
    have f0 := AtSf.set s1 (.string ⟨#[]⟩) (.string ⟨#[]⟩)
    have b0 := AtSf.a0 f0
    have b1 := AtSf.a1 f0
    refine bodyPost_ret (v := .tuple #[.agg #[(.string ⟨#[]⟩), (.string ⟨#[]⟩)], .bool false]) (by simp [results, Tryz.results87, go_sem, b0, b1]) rfl ?_
    exact RaPost.no (hP.out.trans (by rw [hN.out])) [] [] rfl (AtSf.post f0)
  | true =>
    replace hN := Lib.hid (hN.out.trans (if_pos rfl))
    clear a0 a1 fz
    obtain ⟨n, hn⟩ : ∃ n, nm.length = n := ⟨_, rfl⟩
    rw [hn] at s1 hk1
    replace hN : Hid (nameP (c.l.drop k) = some (nm, n)) := by rw [← hn]; exact hN
    replace hn := Lib.hid hn
    go_wp2_with fail
    have hb2 := hb1.out (c.l.drop (k + n))
    rw [List.length_drop] at hb2
    refine (sf_blanks (AtSf.sf s1) hk1 hl).mono ?_; rintro e w2 ⟨rfl, r2⟩
    have s2 := AtSf.call s1 r2.out
    clear s1 r2
    generalize hbn : spanN blI (c.l.drop (k + n)) = bn at hb2 s2
    replace hbn := Lib.hid hbn
    go_wp2_with fail
    refine (sf_has (AtSf.sf s2) [61] (by omega) hl (by decide)).mono ?_; rintro e w3 ⟨rfl, r3⟩
    have s3 := AtSf.call s2 r3.out
    clear s2 r3
    have a0 := AtSf.a0 s3
    have a1 := AtSf.a1 s3
    have fz := fun i => s3.out.row.soft i
    cases hp : Lib.hasPrefix (c.l.drop (k + n + bn)) [61]
    · replace hp := Lib.hid hp
      go_wp2_with fail
      have f0 := AtSf.set s3 (.string ⟨#[]⟩) (.string ⟨#[]⟩)
      have b0 := AtSf.a0 f0
      have b1 := AtSf.a1 f0
      refine bodyPost_ret (v := .tuple #[.agg #[(.string ⟨#[]⟩), (.string ⟨#[]⟩)], .bool false]) (by simp [results, Tryz.results87, go_sem, b0, b1]) rfl ?_
      exact RaPost.no (hP.out.trans (by rw [hN.out]; simp only [hbn.out, ← Nat.add_assoc]; rw [if_pos hp.out])) [] [] rfl (AtSf.post f0)
    have hpl := prefix_len hp
    rw [List.length_drop] at hpl
    replace hp := Lib.hid hp
    have hpl2 : k + n + bn + 1 ≤ c.l.length := by simp at hpl; omega
    clear hpl a0 a1 fz
    have c1 := s3.out.rd.c1
    have f1 := s3.out.rd.fz 1
    have s3b := AtSf.call (k' := k + n + bn + 1) s3 (sf_put (AtSf.sf s3) (k + n + bn + 1) (x := ((k + n + bn : Nat) : Int) + 1) (by omega)).out
    go_wp2_with fail
    have hb3 := hb1.out (c.l.drop (k + n + bn + 1))
    rw [List.length_drop] at hb3
    refine (sf_blanks (AtSf.sf s3b) hpl2 hl).mono ?_; rintro e w4 ⟨rfl, r4⟩
    have s4 := AtSf.call s3b r4.out
    clear s3 s3b r4 c1 f1
    generalize hcn : spanN blI (c.l.drop (k + n + bn + 1)) = cn at hb3 s4
    replace hcn := Lib.hid hcn
    go_wp2_with fail
    have hval := rvalue_any R c (k + n + bn + 1 + cn) _ s4.out.rd (by omega) hl
    have hvl := fun x' n' => valueP_le (d := c.l.drop (k + n + bn + 1 + cn)) (x := x') (n := n')
    generalize hvo : valueP (c.l.drop (k + n + bn + 1 + cn)) = vo at hval hvl
    replace hvo := Lib.hid hvo
    cases vo with
    | none =>
      clear hvl
      refine hval.mono ?_; rintro e w5 ⟨⟨x, rfl, _⟩, k5, r5⟩
      have s5 := AtSf.call s4 r5
      clear hval s4 r5
      have a0 := AtSf.a0 s5
      have a1 := AtSf.a1 s5
      have fz := fun i => s5.out.row.soft i
      go_wp2_with fail
      have f0 := AtSf.set s5 (.string ⟨nm.toArray⟩) (.string ⟨x.toArray⟩)
      have b0 := AtSf.a0 f0
      have b1 := AtSf.a1 f0
      refine bodyPost_ret (v := .tuple #[.agg #[(.string ⟨nm.toArray⟩), (.string ⟨x.toArray⟩)], .bool false]) (by simp [results, Tryz.results87, go_sem, b0, b1]) rfl ?_
      exact RaPost.no (hP.out.trans (by rw [hN.out]; simp only [hbn.out, hcn.out, ← Nat.add_assoc]; rw [if_neg (by rw [hp.out]; decide)]; rw [hvo.out])) nm x rfl (AtSf.post f0)
    | some y =>
      obtain ⟨x, m⟩ := y
      clear hvl
      refine hval.mono ?_; rintro e w5 ⟨rfl, r5⟩
      have s5 := AtSf.call s4 r5
      clear hval s4 r5
      have a0 := AtSf.a0 s5
      have a1 := AtSf.a1 s5
      have fz := fun i => s5.out.row.soft i
      go_wp2_with fail
      have f0 := AtSf.set s5 (.string ⟨nm.toArray⟩) (.string ⟨x.toArray⟩)
      have b0 := AtSf.a0 f0
      have b1 := AtSf.a1 f0
      refine bodyPost_ret (v := .tuple #[.agg #[(.string ⟨nm.toArray⟩), (.string ⟨x.toArray⟩)], .bool true]) (by simp [results, Tryz.results87, go_sem, b0, b1]) rfl ?_
      exact RaPost.ok (x := (nm, x)) (n := n + bn + 1 + cn + m) (hP.out.trans (by rw [hN.out]; simp only [hbn.out, hcn.out, ← Nat.add_assoc]; rw [if_neg (by rw [hp.out]; decide)]; rw [hvo.out])) rfl (by have := AtSf.post f0; rw [show k + (n + bn + 1 + cn + m) = k + n + bn + 1 + cn + m by omega]; exact this)

set_option maxHeartbeats 1000000 in
theorem rcomment_any (R : Nat) (c : SC) (k : Nat) (w : World) (h : Sn w R c k) (hk : k + 4 ≤ c.l.length) (hl : c.l.length ≤ 100000) :
    Calls Tryz.prog 49 #[.pointer (some ⟨R, 0, none⟩)] w fun e w' => e = .returned (.bool (commR (c.l.drop k)).isSome) ∧ ∃ k', Sf w w' R c k' ∧ ∀ n, commR (c.l.drop k) = some n → k' = k + n := by
  have c1 := h.c1
  have f1 := h.fz 1
  have hP := show commR (c.l.drop k) = _ from by unfold commR; rfl
  simp only [List.drop_drop] at hP
  have s0 := sf_put (sf_start h) (k + 4) (x := (k : Int) + 4) (by omega)
  have hu := runtil_any R c (k + 4) [45, 45] _ s0.out.1 (by omega) hl (by decide)
  have hle := fun x n => untilR_le (t := [45, 45]) (d := c.l.drop (k + 4)) (x := x) (n := n)
  rw [List.length_drop] at hle
  generalize untilR [45, 45] (c.l.drop (k + 4)) = o at hP hu hle
  clear h
  cases o with
  | none =>
    have hP := show commR (c.l.drop k) = none from hP
    rw [hP]
    clear hle
    replace hu := Lib.hid hu
    replace hP := Lib.hid hP
    go_enter Tryz.func49, Tryz.ntmps49
    go_wp2_with fail
    refine hu.out.mono ?_
    rintro e w1 ⟨⟨x, rfl, _⟩, k', hs1⟩
    have s1 := sf_turn s0 hs1
    replace hs1 := Lib.hid hs1
    go_wp2_with fail
    go_ret
    exact ⟨rfl, k', s1.out, fun n e => by cases e⟩
  | some y =>
    obtain ⟨x, n⟩ := y
    obtain ⟨n1, n2, n3⟩ := hle x n rfl
    clear hle
    have hP := show commR (c.l.drop k) = if Lib.hasPrefix (c.l.drop (k + (4 + n))) [62] then some (4 + n + 1) else none from hP
    rw [← Nat.add_assoc] at hP
    replace hu := Lib.hid hu
    have hn1 : 2 ≤ n := n1
    clear n1 n3
    cases hb : Lib.hasPrefix (c.l.drop (k + 4 + n)) [62]
    · rw [hb, if_neg (by decide)] at hP
      rw [hP]
      replace hP := Lib.hid hP
      replace hb := Lib.hid hb
      go_enter Tryz.func49, Tryz.ntmps49
      go_wp2_with fail
      refine hu.out.mono ?_
      rintro e w1 ⟨rfl, hs1⟩
      have s1 := sf_turn s0 hs1
      replace hs1 := Lib.hid hs1
      go_wp2_with fail
      refine (sf_has s1 [62] (by omega) hl (by decide)).mono ?_
      rintro e w2 ⟨rfl, s2⟩
      rw [hb.out]
      go_wp2_with fail
      go_ret
      exact ⟨rfl, _, s2.out, fun n e => by cases e⟩
    · rw [hb, if_pos rfl] at hP
      rw [hP]
      have hpl := prefix_len hb
      rw [List.length_drop] at hpl
      have hk2 : k + 4 + n + 1 ≤ c.l.length := by simp at hpl; omega
      clear hpl
      replace hP := Lib.hid hP
      replace hb := Lib.hid hb
      go_enter Tryz.func49, Tryz.ntmps49
      go_wp2_with fail
      refine hu.out.mono ?_
      rintro e w1 ⟨rfl, hs1⟩
      have s1 := sf_turn s0 hs1
      replace hs1 := Lib.hid hs1
      go_wp2_with fail
      refine (sf_has s1 [62] (by omega) hl (by decide)).mono ?_
      rintro e w2 ⟨rfl, s2⟩
      rw [hb.out]
      have d1 := s2.out.1.c1
      have g1 := s2.out.1.fz 1
      go_wp2_with fail
      go_ret
      exact ⟨rfl, _, (sf_put s2 (k + 4 + n + 1) (by omega)).out, fun n' e => by injection e with e; omega⟩
end Go.Proofs.YtahohmdbiiknoaaGreatDoor

/- Append of elements that were just built, to a slice that the call itself made: a step law for regions that draw; the row lies where it lay, or in a new block. -/
namespace Go.Proofs.YtahohmdbiiknoaaGreatDoor
open Go.RowKit

theorem arr_news {w : World} {h : Nat} {t : TypeId} {news : List Value} (hh : ArrAt w h t news) : ∀ j u, news[j]? = some u → w.cell? ((⟨h, 0, none⟩ : Addr).add j) = some u := fun j u hu => by
  have hadd : (⟨h, 0, none⟩ : Addr).add j = ⟨h, 0 + j, none⟩ := by unfold Addr.add; split <;> simp_all
  rw [hadd, Nat.zero_add, hh.cell]; exact hu
theorem step_append1 {P : Program} {ops : Array Oper} {o : Oper} {a : Act} {K : Act → World → Prop} {Q : Exit → Act → World → Prop} {E : Prop} {w : World} (hgd : o.guard = none) (s x : Operand) (t e : TypeId)
    (ho : o.op = .call { callee := .builtin .append, args := #[s, x], argTypes := #[t, t] }) (ht : P.underlying t = some (.slice e))
    (z : Value) (size bytes : Nat) (hi : (P.info? e).map (fun i => (i.zero, i.size, i.bytes)) = some (some z, size, bytes)) (hzs : z.cells.size = size) (hsz : 0 < size) (hby : 0 < bytes)
    (B : Nat) (v : Value) (n : Nat) (xs : List Value) (us : List Value) (hus : us.length = size) (hown : w.ownsRow B e size v n xs) (hs : a.eval s = v) (hx : a.eval x = .slice (some ⟨w.heap.size, 0, none⟩) 1 1) (hu : ∀ u ∈ us, u.oneCell' = true)
    (hn : (n + 1) * bytes ≤ 140737488355328) (hB : B ≤ w.heap.size)
    (h : ∀ v' w', Hid (w'.ownsRow B e size v' (n + 1) (xs ++ us)) → Hid (w.grownBy w' v.ownBlock) → Hid (v'.ownBlock = v.ownBlock ∨ ∃ b, v'.ownBlock = some b ∧ w.heap.size ≤ b) → K (a.put o.dst v') w') :
    if Region.wanted o (yielded ops a.tmps) = true then Oper.wp P o a (w.alloc (.cells us.toArray e)) K Q else E := by
  rw [if_pos (by simp [Region.wanted, hgd])]
  obtain ⟨i, hi, hz, hsize, hbyt⟩ := info_parts hi
  have hn1 : n + 1 ≤ (n + 1) * bytes := Nat.le_mul_of_pos_right _ hby
  obtain ⟨v', w', hr, h1, h2, _, h4⟩ := run_append_own_at (P := P) (w.alloc (.cells us.toArray e)) B t o.type e i z size bytes ht hi hz hsize hbyt hzs hsz v n xs (hown.alloc _) ⟨w.heap.size, 0, none⟩ 1 1 us (by omega)
    (arr_news (arrAt_new w e us)) hu (by unfold maxLen; omega) hn (by simp; omega)
  unfold Oper.wp
  simp [execOp, ho, resolve, invoke, builtin, hs, hx, hr, Result.andThen]
  have hg := grownBy_trans (World.grownBy_alloc w (.cells us.toArray e) none) h2
  refine h v' w' (Lib.hid h1) (Lib.hid hg) (Lib.hid ?_)
  rcases h4 with h4 | h4
  · exact Or.inl h4
  · exact Or.inr ⟨_, h4, by simp⟩

/-- The same, in a region that doesn't draw. -/
theorem wpList_appendk {P : Program} {ops : Array Oper} {rest : List Oper} {o : Oper} {a : Act} {Q : Exit → Act → World → Prop} {w : World} (hw : Region.wanted o (yielded ops a.tmps) = true) (s x : Operand) (t e : TypeId)
    (ho : o.op = .call { callee := .builtin .append, args := #[s, x], argTypes := #[t, t] }) (ht : P.underlying t = some (.slice e))
    (z : Value) (size bytes : Nat) (hi : (P.info? e).map (fun i => (i.zero, i.size, i.bytes)) = some (some z, size, bytes)) (hzs : z.cells.size = size) (hsz : 0 < size) (hby : 0 < bytes)
    (B : Nat) (v : Value) (n : Nat) (xs : List Value) (us : List Value) (hus : us.length = size) (hown : w.ownsRow B e size v n xs) (hs : a.eval s = v) (hx : a.eval x = .slice (some ⟨w.heap.size, 0, none⟩) 1 1) (hu : ∀ u ∈ us, u.oneCell' = true)
    (hn : (n + 1) * bytes ≤ 140737488355328) (hB : B ≤ w.heap.size)
    (h : ∀ v' w', Hid (w'.ownsRow B e size v' (n + 1) (xs ++ us)) → Hid (w.grownBy w' v.ownBlock) → Hid (v'.ownBlock = v.ownBlock ∨ ∃ b, v'.ownBlock = some b ∧ w.heap.size ≤ b) → wpList P ops Q rest (a.put o.dst v') w') : wpList P ops Q (o :: rest) a (w.alloc (.cells us.toArray e)) := by
  obtain ⟨i, hi, hz, hsize, hbyt⟩ := info_parts hi
  have hn1 : n + 1 ≤ (n + 1) * bytes := Nat.le_mul_of_pos_right _ hby
  refine BigFrame.wpList_want hw fun K hK => ?_
  obtain ⟨v', w', hr, h1, h2, _, h4⟩ := run_append_own_at (P := P) (w.alloc (.cells us.toArray e)) B t o.type e i z size bytes ht hi hz hsize hbyt hzs hsz v n xs (hown.alloc _) ⟨w.heap.size, 0, none⟩ 1 1 us (by omega)
    (arr_news (arrAt_new w e us)) hu (by unfold maxLen; omega) hn (by simp; omega)
  unfold Oper.wp execOp
  simp only [ho, resolve, invoke, builtin, Sem.run_bind, Sem.run_pure, Result.andThen_ok, List.map_toArray, List.map_cons, List.map_nil, hs, hx, hr]
  have hg := grownBy_trans (World.grownBy_alloc w (.cells us.toArray e) none) h2
  refine hK _ _ (h v' w' (Lib.hid h1) (Lib.hid hg) (Lib.hid ?_))
  rcases h4 with h4 | h4
  · exact Or.inl h4
  · exact Or.inr ⟨_, h4, by simp⟩
end Go.Proofs.YtahohmdbiiknoaaGreatDoor
