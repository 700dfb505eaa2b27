/- Layer 11: ref, atElement. -/
import Derived.Test.YtldnigkaagcciaaDoorD11b
namespace Go.Proofs.YtldnigkaagcciaaDoor
open Go.RowKit

theorem bt_take0 (l : List UInt8) (n : Nat) (hn : 0 < n) : bt (l.take n) 0 = bt l 0 := by
  unfold bt; rw [List.getD, List.getD, List.getElem?_take, if_pos hn]
theorem ref_ix {d : List UInt8} (h0 : 0 < d.length) (h38 : bt d 0 = 38) : Lib.indexByte (d.take 13) 59 ≠ 0 := by
  intro e
  have hmem := (indexByte_mem (d.take 13) 59).1 (by omega)
  have : bt (d.take 13) 0 = 38 := by rw [bt_take0 _ _ (by decide)]; exact h38
  cases d with
  | nil => simp at h0
  | cons c t =>
    rw [show (c :: t).take 13 = c :: t.take 12 from rfl] at e this hmem
    unfold Lib.indexByte at e
    have hc : c = 38 := (bt_u8 c 38 _).1 this
    subst hc
    simp at e
    split at e <;> (try omega) <;> simp_all <;> (have := Lib.indexByte_ge (t.take 12) 59; omega)

/-- The ways of ref. -/
theorem ref_ways (d : List UInt8) (h0 : 0 < d.length) (h38 : bt d 0 = 38) : (Lib.indexByte (d.take 13) 59 < 0 ∧ refP d = none) ∨
    ∃ n : Nat, Lib.indexByte (d.take 13) 59 = ((n + 1 : Nat) : Int) ∧ n + 1 < (d.take 13).length ∧ refP d = match namedS (((d.take 13).take (n + 1)).drop 1) with | none => none | some t => some (t, n + 1 + 1) := by
  have hne := ref_ix h0 h38
  have hg := Lib.indexByte_ge (d.take 13) 59
  have hlt := indexByte_lt (d.take 13) 59
  by_cases h : Lib.indexByte (d.take 13) 59 < 0
  · exact Or.inl ⟨h, by unfold refP; rw [if_pos h]⟩
  · refine Or.inr ⟨(Lib.indexByte (d.take 13) 59).toNat - 1, by omega, by omega, ?_⟩
    unfold refP
    rw [if_neg h]
    have hl : (d.take 13).length ≤ 13 := by rw [List.length_take]; omega
    rw [show (Lib.indexByte (d.take 13) 59).toNat - 1 + 1 = (Lib.indexByte (d.take 13) 59).toNat by omega, List.take_take, Nat.min_eq_left (by omega)]
    cases namedS ((d.take (Lib.indexByte (d.take 13) 59).toNat).drop 1) <;> rfl

set_option maxHeartbeats 1000000 in
theorem ref11_any (R : Nat) (c : RC) (k : Nat) (w : World) (h : Rd w R c k) (hk : k < c.l.length) (h38 : bt c.l k = 38) (hl : c.l.length ≤ 100000) :
    Calls Tryd.prog 55 #[.pointer (some ⟨R, 0, none⟩)] w fun e w' => StrPost w R c k (refP (c.l.drop k)) e w' := by
  have c1 := h.c1
  have c0 := h.c0
  have f1 := h.fz 1
  have hways := ref_ways (c.l.drop k) (by rw [List.length_drop]; omega) (by rw [bt_drop]; exact h38)
  replace h38 := Lib.hid h38
  obtain ⟨N, hN, hN1, hN2, hmin⟩ : ∃ N : Nat, (c.l.take N).drop k = (c.l.drop k).take 13 ∧ k < N ∧ N ≤ c.l.length ∧ min (c.l.length : Int) ((k : Int) + 12 + 1) = N := by
    by_cases hc : c.l.length ≤ k + 13
    · refine ⟨c.l.length, ?_, by omega, Nat.le_refl _, by omega⟩
      rw [List.take_length, List.take_of_length_le (by rw [List.length_drop]; omega)]
    · refine ⟨k + 13, ?_, by omega, by omega, by omega⟩
      rw [List.drop_take, show k + 13 - k = 13 by omega]
  have hnl : ((c.l.take N).drop k).length = N - k := by rw [List.length_drop, List.length_take]; omega
  rw [← hN] at hways
  generalize hnear : (c.l.take N).drop k = near at hways hnl
  have hix := fun W : World => indexByte_any near 59 W
  replace hmin := Lib.hid hmin
  replace hnear := Lib.hid hnear
  replace hN := Lib.hid hN
  rw [show (59 : Int).toNat.toUInt8 = 59 from rfl] at hix
  rcases hways with ⟨hneg, hP⟩ | ⟨n, hn, hnl2, hP⟩
  · generalize Lib.indexByte near 59 = E at hix hneg
    replace hix := Lib.hid hix
    replace hP := Lib.hid hP
    replace h := Lib.hid h
    go_enter Tryd.func55, Tryd.ntmps55
    go_wp2_with fail
    go_quiet (fail)
    simp only [hmin.out, Int.toNat_natCast, hnear.out]
    go_wp2_with fail
    refine (hix.out _).mono ?_; rintro e w' ⟨rfl, rfl⟩
    go_wp2_with fail
    go_ret2
    exact StrPost.no hP.out ⟨rfl, k, by omega, h.out.drawn ⟨_, rfl⟩, Turned.of_below (Drawn.below ⟨_, rfl⟩ _)⟩
  · rw [hn] at hix
    replace hix := Lib.hid hix
    replace hn := Lib.hid hn
    have hnm := fun W : World => named_any ((near.take (n + 1)).drop 1) W (by rw [List.length_drop, List.length_take]; omega)
    obtain ⟨o, ho⟩ : ∃ o, namedS ((near.take (n + 1)).drop 1) = o := ⟨_, rfl⟩
    rw [ho] at hP hnm
    rw [List.drop_one] at hnm
    replace hnm := Lib.hid hnm
    replace ho := Lib.hid ho
    cases o with
    | none =>
      replace hP := Lib.hid hP
      replace h := Lib.hid h
      go_enter Tryd.func55, Tryd.ntmps55
      go_wp2_with fail
      go_quiet (fail)
      simp only [hmin.out, Int.toNat_natCast, hnear.out]
      go_wp2_with fail
      refine (hix.out _).mono ?_; rintro e w' ⟨rfl, rfl⟩
      go_wp2_with fail
      refine (hnm.out _).mono ?_; rintro e w' ⟨t, rfl, ht, hb⟩
      clear ht
      replace hb := Lib.hid hb
      go_wp2_with fail
      go_ret2
      have hT : Turned (fun b => b = R) w w' := (Turned.of_below (Drawn.below ⟨_, rfl⟩ _)).trans (Turned.of_below (S := fun b => b = R) hb.out) fun _ _ e => e
      exact StrPost.no hP.out ⟨rfl, k, by omega, (h.out.drawn ⟨_, rfl⟩).below hb.out, hT⟩
    | some x =>
      replace hP := Lib.hid hP
      go_enter Tryd.func55, Tryd.ntmps55
      go_wp2_with fail
      go_quiet (fail)
      simp only [hmin.out, Int.toNat_natCast, hnear.out]
      go_wp2_with fail
      refine (hix.out _).mono ?_; rintro e w' ⟨rfl, rfl⟩
      go_wp2_with fail
      refine (hnm.out _).mono ?_; rintro e w' ⟨t, rfl, ht, hb⟩
      obtain rfl := ht x rfl
      clear ht
      have h1 := (h.drawn (drawn_drewN w nq)).below hb
      have hT := (Turned.of_below (S := fun b => b = R) (Drawn.below (drawn_drewN w nq) _)).trans (Turned.of_below (S := fun b => b = R) hb) fun _ _ e => e
      have c1' := h1.c1
      have f1' := h1.fz 1
      clear c1 c0 f1 h
      replace h1 := Lib.hid h1
      replace hT := Lib.hid hT
      replace hb := Lib.hid hb
      go_wp2_with fail
      go_ret2
      exact StrPost.ok hP.out ⟨rfl, h1.out.move _ (by omega), hT.out.trans (turned_setCell _ _ _) fun _ _ e => e⟩

theorem has11_at (R : Nat) (c : RC) (k : Nat) (p : List UInt8) (w : World) (h : Rd w R c k) (hk : k ≤ c.l.length) (hl : c.l.length ≤ 100000) (n : Nat) :
    Calls Tryd.prog 42 #[.pointer (some ⟨R, 0, none⟩), .string ⟨p.toArray⟩] (w.drewN n) fun e w' => e = .returned (.bool (Lib.hasPrefix (c.l.drop k) p)) ∧ ∃ m, w' = w.drewN m :=
  (has11_any R c k p (w.drewN n) (h.drawn (drawn_drewN w n)) hk hl).mono fun _ _ h => ⟨h.1, by obtain ⟨m, rfl⟩ := h.2; exact ⟨n + m, by simp⟩⟩

set_option maxHeartbeats 1000000 in
theorem atElement11_any (R : Nat) (c : RC) (k : Nat) (w : World) (h : Rd w R c k) (hk : k ≤ c.l.length) (hl : c.l.length ≤ 100000) :
    Calls Tryd.prog 37 #[.pointer (some ⟨R, 0, none⟩)] w fun e w' => e = .returned (.bool (elemB (c.l.drop k))) ∧ Drawn w w' := by
  have c1 := h.c1
  have c0 := h.c0
  have hh := has11_at R c k [60] w h hk hl
  have hE : elemB (c.l.drop k) = (Lib.hasPrefix (c.l.drop k) [60] && (decide (k + 1 < c.l.length) && leadI (bt c.l (k + 1)))) := by
    unfold elemB leadsB
    rw [List.drop_drop, bt_drop, List.length_drop]
    congr 2
    rw [decide_eq_decide]; omega
  rw [hE]
  replace h := Lib.hid h
  clear hE
  cases hq : Lib.hasPrefix (c.l.drop k) [60]
  · rw [hq] at hh
    replace hh := Lib.hid hh
    replace hq := Lib.hid hq
    go_enter Tryd.func37, Tryd.ntmps37
    go_wp2_with fail
    go_quiet ((go_at_call 42; exact hh.out _))
    go_wp2_with fail
    go_ret
    exact ⟨rfl, ⟨_, rfl⟩⟩
  rw [hq] at hh
  replace hh := Lib.hid hh
  replace hq := Lib.hid hq
  by_cases hlt : k + 1 < c.l.length
  · have hlt1 : ((k : Int) + 1 < c.l.length) := by omega
    have hle := fun W : World => lead11_any (bt c.l (k + 1)) W
    rw [decide_eq_true hlt, Bool.true_and, Bool.true_and]
    replace hle := Lib.hid hle
    go_enter Tryd.func37, Tryd.ntmps37
    go_wp2_with fail
    go_quiet (first | (go_at_call 42; exact hh.out _) | (go_at_call 14; exact Calls.drawn_at (hle.out _)))
    go_wp2_with fail
    go_ret
    exact ⟨rfl, ⟨_, rfl⟩⟩
  · have hlt1 : decide ((k : Int) + 1 < c.l.length) = false := by rw [decide_eq_false_iff_not]; omega
    rw [decide_eq_false hlt, Bool.false_and, Bool.and_false]
    go_enter Tryd.func37, Tryd.ntmps37
    go_wp2_with fail
    go_quiet ((go_at_call 42; exact hh.out _))
    go_wp2_with fail
    go_ret
    exact ⟨rfl, ⟨_, rfl⟩⟩
end Go.Proofs.YtldnigkaagcciaaDoor
