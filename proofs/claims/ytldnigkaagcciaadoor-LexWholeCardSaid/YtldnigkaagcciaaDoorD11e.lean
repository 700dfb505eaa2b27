/- Layer 11: value. -/
import Derived.Test.YtldnigkaagcciaaDoorD11d
namespace Go.Proofs.YtldnigkaagcciaaDoor
open Go.RowKit

theorem prefix_len {d p : List UInt8} (h : Lib.hasPrefix d p = true) : p.length ≤ d.length := (List.isPrefixOf_iff_prefix.1 h).length_le
theorem runP_le {ends d x : List UInt8} {n : Nat} (h : runP ends d = some (x, n)) : n ≤ d.length := by
  unfold runP at h
  have := loopK_le (runF_steps ends) [] d 0
  cases e : loopK (runF ends) [] d 0 with
  | mk o y =>
    rw [e] at h this
    cases o with
    | some _ => cases h
    | none =>
      injection h with h
      obtain ⟨y1, y2⟩ := y
      injection h with _ h
      subst h
      simp at this; omega
/-- Two changes of the reader's place, one behind the other. -/
theorem turned2 {R : Nat} {w w1 w2 : World} (h : Turned (fun b => b = R) w w1) (h2 : Turned (fun b => b = R) w1 w2) : Turned (fun b => b = R) w w2 := h.trans h2 fun _ _ e => e
theorem turned_drawn {R : Nat} {w w1 : World} (h : Drawn w w1) : Turned (fun b => b = R) w w1 := Turned.of_below (h.below _)

set_option maxHeartbeats 1000000 in
theorem value11_any (R : Nat) (c : RC) (k : Nat) (w : World) (h : Rd w R c k) (hk : k ≤ c.l.length) (hl : c.l.length ≤ 100000) :
    Calls Tryd.prog 65 #[.pointer (some ⟨R, 0, none⟩)] w (StrPost w R c k (valueP (c.l.drop k))) := by
  have hV0 : ∀ q : UInt8, (if Lib.hasPrefix (c.l.drop k) [39] then (39 : UInt8) else 34) = q → valueP (c.l.drop k) = if Lib.hasPrefix (c.l.drop k) [q] = false then none else
      match runP [60, q] (c.l.drop (k + 1)) with
      | none => none
      | some (x, n) => if Lib.hasPrefix (c.l.drop (k + 1 + n)) [q] then some (x, 1 + n + 1) else none := by
    intro q hq
    unfold valueP
    rw [hq, List.drop_drop]
    split
    · rfl
    · cases runP [60, q] (c.l.drop (k + 1)) with
      | none => rfl
      | some y => simp only [List.drop_drop, Nat.add_assoc]
  have hh := has11_any R c k [39] w h hk hl
  have r0 := Lib.hid h
  clear h
  generalize hoo : valueP (c.l.drop k) = o at hV0
  replace hV0 := Lib.hid hV0
  replace hoo := Lib.hid hoo
  cases hq : Lib.hasPrefix (c.l.drop k) [39]
  · rw [hq] at hh
    have hV := hV0.out 34 (by rw [hq]; rfl)
    replace hV := Lib.hid hV
    replace hh := Lib.hid hh
    replace hq := Lib.hid hq
    go_enter Tryd.func65, Tryd.ntmps65
    go_wp2_with fail
    refine hh.out.mono ?_; rintro e w1 ⟨rfl, hd1⟩
    have r1 := r0.out.drawn hd1
    replace hd1 := Lib.hid hd1
    replace r1 := Lib.hid r1
    go_wp2_with fail
    refine (take11_any R c k [34] w1 r1.out hk hl).mono ?_; rintro e w2 ⟨rfl, r2, t2⟩
    replace t2 := Lib.hid t2
    cases hp : Lib.hasPrefix (c.l.drop k) [34]
    · rw [hp, if_neg (by decide)] at r2
      replace r2 := Lib.hid r2
      replace hp := Lib.hid hp
      go_wp2_with fail
      go_ret2
      exact StrPost.no (hV.out.trans (by rw [hp.out]; rfl)) ⟨rfl, k, hk, r2.out, turned2 (turned_drawn hd1.out) t2.out⟩
    rw [hp, if_pos rfl] at r2
    have hpl := prefix_len hp
    rw [List.length_drop] at hpl
    replace hp := Lib.hid hp
    replace r2 := Lib.hid r2
    have hpl2 : k + 1 ≤ c.l.length := by simp at hpl; omega
    clear hpl
    go_wp2_with fail
    have hrun := run11_any R c (k + 1) [60, 34] w2 r2.out hpl2 hl
    have hle := fun x n => runP_le (ends := [60, 34]) (d := c.l.drop (k + 1)) (x := x) (n := n)
    rw [List.length_drop] at hle
    generalize hro : runP [60, 34] (c.l.drop (k + 1)) = ro at hrun hle
    replace hro := Lib.hid hro
    cases ro with
    | none =>
      clear hle
      refine hrun.mono ?_; rintro e w3 ⟨rfl, k3, hk3, r3, t3⟩
      clear hrun
      replace r3 := Lib.hid r3
      replace t3 := Lib.hid t3
      go_wp2_with fail
      go_ret2
      exact StrPost.no (hV.out.trans (by rw [hp.out, hro.out]; rfl)) ⟨rfl, k3, hk3, r3.out, turned2 (turned2 (turned_drawn hd1.out) t2.out) t3.out⟩
    | some y =>
      obtain ⟨x, n⟩ := y
      have hle := hle x n rfl
      refine hrun.mono ?_; rintro e w3 ⟨rfl, r3, t3⟩
      clear hrun
      replace r3 := Lib.hid r3
      replace t3 := Lib.hid t3
      go_wp2_with fail
      refine (take11_any R c (k + 1 + n) [34] w3 r3.out (by omega) hl).mono ?_; rintro e w4 ⟨rfl, r4, t4⟩
      replace t4 := Lib.hid t4
      cases hp4 : Lib.hasPrefix (c.l.drop (k + 1 + n)) [34]
      · rw [hp4, if_neg (by decide)] at r4
        replace r4 := Lib.hid r4
        replace hp4 := Lib.hid hp4
        go_wp2_with fail
        go_ret2
        exact StrPost.no (hV.out.trans (by rw [hp.out, hro.out]; simp only [hp4.out]; rfl)) ⟨rfl, k + 1 + n, by omega, r4.out, turned2 (turned2 (turned2 (turned_drawn hd1.out) t2.out) t3.out) t4.out⟩
      · rw [hp4, if_pos rfl] at r4
        replace r4 := Lib.hid r4
        replace hp4 := Lib.hid hp4
        go_wp2_with fail
        go_ret2
        exact StrPost.ok (x := x) (n := 1 + n + 1) (hV.out.trans (by rw [hp.out, hro.out]; simp only [hp4.out]; rfl)) ⟨rfl, by have := r4.out; rw [show k + (1 + n + 1) = k + 1 + n + [34].length by simp; omega]; exact this, turned2 (turned2 (turned2 (turned_drawn hd1.out) t2.out) t3.out) t4.out⟩
  · rw [hq] at hh
    have hV := hV0.out 39 (by rw [hq]; rfl)
    replace hV := Lib.hid hV
    replace hh := Lib.hid hh
    replace hq := Lib.hid hq
    go_enter Tryd.func65, Tryd.ntmps65
    go_wp2_with fail
    refine hh.out.mono ?_; rintro e w1 ⟨rfl, hd1⟩
    have r1 := r0.out.drawn hd1
    replace hd1 := Lib.hid hd1
    replace r1 := Lib.hid r1
    go_wp2_with fail
    refine (take11_any R c k [39] w1 r1.out hk hl).mono ?_; rintro e w2 ⟨rfl, r2, t2⟩
    replace t2 := Lib.hid t2
    cases hp : Lib.hasPrefix (c.l.drop k) [39]
    · rw [hp, if_neg (by decide)] at r2
      replace r2 := Lib.hid r2
      replace hp := Lib.hid hp
      go_wp2_with fail
      go_ret2
      exact StrPost.no (hV.out.trans (by rw [hp.out]; rfl)) ⟨rfl, k, hk, r2.out, turned2 (turned_drawn hd1.out) t2.out⟩
    rw [hp, if_pos rfl] at r2
    have hpl := prefix_len hp
    rw [List.length_drop] at hpl
    replace hp := Lib.hid hp
    replace r2 := Lib.hid r2
    have hpl2 : k + 1 ≤ c.l.length := by simp at hpl; omega
    clear hpl
    go_wp2_with fail
    have hrun := run11_any R c (k + 1) [60, 39] w2 r2.out hpl2 hl
    have hle := fun x n => runP_le (ends := [60, 39]) (d := c.l.drop (k + 1)) (x := x) (n := n)
    rw [List.length_drop] at hle
    generalize hro : runP [60, 39] (c.l.drop (k + 1)) = ro at hrun hle
    replace hro := Lib.hid hro
    cases ro with
    | none =>
      clear hle
      refine hrun.mono ?_; rintro e w3 ⟨rfl, k3, hk3, r3, t3⟩
      clear hrun
      replace r3 := Lib.hid r3
      replace t3 := Lib.hid t3
      go_wp2_with fail
      go_ret2
      exact StrPost.no (hV.out.trans (by rw [hp.out, hro.out]; rfl)) ⟨rfl, k3, hk3, r3.out, turned2 (turned2 (turned_drawn hd1.out) t2.out) t3.out⟩
    | some y =>
      obtain ⟨x, n⟩ := y
      have hle := hle x n rfl
      refine hrun.mono ?_; rintro e w3 ⟨rfl, r3, t3⟩
      clear hrun
      replace r3 := Lib.hid r3
      replace t3 := Lib.hid t3
      go_wp2_with fail
      refine (take11_any R c (k + 1 + n) [39] w3 r3.out (by omega) hl).mono ?_; rintro e w4 ⟨rfl, r4, t4⟩
      replace t4 := Lib.hid t4
      cases hp4 : Lib.hasPrefix (c.l.drop (k + 1 + n)) [39]
      · rw [hp4, if_neg (by decide)] at r4
        replace r4 := Lib.hid r4
        replace hp4 := Lib.hid hp4
        go_wp2_with fail
        go_ret2
        exact StrPost.no (hV.out.trans (by rw [hp.out, hro.out]; simp only [hp4.out]; rfl)) ⟨rfl, k + 1 + n, by omega, r4.out, turned2 (turned2 (turned2 (turned_drawn hd1.out) t2.out) t3.out) t4.out⟩
      · rw [hp4, if_pos rfl] at r4
        replace r4 := Lib.hid r4
        replace hp4 := Lib.hid hp4
        go_wp2_with fail
        go_ret2
        exact StrPost.ok (x := x) (n := 1 + n + 1) (hV.out.trans (by rw [hp.out, hro.out]; simp only [hp4.out]; rfl)) ⟨rfl, by have := r4.out; rw [show k + (1 + n + 1) = k + 1 + n + [39].length by simp; omega]; exact this, turned2 (turned2 (turned2 (turned_drawn hd1.out) t2.out) t3.out) t4.out⟩
end Go.Proofs.YtldnigkaagcciaaDoor
