/- Layer 11: what reads a text from a place on: name, until, ref, atElement. -/
import Derived.Test.YtldnigkaagcciaaDoorD11a
import Derived.Test.YtldnigkaagcciaaDoorD10d
import Derived.Test.YtldnigkaagcciaaDoorCt
namespace Go.Proofs.YtldnigkaagcciaaDoor
open Go.RowKit

/-- A text that was read. -/
def OkPost (w : World) (R : Nat) (c : RC) (k : Nat) (x : List UInt8) (e : Ending) (w' : World) : Prop :=
  e = .returned (.tuple #[.string ⟨x.toArray⟩, .nilIface]) ∧ Rd w' R c k ∧ Turned (fun b => b = R) w w'
/-- None; where the reader is then is of no account. -/
def NoPost (w : World) (R : Nat) (c : RC) (e : Ending) (w' : World) : Prop :=
  e = .returned (.tuple #[.string ⟨([] : List UInt8).toArray⟩, .iface 29 (.int .i64 3)]) ∧ ∃ k, k ≤ c.l.length ∧ Rd w' R c k ∧ Turned (fun b => b = R) w w'
def StrPost (w : World) (R : Nat) (c : RC) (k : Nat) : Option (List UInt8 × Nat) → Ending → World → Prop
  | some (x, n) => OkPost w R c (k + n) x
  | none => NoPost w R c

theorem StrPost.ok {w w' : World} {R : Nat} {c : RC} {k n : Nat} {x : List UInt8} {o : Option (List UInt8 × Nat)} {e : Ending} (ho : o = some (x, n)) (h : OkPost w R c (k + n) x e w') : StrPost w R c k o e w' := by subst ho; exact h
theorem StrPost.no {w w' : World} {R : Nat} {c : RC} {k : Nat} {o : Option (List UInt8 × Nat)} {e : Ending} (ho : o = none) (h : NoPost w R c e w') : StrPost w R c k o e w' := by subst ho; exact h

set_option maxHeartbeats 1000000 in
theorem name11m_any (R : Nat) (c : RC) (k : Nat) (w : World) (h : Rd w R c k) (hk : k ≤ c.l.length) (hl : c.l.length ≤ 100000) :
    Calls Tryd.prog 50 #[.pointer (some ⟨R, 0, none⟩)] w (StrPost w R c k (nameP (c.l.drop k))) := by
  have c1 := h.c1
  have c0 := h.c0
  have f1 := h.fz 1
  have hst : Hid (Rd w R c k) := h
  clear h
  go_enter Tryd.func50, Tryd.ntmps50
  go_wp2_with fail
  go_loopw [4] (fun i wr => ∃ m : Nat, i = .int .i64 m ∧ k ≤ m ∧ m ≤ c.l.length ∧ Hid (SpAtN follI (c.l.drop k) (m - k)) ∧ Drawn w wr) (fun i _ => c.l.length - (intOf i).toNat)
  case atStart => exact ⟨k, rfl, Nat.le_refl _, hk, by rw [Nat.sub_self]; exact SpAtN.zero _ _, Drawn.refl _⟩
  case round =>
    obtain ⟨m, rfl, hkm, hm, hsp, n0, rfl⟩ := hrel
    have hdl : (c.l.drop k).length = c.l.length - k := List.length_drop
    have hbt : bt (c.l.drop k) (m - k) = bt c.l m := by rw [bt_drop]; congr 1; omega
    replace hdl := Lib.hid hdl
    replace hbt := Lib.hid hbt
    by_cases hlt : m < c.l.length
    · have hlt1 : (m : Int) < c.l.length := by omega
      have hf := fun W : World => foll11_any (bt c.l m) W
      cases hb : follI (bt c.l m)
      · have hend : Hid (spanN follI (c.l.drop k) = m - k) := hsp.out.stop (by rw [hdl.out]; omega) (by rw [hbt.out]; exact hb)
        rw [hb] at hf
        replace hf := Lib.hid hf
        replace hb := Lib.hid hb
        go_wp2_with fail
        refine (hf.out _).mono ?_; rintro e w' ⟨rfl, rfl⟩
        go_wp2_with fail
        go_quiet (fail)
        go_wp2_with fail
        refine (name11_any _ _).mono ?_; rintro e w' ⟨rfl, rfl⟩
        have hx : (c.l.take m).drop k = (c.l.drop k).take (spanN follI (c.l.drop k)) := by rw [hend.out, List.drop_take]
        have hP : nameP (c.l.drop k) = if nameB ((c.l.take m).drop k) then some ((c.l.take m).drop k, m - k) else none := by unfold nameP; rw [hx, hend.out]
        have hR := hst.out.drawn (drawn_drewN w (n0 + nq))
        replace hR := Lib.hid hR
        replace hx := Lib.hid hx
        replace hP := Lib.hid hP
        cases hnb : nameB ((c.l.take m).drop k)
        · replace hnb := Lib.hid hnb
          go_wp2_with fail
          go_ret2
          exact StrPost.no (by rw [hP.out, hnb.out]; rfl) ⟨rfl, k, hk, by simpa using hR.out, Turned.of_below (Drawn.below ⟨n0 + nq, by simp⟩ _)⟩
        · replace hnb := Lib.hid hnb
          go_wp2_with fail
          go_ret2
          exact StrPost.ok (by rw [hP.out, hnb.out]; rfl) ⟨rfl, by simpa using hR.out.move (k + (m - k)) (x := (m : Int)) (by omega), (Turned.of_below (Drawn.below ⟨n0 + nq, by simp⟩ _)).trans (turned_setCell _ _ _) fun _ _ e => e⟩
      · have hnx : Hid (SpAtN follI (c.l.drop k) (m + 1 - k)) := by
          have := hsp.out.step (by rw [hdl.out]; omega) (by rw [hbt.out]; exact hb)
          rw [show m - k + 1 = m + 1 - k by omega] at this
          exact this
        rw [hb] at hf
        replace hf := Lib.hid hf
        replace hb := Lib.hid hb
        go_wp2_with fail
        refine (hf.out _).mono ?_; rintro e w' ⟨rfl, rfl⟩
        go_wp2_with fail
        exact ⟨⟨m + 1, by go_num, by omega, by omega, hnx, ⟨_, rfl⟩⟩, by simp [intOf]; omega⟩
    · have hlt1 : ¬ ((m : Int) < c.l.length) := by omega
      have hend : Hid (spanN follI (c.l.drop k) = m - k) := hsp.out.done (by rw [hdl.out]; omega)
      go_wp2_with fail
      go_quiet (fail)
      go_wp2_with fail
      refine (name11_any _ _).mono ?_; rintro e w' ⟨rfl, rfl⟩
      have hx : (c.l.take m).drop k = (c.l.drop k).take (spanN follI (c.l.drop k)) := by rw [hend.out, List.drop_take]
      have hP : nameP (c.l.drop k) = if nameB ((c.l.take m).drop k) then some ((c.l.take m).drop k, m - k) else none := by unfold nameP; rw [hx, hend.out]
      have hR := hst.out.drawn (drawn_drewN w (n0 + nq))
      replace hR := Lib.hid hR
      replace hx := Lib.hid hx
      replace hP := Lib.hid hP
      cases hnb : nameB ((c.l.take m).drop k)
      · replace hnb := Lib.hid hnb
        go_wp2_with fail
        go_ret2
        exact StrPost.no (by rw [hP.out, hnb.out]; rfl) ⟨rfl, k, hk, by simpa using hR.out, Turned.of_below (Drawn.below ⟨n0 + nq, by simp⟩ _)⟩
      · replace hnb := Lib.hid hnb
        go_wp2_with fail
        go_ret2
        exact StrPost.ok (by rw [hP.out, hnb.out]; rfl) ⟨rfl, by simpa using hR.out.move (k + (m - k)) (x := (m : Int)) (by omega), (Turned.of_below (Drawn.below ⟨n0 + nq, by simp⟩ _)).trans (turned_setCell _ _ _) fun _ _ e => e⟩

theorem maxL_drawn {w : World} (h : MaxL w) (n : Nat) : MaxL (w.drewN n) := h
theorem strcut_at (l p : List UInt8) (w : World) (hm : MaxL w) (hl : l.length ≤ 1000000) (n : Nat) :
    Calls Tryd.prog 48 #[.string ⟨l.toArray⟩, .string ⟨p.toArray⟩] (w.drewN n) fun e w' => e = .returned (.tuple #[.string ⟨(Lib.cut l p).1.toArray⟩, .string ⟨(Lib.cut l p).2.1.toArray⟩, .bool (Lib.cut l p).2.2]) ∧ ∃ m, w' = w.drewN m :=
  (strcut_any l p (w.drewN n) (maxL_drawn hm n) hl).mono fun _ _ h => ⟨h.1, by obtain ⟨m, rfl⟩ := h.2; exact ⟨n + m, by simp⟩⟩

set_option maxHeartbeats 1000000 in
theorem until11_any (R : Nat) (c : RC) (k : Nat) (p bar : List UInt8) (w : World) (hm : MaxL w) (h : Rd w R c k) (hk : k ≤ c.l.length) (hl : c.l.length ≤ 100000) :
    Calls Tryd.prog 36 #[.pointer (some ⟨R, 0, none⟩), .string ⟨p.toArray⟩, .string ⟨bar.toArray⟩] w (StrPost w R c k (untilP p bar (c.l.drop k))) := by
  have c1 := h.c1
  have c0 := h.c0
  have f1 := h.fz 1
  have htl : c.l.take c.l.length = c.l := List.take_length
  have hdl : (c.l.drop k).length = c.l.length - k := List.length_drop
  have hcut := strcut_at (c.l.drop k) p w hm (by omega)
  have hroom := Lib.index_room (c.l.drop k) p
  by_cases hi : 0 ≤ Lib.index (c.l.drop k) p
  · have hci : Lib.cut (c.l.drop k) p = ((c.l.drop k).take (Lib.index (c.l.drop k) p).toNat, (c.l.drop k).drop ((Lib.index (c.l.drop k) p).toNat + p.length), true) := by unfold Lib.cut; rw [if_pos hi]
    rw [hci] at hcut
    have hroom := hroom hi
    have hP : untilP p bar (c.l.drop k) = if Lib.contains ((c.l.drop k).take (Lib.index (c.l.drop k) p).toNat) bar then none else some ((c.l.drop k).take (Lib.index (c.l.drop k) p).toNat, (Lib.index (c.l.drop k) p).toNat + p.length) := by
      unfold untilP; rw [if_neg (by omega)]
    obtain ⟨i, hii⟩ : ∃ i : Nat, Lib.index (c.l.drop k) p = i := ⟨(Lib.index (c.l.drop k) p).toNat, by omega⟩
    rw [hii, Int.toNat_natCast] at hcut hP
    rw [hii] at hroom
    clear hci
    replace hii := Lib.hid hii
    have hxl : ((c.l.drop k).take i).length = i := by rw [List.length_take]; omega
    have hcon := fun n : Nat => strcontains_any ((c.l.drop k).take i) bar (w.drewN n) (maxL_drawn hm n) (by omega)
    generalize (c.l.drop k).take i = x at hcut hP hxl hcon
    generalize List.drop (i + p.length) (List.drop k c.l) = y at hcut
    clear hi
    cases hb : Lib.contains x bar
    · rw [hb] at hcon hP
      rw [if_neg (by decide)] at hP
      replace hcut := Lib.hid hcut
      replace hcon := Lib.hid hcon
      replace hP := Lib.hid hP
      replace hb := Lib.hid hb
      replace h := Lib.hid h
      have hroom : k + i + p.length ≤ c.l.length := by omega
      go_enter Tryd.func36, Tryd.ntmps36
      go_wp2_with fail
      go_quiet ((go_at_call 48; exact hcut.out _))
      go_wp2_with fail
      refine (hcon.out _).mono ?_; rintro e w' ⟨rfl, rfl⟩
      go_wp2_with fail
      go_ret2
      exact StrPost.ok hP.out ⟨rfl, (h.out.drawn (drawn_drewN _ _)).move _ (by omega), (Turned.of_below (Drawn.below ⟨_, rfl⟩ _)).trans (turned_setCell _ _ _) fun _ _ e => e⟩
    · rw [hb] at hcon hP
      rw [if_pos rfl] at hP
      replace hcut := Lib.hid hcut
      replace hcon := Lib.hid hcon
      replace hP := Lib.hid hP
      replace hb := Lib.hid hb
      replace h := Lib.hid h
      go_enter Tryd.func36, Tryd.ntmps36
      go_wp2_with fail
      go_quiet ((go_at_call 48; exact hcut.out _))
      go_wp2_with fail
      refine (hcon.out _).mono ?_; rintro e w' ⟨rfl, rfl⟩
      go_wp2_with fail
      go_ret2
      exact StrPost.no hP.out ⟨rfl, k, hk, h.out.drawn (drawn_drewN _ _), Turned.of_below (Drawn.below ⟨_, rfl⟩ _)⟩
  · have hci : Lib.cut (c.l.drop k) p = (c.l.drop k, [], false) := by unfold Lib.cut; rw [if_neg hi]
    rw [hci] at hcut
    have hP : untilP p bar (c.l.drop k) = none := by unfold untilP; rw [if_pos (by omega)]
    clear hci hroom hi
    replace hcut := Lib.hid hcut
    replace hP := Lib.hid hP
    replace h := Lib.hid h
    replace hdl := Lib.hid hdl
    go_enter Tryd.func36, Tryd.ntmps36
    go_wp2_with fail
    go_quiet ((go_at_call 48; exact hcut.out _))
    go_wp2_with fail
    go_ret2
    exact StrPost.no hP.out ⟨rfl, k, hk, h.out.drawn (drawn_drewN _ _), Turned.of_below (Drawn.below ⟨_, rfl⟩ _)⟩
end Go.Proofs.YtldnigkaagcciaaDoor
