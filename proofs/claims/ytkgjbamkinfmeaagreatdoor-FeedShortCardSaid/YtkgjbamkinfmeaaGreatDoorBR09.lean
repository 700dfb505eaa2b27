/- strings.Cut, strings.Contains at this program, by the library's contracts (made by wip/tools/shelf2tpl.py), over texts as lists of bytes. -/
import Derived.Shelf.Strings.Search3
import Derived.Shelf.Strings.Cut
import Derived.Test.YtkgjbamkinfmeaaGreatDoorBR01
import Derived.Test.YtkgjbamkinfmeaaGreatDoorBR07
import Derived.Test.YtkgjbamkinfmeaaGreatDoorBR08
import Derived.Lib.AppendStr
namespace Go.Proofs.YtkgjbamkinfmeaaGreatDoor
open Go.RowKit Go.Shelf Go.Lib
def Laid.lays144_ren : Go.Shelf.Ren := ⟨fun | 144 => 154 | 143 => 180 | 219 => 196 | 217 => 186 | 225 => 206 | 224 => 207 | 267 => 208 | 266 => 198 | 314 => 211 | n => n, fun | 9 => 9 | 4 => 4 | 3 => 3 | 5 => 5 | 46 => 143 | 146 => 213 | 51 => 212 | n => n, fun | 1 => 5 | n => n⟩
theorem Laid.lays144 : Go.Proofs.Lays.n144 Tryz.prog Laid.lays144_ren := {
  mixed := by kernel_rfl
  f143 := Tryz.func180.trans (congrArg some (by kernel_rfl))
  f144 := Tryz.func154.trans (congrArg some (by kernel_rfl))
  f217 := Tryz.func186.trans (congrArg some (by kernel_rfl))
  f219 := Tryz.func196.trans (congrArg some (by kernel_rfl))
  f224 := Tryz.func207.trans (congrArg some (by kernel_rfl))
  f225 := Tryz.func206.trans (congrArg some (by kernel_rfl))
  f266 := Tryz.func198.trans (congrArg some (by kernel_rfl))
  f267 := Tryz.func208.trans (congrArg some (by kernel_rfl))
  f314 := Tryz.func211.trans (congrArg some (by kernel_rfl))
  t3 := Tryz.underlying3
  a3 := Tryz.isAgg3
  z3 := Tryz.sizeOf3
  v3 := Tryz.zeroValue3
  t4 := Tryz.underlying4
  a4 := Tryz.isAgg4
  z4 := Tryz.sizeOf4
  v4 := Tryz.zeroValue4
  t5 := Tryz.underlying5
  a5 := Tryz.isAgg5
  z5 := Tryz.sizeOf5
  v5 := Tryz.zeroValue5
  t9 := Tryz.underlying9
  a9 := Tryz.isAgg9
  z9 := Tryz.sizeOf9
  v9 := Tryz.zeroValue9
  t46 := Tryz.underlying143
  a46 := Tryz.isAgg143
  z46 := Tryz.sizeOf143
  v46 := Tryz.zeroValue143
  t51 := Tryz.underlying212
  a51 := Tryz.isAgg212
  z51 := Tryz.sizeOf212
  v51 := Tryz.zeroValue212
  t146 := Tryz.underlying213
  a146 := Tryz.isAgg213
  z146 := Tryz.sizeOf213
  v146 := Tryz.zeroValue213
  g1 := by kernel_rfl }
open Go.RowKit Go.Lib in
theorem Laid.strings_Contains (s sub : ByteArray) (m : Int) (w : World) (hs : s.size < 4294967281) (hm : w.cell? ⟨5, 0, none⟩ = some (.int .i64 m)) :
    Calls Tryz.prog 154 #[.string s, .string sub] w fun e w' => e = .returned (.bool (Lib.contains s.data.toList sub.data.toList)) ∧ w' = w := Any.strings_Contains Laid.lays144 s sub m w hs hm
def Laid.lays145_ren : Go.Shelf.Ren := ⟨fun | 145 => 153 | 220 => 179 | 219 => 196 | 217 => 186 | 225 => 206 | 224 => 207 | 267 => 208 | 266 => 198 | 314 => 211 | n => n, fun | 9 => 9 | 4 => 4 | 59 => 189 | 3 => 3 | 5 => 5 | 46 => 143 | 146 => 213 | 51 => 212 | n => n, fun | 1 => 5 | n => n⟩
theorem Laid.lays145 : Go.Proofs.Lays.n145 Tryz.prog Laid.lays145_ren := {
  mixed := by kernel_rfl
  f145 := Tryz.func153.trans (congrArg some (by kernel_rfl))
  f217 := Tryz.func186.trans (congrArg some (by kernel_rfl))
  f219 := Tryz.func196.trans (congrArg some (by kernel_rfl))
  f220 := Tryz.func179.trans (congrArg some (by kernel_rfl))
  f224 := Tryz.func207.trans (congrArg some (by kernel_rfl))
  f225 := Tryz.func206.trans (congrArg some (by kernel_rfl))
  f266 := Tryz.func198.trans (congrArg some (by kernel_rfl))
  f267 := Tryz.func208.trans (congrArg some (by kernel_rfl))
  f314 := Tryz.func211.trans (congrArg some (by kernel_rfl))
  t3 := Tryz.underlying3
  a3 := Tryz.isAgg3
  z3 := Tryz.sizeOf3
  v3 := Tryz.zeroValue3
  t4 := Tryz.underlying4
  a4 := Tryz.isAgg4
  z4 := Tryz.sizeOf4
  v4 := Tryz.zeroValue4
  t5 := Tryz.underlying5
  a5 := Tryz.isAgg5
  z5 := Tryz.sizeOf5
  v5 := Tryz.zeroValue5
  t9 := Tryz.underlying9
  a9 := Tryz.isAgg9
  z9 := Tryz.sizeOf9
  v9 := Tryz.zeroValue9
  t46 := Tryz.underlying143
  a46 := Tryz.isAgg143
  z46 := Tryz.sizeOf143
  v46 := Tryz.zeroValue143
  t51 := Tryz.underlying212
  a51 := Tryz.isAgg212
  z51 := Tryz.sizeOf212
  v51 := Tryz.zeroValue212
  t59 := Tryz.underlying189
  a59 := Tryz.isAgg189
  z59 := Tryz.sizeOf189
  v59 := Tryz.zeroValue189
  t146 := Tryz.underlying213
  a146 := Tryz.isAgg213
  z146 := Tryz.sizeOf213
  v146 := Tryz.zeroValue213
  g1 := by kernel_rfl }
open Go.RowKit Go.Lib in
theorem Laid.strings_Cut (s sep : ByteArray) (m : Int) (w : World) (hs : s.size < 4294967281) (hm : w.cell? ⟨5, 0, none⟩ = some (.int .i64 m)) :
    Calls Tryz.prog 153 #[.string s, .string sep] w fun e w' => e = .returned (.tuple #[.string ⟨(Lib.cut s.data.toList sep.data.toList).1.toArray⟩, .string ⟨(Lib.cut s.data.toList sep.data.toList).2.1.toArray⟩, .bool (Lib.cut s.data.toList sep.data.toList).2.2]) ∧ ∃ n, w' = w.drewN n := Any.strings_Cut Laid.lays145 s sep m w hs hm

/-- The library's own number lies as some number. -/
def MaxL (w : World) : Prop := ∃ m : Int, w.cell? ⟨5, 0, none⟩ = some (.int .i64 m)
theorem strcontains_any (l p : List UInt8) (w : World) (hm : MaxL w) (hl : l.length ≤ 1000000) :
    Calls Tryz.prog 154 #[.string ⟨l.toArray⟩, .string ⟨p.toArray⟩] w fun e w' => e = .returned (.bool (Lib.contains l p)) ∧ w = w' := by
  obtain ⟨m, hm⟩ := hm
  exact (Laid.strings_Contains ⟨l.toArray⟩ ⟨p.toArray⟩ m w (by show l.length < _; omega) hm).mono fun _ _ h => ⟨h.1, h.2.symm⟩
theorem strcut_any (l p : List UInt8) (w : World) (hm : MaxL w) (hl : l.length ≤ 1000000) :
    Calls Tryz.prog 153 #[.string ⟨l.toArray⟩, .string ⟨p.toArray⟩] w fun e w' => e = .returned (.tuple #[.string ⟨(Lib.cut l p).1.toArray⟩, .string ⟨(Lib.cut l p).2.1.toArray⟩, .bool (Lib.cut l p).2.2]) ∧ Drawn w w' := by
  obtain ⟨m, hm⟩ := hm
  exact Laid.strings_Cut ⟨l.toArray⟩ ⟨p.toArray⟩ m w (by show l.length < _; omega) hm
end Go.Proofs.YtkgjbamkinfmeaaGreatDoor

/- Layer 11: what reads a text from a place on: name, until, ref, atElement. -/
namespace Go.Proofs.YtkgjbamkinfmeaaGreatDoor
open Go.RowKit

/-- A text that was read. -/
def OkPost (w : World) (R : Nat) (c : RC) (k : Nat) (x : List UInt8) (e : Ending) (w' : World) : Prop :=
  e = .returned (.tuple #[.string ⟨x.toArray⟩, .nilIface]) ∧ Rd w' R c k ∧ Turned (fun b => b = R) w w'
/-- None; where the reader is then is of no account. -/
def NoPost (w : World) (R : Nat) (c : RC) (e : Ending) (w' : World) : Prop :=
  e = .returned (.tuple #[.string ⟨([] : List UInt8).toArray⟩, .iface 30 (.int .i64 3)]) ∧ ∃ k, k ≤ c.l.length ∧ Rd w' R c k ∧ Turned (fun b => b = R) w w'
def Str11Post (w : World) (R : Nat) (c : RC) (k : Nat) : Option (List UInt8 × Nat) → Ending → World → Prop
  | some (x, n) => OkPost w R c (k + n) x
  | none => NoPost w R c

theorem Str11Post.ok {w w' : World} {R : Nat} {c : RC} {k n : Nat} {x : List UInt8} {o : Option (List UInt8 × Nat)} {e : Ending} (ho : o = some (x, n)) (h : OkPost w R c (k + n) x e w') : Str11Post w R c k o e w' := by subst ho; exact h
theorem Str11Post.no {w w' : World} {R : Nat} {c : RC} {k : Nat} {o : Option (List UInt8 × Nat)} {e : Ending} (ho : o = none) (h : NoPost w R c e w') : Str11Post w R c k o e w' := by subst ho; exact h

set_option maxHeartbeats 1000000 in
theorem name11m_any (R : Nat) (c : RC) (k : Nat) (w : World) (h : Rd w R c k) (hk : k ≤ c.l.length) (hl : c.l.length ≤ 100000) :
    Calls Tryz.prog 156 #[.pointer (some ⟨R, 0, none⟩)] w (Str11Post w R c k (nameP (c.l.drop k))) := by
  have c1 := h.c1
  have c0 := h.c0
  have f1 := h.fz 1
  have hst : Hid (Rd w R c k) := h
  clear h
  go_enter Tryz.func156, Tryz.ntmps156
  go_wp2_with fail
  go_loopw [4] (fun i wr => ∃ m : Nat, i = .int .i64 m ∧ k ≤ m ∧ m ≤ c.l.length ∧ Hid (SpAtN follI (c.l.drop k) (m - k)) ∧ Drawn w wr) (fun i _ => c.l.length - (intOf i).toNat)
  case atStart => exact ⟨k, rfl, Nat.le_refl _, hk, by rw [Nat.sub_self]; exact SpAtN.zero _ _, Drawn.refl _⟩
  case round =>
    obtain ⟨m, rfl, hkm, hm, hsp, n0, rfl⟩ := hrel
    have hdl : (c.l.drop k).length = c.l.length - k := List.length_drop
    have hbt : bt (c.l.drop k) (m - k) = bt c.l m := by rw [bt_drop]; congr 1; omega
    replace hdl := Lib.hid hdl
    replace hbt := Lib.hid hbt
    by_cases hlt : m < c.l.length
    · have hlt1 : (m : Int) < c.l.length := by omega
      have hf := fun W : World => foll11_any (bt c.l m) W
      cases hb : follI (bt c.l m)
      · have hend : Hid (spanN follI (c.l.drop k) = m - k) := hsp.out.stop (by rw [hdl.out]; omega) (by rw [hbt.out]; exact hb)
        rw [hb] at hf
        replace hf := Lib.hid hf
        replace hb := Lib.hid hb
        go_wp2_with fail
        refine (hf.out _).mono ?_; rintro e w' ⟨rfl, rfl⟩
        go_wp2_with fail
        go_quiet (fail)
        go_wp2_with fail
        refine (name11_any _ _).mono ?_; rintro e w' ⟨rfl, rfl⟩
        have hx : (c.l.take m).drop k = (c.l.drop k).take (spanN follI (c.l.drop k)) := by rw [hend.out, List.drop_take]
        have hP : nameP (c.l.drop k) = if nameB ((c.l.take m).drop k) then some ((c.l.take m).drop k, m - k) else none := by unfold nameP; rw [hx, hend.out]
        have hR := hst.out.drawn (drawn_drewN w (n0 + nq))
        replace hR := Lib.hid hR
        replace hx := Lib.hid hx
        replace hP := Lib.hid hP
        cases hnb : nameB ((c.l.take m).drop k)
        · replace hnb := Lib.hid hnb
          go_wp2_with fail
          go_ret2
          exact Str11Post.no (by rw [hP.out, hnb.out]; rfl) ⟨rfl, k, hk, by simpa using hR.out, Turned.of_below (Drawn.below ⟨n0 + nq, by simp⟩ _)⟩
        · replace hnb := Lib.hid hnb
          go_wp2_with fail
          go_ret2
          exact Str11Post.ok (by rw [hP.out, hnb.out]; rfl) ⟨rfl, by simpa using hR.out.move (k + (m - k)) (x := (m : Int)) (by omega), (Turned.of_below (Drawn.below ⟨n0 + nq, by simp⟩ _)).trans (turned_setCell _ _ _) fun _ _ e => e⟩
      · have hnx : Hid (SpAtN follI (c.l.drop k) (m + 1 - k)) := by
          have := hsp.out.step (by rw [hdl.out]; omega) (by rw [hbt.out]; exact hb)
          rw [show m - k + 1 = m + 1 - k by omega] at this
          exact this
        rw [hb] at hf
        replace hf := Lib.hid hf
        replace hb := Lib.hid hb
        go_wp2_with fail
        refine (hf.out _).mono ?_; rintro e w' ⟨rfl, rfl⟩
        go_wp2_with fail
        exact ⟨⟨m + 1, by go_num, by omega, by omega, hnx, ⟨_, rfl⟩⟩, by simp [intOf]; omega⟩
    · have hlt1 : ¬ ((m : Int) < c.l.length) := by omega
      have hend : Hid (spanN follI (c.l.drop k) = m - k) := hsp.out.done (by rw [hdl.out]; omega)
      go_wp2_with fail
      go_quiet (fail)
      go_wp2_with fail
      refine (name11_any _ _).mono ?_; rintro e w' ⟨rfl, rfl⟩
      have hx : (c.l.take m).drop k = (c.l.drop k).take (spanN follI (c.l.drop k)) := by rw [hend.out, List.drop_take]
      have hP : nameP (c.l.drop k) = if nameB ((c.l.take m).drop k) then some ((c.l.take m).drop k, m - k) else none := by unfold nameP; rw [hx, hend.out]
      have hR := hst.out.drawn (drawn_drewN w (n0 + nq))
      replace hR := Lib.hid hR
      replace hx := Lib.hid hx
      replace hP := Lib.hid hP
      cases hnb : nameB ((c.l.take m).drop k)
      · replace hnb := Lib.hid hnb
        go_wp2_with fail
        go_ret2
        exact Str11Post.no (by rw [hP.out, hnb.out]; rfl) ⟨rfl, k, hk, by simpa using hR.out, Turned.of_below (Drawn.below ⟨n0 + nq, by simp⟩ _)⟩
      · replace hnb := Lib.hid hnb
        go_wp2_with fail
        go_ret2
        exact Str11Post.ok (by rw [hP.out, hnb.out]; rfl) ⟨rfl, by simpa using hR.out.move (k + (m - k)) (x := (m : Int)) (by omega), (Turned.of_below (Drawn.below ⟨n0 + nq, by simp⟩ _)).trans (turned_setCell _ _ _) fun _ _ e => e⟩

theorem maxL_drawn {w : World} (h : MaxL w) (n : Nat) : MaxL (w.drewN n) := h
theorem strcut_at (l p : List UInt8) (w : World) (hm : MaxL w) (hl : l.length ≤ 1000000) (n : Nat) :
    Calls Tryz.prog 153 #[.string ⟨l.toArray⟩, .string ⟨p.toArray⟩] (w.drewN n) fun e w' => e = .returned (.tuple #[.string ⟨(Lib.cut l p).1.toArray⟩, .string ⟨(Lib.cut l p).2.1.toArray⟩, .bool (Lib.cut l p).2.2]) ∧ ∃ m, w' = w.drewN m :=
  (strcut_any l p (w.drewN n) (maxL_drawn hm n) hl).mono fun _ _ h => ⟨h.1, by obtain ⟨m, rfl⟩ := h.2; exact ⟨n + m, by simp⟩⟩

set_option maxHeartbeats 1000000 in
theorem until11_any (R : Nat) (c : RC) (k : Nat) (p bar : List UInt8) (w : World) (hm : MaxL w) (h : Rd w R c k) (hk : k ≤ c.l.length) (hl : c.l.length ≤ 100000) :
    Calls Tryz.prog 116 #[.pointer (some ⟨R, 0, none⟩), .string ⟨p.toArray⟩, .string ⟨bar.toArray⟩] w (Str11Post w R c k (untilP p bar (c.l.drop k))) := by
  have c1 := h.c1
  have c0 := h.c0
  have f1 := h.fz 1
  have htl : c.l.take c.l.length = c.l := List.take_length
  have hdl : (c.l.drop k).length = c.l.length - k := List.length_drop
  have hcut := strcut_at (c.l.drop k) p w hm (by omega)
  have hroom := Lib.index_room (c.l.drop k) p
  by_cases hi : 0 ≤ Lib.index (c.l.drop k) p
  · have hci : Lib.cut (c.l.drop k) p = ((c.l.drop k).take (Lib.index (c.l.drop k) p).toNat, (c.l.drop k).drop ((Lib.index (c.l.drop k) p).toNat + p.length), true) := by unfold Lib.cut; rw [if_pos hi]
    rw [hci] at hcut
    have hroom := hroom hi
    have hP : untilP p bar (c.l.drop k) = if Lib.contains ((c.l.drop k).take (Lib.index (c.l.drop k) p).toNat) bar then none else some ((c.l.drop k).take (Lib.index (c.l.drop k) p).toNat, (Lib.index (c.l.drop k) p).toNat + p.length) := by
      unfold untilP; rw [if_neg (by omega)]
    obtain ⟨i, hii⟩ : ∃ i : Nat, Lib.index (c.l.drop k) p = i := ⟨(Lib.index (c.l.drop k) p).toNat, by omega⟩
    rw [hii, Int.toNat_natCast] at hcut hP
    rw [hii] at hroom
    clear hci
    replace hii := Lib.hid hii
    have hxl : ((c.l.drop k).take i).length = i := by rw [List.length_take]; omega
    have hcon := fun n : Nat => strcontains_any ((c.l.drop k).take i) bar (w.drewN n) (maxL_drawn hm n) (by omega)
    generalize (c.l.drop k).take i = x at hcut hP hxl hcon
    generalize List.drop (i + p.length) (List.drop k c.l) = y at hcut
    clear hi
    cases hb : Lib.contains x bar
    · rw [hb] at hcon hP
      rw [if_neg (by decide)] at hP
      replace hcut := Lib.hid hcut
      replace hcon := Lib.hid hcon
      replace hP := Lib.hid hP
      replace hb := Lib.hid hb
      replace h := Lib.hid h
      have hroom : k + i + p.length ≤ c.l.length := by omega
      go_enter Tryz.func116, Tryz.ntmps116
      go_wp2_with fail
      go_quiet ((go_at_call 153; exact hcut.out _))
      go_wp2_with fail
      refine (hcon.out _).mono ?_; rintro e w' ⟨rfl, rfl⟩
      go_wp2_with fail
      go_ret2
      exact Str11Post.ok hP.out ⟨rfl, (h.out.drawn (drawn_drewN _ _)).move _ (by omega), (Turned.of_below (Drawn.below ⟨_, rfl⟩ _)).trans (turned_setCell _ _ _) fun _ _ e => e⟩
    · rw [hb] at hcon hP
      rw [if_pos rfl] at hP
      replace hcut := Lib.hid hcut
      replace hcon := Lib.hid hcon
      replace hP := Lib.hid hP
      replace hb := Lib.hid hb
      replace h := Lib.hid h
      go_enter Tryz.func116, Tryz.ntmps116
      go_wp2_with fail
      go_quiet ((go_at_call 153; exact hcut.out _))
      go_wp2_with fail
      refine (hcon.out _).mono ?_; rintro e w' ⟨rfl, rfl⟩
      go_wp2_with fail
      go_ret2
      exact Str11Post.no hP.out ⟨rfl, k, hk, h.out.drawn (drawn_drewN _ _), Turned.of_below (Drawn.below ⟨_, rfl⟩ _)⟩
  · have hci : Lib.cut (c.l.drop k) p = (c.l.drop k, [], false) := by unfold Lib.cut; rw [if_neg hi]
    rw [hci] at hcut
    have hP : untilP p bar (c.l.drop k) = none := by unfold untilP; rw [if_pos (by omega)]
    clear hci hroom hi
    replace hcut := Lib.hid hcut
    replace hP := Lib.hid hP
    replace h := Lib.hid h
    replace hdl := Lib.hid hdl
    go_enter Tryz.func116, Tryz.ntmps116
    go_wp2_with fail
    go_quiet ((go_at_call 153; exact hcut.out _))
    go_wp2_with fail
    go_ret2
    exact Str11Post.no hP.out ⟨rfl, k, hk, h.out.drawn (drawn_drewN _ _), Turned.of_below (Drawn.below ⟨_, rfl⟩ _)⟩
end Go.Proofs.YtkgjbamkinfmeaaGreatDoor

/- Layer 11: ref, atElement. -/
namespace Go.Proofs.YtkgjbamkinfmeaaGreatDoor
open Go.RowKit

set_option maxHeartbeats 1000000 in
theorem ref11_any (R : Nat) (c : RC) (k : Nat) (w : World) (h : Rd w R c k) (hk : k < c.l.length) (h38 : bt c.l k = 38) (hl : c.l.length ≤ 100000) :
    Calls Tryz.prog 161 #[.pointer (some ⟨R, 0, none⟩)] w fun e w' => Str11Post w R c k (refP (c.l.drop k)) e w' := by
  have c1 := h.c1
  have c0 := h.c0
  have f1 := h.fz 1
  have hways := ref_ways (c.l.drop k) (by rw [List.length_drop]; omega) (by rw [bt_drop]; exact h38)
  replace h38 := Lib.hid h38
  obtain ⟨N, hN, hN1, hN2, hmin⟩ : ∃ N : Nat, (c.l.take N).drop k = (c.l.drop k).take 13 ∧ k < N ∧ N ≤ c.l.length ∧ min (c.l.length : Int) ((k : Int) + 12 + 1) = N := by
    by_cases hc : c.l.length ≤ k + 13
    · refine ⟨c.l.length, ?_, by omega, Nat.le_refl _, by omega⟩
      rw [List.take_length, List.take_of_length_le (by rw [List.length_drop]; omega)]
    · refine ⟨k + 13, ?_, by omega, by omega, by omega⟩
      rw [List.drop_take, show k + 13 - k = 13 by omega]
  have hnl : ((c.l.take N).drop k).length = N - k := by rw [List.length_drop, List.length_take]; omega
  rw [← hN] at hways
  generalize hnear : (c.l.take N).drop k = near at hways hnl
  have hix := fun W : World => indexByte_any near 59 W
  replace hmin := Lib.hid hmin
  replace hnear := Lib.hid hnear
  replace hN := Lib.hid hN
  rw [show (59 : Int).toNat.toUInt8 = 59 from rfl] at hix
  rcases hways with ⟨hneg, hP⟩ | ⟨n, hn, hnl2, hP⟩
  · generalize Lib.indexByte near 59 = E at hix hneg
    replace hix := Lib.hid hix
    replace hP := Lib.hid hP
    replace h := Lib.hid h
    go_enter Tryz.func161, Tryz.ntmps161
    go_wp2_with fail
    go_quiet (fail)
    simp only [hmin.out, Int.toNat_natCast, hnear.out]
    go_wp2_with fail
    refine (hix.out _).mono ?_; rintro e w' ⟨rfl, rfl⟩
    go_wp2_with fail
    go_ret2
    exact Str11Post.no hP.out ⟨rfl, k, by omega, h.out.drawn ⟨_, rfl⟩, Turned.of_below (Drawn.below ⟨_, rfl⟩ _)⟩
  · rw [hn] at hix
    replace hix := Lib.hid hix
    replace hn := Lib.hid hn
    have hnm := fun W : World => named_any ((near.take (n + 1)).drop 1) W (by rw [List.length_drop, List.length_take]; omega)
    obtain ⟨o, ho⟩ : ∃ o, namedS ((near.take (n + 1)).drop 1) = o := ⟨_, rfl⟩
    rw [ho] at hP hnm
    rw [List.drop_one] at hnm
    replace hnm := Lib.hid hnm
    replace ho := Lib.hid ho
    cases o with
    | none =>
      replace hP := Lib.hid hP
      replace h := Lib.hid h
      go_enter Tryz.func161, Tryz.ntmps161
      go_wp2_with fail
      go_quiet (fail)
      simp only [hmin.out, Int.toNat_natCast, hnear.out]
      go_wp2_with fail
      refine (hix.out _).mono ?_; rintro e w' ⟨rfl, rfl⟩
      go_wp2_with fail
      refine (hnm.out _).mono ?_; rintro e w' ⟨t, rfl, ht, hb, -⟩
      clear ht
      replace hb := Lib.hid hb
      go_wp2_with fail
      go_ret2
      have hT : Turned (fun b => b = R) w w' := (Turned.of_below (Drawn.below ⟨_, rfl⟩ _)).trans (Turned.of_below (S := fun b => b = R) hb.out) fun _ _ e => e
      exact Str11Post.no hP.out ⟨rfl, k, by omega, (h.out.drawn ⟨_, rfl⟩).below hb.out, hT⟩
    | some x =>
      replace hP := Lib.hid hP
      go_enter Tryz.func161, Tryz.ntmps161
      go_wp2_with fail
      go_quiet (fail)
      simp only [hmin.out, Int.toNat_natCast, hnear.out]
      go_wp2_with fail
      refine (hix.out _).mono ?_; rintro e w' ⟨rfl, rfl⟩
      go_wp2_with fail
      refine (hnm.out _).mono ?_; rintro e w' ⟨t, rfl, ht, hb, -⟩
      obtain rfl := ht x rfl
      clear ht
      have h1 := (h.drawn (drawn_drewN w nq)).below hb
      have hT := (Turned.of_below (S := fun b => b = R) (Drawn.below (drawn_drewN w nq) _)).trans (Turned.of_below (S := fun b => b = R) hb) fun _ _ e => e
      have c1' := h1.c1
      have f1' := h1.fz 1
      clear c1 c0 f1 h
      replace h1 := Lib.hid h1
      replace hT := Lib.hid hT
      replace hb := Lib.hid hb
      go_wp2_with fail
      go_ret2
      exact Str11Post.ok hP.out ⟨rfl, h1.out.move _ (by omega), hT.out.trans (turned_setCell _ _ _) fun _ _ e => e⟩

theorem has11_at (R : Nat) (c : RC) (k : Nat) (p : List UInt8) (w : World) (h : Rd w R c k) (hk : k ≤ c.l.length) (hl : c.l.length ≤ 100000) (n : Nat) :
    Calls Tryz.prog 122 #[.pointer (some ⟨R, 0, none⟩), .string ⟨p.toArray⟩] (w.drewN n) fun e w' => e = .returned (.bool (Lib.hasPrefix (c.l.drop k) p)) ∧ ∃ m, w' = w.drewN m :=
  (has11_any R c k p (w.drewN n) (h.drawn (drawn_drewN w n)) hk hl).mono fun _ _ h => ⟨h.1, by obtain ⟨m, rfl⟩ := h.2; exact ⟨n + m, by simp⟩⟩

set_option maxHeartbeats 1000000 in
theorem atElement11_any (R : Nat) (c : RC) (k : Nat) (w : World) (h : Rd w R c k) (hk : k ≤ c.l.length) (hl : c.l.length ≤ 100000) :
    Calls Tryz.prog 117 #[.pointer (some ⟨R, 0, none⟩)] w fun e w' => e = .returned (.bool (elemB (c.l.drop k))) ∧ Drawn w w' := by
  have c1 := h.c1
  have c0 := h.c0
  have hh := has11_at R c k [60] w h hk hl
  have hE : elemB (c.l.drop k) = (Lib.hasPrefix (c.l.drop k) [60] && (decide (k + 1 < c.l.length) && leadI (bt c.l (k + 1)))) := by
    unfold elemB leadsB
    rw [List.drop_drop, bt_drop, List.length_drop]
    congr 2
    rw [decide_eq_decide]; omega
  rw [hE]
  replace h := Lib.hid h
  clear hE
  cases hq : Lib.hasPrefix (c.l.drop k) [60]
  · rw [hq] at hh
    replace hh := Lib.hid hh
    replace hq := Lib.hid hq
    go_enter Tryz.func117, Tryz.ntmps117
    go_wp2_with fail
    go_quiet ((go_at_call 122; exact hh.out _))
    go_wp2_with fail
    go_ret
    exact ⟨rfl, ⟨_, rfl⟩⟩
  rw [hq] at hh
  replace hh := Lib.hid hh
  replace hq := Lib.hid hq
  by_cases hlt : k + 1 < c.l.length
  · have hlt1 : ((k : Int) + 1 < c.l.length) := by omega
    have hle := fun W : World => lead11_any (bt c.l (k + 1)) W
    rw [decide_eq_true hlt, Bool.true_and, Bool.true_and]
    replace hle := Lib.hid hle
    go_enter Tryz.func117, Tryz.ntmps117
    go_wp2_with fail
    go_quiet (first | (go_at_call 122; exact hh.out _) | (go_at_call 155; exact Calls.drawn_at (hle.out _)))
    go_wp2_with fail
    go_ret
    exact ⟨rfl, ⟨_, rfl⟩⟩
  · have hlt1 : decide ((k : Int) + 1 < c.l.length) = false := by rw [decide_eq_false_iff_not]; omega
    rw [decide_eq_false hlt, Bool.false_and, Bool.and_false]
    go_enter Tryz.func117, Tryz.ntmps117
    go_wp2_with fail
    go_quiet ((go_at_call 122; exact hh.out _))
    go_wp2_with fail
    go_ret
    exact ⟨rfl, ⟨_, rfl⟩⟩
end Go.Proofs.YtkgjbamkinfmeaaGreatDoor

/- Append of a text's bytes; a slice of bytes that the call itself made, as a text. -/
namespace Go.Proofs.YtkgjbamkinfmeaaGreatDoor
open Go.RowKit

/-- Append of a text's bytes to a slice that the call itself made. -/
theorem wpList_append1s {P : Program} {ops : Array Oper} {rest : List Oper} {o : Oper} {a : Act} {Q : Exit → Act → World → Prop} {w : World} (hgd : o.guard = none) (s x : Operand) (t u e : TypeId)
    (ho : o.op = .call { callee := .builtin .append, args := #[s, x], argTypes := #[t, u] }) (ht : P.underlying t = some (.slice e)) (hu : P.underlying u = some .string)
    (hi : (P.info? e).map (fun i => (i.zero, i.size, i.bytes)) = some (some (.int .u8 0), 1, 1))
    (B : Nat) (v : Value) (l m : List UInt8) (hown : w.ownsRow B e 1 v l.length ((nums l).map (Value.int .u8))) (hs : a.eval s = v) (hx : a.eval x = .string ⟨m.toArray⟩)
    (hn : l.length + m.length ≤ 140737488355328) (hB : B ≤ w.heap.size)
    (h : ∀ v' w', w'.ownsRow B e 1 v' (l ++ m).length ((nums (l ++ m)).map (Value.int .u8)) → Below B w w' → wpList P ops Q rest (a.put o.dst v') w') : wpList P ops Q (o :: rest) a w := by
  obtain ⟨i0, hi, hz0, hz1, hz2⟩ := info_parts hi
  refine Lib.wpList_append_own_string w hgd s x t u ho B e i0 ht hu hi hz0 hz1 hz2 v l.length _ hs hown ⟨m.toArray⟩ hx (by show l.length + m.length ≤ _; unfold maxLen; omega) hn hB ?_
  intro v' w' h1 h2 _
  refine h v' w' ?_ ((Below.refl B w).grown h2 hB fun k hk => (hown.lt k hk).1)
  have e1 : Lib.strCells ⟨m.toArray⟩ = (nums m).map (Value.int .u8) := by simp [Lib.strCells, nums]
  rw [e1, ← List.map_append, ← nums_app] at h1
  rw [List.length_append]
  exact h1

/-- A slice of bytes that the call itself made, as a text. -/
def Txt (w : World) (B : Nat) (v : Value) (l : List UInt8) : Prop := w.ownsRow B 5 1 v l.length ((nums l).map (Value.int .u8))
theorem txt_nil (w : World) (B : Nat) : Txt w B (.slice none 0 0) [] := World.ownsRow_nil _ _ _ _
theorem txt_str {w : World} {B : Nat} {v : Value} {l : List UInt8} (h : Txt w B v l) : (convert 117 9 v).run Tryz.prog w = .ok (.string ⟨l.toArray⟩) w := by
  unfold Txt at h
  have h' : w.ownsRow B 5 1 v (nums l).length ((nums l).map (Value.int .u8)) := by rw [nums_len]; exact h
  have := run_str (P := Tryz.prog) w 117 9 5 Tryz.underlying117 Tryz.underlying5 Tryz.underlying9 (intSl_own h')
  rw [nums_u8] at this
  exact this
theorem info_u8 : (Tryz.prog.info? 5).map (fun i => (i.zero, i.size, i.bytes)) = some (some (.int .u8 0), 1, 1) := by kernel_rfl
end Go.Proofs.YtkgjbamkinfmeaaGreatDoor

/- The reference's Named. -/
namespace Go.Proofs.YtkgjbamkinfmeaaGreatDoor
open Go.RowKit

theorem numK_charB (b : Int) (hb : b = 10 ∨ b = 16) (l : List UInt8) : numK b l = charB (numC b 0 l) ∧ (numK b l = true → numV b l = numC b 0 l) := by
  have h := numC_numR b hb l 0 (by omega)
  rw [show min (0 : Int) 1114112 = 0 from rfl] at h
  refine ⟨h.1.symm, fun hk => ?_⟩
  unfold numV; rw [h.2 hk]; rfl
/-- What a number stands for. -/
def numO (b : Int) (m : List UInt8) : Option (List UInt8) := if charB (numC b 0 m) = true then some (enc (numC b 0 m)) else none
/-- What the reference's Named makes of a number's rune. -/
theorem named_num {w w' : World} {b : Int} (hb : b = 10 ∨ b = 16) {m : List UInt8} {e : Ending} (he : e = .returned (.tuple #[.string ⟨(enc (numV b m)).toArray⟩, .bool (numK b m)])) (hbl : Below w.heap.size w w') :
    NamedPost w (numO b m) e w' := by
  unfold numO
  obtain ⟨h1, h2⟩ := numK_charB b hb m
  cases hc : charB (numC b 0 m)
  · rw [hc] at h1
    rw [h1] at he
    exact named_none _ rfl he hbl
  · rw [hc] at h1
    rw [h1, h2 h1] at he
    exact named_some _ rfl he hbl

set_option maxHeartbeats 1000000 in
theorem refnamed_other (l : List UInt8) (w : World) (hl : l.length ≤ 100000000) (ho : OtherN l) :
    Calls Tryz.prog 80 #[.string ⟨l.toArray⟩] w (NamedPost w (namedS l)) := by
  rw [other_named ho]
  obtain ⟨h1, h2, h3, h4, h5⟩ := ho
  unfold ltL at h1
  unfold gtL at h2
  unfold ampL at h3
  unfold quotL at h4
  unfold aposL at h5
  by_cases hx : Lib.hasPrefix l [35, 120] = true
  · obtain ⟨m, hlm⟩ : ∃ m, l = 35 :: 120 :: m := by
      match l, hx with
      | [], hx => simp [Lib.hasPrefix, List.isPrefixOf] at hx
      | [c], hx => simp [Lib.hasPrefix, List.isPrefixOf] at hx
      | c :: d :: m, hx => simp [Lib.hasPrefix, List.isPrefixOf] at hx; exact ⟨m, by rw [← hx.1, ← hx.2]⟩
    by_cases hm : m = []
    · subst hm
      subst hlm
      clear hx h1 h2 h3 h4 h5
      rw [show charB (numI [35, 120]) = false from rfl, if_neg (by decide)]
      have hk : numK 10 [120] = false := rfl
      go_enter Tryz.func80, Tryz.ntmps80
      go_wp2_with fail
      refine (refnumber_any 10 (Or.inl rfl) [120] _ (by decide)).mono ?_; rintro e w' ⟨rfl, rfl⟩; rw [hk]
      go_wp2_with fail
      refine (refbytes_any _ _).mono ?_; rintro e w' ⟨rfl, hb⟩
      go_wp2_with fail
      go_ret2
      exact named_none _ rfl rfl hb
    · have hlen := len_pos hm
      have hl2 : (2 : Int) < (l.length : Int) := by rw [hlm]; simp only [List.length_cons]; omega
      have ht : (l.take 2 == [35, 120]) = true := by rw [hlm]; simp
      have hd : l.drop 2 = m := by rw [hlm]; rfl
      have hml : m.length ≤ 100000000 := by rw [← hd, List.length_drop]; omega
      rw [show numI l = numC 16 0 m from by rw [hlm, numI_hex]]
      change Calls _ _ _ _ (NamedPost w (numO 16 m))
      replace hlm := Lib.hid hlm
      replace hm := Lib.hid hm
      clear hx
      go_enter Tryz.func80, Tryz.ntmps80
      go_wp2_with fail
      refine (refnumber_any 16 (Or.inr rfl) m _ hml).mono ?_; rintro e w' ⟨rfl, rfl⟩
      go_wp2_with fail
      refine (refbytes_any _ _).mono ?_; rintro e w' ⟨rfl, hb⟩
      go_wp2_with fail
      go_ret2
      exact named_num (Or.inr rfl) rfl hb
  have ht : (l.take 2 == [35, 120]) = false := by
    rw [beq_eq_false_iff_ne]
    intro e
    refine hx ?_
    match l, e with
    | [], e => simp at e
    | [c], e => simp at e
    | c :: d :: m, e => simp at e; simp [Lib.hasPrefix, List.isPrefixOf, e.1, e.2]
  by_cases h0 : l = []
  · subst h0
    clear hx h1 h2 h3 h4 h5 ht
    rw [show charB (numI []) = false from rfl, if_neg (by decide)]
    go_enter Tryz.func80, Tryz.ntmps80
    go_wp2_with fail
    go_ret2
    exact named_none [] rfl rfl (Below.refl _ _)
  have hlen := len_pos h0
  by_cases hb0 : bt l 0 = 35
  · obtain ⟨m, hlm⟩ : ∃ m, l = 35 :: m := by
      cases l with
      | nil => exact absurd rfl h0
      | cons c t => exact ⟨t, by rw [(bt_u8 c 35 t).1 hb0]⟩
    by_cases hm : m = []
    · subst hm
      subst hlm
      clear hx h1 h2 h3 h4 h5 ht h0 hb0 hlen
      rw [show charB (numI [35]) = false from rfl, if_neg (by decide)]
      go_enter Tryz.func80, Tryz.ntmps80
      go_wp2_with fail
      go_ret2
      exact named_none [] rfl rfl (Below.refl _ _)
    have hl1 : (1 : Int) < (l.length : Int) := by
      have := len_pos hm
      rw [hlm]; simp only [List.length_cons]; omega
    have hd : l.drop 1 = m := by rw [hlm]; rfl
    have hml : m.length ≤ 100000000 := by rw [← hd, List.length_drop]; omega
    have hni : numI l = numC 10 0 m := by
      rw [hlm]
      refine numI_dec m fun e => hx ?_
      cases m with
      | nil => exact absurd rfl hm
      | cons d t => rw [hlm, (bt_u8 d 120 t).1 e]; simp [Lib.hasPrefix, List.isPrefixOf]
    rw [hni]
    change Calls _ _ _ _ (NamedPost w (numO 10 m))
    clear hni hx
    replace hlm := Lib.hid hlm
    replace hm := Lib.hid hm
    replace h0 := Lib.hid h0
    by_cases hl2 : (2 : Int) < (l.length : Int)
    all_goals
      go_enter Tryz.func80, Tryz.ntmps80
      go_wp2_with fail
      refine (refnumber_any 10 (Or.inl rfl) m _ hml).mono ?_; rintro e w' ⟨rfl, rfl⟩
      go_wp2_with fail
      refine (refbytes_any _ _).mono ?_; rintro e w' ⟨rfl, hb⟩
      go_wp2_with fail
      go_ret2
      exact named_num (Or.inl rfl) rfl hb
  · have hni : numI l = -1 := by
      unfold numI
      have hp : Lib.hasPrefix l [35] = false := by
        cases l with
        | nil => rfl
        | cons c t =>
          have : (35 == c) = false := by
            rw [beq_eq_false_iff_ne]; intro e; exact hb0 ((bt_u8 c 35 t).2 e.symm)
          simp [Lib.hasPrefix, List.isPrefixOf, this]
      rw [if_neg hx, if_neg (by rw [hp]; decide)]
    rw [hni, show charB (-1) = false from rfl, if_neg (by decide)]
    have hb1 : (bt l 0 == 35) = false := by simpa using hb0
    clear hb0 hni hx
    replace h0 := Lib.hid h0
    by_cases hl2 : (2 : Int) < (l.length : Int) <;> by_cases hl1 : (1 : Int) < (l.length : Int)
    all_goals first | (exfalso; omega) | skip
    all_goals
      go_enter Tryz.func80, Tryz.ntmps80
      go_wp2_with fail
      go_ret2
      exact named_none [] rfl rfl (Below.refl _ _)

set_option maxHeartbeats 1000000 in
theorem refnamed_any (l : List UInt8) (w : World) (hl : l.length ≤ 100000000) :
    Calls Tryz.prog 80 #[.string ⟨l.toArray⟩] w (NamedPost w (namedS l)) := by
  rcases five_ways l with rfl | rfl | rfl | rfl | rfl | ho
  case inr.inr.inr.inr.inr => exact refnamed_other l w hl ho
  all_goals
    go_enter Tryz.func80, Tryz.ntmps80
    go_wp2_with fail
    go_ret2
    exact named_some _ rfl rfl (Below.refl _ _)
end Go.Proofs.YtkgjbamkinfmeaaGreatDoor
