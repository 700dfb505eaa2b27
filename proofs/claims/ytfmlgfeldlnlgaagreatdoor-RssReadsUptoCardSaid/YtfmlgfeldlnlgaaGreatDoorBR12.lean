/- The reference of layer 11: until, named. -/
import Derived.Deep.RegionHeld3
import Derived.Test.YtfmlgfeldlnlgaaGreatDoorBR09
import Derived.Test.YtfmlgfeldlnlgaaGreatDoorBR11
import Derived.Test.YtfmlgfeldlnlgaaGreatDoorBR10
namespace Go.Proofs.YtfmlgfeldlnlgaaGreatDoor
open Go.RowKit

/-- The reader, and that nothing else has changed since w0. -/
def Sf (w0 w : World) (R : Nat) (c : SC) (k : Nat) : Prop := Sn w R c k ∧ Turned (fun b => b = R) w0 w
section
variable {w0 w w' : World} {R : Nat} {c : SC} {k : Nat}
theorem sf_turn {k' : Nat} (h : Hid (Sf w0 w R c k)) (hs : Sf w w' R c k') : Hid (Sf w0 w' R c k') := ⟨hs.1, turned2 h.out.2 hs.2⟩
theorem sf_below (h : Hid (Sf w0 w R c k)) (hb : Below w.heap.size w w') : Hid (Sf w0 w' R c k) := sf_turn h ⟨h.out.1.below hb, Turned.of_below hb⟩
theorem sf_drew (h : Hid (Sf w0 w R c k)) : Hid (Sf w0 w.drew R c k) := sf_below h (Drawn.below (drawn_drew _) _)
theorem sf_drawn (h : Hid (Sf w0 w R c k)) (n : Nat) : Hid (Sf w0 (w.drewN n) R c k) := sf_below h (Drawn.below (drawn_drewN _ _) _)
theorem sf_on (h : Hid (Sf w0 w R c k)) (hd : Drawn w w') : Hid (Sf w0 w' R c k) := sf_below h (Drawn.below hd _)
theorem sf_keep (h : Hid (Sf w0 w R c k)) : w.cell? ⟨R, 0, none⟩ = some (.string ⟨c.l.toArray⟩) ∧ w.cell? ⟨R, 1, none⟩ = some (.int .i64 k) := ⟨h.out.1.c0, h.out.1.c1⟩
theorem sf_put (h : Hid (Sf w0 w R c k)) (k' : Nat) {x : Int} (e : x = k') : Hid (Sf w0 (w.setCell ⟨R, 1, none⟩ (.int .i64 x)) R c k') :=
  sf_turn h ⟨h.out.1.move k' e, turned_setCell w ⟨R, 1, none⟩ _⟩
theorem sf_start (h : Sn w R c k) : Hid (Sf w w R c k) := ⟨h, Turned.refl _ _⟩
theorem Sf.below (h : Sf w0 w R c k) (hR : R ≤ w0.heap.size) : Below R w0 w := h.2.below (fun i _ e => by have : i = R := e; omega) hR
end
/-- A text that was read; or none: where the reader is then is of no account. -/
def RtPost (w : World) (R : Nat) (c : SC) (k : Nat) : Option (List UInt8 × Nat) → Ending → World → Prop
  | some (x, n), e, w' => e = .returned (.tuple #[.string ⟨x.toArray⟩, .bool true]) ∧ Sf w w' R c (k + n)
  | none, e, w' => (∃ x : List UInt8, e = .returned (.tuple #[.string ⟨x.toArray⟩, .bool false]) ∧ x.length ≤ 4) ∧ ∃ k', Sf w w' R c k'
section
variable {w w' : World} {R : Nat} {c : SC} {k : Nat} {o : Option (List UInt8 × Nat)}
theorem RtPost.ok {n : Nat} {x : List UInt8} (ho : o = some (x, n)) (h : Hid (Sf w w' R c (k + n))) : RtPost w R c k o (.returned (.tuple #[.string ⟨x.toArray⟩, .bool true])) w' := by subst ho; exact ⟨rfl, h.out⟩
theorem RtPost.no {k' : Nat} (x : List UInt8) (hx : x.length ≤ 4) (ho : o = none) (h : Hid (Sf w w' R c k')) : RtPost w R c k o (.returned (.tuple #[.string ⟨x.toArray⟩, .bool false])) w' := by subst ho; exact ⟨⟨x, rfl, hx⟩, ⟨k', h.out⟩⟩
end

set_option maxHeartbeats 1000000 in
theorem runtil_any (R : Nat) (c : SC) (k : Nat) (p : List UInt8) (w : World) (h : Sn w R c k) (hk : k ≤ c.l.length) (hl : c.l.length ≤ 100000) (hp : p.length ≤ 100) :
    Calls Tryz.prog 50 #[.pointer (some ⟨R, 0, none⟩), .string ⟨p.toArray⟩] w (RtPost w R c k (untilR p (c.l.drop k))) := by
  have c1 := h.c1
  have c0 := h.c0
  have f1 := h.fz 1
  have hlt := h.lt
  have hst : Hid (Sn w R c k) := h
  clear h
  have hdl : (c.l.drop k).length = c.l.length - k := List.length_drop
  replace hdl := Lib.hid hdl
  obtain ⟨o, ho⟩ : ∃ o, untilR p (c.l.drop k) = o := ⟨_, rfl⟩
  rw [ho]
  unfold untilR at ho
  replace ho := Lib.hid ho
  go_enter Tryz.func50, Tryz.ntmps50
  go_wp2_with fail
  go_loopw [6] (fun i wr => ∃ m : Nat, i = .int .i64 m ∧ k ≤ m ∧ m ≤ c.l.length ∧ Hid (FiAt p (c.l.drop k) (m - k)) ∧ wr = w) (fun i _ => c.l.length + 1 - (intOf i).toNat)
  case atStart => exact ⟨k, rfl, Nat.le_refl _, hk, by rw [Nat.sub_self]; exact FiAt.zero _ _, rfl⟩
  case round =>
    obtain ⟨m, rfl, hkm, hm, hq, rfl⟩ := hrel
    by_cases hlen : m + p.length ≤ c.l.length
    · have hlen1 : ((m : Int) + p.length ≤ c.l.length) := by omega
      have hcmp : (((c.l.take (m + p.length)).drop m) == p) = Lib.hasPrefix (c.l.drop m) p := by
        rw [List.drop_take, show m + p.length - m = p.length by omega, take_beq]
      have hdd : (c.l.drop k).drop (m - k) = c.l.drop m := by rw [List.drop_drop]; congr 1; omega
      cases hb : Lib.hasPrefix (c.l.drop m) p
      · rw [hb] at hcmp
        have hnx : m < c.l.length → Hid (FiAt p (c.l.drop k) (m + 1 - k)) := fun hml => by
          have := hq.out.step (by rw [hdl.out]; omega) (by rw [hdd]; exact hb)
          rw [show m - k + 1 = m + 1 - k by omega] at this
          exact this
        have hml : m < c.l.length := by
          by_cases e : m < c.l.length
          · exact e
          · exfalso
            have h0 : p = [] := List.length_eq_zero_iff.1 (by omega)
            rw [h0] at hb
            simp [Lib.hasPrefix] at hb
        have hnx := hnx hml
        clear hdd
        replace hb := Lib.hid hb
        go_wp2_with fail
        exact ⟨⟨m + 1, by go_num, by omega, by omega, hnx, trivial⟩, by simp [intOf]; omega⟩
      · rw [hb] at hcmp
        have hP : Hid (o = some ((c.l.take m).drop k, m + p.length - k)) := by
          have := hq.out.hit (by rw [hdd]; exact hb)
          show o = _
          rw [← ho.out, this, Option.map_some, List.drop_take, show m - k + p.length = m + p.length - k by omega]
        clear hdd
        replace hb := Lib.hid hb
        have hfin := fun n : Nat => sf_put (sf_drawn (sf_start hst.out) n) (k + (m + p.length - k)) (x := (m : Int) + p.length) (by omega)
        go_wp2_with fail
        go_quiet (fail)
        go_wp2_with fail
        go_ret2
        exact RtPost.ok hP.out (hfin _)
    · have hlen1 : ¬ ((m : Int) + p.length ≤ c.l.length) := by omega
      have hP : Hid (o = none) := by
        have := hq.out.none (by rw [hdl.out]; omega)
        show o = _
        rw [← ho.out, this]; rfl
      go_wp2_with fail
      go_ret2
      exact RtPost.no [] (by decide) hP.out (sf_start hst.out)

set_option maxHeartbeats 1000000 in
theorem rnamed_any (R : Nat) (c : SC) (k : Nat) (w : World) (h : Sn w R c k) (hk : k < c.l.length) (h38 : bt c.l k = 38) (hl : c.l.length ≤ 100000) :
    Calls Tryz.prog 90 #[.pointer (some ⟨R, 0, none⟩)] w (RtPost w R c k (refP (c.l.drop k))) := by
  have c1 := h.c1
  have c0 := h.c0
  have hlt := h.lt
  have hways := ref_ways (c.l.drop k) (by rw [List.length_drop]; omega) (by rw [bt_drop]; exact h38)
  obtain ⟨d, hd⟩ : ∃ d, (c.l.drop k).take 13 = d := ⟨_, rfl⟩
  rw [hd] at hways
  have hdl : d.length = min 13 (c.l.length - k) := by rw [← hd, List.length_take, List.length_drop]
  have hbt : ∀ j, j < d.length → bt d j = bt c.l (k + j) := fun j hj => by
    rw [← hd]
    unfold bt
    rw [List.getD, List.getD, List.getElem?_take, if_pos (by omega), List.getElem?_drop]
  replace hbt := Lib.hid hbt
  replace h38 := Lib.hid h38
  have hst : Hid (Sn w R c k) := h
  clear h
  obtain ⟨o, ho⟩ : ∃ o, refP (c.l.drop k) = o := ⟨_, rfl⟩
  rw [ho]
  rw [ho] at hways
  replace ho := Lib.hid ho
  replace hways := Lib.hid hways
  go_enter Tryz.func90, Tryz.ntmps90
  go_wp2_with fail
  go_loopw [4] (fun i wr => ∃ m : Nat, i = .int .i64 m ∧ k ≤ m ∧ m ≤ k + d.length ∧ Hid (∀ j, j < m - k → bt d j ≠ 59) ∧ wr = w) (fun i _ => c.l.length + 1 - (intOf i).toNat)
  case atStart => exact ⟨k, rfl, Nat.le_refl _, by omega, fun j hj => by omega, rfl⟩
  case round =>
    obtain ⟨m, rfl, hkm, hm, hno, rfl⟩ := hrel
    by_cases hlt2 : m < k + d.length
    · have hml : m < c.l.length := by omega
      have hml1 : (m : Int) < c.l.length := by omega
      have h12 : (m : Int) - k ≤ 12 := by omega
      have hb := hbt.out (m - k) (by omega)
      rw [show k + (m - k) = m by omega] at hb
      replace hdl := Lib.hid hdl
      by_cases h59 : bt c.l m = 59
      · have h59' : (bt c.l m == 59) = true := by rw [h59]; rfl
        have hix : Lib.indexByte d 59 = ((m - k : Nat) : Int) := by
          exact indexByte_at d 59 (m - k) (by omega) (by rw [hb]; exact h59) fun j hj => hno.out j hj
        have hkm2 : k + 1 ≤ m := by
          by_cases e : k = m
          · subst e; have := h38.out; rw [this] at h59; cases h59
          · omega
        have hsl : ((d.take (m - k)).drop 1) = (c.l.take m).drop (k + 1) := by
          rw [← hd, List.take_take, Nat.min_eq_left (by have := hdl.out; omega), List.drop_take, List.drop_take, List.drop_drop]
          congr 1
        rcases hways.out with ⟨h1, _⟩ | ⟨n, h1, h2, h3⟩
        · rw [hix] at h1; omega
        have hn : n + 1 = m - k := by omega
        rw [hn, hsl] at h3
        have hnm := fun W : World => refnamed_any ((c.l.take m).drop (k + 1)) W (by rw [List.length_drop, List.length_take]; omega)
        generalize namedS ((c.l.take m).drop (k + 1)) = x at h3 hnm
        replace hnm := Lib.hid hnm
        clear h1 h2 hix hsl
        have h3 := Lib.hid h3
        clear hb
        replace hno := Lib.hid hno
        have hsf := sf_start hst.out
        obtain ⟨M, hM⟩ : ∃ M, (c.l.take m).drop (k + 1) = M := ⟨_, rfl⟩
        rw [hM] at hnm
        have b0 : IntKind.i64.wrap ((k : Int) + 1) = (k : Int) + 1 := by rw [IntKind.wrap_i64]; omega
        have b1 : (0 : Int) ≤ (k : Int) + 1 := by omega
        have b2 : (k : Int) + 1 ≤ m := by omega
        have b3 : (m : Int) ≤ c.l.length := by omega
        go_wp2_with fail
        have hsf' := sf_drew hsf
        go_region_held3 (fun W => W.cell? ⟨R, 0, none⟩ = some (.string ⟨c.l.toArray⟩) ∧ W.cell? ⟨R, 1, none⟩ = some (.int .i64 k)) (first | exact sf_keep (by assumption) | exact sf_keep (sf_drew (by assumption)))
          (first | (go_at_call 99; ((with_reducible refine (hnm.out _).mono ?_); rintro e w' ⟨t, rfl, ht, hb, htl⟩; have hs2 := sf_below (by first | assumption | exact sf_drew (by assumption)) hb; replace hb := Lib.hid hb; replace ht := Lib.hid ht)))
        all_goals
          have f1 := hs2.out.1.fz 1
          have hput := sf_put hs2 (m + 1) (x := (m : Int) + 1) (by omega)
          go_wp2_with fail
          go_ret2
          cases x with
          | none => exact RtPost.no t htl h3.out hput
          | some y =>
            obtain rfl := ht.out y rfl
            exact RtPost.ok (n := m + 1 - k) (by rw [h3.out]; show some (_, _) = some (_, _); congr 2; omega) (by rw [show k + (m + 1 - k) = m + 1 by omega]; exact hput)
      · have h59' : (bt c.l m == 59) = false := by rw [beq_eq_false_iff_ne]; exact h59
        have hno2 : Hid (∀ j, j < m + 1 - k → bt d j ≠ 59) := fun j hj => by
          by_cases e : j = m - k
          · subst e; rw [hb]; exact h59
          · exact hno.out j (by omega)
        clear hno hb
        go_wp2_with fail
        exact ⟨⟨m + 1, by go_num, by omega, by omega, hno2, trivial⟩, by have := hdl.out; simp [intOf]; omega⟩
    · have hmd : m = k + d.length := by omega
      have hP : Hid (o = none) := by
        rcases hways.out with ⟨_, h1⟩ | ⟨n, h1, h2, _⟩
        · exact h1
        · exfalso
          have := indexByte_not d 59 fun j hj => hno.out j (by omega)
          omega
      by_cases hend : m < c.l.length
      · have hend1 : (m : Int) < c.l.length := by omega
        have h12 : ¬ ((m : Int) - k ≤ 12) := by omega
        replace hmd := Lib.hid hmd
        replace hdl := Lib.hid hdl
        clear hno
        go_wp2_with fail
        go_ret2
        exact RtPost.no [] (by decide) hP.out (sf_start hst.out)
      · have hend1 : ¬ ((m : Int) < c.l.length) := by omega
        replace hmd := Lib.hid hmd
        replace hdl := Lib.hid hdl
        clear hno
        go_wp2_with fail
        go_ret2
        exact RtPost.no [] (by decide) hP.out (sf_start hst.out)
end Go.Proofs.YtfmlgfeldlnlgaaGreatDoor

/- The reference of layer 11: value. -/
namespace Go.Proofs.YtfmlgfeldlnlgaaGreatDoor
open Go.RowKit

theorem pre_one (d : List UInt8) (q : UInt8) : Lib.hasPrefix d [q] = true ↔ 0 < d.length ∧ bt d 0 = (q.toNat : Int) := by
  cases d with
  | nil => simp [Lib.hasPrefix]
  | cons c t =>
    rw [bt_u8]
    simp only [Lib.hasPrefix, List.isPrefixOf, Bool.and_true, beq_iff_eq, List.length_cons]
    exact ⟨fun e => ⟨by omega, e.symm⟩, fun e => e.2.symm⟩
theorem u8_of_bt (l : List UInt8) (m : Nat) : u8 (bt l m) = l.getD m 0 := by unfold bt; simp [u8]
theorem ix_two (q c : UInt8) : 0 ≤ Lib.indexByte [60, q] c ↔ c = 60 ∨ c = q := by rw [indexByte_mem]; simp
theorem valueP_no {d : List UInt8} (h : d.length = 0 ∨ bt d 0 ≠ 34 ∧ bt d 0 ≠ 39) : valueP d = none := by
  unfold valueP
  rw [if_pos]
  rw [Bool.eq_false_iff]
  intro e
  have := (pre_one _ _).1 e
  rcases h with h | h
  · omega
  · revert this
    split
    · rintro ⟨_, e2⟩; exact h.2 e2
    · rintro ⟨_, e2⟩; exact h.1 e2
theorem valueP_eq {d : List UInt8} {q : UInt8} (hq : q = 34 ∨ q = 39) (h0 : 0 < d.length) (hb : bt d 0 = (q.toNat : Int)) : valueP d = match runP [60, q] (d.drop 1) with
    | none => none
    | some (x, n) => if Lib.hasPrefix (d.drop (1 + n)) [q] then some (x, 1 + n + 1) else none := by
  have hp : Lib.hasPrefix d [q] = true := (pre_one _ _).2 ⟨h0, hb⟩
  have h39 : (if Lib.hasPrefix d [39] = true then (39 : UInt8) else 34) = q := by
    rcases hq with rfl | rfl
    · rw [if_neg]
      intro e
      have := ((pre_one _ _).1 e).2
      rw [hb] at this
      revert this; decide
    · rw [if_pos hp]
  unfold valueP
  rw [h39, hp]
  rfl
theorem value_stop {d acc : List UInt8} {q : UInt8} {j : Nat} (hq : q = 34 ∨ q = 39) (h0 : 0 < d.length) (hb : bt d 0 = (q.toNat : Int)) (h : RunAt [60, q] (d.drop 1) j acc) (e : runF [60, q] acc ((d.drop 1).drop j) = .stop) :
    valueP d = if Lib.hasPrefix (d.drop (1 + j)) [q] then some (acc, 1 + j + 1) else none := by rw [valueP_eq hq h0 hb, h.stop e]
theorem value_bad {d acc : List UInt8} {q : UInt8} {j : Nat} (hq : q = 34 ∨ q = 39) (h0 : 0 < d.length) (hb : bt d 0 = (q.toNat : Int)) (h : RunAt [60, q] (d.drop 1) j acc) (e : runF [60, q] acc ((d.drop 1).drop j) = .bad ()) :
    valueP d = none := by rw [valueP_eq hq h0 hb, h.bad e]
/-- What the loop of value keeps. -/
structure VaAt (l : List UInt8) (k m : Nat) (q : UInt8) (acc : List UInt8) : Prop where
  lo : k + 1 ≤ m
  hi : m ≤ l.length
  run : RunAt [60, q] ((l.drop k).drop 1) (m - (k + 1)) acc
  qq : q = 34 ∨ q = 39
  hb : bt l k = (q.toNat : Int)
section
variable {l acc : List UInt8} {k m : Nat} {q : UInt8}
theorem VaAt.d0 (h : VaAt l k m q acc) : 0 < (l.drop k).length ∧ bt (l.drop k) 0 = (q.toNat : Int) := by
  have := h.lo; have := h.hi
  exact ⟨by rw [List.length_drop]; omega, by rw [bt_drop]; exact h.hb⟩
theorem VaAt.dd (h : VaAt l k m q acc) : ((l.drop k).drop 1).drop (m - (k + 1)) = l.drop m := by
  rw [List.drop_drop, List.drop_drop]; congr 1; have := h.lo; omega
theorem VaAt.len (h : VaAt l k m q acc) : acc.length ≤ 4 * m := by have := h.run.len; omega
theorem runF_here {ends acc l : List UInt8} {m : Nat} (hm : m < l.length) :
    (0 ≤ Lib.indexByte ends (l.getD m 0) → runF ends acc (l.drop m) = .stop) ∧
    (Lib.indexByte ends (l.getD m 0) < 0 → bt l m ≠ 38 → runF ends acc (l.drop m) = .go (acc ++ [l.getD m 0]) 1) ∧
    (Lib.indexByte ends (l.getD m 0) < 0 → bt l m = 38 → runF ends acc (l.drop m) = match refP (l.drop m) with | none => .bad () | some (x, n) => .go (acc ++ x) n) := runF_at hm
theorem bt_gd (l : List UInt8) (m : Nat) (q : UInt8) : bt l m = (q.toNat : Int) ↔ l.getD m 0 = q := by
  rw [bt_get0']
  constructor
  · intro h; exact UInt8.toNat_inj.1 (by omega)
  · intro h; rw [h]
/-- At its end. -/
theorem VaAt.out (h : VaAt l k m q acc) (hm : ¬ m < l.length) : valueP (l.drop k) = none := by
  have hd := h.dd
  have e : runF [60, q] acc (((l.drop k).drop 1).drop (m - (k + 1))) = .stop := by rw [hd, List.drop_eq_nil_of_le (by omega)]; rfl
  rw [value_stop h.qq h.d0.1 h.d0.2 h.run e, if_neg]
  intro e2
  have := ((pre_one _ _).1 e2).1
  rw [List.length_drop, List.length_drop] at this
  have := h.lo
  omega
theorem VaAt.hit (h : VaAt l k m q acc) (hm : m < l.length) (e : bt l m = (q.toNat : Int)) : valueP (l.drop k) = some (acc, m + 1 - k) := by
  have hd := h.dd
  have hlo := h.lo
  have e1 := (runF_here (ends := [60, q]) (acc := acc) hm).1 ((ix_two _ _).2 (Or.inr ((bt_gd _ _ _).1 e)))
  rw [← hd] at e1
  rw [value_stop h.qq h.d0.1 h.d0.2 h.run e1, if_pos]
  · congr 2; omega
  · rw [pre_one, List.drop_drop, bt_drop, List.length_drop]
    rw [show k + (1 + (m - (k + 1))) + 0 = m by omega]
    exact ⟨by omega, e⟩
theorem VaAt.lt (h : VaAt l k m q acc) (hm : m < l.length) (e : bt l m = 60) : valueP (l.drop k) = none := by
  have hd := h.dd
  have hlo := h.lo
  have e1 := (runF_here (ends := [60, q]) (acc := acc) hm).1 ((ix_two _ _).2 (Or.inl ((bt_gd _ _ _).1 e)))
  rw [← hd] at e1
  rw [value_stop h.qq h.d0.1 h.d0.2 h.run e1, if_neg]
  rw [pre_one, List.drop_drop, bt_drop]
  rw [show k + (1 + (m - (k + 1))) + 0 = m by omega, e]
  rintro ⟨_, h2⟩
  rcases h.qq with h3 | h3 <;> (rw [h3] at h2; revert h2; decide)
theorem VaAt.ref (h : VaAt l k m q acc) (hm : m < l.length) (e : bt l m = 38) : (refP (l.drop m) = none → valueP (l.drop k) = none) ∧ ∀ x n, refP (l.drop m) = some (x, n) → VaAt l k (m + n) q (acc ++ x) := by
  have hd := h.dd
  have hlo := h.lo
  have hneg : Lib.indexByte [60, q] (l.getD m 0) < 0 := by
    have := ix_two q (l.getD m 0)
    have e3 := (bt_gd l m 38).1 e
    rw [e3] at this ⊢
    have h4 : ¬ ((38 : UInt8) = 60 ∨ (38 : UInt8) = q) := by rcases h.qq with h3 | h3 <;> (rw [h3]; decide)
    have : ¬ 0 ≤ Lib.indexByte [60, q] 38 := fun x => h4 (this.1 x)
    omega
  have e1 := (runF_here (ends := [60, q]) (acc := acc) hm).2.2 hneg e
  refine ⟨fun hr => ?_, fun x n hr => ?_⟩
  · rw [hr, ← hd] at e1
    exact value_bad h.qq h.d0.1 h.d0.2 h.run e1
  · have hb := refP_bd hr
    rw [List.length_drop] at hb
    rw [hr, ← hd] at e1
    have hs := h.run.step e1 (by rw [List.length_append]; omega)
    exact ⟨by omega, by omega, by rw [show m + n - (k + 1) = m - (k + 1) + n by omega]; exact hs, h.qq, h.hb⟩
theorem VaAt.one (h : VaAt l k m q acc) (hm : m < l.length) (e0 : bt l m ≠ (q.toNat : Int)) (e1 : bt l m ≠ 60) (e2 : bt l m ≠ 38) : VaAt l k (m + 1) q (acc ++ [u8 (bt l m)]) := by
  have hd := h.dd
  have hlo := h.lo
  have hneg : Lib.indexByte [60, q] (l.getD m 0) < 0 := by
    have := ix_two q (l.getD m 0)
    have h4 : ¬ (l.getD m 0 = 60 ∨ l.getD m 0 = q) := by
      rintro (h3 | h3)
      · exact e1 ((bt_gd _ _ _).2 h3)
      · exact e0 ((bt_gd _ _ _).2 h3)
    have : ¬ 0 ≤ Lib.indexByte [60, q] (l.getD m 0) := fun x => h4 (this.1 x)
    omega
  have e3 := (runF_here (ends := [60, q]) (acc := acc) hm).2.1 hneg e2
  rw [← hd] at e3
  have hs := h.run.step e3 (by simp)
  rw [u8_of_bt]
  exact ⟨by omega, by omega, by rw [show m + 1 - (k + 1) = m - (k + 1) + 1 by omega]; exact hs, h.qq, h.hb⟩
end

set_option maxRecDepth 100000 in
set_option maxHeartbeats 4000000 in
theorem rvalue_any (R : Nat) (c : SC) (k : Nat) (w : World) (h : Sn w R c k) (hk : k ≤ c.l.length) (hl : c.l.length ≤ 100000) :
    Calls Tryz.prog 140 #[.pointer (some ⟨R, 0, none⟩)] w (RtPost w R c k (valueP (c.l.drop k))) := by
  have c1 := h.c1
  have c0 := h.c0
  have f1 := h.fz 1
  have hst := sf_start h
  clear h
  by_cases hkl : ¬ k < c.l.length
  · have he : ((k : Int) == c.l.length) = true := by rw [beq_iff_eq]; omega
    have he2 : (k == c.l.length) = true := by rw [beq_iff_eq]; omega
    have hP := valueP_no (d := c.l.drop k) (Or.inl (by rw [List.length_drop]; omega))
    rw [hP]
    replace hP := Lib.hid hP
    have hkl2 : k = c.l.length := by omega
    replace hkl := Lib.hid hkl
    replace hkl2 := Lib.hid hkl2
    go_enter Tryz.func140, Tryz.ntmps140
    go_wp2_with fail
    go_quiet (fail)
    go_wp2_with fail
    go_ret2
    exact RtPost.no [] (by decide) rfl (sf_drawn hst _)
  replace hkl : k < c.l.length := by omega
  have he : ((k : Int) == c.l.length) = false := by rw [beq_eq_false_iff_ne]; omega
  have he2 : (k == c.l.length) = false := by rw [beq_eq_false_iff_ne]; omega
  have hkl1 : (k : Int) < c.l.length := by omega
  by_cases hq : bt c.l k ≠ 34 ∧ bt c.l k ≠ 39
  · have hP := valueP_no (d := c.l.drop k) (Or.inr (by rw [bt_drop]; exact hq))
    rw [hP]
    replace hP := Lib.hid hP
    have q1 : (bt c.l k == 34) = false := by rw [beq_eq_false_iff_ne]; exact hq.1
    have q2 : (bt c.l k == 39) = false := by rw [beq_eq_false_iff_ne]; exact hq.2
    have n1 : (bt c.l k != 34) = true := by rw [bne_iff_ne]; exact hq.1
    have n2 : (bt c.l k != 39) = true := by rw [bne_iff_ne]; exact hq.2
    have m1 : decide (bt c.l k = 34) = false := by rw [decide_eq_false_iff_not]; exact hq.1
    have m2 : decide (bt c.l k = 39) = false := by rw [decide_eq_false_iff_not]; exact hq.2
    obtain ⟨p1, p2⟩ := hq
    go_enter Tryz.func140, Tryz.ntmps140
    go_wp2_with fail
    go_quiet (fail)
    go_wp2_with fail
    go_ret2
    exact RtPost.no [] (by decide) rfl (sf_drawn hst _)
  obtain ⟨q, hqq, hqb⟩ : ∃ q : UInt8, (q = 34 ∨ q = 39) ∧ bt c.l k = (q.toNat : Int) := by
    by_cases e : bt c.l k = 34
    · exact ⟨34, Or.inl rfl, e⟩
    · exact ⟨39, Or.inr rfl, by
        by_cases e2 : bt c.l k = 39
        · exact e2
        · exact absurd ⟨e, e2⟩ hq⟩
  clear hq
  have hva : Hid (VaAt c.l k (k + 1) q []) := ⟨Nat.le_refl _, by omega, by rw [Nat.sub_self]; exact RunAt.zero _ _, hqq, hqb⟩
  have hcv := fun (W : World) (a : Int) => run_str_new (P := Tryz.prog) W 105 9 5 5 Tryz.underlying105 Tryz.underlying5 Tryz.underlying9 [a] 1 1 rfl
  simp only [List.map_cons, List.map_nil] at hcv
  obtain ⟨Q, hQ⟩ : ∃ Q : Int, (q.toNat : Int) = Q := ⟨_, rfl⟩
  rw [hQ] at hqb
  have hQ2 : Q = 34 ∨ Q = 39 := by
    rcases hqq with rfl | rfl
    · exact Or.inl hQ.symm
    · exact Or.inr hQ.symm
  replace hqq := Lib.hid hqq
  replace hQ := Lib.hid hQ
  obtain ⟨o, ho⟩ : ∃ o, valueP (c.l.drop k) = o := ⟨_, rfl⟩
  rw [ho]
  replace ho := Lib.hid ho
  rcases hQ2 with rfl | rfl
  all_goals
    go_enter Tryz.func140, Tryz.ntmps140
    go_wp2_with fail
    go_quiet (fail)
    go_wp2_with fail
    go_quiet (fail)
    have hs1 : ∀ n : Nat, Hid (Sf w ((w.drewN n).setCell ⟨R, 1, none⟩ (.int .i64 ((k : Int) + 1))) R c (k + 1)) := fun n => sf_put (sf_drawn hst n) (k + 1) (by omega)
    go_wp2_with fail
    go_loopw [5] (fun v wr => ∃ m acc, v = .string ⟨acc.toArray⟩ ∧ Hid (VaAt c.l k m q acc) ∧ Hid (Sf w wr R c m)) (fun v wr => c.l.length - (intOf ((wr.cell? ⟨R, 1, none⟩).getD undef)).toNat)
    case atStart => exact ⟨k + 1, [], rfl, hva, by simpa using hs1 _⟩
    case round =>
      clear hst hs1 c0 c1 f1 hva
      obtain ⟨m, acc, rfl, hv, hs⟩ := hrel
      have c0 := hs.out.1.c0
      have c1 := hs.out.1.c1
      have f1 := hs.out.1.fz 1
      have hlo := hv.out.lo
      have hhi := hv.out.hi
      have hlen := hv.out.len
      by_cases hlt : m < c.l.length
      · have hlt1 : (m : Int) < c.l.length := by omega
        have hs0 : ∀ n : Nat, Hid (Sf w (wr.drewN n) R c m) := fun n => sf_drawn hs n
        have hs2 : ∀ n : Nat, Hid (Sf w ((wr.drewN n).setCell ⟨R, 1, none⟩ (.int .i64 ((m : Int) + 1))) R c (m + 1)) := fun n => sf_put (sf_drawn hs n) (m + 1) (by omega)
        by_cases e1 : bt c.l m = (q.toNat : Int)
        · have hP := hv.out.hit hlt e1
          rw [ho.out] at hP
          replace hP := Lib.hid hP
          rw [hQ.out] at e1
          go_wp2_with fail
          go_quiet (fail)
          go_wp2_with fail
          go_quiet (fail)
          go_wp2_with fail
          go_ret2
          exact RtPost.ok hP.out (by rw [show k + (m + 1 - k) = m + 1 by omega]; simpa using hs2 _)
        have e1b : (bt c.l m == (q.toNat : Int)) = false := by rw [beq_eq_false_iff_ne]; exact e1
        rw [hQ.out] at e1b
        by_cases e2 : bt c.l m = 60
        · have hP := hv.out.lt hlt e2
          rw [ho.out] at hP
          replace hP := Lib.hid hP
          replace e1 := Lib.hid e1
          clear e1b
          go_wp2_with fail
          go_quiet (fail)
          go_wp2_with fail
          go_quiet (fail)
          go_wp2_with fail
          go_ret2
          exact RtPost.no [] (by decide) hP.out (by simpa using hs0 _)
        have e2b : (bt c.l m == 60) = false := by rw [beq_eq_false_iff_ne]; exact e2
        by_cases e3 : bt c.l m = 38
        · have hP := hv.out.ref hlt e3
          rw [ho.out] at hP
          have href := fun n : Nat => rnamed_any R c m (wr.drewN n) (hs0 n).out.1 hlt e3 hl
          have hrb := fun x n => refP_bd (d := c.l.drop m) (x := x) (n := n)
          generalize refP (c.l.drop m) = r at hP href hrb
          clear e1 e1b e2b
          replace e2 := Lib.hid e2
          cases r with
          | none =>
            have hPn := Lib.hid (hP.1 rfl)
            clear hP
            replace href := Lib.hid href
            clear hrb
            go_wp2_with fail
            go_quiet (fail)
            go_wp2_with fail
            go_quiet (fail)
            go_wp2_with fail
            refine (href.out _).mono ?_
            rintro e w' ⟨⟨x, rfl, hx⟩, k', hk'⟩
            have hfin := sf_turn (hs0 _) hk'
            replace hk' := Lib.hid hk'
            go_wp2_with fail
            go_ret2
            exact RtPost.no [] (by decide) hPn.out hfin
          | some y =>
            obtain ⟨x, n⟩ := y
            obtain ⟨b1, b2, b3⟩ := hrb x n rfl
            have hPs := Lib.hid (hP.2 x n rfl)
            clear hP
            replace href := Lib.hid href
            clear hrb
            go_wp2_with fail
            go_quiet (fail)
            go_wp2_with fail
            go_quiet (fail)
            go_wp2_with fail
            refine (href.out _).mono ?_
            rintro e w' ⟨rfl, hk'⟩
            have hfin := sf_turn (hs0 _) hk'
            have d1 := hk'.1.c1
            replace hk' := Lib.hid hk'
            go_wp2_with fail
            exact ⟨⟨m + n, _, rfl, hPs, hfin⟩, by rw [c1, d1]; simp [intOf]; omega⟩
        · have e3b : (bt c.l m == 38) = false := by rw [beq_eq_false_iff_ne]; exact e3
          have hP := Lib.hid (hv.out.one hlt e1 e2 e3)
          clear e1 e2 e3
          have hcv2 := fun n : Nat => hcv (wr.drewN n) (bt c.l m)
          have hsz : ∀ n : Nat, (wr.drewN n).heap.size = wr.heap.size := fun n => rfl
          simp only [hsz] at hcv2
          have hs3 : ∀ n : Nat, Hid (Sf w ((wr.drewN n).alloc (.cells [Value.int .u8 (bt c.l m)].toArray 5)) R c m) := fun n => sf_below (hs0 n) ((Below.refl _ _).alloc (Nat.le_refl _) _)
          have k1 := fun n => (hs3 n).out.1.c1
          have g1 := fun n => (hs3 n).out.1.fz 1
          clear hcv hs2
          go_wp2_with fail
          go_quiet (fail)
          go_wp2_with fail
          go_quiet (fail)
          go_wp2_with fail
          have hs4 := fun n => sf_put (hs3 n) (m + 1) (x := (m : Int) + 1) (by omega)
          exact ⟨⟨m + 1, _, rfl, hP, hs4 _⟩, by rw [c1, (hs4 _).out.1.c1]; simp [intOf]; omega⟩
      · have hlt1 : decide ((m : Int) < c.l.length) = false := by rw [decide_eq_false_iff_not]; omega
        have hP := hv.out.out hlt
        rw [ho.out] at hP
        replace hP := Lib.hid hP
        go_wp2_with fail
        go_quiet (fail)
        go_wp2_with fail
        go_ret2
        exact RtPost.no [] (by decide) hP.out (sf_drawn hs _)
end Go.Proofs.YtfmlgfeldlnlgaaGreatDoor
