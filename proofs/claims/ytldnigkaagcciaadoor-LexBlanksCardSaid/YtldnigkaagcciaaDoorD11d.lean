/- Layer 11: run. -/
import Derived.Test.YtldnigkaagcciaaDoorD11c
import Derived.Test.YtldnigkaagcciaaDoorD10f
import Derived.Test.YtldnigkaagcciaaDoorAs
namespace Go.Proofs.YtldnigkaagcciaaDoor
open Go.RowKit

theorem encR_len (r : Int) : (enc r).length ≤ 4 := by
  unfold enc
  rw [List.length_map, encI_fix]
  exact (encR_ne _).2
theorem named_len {l x : List UInt8} (h : namedS l = some x) : x.length ≤ 4 := by
  unfold namedS at h
  repeat' split at h
  all_goals first | (injection h with h; subst h; first | exact encR_len _ | decide) | cases h
theorem refP_bd {d x : List UInt8} {n : Nat} (h : refP d = some (x, n)) : 1 ≤ n ∧ n ≤ d.length ∧ x.length ≤ 4 := by
  unfold refP at h
  split at h
  · cases h
  · rename_i hi
    have hlt := indexByte_lt (d.take 13) 59
    rw [List.length_take] at hlt
    revert h
    cases e : namedS ((d.take (Lib.indexByte (d.take 13) 59).toNat).drop 1) with
    | none => intro h; cases h
    | some t =>
      intro h
      injection h with h
      injection h with h1 h2
      subst h1 h2
      exact ⟨by omega, by omega, named_len e⟩
theorem runF_steps (ends : List UInt8) : Steps (runF ends) := by
  intro s d s' n h
  cases d with
  | nil => cases h
  | cons c t =>
    rw [runF] at h
    split at h
    · cases h
    · split at h
      · injection h with _ h; subst h; simp
      · revert h
        cases e : refP (c :: t) with
        | none => intro h; cases h
        | some y =>
          obtain ⟨x, m⟩ := y
          intro h
          injection h with _ h
          subst h
          have := refP_bd e
          omega
/-- What the loop of run keeps. -/
structure RunAt (ends d : List UInt8) (j : Nat) (acc : List UInt8) : Prop where
  le : j ≤ d.length
  eq : loopK (runF ends) [] d 0 = loopK (runF ends) acc (d.drop j) j
  len : acc.length ≤ 4 * j
theorem RunAt.zero (ends d : List UInt8) : RunAt ends d 0 [] := ⟨Nat.zero_le _, by simp, by simp⟩
theorem RunAt.step {ends d acc acc' : List UInt8} {j n : Nat} (h : RunAt ends d j acc) (e : runF ends acc (d.drop j) = .go acc' n) (hl : acc'.length ≤ acc.length + 4 * n) : RunAt ends d (j + n) acc' := by
  have := runF_steps ends _ _ _ _ e
  rw [List.length_drop] at this
  refine ⟨by omega, ?_, by have := h.len; omega⟩
  rw [h.eq, loopK_go (runF_steps ends) _ e, List.drop_drop]
theorem RunAt.stop {ends d acc : List UInt8} {j : Nat} (h : RunAt ends d j acc) (e : runF ends acc (d.drop j) = .stop) : runP ends d = some (acc, j) := by
  unfold runP; rw [h.eq, loopK_stop _ e]
theorem RunAt.bad {ends d acc : List UInt8} {j : Nat} (h : RunAt ends d j acc) (e : runF ends acc (d.drop j) = .bad ()) : runP ends d = none := by
  unfold runP; rw [h.eq, loopK_bad _ e]
theorem drop_cons {d : List UInt8} {j : Nat} (hj : j < d.length) : d.drop j = d.getD j 0 :: d.drop (j + 1) := by
  rw [List.drop_eq_getElem_cons hj]; simp [List.getD, hj]
theorem runF_end (ends acc d : List UInt8) (j : Nat) (hj : ¬ j < d.length) : runF ends acc (d.drop j) = .stop := by
  rw [List.drop_eq_nil_of_le (by omega)]; rfl
theorem runF_at {ends acc d : List UInt8} {j : Nat} (hj : j < d.length) :
    (0 ≤ Lib.indexByte ends (d.getD j 0) → runF ends acc (d.drop j) = .stop) ∧
    (Lib.indexByte ends (d.getD j 0) < 0 → bt d j ≠ 38 → runF ends acc (d.drop j) = .go (acc ++ [d.getD j 0]) 1) ∧
    (Lib.indexByte ends (d.getD j 0) < 0 → bt d j = 38 → runF ends acc (d.drop j) = match refP (d.drop j) with | none => .bad () | some (x, n) => .go (acc ++ x) n) := by
  have h38 : bt d j = 38 ↔ d.getD j 0 = 38 := by
    rw [bt_get0']
    constructor
    · intro h; exact UInt8.toNat_inj.1 (by rw [show (38 : UInt8).toNat = 38 from rfl]; omega)
    · intro h; rw [h]; rfl
  rw [drop_cons hj, runF]
  refine ⟨fun h => by rw [if_pos h], fun h h1 => ?_, fun h h1 => ?_⟩
  · rw [if_neg (by omega), if_pos (by rw [ne_eq, ← h38]; exact h1)]
  · rw [if_neg (by omega), if_neg (by rw [ne_eq, ← h38]; exact fun h => h h1)]
    cases refP (d.getD j 0 :: d.drop (j + 1)) <;> rfl

theorem own_ne_arr {w : World} {B n z g : Nat} {E t : TypeId} {v : Value} {xs c : List Value} (h : w.ownsRow B E z v n xs) (ha : ArrAt w g t c) (hE : E ≠ t) : v.ownBlock ≠ some g := fun e => by
  obtain ⟨cur, e1⟩ := own_heap h e
  unfold ArrAt at ha
  rw [ha] at e1
  injection e1 with e1
  injection e1 with _ e1
  exact hE e1.symm
theorem t_reader : 5 ≠ 45 := by decide
/-- A reader, and a text that the call itself makes. -/
structure TxSt (w wr : World) (R : Nat) (c : RC) (m : Nat) (v : Value) (acc : List UInt8) : Prop where
  txt : Txt wr w.heap.size v acc
  rd : Rd wr R c m
  turned : Turned (fun b => b = R) w wr
section
variable {w wr w1 : World} {R : Nat} {c : RC} {m : Nat} {v v1 : Value} {acc acc1 : List UInt8}
theorem TxSt.base (h : TxSt w wr R c m v acc) : w.heap.size ≤ wr.heap.size := h.turned.size
theorem TxSt.drawn (h : TxSt w wr R c m v acc) (n : Nat) : TxSt w (wr.drewN n) R c m v acc :=
  ⟨ownsRow_drawn h.txt (drawn_drewN _ _), h.rd.drawn (drawn_drewN _ _), h.turned.trans (Turned.of_below (S := fun b => b = R) (Drawn.below (drawn_drewN _ _) _)) fun _ _ e => e⟩
theorem TxSt.put (h : TxSt w wr R c m v acc) (ho : Txt w1 w.heap.size v1 acc1) (hg : wr.grownBy w1 v.ownBlock) : TxSt w w1 R c m v1 acc1 := by
  have hT := Turned.of_grown (S := fun b => v.ownBlock = some b) hg fun _ e => e
  refine ⟨ho, h.rd.turned hT (own_ne_arr h.txt h.rd t_reader), h.turned.trans hT fun i hi e => ?_⟩
  have := (World.ownsRow.lt h.txt i e).1
  omega
theorem TxSt.putB (h : TxSt w wr R c m v acc) (hR : R < w.heap.size) (ho : Txt w1 w.heap.size v1 acc1) (hb : Below w.heap.size wr w1) : TxSt w w1 R c m v1 acc1 :=
  ⟨ho, (hb.block R hR).trans h.rd, ⟨hb.os.trans h.turned.os, hb.tape.trans h.turned.tape, hb.output.trans h.turned.output, Nat.le_trans h.turned.size hb.size, fun i hi hn => (hb.block i hi).trans (h.turned.block i hi hn)⟩⟩
theorem TxSt.move (h : TxSt w wr R c m v acc) (m' : Nat) {x : Int} (e : x = m') : TxSt w (wr.setCell ⟨R, 1, none⟩ (.int .i64 x)) R c m' v acc :=
  ⟨ownsRow_turned h.txt (turned_setCell _ _ _) fun k hk e => own_ne_arr h.txt h.rd t_reader (by rw [hk]; exact congrArg some e), h.rd.move m' e, h.turned.trans (turned_setCell _ _ _) fun _ _ e => e⟩
/-- A call that only moves the reader. -/
theorem TxSt.call (h : TxSt w wr R c m v acc) {m' : Nat} (hr : Rd w1 R c m') (ht : Turned (fun b => b = R) wr w1) : TxSt w w1 R c m' v acc :=
  ⟨ownsRow_turned h.txt ht fun k hk e => own_ne_arr h.txt h.rd t_reader (by rw [hk]; exact congrArg some e), hr, h.turned.trans ht fun _ _ e => e⟩
theorem TxSt.post (h : TxSt w wr R c m v acc) : Rd wr R c m ∧ Turned (fun b => b = R) w wr := ⟨h.rd, h.turned⟩
end

set_option maxRecDepth 100000 in
set_option maxHeartbeats 1000000 in
theorem run11_any (R : Nat) (c : RC) (k : Nat) (ends : List UInt8) (w : World) (h : Rd w R c k) (hk : k ≤ c.l.length) (hl : c.l.length ≤ 100000) :
    Calls Tryd.prog 43 #[.pointer (some ⟨R, 0, none⟩), .string ⟨ends.toArray⟩] w (StrPost w R c k (runP ends (c.l.drop k))) := by
  have hsz := h.lt
  have hst : Hid (Rd w R c k) := h
  clear h
  have hdl : (c.l.drop k).length = c.l.length - k := List.length_drop
  replace hdl := Lib.hid hdl
  go_enter Tryd.func43, Tryd.ntmps43
  go_wp2_with fail
  go_loopw [6] (fun v wr => ∃ m acc, k ≤ m ∧ m ≤ c.l.length ∧ Hid (TxSt w wr R c m v acc) ∧ Hid (RunAt ends (c.l.drop k) (m - k) acc)) (fun v wr => c.l.length - (intOf ((wr.cell? ⟨R, 1, none⟩).getD undef)).toNat)
  case atStart => exact ⟨k, [], Nat.le_refl _, hk, ⟨txt_nil _ _, hst.out, Turned.refl _ _⟩, by rw [Nat.sub_self]; exact RunAt.zero _ _⟩
  case round =>
    clear hst
    obtain ⟨m, acc, hkm, hm, hv, hq⟩ := hrel
    have c0 := hv.out.rd.c0
    have c1 := hv.out.rd.c1
    have f1 := hv.out.rd.fz 1
    by_cases hlt : m < c.l.length
    · have hlt1 : (m : Int) < c.l.length := by omega
      have hat := runF_at (ends := ends) (acc := acc) (d := c.l.drop k) (j := m - k) (by rw [hdl.out]; omega)
      have hgd : (c.l.drop k).getD (m - k) 0 = c.l.getD m 0 := by simp only [List.getD, List.getElem?_drop]; congr 2; omega
      rw [hgd, bt_drop, show k + (m - k) = m by omega, List.drop_drop, show k + (m - k) = m by omega] at hat
      have hix := fun W : World => indexByte_any ends (bt c.l m) W
      have hix2 : (bt c.l m).toNat.toUInt8 = c.l.getD m 0 := by rw [bt_get0']; simp
      rw [hix2] at hix
      clear hix2 hgd
      by_cases hs : 0 ≤ Lib.indexByte ends (c.l.getD m 0)
      · have hP := hat.1 hs
        clear hat
        have hP2 := Lib.hid (hq.out.stop (by rw [List.drop_drop, show k + (m - k) = m by omega]; exact hP))
        replace hP := Lib.hid hP
        generalize Lib.indexByte ends (c.l.getD m 0) = E at hs hix
        have hs2 : decide (E < 0) = false := by rw [decide_eq_false_iff_not]; omega
        replace hix := Lib.hid hix
        have hcv := fun n : Nat => txt_str (hv.out.drawn n).txt
        go_wp2_with fail
        go_quiet ((go_at_call 54; exact Calls.drawn_at (hix.out _)))
        go_wp2_with fail
        go_ret2
        exact StrPost.ok hP2.out ⟨rfl, by rw [show k + (m - k) = m by omega]; exact (hv.out.drawn _).post⟩
      · have hneg : Lib.indexByte ends (c.l.getD m 0) < 0 := by omega
        have hlen := hq.out.len
        have hbase := hv.out.base
        by_cases h38 : bt c.l m = 38
        · have hP := hat.2.2 hneg h38
          clear hat hs
          rw [h38] at hix
          generalize Lib.indexByte ends (c.l.getD m 0) = E at hneg hix
          replace hix := Lib.hid hix
          have href := fun n : Nat => ref11_any R c m (wr.drewN n) (hv.out.drawn n).rd hlt h38 hl
          have hrb := fun x n => refP_bd (d := c.l.drop m) (x := x) (n := n)
          rw [List.length_drop] at hrb
          generalize ho : refP (c.l.drop m) = o at hP href hrb
          replace ho := Lib.hid ho
          cases o with
          | none =>
            have hP2 := Lib.hid (hq.out.bad (by rw [List.drop_drop, show k + (m - k) = m by omega]; exact hP))
            replace hP := Lib.hid hP
            replace href := Lib.hid href
            clear hrb
            go_wp2_with fail
            go_quiet ((go_at_call 54; exact Calls.drawn_at (hix.out _)))
            go_wp2_with fail
            go_quiet (fail)
            go_wp2_with fail
            refine (href.out _).mono ?_; rintro e w' ⟨rfl, k', hk', hr', ht'⟩
            have hend := Lib.hid ((hv.out.drawn _).call hr' ht')
            replace hr' := Lib.hid hr'
            replace ht' := Lib.hid ht'
            go_wp2_with fail
            go_ret2
            exact StrPost.no hP2.out ⟨rfl, k', hk', hend.out.post⟩
          | some y =>
            obtain ⟨x, n⟩ := y
            obtain ⟨b1, b2, b3⟩ := hrb x n rfl
            clear hrb
            have hnx := Lib.hid (hq.out.step (by rw [List.drop_drop, show k + (m - k) = m by omega]; exact hP) (by simp; omega))
            replace hP := Lib.hid hP
            replace href := Lib.hid href
            go_wp2_with fail
            go_quiet ((go_at_call 54; exact Calls.drawn_at (hix.out _)))
            go_wp2_with fail
            go_quiet (fail)
            go_wp2_with fail
            refine (href.out _).mono ?_; rintro e w' ⟨rfl, hr', ht'⟩
            have hnew := Lib.hid ((hv.out.drawn _).call hr' ht')
            have hb2 := hnew.out.base
            replace hr' := Lib.hid hr'
            replace ht' := Lib.hid ht'
            go_wp2_with (at_builtin; go_must (refine wpList_append1s rfl _ _ 43 9 5 rfl Tryd.underlying43 Tryd.underlying9 info_byte w.heap.size _ acc x hnew.out.txt rfl rfl (by omega) (by omega) ?_))
            intro v1 w1 hown1 hb1
            have hnew2 := Lib.hid (hnew.out.putB hsz (show Txt _ _ _ (acc ++ x) from by rw [Txt, List.length_append]; exact hown1) hb1)
            replace hown1 := Lib.hid hown1
            replace hb1 := Lib.hid hb1
            go_wp2_with fail
            exact ⟨⟨m + n, _, by omega, by omega, hnew2.out, by have := hnx.out; rw [show m - k + n = m + n - k by omega] at this; exact this⟩, by rw [c1, hnew2.out.rd.c1]; simp [intOf]; omega⟩
        · have hP := hat.2.1 hneg h38
          clear hat
          have hnx := Lib.hid (hq.out.step (n := 1) (by rw [List.drop_drop, show k + (m - k) = m by omega]; exact hP) (by simp))
          replace hP := Lib.hid hP
          clear hs
          generalize Lib.indexByte ends (c.l.getD m 0) = E at hneg hix
          replace hix := Lib.hid hix
          go_wp2_with fail
          go_quiet ((go_at_call 54; exact Calls.drawn_at (hix.out _)))
          go_wp2_with fail
          go_quiet (fail)
          go_wp2_with fail
          go_region_law (refine step_append1 rfl (.tmp 43) (.tmp 53) 43 5 rfl Tryd.underlying43 (.int .u8 0) 1 1 info_byte rfl (by decide) (by decide) w.heap.size _ acc.length ((nums acc).map (Value.int .u8)) [.int .u8 (bt c.l m)] rfl (hv.out.drawn _).txt (by simp [Act.eval]) (by simp [Act.eval]) (by intro u hu; simp at hu; subst hu; rfl) (by omega) (by simpa using hbase) ?_; intro v1 w1 hown1 hgr1 hwh1)
          all_goals
            clear hwh1
            have hnew := Lib.hid ((hv.out.drawn _).put (txt_one (m := [c.l.getD m 0]) rfl hown1.out) hgr1.out)
            have c1' := hnew.out.rd.c1
            have f1' := hnew.out.rd.fz 1
            go_wp2_with fail
            exact ⟨⟨m + 1, _, by omega, by omega, hnew.out.move _ (by omega), by have := hnx.out; rw [show m - k + 1 = m + 1 - k by omega] at this; exact this⟩, by rw [c1, (hnew.out.move (m + 1) (x := (m : Int) + 1) (by omega)).rd.c1]; simp [intOf]; omega⟩
    · have hlt1 : decide ((m : Int) < c.l.length) = false := by rw [decide_eq_false_iff_not]; omega
      have hcv := fun n : Nat => txt_str (hv.out.drawn n).txt
      have hP2 := Lib.hid (hq.out.stop (runF_end _ _ _ _ (by rw [hdl.out]; omega)))
      go_wp2_with fail
      go_quiet (fail)
      go_wp2_with fail
      go_ret2
      exact StrPost.ok hP2.out ⟨rfl, by rw [show k + (m - k) = m by omega]; exact (hv.out.drawn _).post⟩
end Go.Proofs.YtldnigkaagcciaaDoor
