/- Layer 10: Space, the program's and the reference's. -/
import Derived.Lib.AppendStr
import Derived.Test.YtkgjbamkinfmeaaGreatDoorBR09
import Derived.Test.YtkgjbamkinfmeaaGreatDoorBR01
import Derived.Test.YtkgjbamkinfmeaaGreatDoorBR02
import Derived.Deep.RegionLaw
import Derived.Deep.AppendLies
namespace Go.Proofs.YtkgjbamkinfmeaaGreatDoor
open Go.RowKit

theorem nums_take1 (d : List UInt8) (h : d ≠ []) : nums (d.take 1) = [bt d 0] := by
  cases d with
  | nil => exact absurd rfl h
  | cons c t => rfl
theorem txt_one {w : World} {B : Nat} {v : Value} {l m : List UInt8} {x : Int} (hm : nums m = [x]) (h : w.ownsRow B 5 1 v (l.length + 1) ((nums l).map (Value.int .u8) ++ [.int .u8 x])) : Txt w B v (l ++ m) := by
  unfold Txt
  have hl : m.length = 1 := by rw [← nums_len, hm]; rfl
  rw [List.length_append, hl, nums_app, hm, List.map_append]
  exact h
theorem txt_len {w : World} {B : Nat} {v : Value} {l : List UInt8} (h : Txt w B v l) : ∃ a c, v = .slice a l.length c := own_form h

theorem prefix_nb (l : List UInt8) : Lib.hasPrefix l [194, 160] = decide (2 ≤ l.length ∧ bt l 0 = 194 ∧ bt l 1 = 160) := by
  match l with
  | [] => rfl
  | [c] => simp [Lib.hasPrefix, List.isPrefixOf]
  | c :: d :: t =>
    have e1 : (bt (c :: d :: t) 0 = 194) = (c = 194) := propext (bt_u8 c 194 (d :: t))
    have e2 : (bt (c :: d :: t) 1 = 160) = (d = 160) := by rw [bt_succ]; exact propext (bt_u8 d 160 t)
    rw [Bool.eq_iff_iff, decide_eq_true_eq, e1, e2]
    simp only [Lib.hasPrefix, List.isPrefixOf, Bool.and_eq_true, beq_iff_eq, and_true]
    exact ⟨fun h => ⟨by simp, h.1.symm, h.2.symm⟩, fun h => ⟨h.2.1.symm, h.2.2.symm⟩⟩

set_option maxHeartbeats 400000 in
theorem blank_any (l : List UInt8) (w : World) (h0 : l ≠ []) :
    Calls Tryz.prog 189 #[.string ⟨l.toArray⟩] w fun e w' => e = .returned (.int .i64 (blankN l)) ∧ w = w' := by
  have hl := len_pos h0
  have hb := bt_lt l 0
  have hp := prefix_nb l
  have hpc := fun W : World => hasPrefix_any l [194, 160] W
  cases hq : Lib.hasPrefix l [194, 160]
  all_goals
    rw [hq] at hp hpc
    have hp' := hp.symm
    simp only [decide_eq_true_eq, decide_eq_false_iff_not] at hp'
    replace hp' := Lib.hid hp'
    replace hpc := Lib.hid hpc
    clear hp
    replace hq := Lib.hid hq
    replace h0 := Lib.hid h0
    go_enter Tryz.func189, Tryz.ntmps189
    go_wp2_with (refine (hpc.out _).mono ?_; rintro e w' ⟨rfl, rfl⟩)
  all_goals try go_wp2_with fail
  all_goals go_ret
  all_goals refine ⟨blankN_ret ?_, rfl⟩
  all_goals have hp := hp'.out
  all_goals try simp only [beq_iff_eq, beq_eq_false_iff_ne, ne_eq] at *
  all_goals first | (exfalso; omega) | (repeat (first | rw [if_pos (by omega)] | rw [if_neg (by omega)]))
end Go.Proofs.YtkgjbamkinfmeaaGreatDoor

/- Append of elements that were just built, to a slice that the call itself made: a step law for regions that draw; the row lies where it lay, or in a new block. -/
namespace Go.Proofs.YtkgjbamkinfmeaaGreatDoor
open Go.RowKit

theorem arr_news {w : World} {h : Nat} {t : TypeId} {news : List Value} (hh : ArrAt w h t news) : ∀ j u, news[j]? = some u → w.cell? ((⟨h, 0, none⟩ : Addr).add j) = some u := fun j u hu => by
  have hadd : (⟨h, 0, none⟩ : Addr).add j = ⟨h, 0 + j, none⟩ := by unfold Addr.add; split <;> simp_all
  rw [hadd, Nat.zero_add, hh.cell]; exact hu
theorem step_append1 {P : Program} {ops : Array Oper} {o : Oper} {a : Act} {K : Act → World → Prop} {Q : Exit → Act → World → Prop} {E : Prop} {w : World} (hgd : o.guard = none) (s x : Operand) (t e : TypeId)
    (ho : o.op = .call { callee := .builtin .append, args := #[s, x], argTypes := #[t, t] }) (ht : P.underlying t = some (.slice e))
    (z : Value) (size bytes : Nat) (hi : (P.info? e).map (fun i => (i.zero, i.size, i.bytes)) = some (some z, size, bytes)) (hzs : z.cells.size = size) (hsz : 0 < size) (hby : 0 < bytes)
    (B : Nat) (v : Value) (n : Nat) (xs : List Value) (us : List Value) (hus : us.length = size) (hown : w.ownsRow B e size v n xs) (hs : a.eval s = v) (hx : a.eval x = .slice (some ⟨w.heap.size, 0, none⟩) 1 1) (hu : ∀ u ∈ us, u.oneCell' = true)
    (hn : (n + 1) * bytes ≤ 140737488355328) (hB : B ≤ w.heap.size)
    (h : ∀ v' w', Hid (w'.ownsRow B e size v' (n + 1) (xs ++ us)) → Hid (w.grownBy w' v.ownBlock) → Hid (v'.ownBlock = v.ownBlock ∨ ∃ b, v'.ownBlock = some b ∧ w.heap.size ≤ b) → K (a.put o.dst v') w') :
    if Region.wanted o (yielded ops a.tmps) = true then Oper.wp P o a (w.alloc (.cells us.toArray e)) K Q else E := by
  rw [if_pos (by simp [Region.wanted, hgd])]
  obtain ⟨i, hi, hz, hsize, hbyt⟩ := info_parts hi
  have hn1 : n + 1 ≤ (n + 1) * bytes := Nat.le_mul_of_pos_right _ hby
  obtain ⟨v', w', hr, h1, h2, _, h4⟩ := run_append_own_at (P := P) (w.alloc (.cells us.toArray e)) B t o.type e i z size bytes ht hi hz hsize hbyt hzs hsz v n xs (hown.alloc _) ⟨w.heap.size, 0, none⟩ 1 1 us (by omega)
    (arr_news (arrAt_new w e us)) hu (by unfold maxLen; omega) hn (by simp; omega)
  unfold Oper.wp
  simp [execOp, ho, resolve, invoke, builtin, hs, hx, hr, Result.andThen]
  have hg := grownBy_trans (World.grownBy_alloc w (.cells us.toArray e) none) h2
  refine h v' w' (Lib.hid h1) (Lib.hid hg) (Lib.hid ?_)
  rcases h4 with h4 | h4
  · exact Or.inl h4
  · exact Or.inr ⟨_, h4, by simp⟩

/-- The same, in a region that doesn't draw. -/
theorem wpList_appendk {P : Program} {ops : Array Oper} {rest : List Oper} {o : Oper} {a : Act} {Q : Exit → Act → World → Prop} {w : World} (hw : Region.wanted o (yielded ops a.tmps) = true) (s x : Operand) (t e : TypeId)
    (ho : o.op = .call { callee := .builtin .append, args := #[s, x], argTypes := #[t, t] }) (ht : P.underlying t = some (.slice e))
    (z : Value) (size bytes : Nat) (hi : (P.info? e).map (fun i => (i.zero, i.size, i.bytes)) = some (some z, size, bytes)) (hzs : z.cells.size = size) (hsz : 0 < size) (hby : 0 < bytes)
    (B : Nat) (v : Value) (n : Nat) (xs : List Value) (us : List Value) (hus : us.length = size) (hown : w.ownsRow B e size v n xs) (hs : a.eval s = v) (hx : a.eval x = .slice (some ⟨w.heap.size, 0, none⟩) 1 1) (hu : ∀ u ∈ us, u.oneCell' = true)
    (hn : (n + 1) * bytes ≤ 140737488355328) (hB : B ≤ w.heap.size)
    (h : ∀ v' w', Hid (w'.ownsRow B e size v' (n + 1) (xs ++ us)) → Hid (w.grownBy w' v.ownBlock) → Hid (v'.ownBlock = v.ownBlock ∨ ∃ b, v'.ownBlock = some b ∧ w.heap.size ≤ b) → wpList P ops Q rest (a.put o.dst v') w') : wpList P ops Q (o :: rest) a (w.alloc (.cells us.toArray e)) := by
  obtain ⟨i, hi, hz, hsize, hbyt⟩ := info_parts hi
  have hn1 : n + 1 ≤ (n + 1) * bytes := Nat.le_mul_of_pos_right _ hby
  refine BigFrame.wpList_want hw fun K hK => ?_
  obtain ⟨v', w', hr, h1, h2, _, h4⟩ := run_append_own_at (P := P) (w.alloc (.cells us.toArray e)) B t o.type e i z size bytes ht hi hz hsize hbyt hzs hsz v n xs (hown.alloc _) ⟨w.heap.size, 0, none⟩ 1 1 us (by omega)
    (arr_news (arrAt_new w e us)) hu (by unfold maxLen; omega) hn (by simp; omega)
  unfold Oper.wp execOp
  simp only [ho, resolve, invoke, builtin, Sem.run_bind, Sem.run_pure, Result.andThen_ok, List.map_toArray, List.map_cons, List.map_nil, hs, hx, hr]
  have hg := grownBy_trans (World.grownBy_alloc w (.cells us.toArray e) none) h2
  refine hK _ _ (h v' w' (Lib.hid h1) (Lib.hid hg) (Lib.hid ?_))
  rcases h4 with h4 | h4
  · exact Or.inl h4
  · exact Or.inr ⟨_, h4, by simp⟩
end Go.Proofs.YtkgjbamkinfmeaaGreatDoor

/- Layer 11: run. -/
namespace Go.Proofs.YtkgjbamkinfmeaaGreatDoor
open Go.RowKit

theorem t_reader : 5 ≠ 119 := by decide
/-- A reader, and a text that the call itself makes. -/
structure TxSt (w wr : World) (R : Nat) (c : RC) (m : Nat) (v : Value) (acc : List UInt8) : Prop where
  txt : Txt wr w.heap.size v acc
  rd : Rd wr R c m
  turned : Turned (fun b => b = R) w wr
section
variable {w wr w1 : World} {R : Nat} {c : RC} {m : Nat} {v v1 : Value} {acc acc1 : List UInt8}
theorem TxSt.base (h : TxSt w wr R c m v acc) : w.heap.size ≤ wr.heap.size := h.turned.size
theorem TxSt.drawn (h : TxSt w wr R c m v acc) (n : Nat) : TxSt w (wr.drewN n) R c m v acc :=
  ⟨ownsRow_drawn h.txt (drawn_drewN _ _), h.rd.drawn (drawn_drewN _ _), h.turned.trans (Turned.of_below (S := fun b => b = R) (Drawn.below (drawn_drewN _ _) _)) fun _ _ e => e⟩
theorem TxSt.put (h : TxSt w wr R c m v acc) (ho : Txt w1 w.heap.size v1 acc1) (hg : wr.grownBy w1 v.ownBlock) : TxSt w w1 R c m v1 acc1 := by
  have hT := Turned.of_grown (S := fun b => v.ownBlock = some b) hg fun _ e => e
  refine ⟨ho, h.rd.turned hT (own_ne_arr h.txt h.rd t_reader), h.turned.trans hT fun i hi e => ?_⟩
  have := (World.ownsRow.lt h.txt i e).1
  omega
theorem TxSt.putB (h : TxSt w wr R c m v acc) (hR : R < w.heap.size) (ho : Txt w1 w.heap.size v1 acc1) (hb : Below w.heap.size wr w1) : TxSt w w1 R c m v1 acc1 :=
  ⟨ho, (hb.block R hR).trans h.rd, ⟨hb.os.trans h.turned.os, hb.tape.trans h.turned.tape, hb.output.trans h.turned.output, Nat.le_trans h.turned.size hb.size, fun i hi hn => (hb.block i hi).trans (h.turned.block i hi hn)⟩⟩
theorem TxSt.move (h : TxSt w wr R c m v acc) (m' : Nat) {x : Int} (e : x = m') : TxSt w (wr.setCell ⟨R, 1, none⟩ (.int .i64 x)) R c m' v acc :=
  ⟨ownsRow_turned h.txt (turned_setCell _ _ _) fun k hk e => own_ne_arr h.txt h.rd t_reader (by rw [hk]; exact congrArg some e), h.rd.move m' e, h.turned.trans (turned_setCell _ _ _) fun _ _ e => e⟩
/-- A call that only moves the reader. -/
theorem TxSt.call (h : TxSt w wr R c m v acc) {m' : Nat} (hr : Rd w1 R c m') (ht : Turned (fun b => b = R) wr w1) : TxSt w w1 R c m' v acc :=
  ⟨ownsRow_turned h.txt ht fun k hk e => own_ne_arr h.txt h.rd t_reader (by rw [hk]; exact congrArg some e), hr, h.turned.trans ht fun _ _ e => e⟩
theorem TxSt.post (h : TxSt w wr R c m v acc) : Rd wr R c m ∧ Turned (fun b => b = R) w wr := ⟨h.rd, h.turned⟩
end

set_option maxRecDepth 100000 in
set_option maxHeartbeats 1000000 in
theorem run11_any (R : Nat) (c : RC) (k : Nat) (ends : List UInt8) (w : World) (h : Rd w R c k) (hk : k ≤ c.l.length) (hl : c.l.length ≤ 100000) :
    Calls Tryz.prog 123 #[.pointer (some ⟨R, 0, none⟩), .string ⟨ends.toArray⟩] w (Str11Post w R c k (runP ends (c.l.drop k))) := by
  have hsz := h.lt
  have hst : Hid (Rd w R c k) := h
  clear h
  have hdl : (c.l.drop k).length = c.l.length - k := List.length_drop
  replace hdl := Lib.hid hdl
  go_enter Tryz.func123, Tryz.ntmps123
  go_wp2_with fail
  go_loopw [6] (fun v wr => ∃ m acc, k ≤ m ∧ m ≤ c.l.length ∧ Hid (TxSt w wr R c m v acc) ∧ Hid (RunAt ends (c.l.drop k) (m - k) acc)) (fun v wr => c.l.length - (intOf ((wr.cell? ⟨R, 1, none⟩).getD undef)).toNat)
  case atStart => exact ⟨k, [], Nat.le_refl _, hk, ⟨txt_nil _ _, hst.out, Turned.refl _ _⟩, by rw [Nat.sub_self]; exact RunAt.zero _ _⟩
  case round =>
    clear hst
    obtain ⟨m, acc, hkm, hm, hv, hq⟩ := hrel
    have c0 := hv.out.rd.c0
    have c1 := hv.out.rd.c1
    have f1 := hv.out.rd.fz 1
    by_cases hlt : m < c.l.length
    · have hlt1 : (m : Int) < c.l.length := by omega
      have hat := runF_at (ends := ends) (acc := acc) (d := c.l.drop k) (j := m - k) (by rw [hdl.out]; omega)
      have hgd : (c.l.drop k).getD (m - k) 0 = c.l.getD m 0 := by simp only [List.getD, List.getElem?_drop]; congr 2; omega
      rw [hgd, bt_drop, show k + (m - k) = m by omega, List.drop_drop, show k + (m - k) = m by omega] at hat
      have hix := fun W : World => indexByte_any ends (bt c.l m) W
      have hix2 : (bt c.l m).toNat.toUInt8 = c.l.getD m 0 := by rw [bt_get0']; simp
      rw [hix2] at hix
      clear hix2 hgd
      by_cases hs : 0 ≤ Lib.indexByte ends (c.l.getD m 0)
      · have hP := hat.1 hs
        clear hat
        have hP2 := Lib.hid (hq.out.stop (by rw [List.drop_drop, show k + (m - k) = m by omega]; exact hP))
        replace hP := Lib.hid hP
        generalize Lib.indexByte ends (c.l.getD m 0) = E at hs hix
        have hs2 : decide (E < 0) = false := by rw [decide_eq_false_iff_not]; omega
        replace hix := Lib.hid hix
        have hcv := fun n : Nat => txt_str (hv.out.drawn n).txt
        go_wp2_with fail
        go_quiet ((go_at_call 160; exact Calls.drawn_at (hix.out _)))
        go_wp2_with fail
        go_ret2
        exact Str11Post.ok hP2.out ⟨rfl, by rw [show k + (m - k) = m by omega]; exact (hv.out.drawn _).post⟩
      · have hneg : Lib.indexByte ends (c.l.getD m 0) < 0 := by omega
        have hlen := hq.out.len
        have hbase := hv.out.base
        by_cases h38 : bt c.l m = 38
        · have hP := hat.2.2 hneg h38
          clear hat hs
          rw [h38] at hix
          generalize Lib.indexByte ends (c.l.getD m 0) = E at hneg hix
          replace hix := Lib.hid hix
          have href := fun n : Nat => ref11_any R c m (wr.drewN n) (hv.out.drawn n).rd hlt h38 hl
          have hrb := fun x n => refP_bd (d := c.l.drop m) (x := x) (n := n)
          rw [List.length_drop] at hrb
          generalize ho : refP (c.l.drop m) = o at hP href hrb
          replace ho := Lib.hid ho
          cases o with
          | none =>
            have hP2 := Lib.hid (hq.out.bad (by rw [List.drop_drop, show k + (m - k) = m by omega]; exact hP))
            replace hP := Lib.hid hP
            replace href := Lib.hid href
            clear hrb
            go_wp2_with fail
            go_quiet ((go_at_call 160; exact Calls.drawn_at (hix.out _)))
            go_wp2_with fail
            go_quiet (fail)
            go_wp2_with fail
            refine (href.out _).mono ?_; rintro e w' ⟨rfl, k', hk', hr', ht'⟩
            have hend := Lib.hid ((hv.out.drawn _).call hr' ht')
            replace hr' := Lib.hid hr'
            replace ht' := Lib.hid ht'
            go_wp2_with fail
            go_ret2
            exact Str11Post.no hP2.out ⟨rfl, k', hk', hend.out.post⟩
          | some y =>
            obtain ⟨x, n⟩ := y
            obtain ⟨b1, b2, b3⟩ := hrb x n rfl
            clear hrb
            have hnx := Lib.hid (hq.out.step (by rw [List.drop_drop, show k + (m - k) = m by omega]; exact hP) (by simp; omega))
            replace hP := Lib.hid hP
            replace href := Lib.hid href
            go_wp2_with fail
            go_quiet ((go_at_call 160; exact Calls.drawn_at (hix.out _)))
            go_wp2_with fail
            go_quiet (fail)
            go_wp2_with fail
            refine (href.out _).mono ?_; rintro e w' ⟨rfl, hr', ht'⟩
            have hnew := Lib.hid ((hv.out.drawn _).call hr' ht')
            have hb2 := hnew.out.base
            replace hr' := Lib.hid hr'
            replace ht' := Lib.hid ht'
            go_wp2_with (at_builtin; go_must (refine wpList_append1s rfl _ _ 117 9 5 rfl Tryz.underlying117 Tryz.underlying9 info_byte w.heap.size _ acc x hnew.out.txt rfl rfl (by omega) (by omega) ?_))
            intro v1 w1 hown1 hb1
            have hnew2 := Lib.hid (hnew.out.putB hsz (show Txt _ _ _ (acc ++ x) from by rw [Txt, List.length_append]; exact hown1) hb1)
            replace hown1 := Lib.hid hown1
            replace hb1 := Lib.hid hb1
            go_wp2_with fail
            exact ⟨⟨m + n, _, by omega, by omega, hnew2.out, by have := hnx.out; rw [show m - k + n = m + n - k by omega] at this; exact this⟩, by rw [c1, hnew2.out.rd.c1]; simp [intOf]; omega⟩
        · have hP := hat.2.1 hneg h38
          clear hat
          have hnx := Lib.hid (hq.out.step (n := 1) (by rw [List.drop_drop, show k + (m - k) = m by omega]; exact hP) (by simp))
          replace hP := Lib.hid hP
          clear hs
          generalize Lib.indexByte ends (c.l.getD m 0) = E at hneg hix
          replace hix := Lib.hid hix
          go_wp2_with fail
          go_quiet ((go_at_call 160; exact Calls.drawn_at (hix.out _)))
          go_wp2_with fail
          go_quiet (fail)
          go_wp2_with fail
          go_region_law (refine step_append1 rfl (.tmp 43) (.tmp 53) 117 5 rfl Tryz.underlying117 (.int .u8 0) 1 1 info_byte rfl (by decide) (by decide) w.heap.size _ acc.length ((nums acc).map (Value.int .u8)) [.int .u8 (bt c.l m)] rfl (hv.out.drawn _).txt (by simp [Act.eval]) (by simp [Act.eval]) (by intro u hu; simp at hu; subst hu; rfl) (by omega) (by simpa using hbase) ?_; intro v1 w1 hown1 hgr1 hwh1)
          all_goals
            clear hwh1
            have hnew := Lib.hid ((hv.out.drawn _).put (txt_one (m := [c.l.getD m 0]) rfl hown1.out) hgr1.out)
            have c1' := hnew.out.rd.c1
            have f1' := hnew.out.rd.fz 1
            go_wp2_with fail
            exact ⟨⟨m + 1, _, by omega, by omega, hnew.out.move _ (by omega), by have := hnx.out; rw [show m - k + 1 = m + 1 - k by omega] at this; exact this⟩, by rw [c1, (hnew.out.move (m + 1) (x := (m : Int) + 1) (by omega)).rd.c1]; simp [intOf]; omega⟩
    · have hlt1 : decide ((m : Int) < c.l.length) = false := by rw [decide_eq_false_iff_not]; omega
      have hcv := fun n : Nat => txt_str (hv.out.drawn n).txt
      have hP2 := Lib.hid (hq.out.stop (runF_end _ _ _ _ (by rw [hdl.out]; omega)))
      go_wp2_with fail
      go_quiet (fail)
      go_wp2_with fail
      go_ret2
      exact Str11Post.ok hP2.out ⟨rfl, by rw [show k + (m - k) = m by omega]; exact (hv.out.drawn _).post⟩
end Go.Proofs.YtkgjbamkinfmeaaGreatDoor

/- Layer 11: value. -/
namespace Go.Proofs.YtkgjbamkinfmeaaGreatDoor
open Go.RowKit

set_option maxHeartbeats 1000000 in
theorem value11_any (R : Nat) (c : RC) (k : Nat) (w : World) (h : Rd w R c k) (hk : k ≤ c.l.length) (hl : c.l.length ≤ 100000) :
    Calls Tryz.prog 197 #[.pointer (some ⟨R, 0, none⟩)] w (Str11Post w R c k (valueP (c.l.drop k))) := by
  have hV0 : ∀ q : UInt8, (if Lib.hasPrefix (c.l.drop k) [39] then (39 : UInt8) else 34) = q → valueP (c.l.drop k) = if Lib.hasPrefix (c.l.drop k) [q] = false then none else
      match runP [60, q] (c.l.drop (k + 1)) with
      | none => none
      | some (x, n) => if Lib.hasPrefix (c.l.drop (k + 1 + n)) [q] then some (x, 1 + n + 1) else none := by
    intro q hq
    unfold valueP
    rw [hq, List.drop_drop]
    split
    · rfl
    · cases runP [60, q] (c.l.drop (k + 1)) with
      | none => rfl
      | some y => simp only [List.drop_drop, Nat.add_assoc]
  have hh := has11_any R c k [39] w h hk hl
  have r0 := Lib.hid h
  clear h
  generalize hoo : valueP (c.l.drop k) = o at hV0
  replace hV0 := Lib.hid hV0
  replace hoo := Lib.hid hoo
  cases hq : Lib.hasPrefix (c.l.drop k) [39]
  · rw [hq] at hh
    have hV := hV0.out 34 (by rw [hq]; rfl)
    replace hV := Lib.hid hV
    replace hh := Lib.hid hh
    replace hq := Lib.hid hq
    go_enter Tryz.func197, Tryz.ntmps197
    go_wp2_with fail
    refine hh.out.mono ?_; rintro e w1 ⟨rfl, hd1⟩
    have r1 := r0.out.drawn hd1
    replace hd1 := Lib.hid hd1
    replace r1 := Lib.hid r1
    go_wp2_with fail
    refine (take11_any R c k [34] w1 r1.out hk hl).mono ?_; rintro e w2 ⟨rfl, r2, t2⟩
    replace t2 := Lib.hid t2
    cases hp : Lib.hasPrefix (c.l.drop k) [34]
    · rw [hp, if_neg (by decide)] at r2
      replace r2 := Lib.hid r2
      replace hp := Lib.hid hp
      go_wp2_with fail
      go_ret2
      exact Str11Post.no (hV.out.trans (by rw [hp.out]; rfl)) ⟨rfl, k, hk, r2.out, turned2 (turned_drawn hd1.out) t2.out⟩
    rw [hp, if_pos rfl] at r2
    have hpl := prefix_len hp
    rw [List.length_drop] at hpl
    replace hp := Lib.hid hp
    replace r2 := Lib.hid r2
    have hpl2 : k + 1 ≤ c.l.length := by simp at hpl; omega
    clear hpl
    go_wp2_with fail
    have hrun := run11_any R c (k + 1) [60, 34] w2 r2.out hpl2 hl
    have hle := fun x n => runP_le (ends := [60, 34]) (d := c.l.drop (k + 1)) (x := x) (n := n)
    rw [List.length_drop] at hle
    generalize hro : runP [60, 34] (c.l.drop (k + 1)) = ro at hrun hle
    replace hro := Lib.hid hro
    cases ro with
    | none =>
      clear hle
      refine hrun.mono ?_; rintro e w3 ⟨rfl, k3, hk3, r3, t3⟩
      clear hrun
      replace r3 := Lib.hid r3
      replace t3 := Lib.hid t3
      go_wp2_with fail
      go_ret2
      exact Str11Post.no (hV.out.trans (by rw [hp.out, hro.out]; rfl)) ⟨rfl, k3, hk3, r3.out, turned2 (turned2 (turned_drawn hd1.out) t2.out) t3.out⟩
    | some y =>
      obtain ⟨x, n⟩ := y
      have hle := hle x n rfl
      refine hrun.mono ?_; rintro e w3 ⟨rfl, r3, t3⟩
      clear hrun
      replace r3 := Lib.hid r3
      replace t3 := Lib.hid t3
      go_wp2_with fail
      refine (take11_any R c (k + 1 + n) [34] w3 r3.out (by omega) hl).mono ?_; rintro e w4 ⟨rfl, r4, t4⟩
      replace t4 := Lib.hid t4
      cases hp4 : Lib.hasPrefix (c.l.drop (k + 1 + n)) [34]
      · rw [hp4, if_neg (by decide)] at r4
        replace r4 := Lib.hid r4
        replace hp4 := Lib.hid hp4
        go_wp2_with fail
        go_ret2
        exact Str11Post.no (hV.out.trans (by rw [hp.out, hro.out]; simp only [hp4.out]; rfl)) ⟨rfl, k + 1 + n, by omega, r4.out, turned2 (turned2 (turned2 (turned_drawn hd1.out) t2.out) t3.out) t4.out⟩
      · rw [hp4, if_pos rfl] at r4
        replace r4 := Lib.hid r4
        replace hp4 := Lib.hid hp4
        go_wp2_with fail
        go_ret2
        exact Str11Post.ok (x := x) (n := 1 + n + 1) (hV.out.trans (by rw [hp.out, hro.out]; simp only [hp4.out]; rfl)) ⟨rfl, by have := r4.out; rw [show k + (1 + n + 1) = k + 1 + n + [34].length by simp; omega]; exact this, turned2 (turned2 (turned2 (turned_drawn hd1.out) t2.out) t3.out) t4.out⟩
  · rw [hq] at hh
    have hV := hV0.out 39 (by rw [hq]; rfl)
    replace hV := Lib.hid hV
    replace hh := Lib.hid hh
    replace hq := Lib.hid hq
    go_enter Tryz.func197, Tryz.ntmps197
    go_wp2_with fail
    refine hh.out.mono ?_; rintro e w1 ⟨rfl, hd1⟩
    have r1 := r0.out.drawn hd1
    replace hd1 := Lib.hid hd1
    replace r1 := Lib.hid r1
    go_wp2_with fail
    refine (take11_any R c k [39] w1 r1.out hk hl).mono ?_; rintro e w2 ⟨rfl, r2, t2⟩
    replace t2 := Lib.hid t2
    cases hp : Lib.hasPrefix (c.l.drop k) [39]
    · rw [hp, if_neg (by decide)] at r2
      replace r2 := Lib.hid r2
      replace hp := Lib.hid hp
      go_wp2_with fail
      go_ret2
      exact Str11Post.no (hV.out.trans (by rw [hp.out]; rfl)) ⟨rfl, k, hk, r2.out, turned2 (turned_drawn hd1.out) t2.out⟩
    rw [hp, if_pos rfl] at r2
    have hpl := prefix_len hp
    rw [List.length_drop] at hpl
    replace hp := Lib.hid hp
    replace r2 := Lib.hid r2
    have hpl2 : k + 1 ≤ c.l.length := by simp at hpl; omega
    clear hpl
    go_wp2_with fail
    have hrun := run11_any R c (k + 1) [60, 39] w2 r2.out hpl2 hl
    have hle := fun x n => runP_le (ends := [60, 39]) (d := c.l.drop (k + 1)) (x := x) (n := n)
    rw [List.length_drop] at hle
    generalize hro : runP [60, 39] (c.l.drop (k + 1)) = ro at hrun hle
    replace hro := Lib.hid hro
    cases ro with
    | none =>
      clear hle
      refine hrun.mono ?_; rintro e w3 ⟨rfl, k3, hk3, r3, t3⟩
      clear hrun
      replace r3 := Lib.hid r3
      replace t3 := Lib.hid t3
      go_wp2_with fail
      go_ret2
      exact Str11Post.no (hV.out.trans (by rw [hp.out, hro.out]; rfl)) ⟨rfl, k3, hk3, r3.out, turned2 (turned2 (turned_drawn hd1.out) t2.out) t3.out⟩
    | some y =>
      obtain ⟨x, n⟩ := y
      have hle := hle x n rfl
      refine hrun.mono ?_; rintro e w3 ⟨rfl, r3, t3⟩
      clear hrun
      replace r3 := Lib.hid r3
      replace t3 := Lib.hid t3
      go_wp2_with fail
      refine (take11_any R c (k + 1 + n) [39] w3 r3.out (by omega) hl).mono ?_; rintro e w4 ⟨rfl, r4, t4⟩
      replace t4 := Lib.hid t4
      cases hp4 : Lib.hasPrefix (c.l.drop (k + 1 + n)) [39]
      · rw [hp4, if_neg (by decide)] at r4
        replace r4 := Lib.hid r4
        replace hp4 := Lib.hid hp4
        go_wp2_with fail
        go_ret2
        exact Str11Post.no (hV.out.trans (by rw [hp.out, hro.out]; simp only [hp4.out]; rfl)) ⟨rfl, k + 1 + n, by omega, r4.out, turned2 (turned2 (turned2 (turned_drawn hd1.out) t2.out) t3.out) t4.out⟩
      · rw [hp4, if_pos rfl] at r4
        replace r4 := Lib.hid r4
        replace hp4 := Lib.hid hp4
        go_wp2_with fail
        go_ret2
        exact Str11Post.ok (x := x) (n := 1 + n + 1) (hV.out.trans (by rw [hp.out, hro.out]; simp only [hp4.out]; rfl)) ⟨rfl, by have := r4.out; rw [show k + (1 + n + 1) = k + 1 + n + [39].length by simp; omega]; exact this, turned2 (turned2 (turned2 (turned_drawn hd1.out) t2.out) t3.out) t4.out⟩
end Go.Proofs.YtkgjbamkinfmeaaGreatDoor

/- Layer 11: attr. -/
namespace Go.Proofs.YtkgjbamkinfmeaaGreatDoor
open Go.RowKit

/-- An attribute that was read, or none. -/
def Attr11Post (w : World) (R : Nat) (c : RC) (k : Nat) : Option (At × Nat) → Ending → World → Prop
  | some (x, n), e, w' => e = .returned (.tuple #[.agg #[strV x.1, strV x.2], .nilIface]) ∧ Rd w' R c (k + n) ∧ Turned (fun b => b = R) w w'
  | none, e, w' => ∃ s1 s2 : List UInt8, e = .returned (.tuple #[.agg #[strV s1, strV s2], .iface 30 (.int .i64 3)]) ∧ ∃ k, k ≤ c.l.length ∧ Rd w' R c k ∧ Turned (fun b => b = R) w w'
theorem Attr11Post.ok {w w' : World} {R : Nat} {c : RC} {k n : Nat} {x : At} {o : Option (At × Nat)} {e : Ending} (ho : o = some (x, n)) (h : e = .returned (.tuple #[.agg #[strV x.1, strV x.2], .nilIface]) ∧ Rd w' R c (k + n) ∧ Turned (fun b => b = R) w w') : Attr11Post w R c k o e w' := by subst ho; exact h
theorem Attr11Post.no {w w' : World} {R : Nat} {c : RC} {k : Nat} {o : Option (At × Nat)} {e : Ending} (ho : o = none) (s1 s2 : List UInt8) (he : e = .returned (.tuple #[.agg #[strV s1, strV s2], .iface 30 (.int .i64 3)])) (h : ∃ k, k ≤ c.l.length ∧ Rd w' R c k ∧ Turned (fun b => b = R) w w') : Attr11Post w R c k o e w' := by subst ho; exact ⟨s1, s2, he, h⟩
theorem t_attr : 119 ≠ 166 := by decide
/-- A reader, and an attribute's two cells that the call itself laid. -/
structure AtSt (w wr : World) (R : Nat) (c : RC) (m : Nat) (x y : Value) : Prop where
  row : ArrAt wr w.heap.size 166 [x, y]
  rd : Rd wr R c m
  turned : Turned (fun b => b = R) w wr
section
variable {w wr w1 : World} {R : Nat} {c : RC} {m : Nat} {x y : Value}
theorem AtSt.call (h : AtSt w wr R c m x y) {m' : Nat} (hr : Rd w1 R c m') (ht : Turned (fun b => b = R) wr w1) : AtSt w w1 R c m' x y :=
  ⟨h.row.turned ht (fun e => arr_apart h.rd h.row t_attr e.symm), hr, turned2 h.turned ht⟩
theorem AtSt.new (h : Rd w R c m) (x y : Value) : AtSt w (w.alloc (.cells #[x, y] 166)) R c m x y := by
  have hb : Below w.heap.size w (w.alloc (.cells #[x, y] 166)) := (Below.refl _ _).alloc (Nat.le_refl _) _
  exact ⟨arrAt_new w _ [x, y], h.below hb, Turned.of_below hb⟩
theorem AtSt.a0 (h : AtSt w wr R c m x y) : wr.cell? ⟨w.heap.size, 0, none⟩ = some x := by rw [h.row.cell]; rfl
theorem AtSt.a1 (h : AtSt w wr R c m x y) : wr.cell? ⟨w.heap.size, 1, none⟩ = some y := by rw [h.row.cell]; rfl
theorem AtSt.set (h : AtSt w wr R c m x y) (x' y' : Value) : AtSt w ((wr.setCell ⟨w.heap.size, 0, none⟩ x').setCell ⟨w.heap.size, 1, none⟩ y') R c m x' y' := by
  have h1 := (h.row.set 0 x').set 1 y'
  refine ⟨h1, ?_, ?_⟩
  · exact (h.rd.turned (turned_setCell wr ⟨w.heap.size, 0, none⟩ x') (arr_apart h.rd h.row t_attr)).turned (turned_setCell _ ⟨w.heap.size, 1, none⟩ y') (arr_apart h.rd h.row t_attr)
  · refine (h.turned.trans (turned_setCell wr ⟨w.heap.size, 0, none⟩ x') fun i hi e => ?_).trans (turned_setCell _ ⟨w.heap.size, 1, none⟩ y') fun i hi e => ?_
    · have : i = w.heap.size := e; omega
    · have : i = w.heap.size := e; omega
theorem AtSt.post (h : AtSt w wr R c m x y) : Rd wr R c m ∧ Turned (fun b => b = R) w wr := ⟨h.rd, h.turned⟩
end
set_option maxHeartbeats 1000000 in
theorem attr11_any (R : Nat) (c : RC) (k : Nat) (w : World) (h : Rd w R c k) (hk : k ≤ c.l.length) (hl : c.l.length ≤ 100000) :
    Calls Tryz.prog 183 #[.pointer (some ⟨R, 0, none⟩)] w (Attr11Post w R c k (attrP (c.l.drop k))) := by
  have r0 := Lib.hid h
  clear h
  have hP := show attrP (c.l.drop k) = _ from by unfold attrP; rfl
  simp only [List.drop_drop] at hP
  have hb1 := spanN_le blI
  replace hb1 := Lib.hid hb1
  generalize hoo : attrP (c.l.drop k) = o at hP
  replace hoo := Lib.hid hoo
  replace hP := Lib.hid hP
  go_enter Tryz.func183, Tryz.ntmps183
  go_wp2_with fail
  have s0 := Lib.hid (AtSt.new r0.out (.string ⟨#[]⟩) (.string ⟨#[]⟩))
  have hname := name11m_any R c k _ s0.out.rd hk hl
  have hle := fun x n => nameP_le (d := c.l.drop k) (x := x) (n := n)
  generalize hno : nameP (c.l.drop k) = no at hname hle
  replace hno := Lib.hid hno
  cases no with
  | none =>
    clear hle
    refine hname.mono ?_; rintro e w1 ⟨rfl, k1, hk1, r1, t1⟩
    have s1 := s0.out.call r1 t1
    clear hname s0 r1 t1
    have a0 := s1.a0
    have a1 := s1.a1
    have fz := fun i => s1.row.soft i
    replace s1 := Lib.hid s1
    go_wp2_with fail
    have f0 := s1.out.set (.string ⟨#[]⟩) (.string ⟨#[]⟩)
    have b0 := f0.a0
    have b1 := f0.a1
    replace f0 := Lib.hid f0
    refine bodyPost_ret (v := .tuple #[.agg #[(.string ⟨#[]⟩), (.string ⟨#[]⟩)], (.iface 30 (.int .i64 3))]) (by simp [results, Tryz.results183, go_sem, b0, b1]) rfl ?_
    exact Attr11Post.no (hP.out.trans (by rw [hno.out])) [] [] rfl ⟨k1, hk1, f0.out.post⟩
  | some y =>
    obtain ⟨nm, n⟩ := y
    obtain ⟨l1, l2, e1, e2⟩ := hle nm n rfl
    clear e1 e2
    rw [List.length_drop] at l2
    clear hle
    refine hname.mono ?_; rintro e w1 ⟨rfl, r1, t1⟩
    have s1 := Lib.hid (s0.out.call r1 t1)
    clear hname s0 r1 t1
    go_wp2_with fail
    have hb2 := hb1.out (c.l.drop (k + n))
    rw [List.length_drop] at hb2
    refine (blanks11_any R c (k + n) _ s1.out.rd (by omega) hl).mono ?_; rintro e w2 ⟨rfl, r2, t2⟩
    have s2 := Lib.hid (s1.out.call r2 t2)
    clear s1 r2 t2
    generalize hbn : spanN blI (c.l.drop (k + n)) = bn at hb2 s2
    replace hbn := Lib.hid hbn
    go_wp2_with fail
    refine (take11_any R c (k + n + bn) [61] _ s2.out.rd (by omega) hl).mono ?_; rintro e w3 ⟨rfl, r3, t3⟩
    have s3 := s2.out.call r3 t3
    clear s2 r3 t3
    cases hp : Lib.hasPrefix (c.l.drop (k + n + bn)) [61]
    · rw [hp, if_neg (by decide)] at s3
      replace hp := Lib.hid hp
      have a0 := s3.a0
      have a1 := s3.a1
      have fz := fun i => s3.row.soft i
      replace s3 := Lib.hid s3
      go_wp2_with fail
      have f0 := s3.out.set (.string ⟨#[]⟩) (.string ⟨#[]⟩)
      have b0 := f0.a0
      have b1 := f0.a1
      replace f0 := Lib.hid f0
      refine bodyPost_ret (v := .tuple #[.agg #[(.string ⟨#[]⟩), (.string ⟨#[]⟩)], (.iface 30 (.int .i64 3))]) (by simp [results, Tryz.results183, go_sem, b0, b1]) rfl ?_
      exact Attr11Post.no (hP.out.trans (by rw [hno.out]; simp only [hbn.out, ← Nat.add_assoc]; rw [if_pos hp.out])) [] [] rfl ⟨_, by omega, f0.out.post⟩
    rw [hp, if_pos rfl] at s3
    have hpl := prefix_len hp
    rw [List.length_drop] at hpl
    replace hp := Lib.hid hp
    replace s3 := Lib.hid s3
    have hpl2 : k + n + bn + 1 ≤ c.l.length := by simp at hpl; omega
    clear hpl
    go_wp2_with fail
    have hb3 := hb1.out (c.l.drop (k + n + bn + 1))
    rw [List.length_drop] at hb3
    refine (blanks11_any R c (k + n + bn + 1) _ s3.out.rd (by omega) hl).mono ?_; rintro e w4 ⟨rfl, r4, t4⟩
    have s4 := Lib.hid (s3.out.call r4 t4)
    clear s3 r4 t4
    generalize hcn : spanN blI (c.l.drop (k + n + bn + 1)) = cn at hb3 s4
    replace hcn := Lib.hid hcn
    go_wp2_with fail
    have hval := value11_any R c (k + n + bn + 1 + cn) _ s4.out.rd (by omega) hl
    have hvl := fun x' n' => valueP_le (d := c.l.drop (k + n + bn + 1 + cn)) (x := x') (n := n')
    generalize hvo : valueP (c.l.drop (k + n + bn + 1 + cn)) = vo at hval hvl
    replace hvo := Lib.hid hvo
    cases vo with
    | none =>
      clear hvl
      refine hval.mono ?_; rintro e w5 ⟨rfl, k5, hk5, r5, t5⟩
      have s5 := s4.out.call r5 t5
      clear hval s4 r5 t5
      have a0 := s5.a0
      have a1 := s5.a1
      have fz := fun i => s5.row.soft i
      replace s5 := Lib.hid s5
      go_wp2_with fail
      have f0 := s5.out.set (.string ⟨nm.toArray⟩) (.string ⟨#[]⟩)
      have b0 := f0.a0
      have b1 := f0.a1
      replace f0 := Lib.hid f0
      refine bodyPost_ret (v := .tuple #[.agg #[.string ⟨nm.toArray⟩, (.string ⟨#[]⟩)], (.iface 30 (.int .i64 3))]) (by simp [results, Tryz.results183, go_sem, b0, b1]) rfl ?_
      exact Attr11Post.no (hP.out.trans (by rw [hno.out]; simp only [hbn.out, ← Nat.add_assoc, hcn.out]; rw [if_neg (by rw [hp.out]; decide), hvo.out])) nm [] rfl ⟨k5, hk5, f0.out.post⟩
    | some y =>
      obtain ⟨v, m⟩ := y
      obtain ⟨l3, l4⟩ := hvl v m rfl
      rw [List.length_drop] at l4
      clear hvl
      refine hval.mono ?_; rintro e w5 ⟨rfl, r5, t5⟩
      have s5 := s4.out.call r5 t5
      clear hval s4 r5 t5
      have a0 := s5.a0
      have a1 := s5.a1
      have fz := fun i => s5.row.soft i
      replace s5 := Lib.hid s5
      go_wp2_with fail
      have f0 := s5.out.set (.string ⟨nm.toArray⟩) (.string ⟨v.toArray⟩)
      have b0 := f0.a0
      have b1 := f0.a1
      replace f0 := Lib.hid f0
      refine bodyPost_ret (v := .tuple #[.agg #[.string ⟨nm.toArray⟩, .string ⟨v.toArray⟩], .nilIface]) (by simp [results, Tryz.results183, go_sem, b0, b1]) rfl ?_
      exact Attr11Post.ok (x := (nm, v)) (n := n + bn + 1 + cn + m) (hP.out.trans (by rw [hno.out]; simp only [hbn.out, ← Nat.add_assoc, hcn.out]; rw [if_neg (by rw [hp.out]; decide), hvo.out])) ⟨rfl, by have := f0.out.post; simpa only [Nat.add_assoc] using this⟩
end Go.Proofs.YtkgjbamkinfmeaaGreatDoor
