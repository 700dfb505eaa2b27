/- Layer 11: attributes in memory; holds. -/
import Derived.Test.YtkgjbamkinfmeaaGreatDoorBR10
import Derived.Test.YtkgjbamkinfmeaaGreatDoorBR07
import Derived.Deep.RegionHeld3
import Derived.Test.YtkgjbamkinfmeaaGreatDoorBR01
namespace Go.Proofs.YtkgjbamkinfmeaaGreatDoor
open Go.RowKit

set_option maxHeartbeats 1000000 in
theorem holds11_any (B : Nat) (v : Value) (l : List At) (nm : List UInt8) (w : World) (h : Ats w B v l) (hn : l.length ≤ 1000000) :
    Calls Tryz.prog 184 #[v, .string ⟨nm.toArray⟩] w fun e w' => e = .returned (.bool (l.any fun y => y.1 == nm)) ∧ Below w.heap.size w w' := by
  by_cases h0 : l = []
  · obtain ⟨a, c, rfl⟩ := own_form h
    subst h0
    clear h
    go_enter Tryz.func184, Tryz.ntmps184
    go_wp2_with fail
    refine wp_loop_rounds 1 ?_; rw [rounds_succ]
    go_wp2_with fail
    go_ret
    exact ⟨rfl, Below.refl _ _⟩
  obtain ⟨g, cap, rfl, hg, hBg, hcl⟩ := h.cells h0
  clear h hBg
  have hpos : 0 < l.length := List.length_pos_iff.2 h0
  replace h0 := Lib.hid h0
  replace hcl := Lib.hid hcl
  go_enter Tryz.func184, Tryz.ntmps184
  go_wp2_with fail
  go_loopw [9] (fun i wr => ∃ k : Nat, i = .int .i64 k ∧ k ≤ l.length ∧ Hid (∀ j, j < k → ((l.getD j ([], [])).1 == nm) = false) ∧ Hid (Below w.heap.size w wr)) (fun i _ => l.length - (intOf i).toNat)
  case atStart => exact ⟨0, rfl, Nat.zero_le _, fun j hj => by omega, Below.refl _ _⟩
  case round =>
    obtain ⟨k, rfl, hk, hno, hb⟩ := hrel
    by_cases hlt : k < l.length
    · obtain ⟨c0, c1⟩ := hcl.out k hlt
      have d0 := (hb.out.cell (p := ⟨g, k * 2, none⟩) hg).trans c0
      have d1 := (hb.out.cell (p := ⟨g, k * 2 + 1, none⟩) hg).trans c1
      clear c0 c1
      have hgl : l.getD k ([], []) = l[k]'hlt := by simp [List.getD, hlt]
      have hany : ((l.getD k ([], [])).1 == nm) = true → (l.any fun y => y.1 == nm) = true := fun e => List.any_eq_true.2 ⟨_, by rw [hgl]; exact List.getElem_mem hlt, e⟩
      replace hany := Lib.hid hany
      clear hgl
      unfold strV at d0 d1
      have hsz := hb.out.size
      have hgw : g < wr.heap.size := by omega
      obtain ⟨x, hx⟩ : ∃ x, l.getD k ([], []) = x := ⟨_, rfl⟩
      rw [hx] at d0 d1 hany
      replace hx := Lib.hid hx
      cases hq : (x.1 == nm)
      · have hno2 : Hid (∀ j, j < k + 1 → ((l.getD j ([], [])).1 == nm) = false) := by
          intro j hj
          by_cases e : j = k
          · subst e; rw [hx.out]; exact hq
          · exact hno.out j (by omega)
        go_wp2_with fail
        exact ⟨⟨k + 1, by go_num, by omega, hno2, hb.out.alloc hsz _⟩, by simp [intOf]; omega⟩
      · have hend := Lib.hid (hany.out hq)
        go_wp2_with fail
        go_ret
        exact ⟨ret_bool hend.out.symm, hb.out.alloc hsz _⟩
    · have hend : Hid ((l.any fun y => y.1 == nm) = false) := by
        show _ = _
        rw [Bool.eq_false_iff]
        intro ha
        obtain ⟨y, hy, e⟩ := List.any_eq_true.1 ha
        obtain ⟨j, hj, rfl⟩ := List.mem_iff_getElem.1 hy
        have := hno.out j (by omega)
        simp only [List.getD, List.getElem?_eq_getElem hj, Option.getD_some] at this
        rw [this] at e; cases e
      have hlt2 : ¬ ((k : Int) < l.length) := by omega
      go_wp2_with fail
      go_ret
      exact ⟨ret_bool hend.out.symm, hb.out⟩
end Go.Proofs.YtkgjbamkinfmeaaGreatDoor

/- A held region (go_region_held3's law), operation by operation: one taken first, one that its guard holds back, a call. -/
namespace Go.Proofs.YtkgjbamkinfmeaaGreatDoor
section
variable {P : Program} {md : Region.Mode} {ops : Array Oper} {Q : Exit → Act → World → Prop} {S : World → Prop}
/-- An operation of a held region that reads alone, taken first. -/
theorem held_take {fuel : Nat} {listed : Array Bool} {a : Act} {w : World} (i : Nat) {oi : Oper} {v : Value} (hi : ops.toList[i]? = some oi)
    (hs : Region.noSelect ops = true) (hf : Region.free md ops listed i = true) (hr : (Region.ready md ops listed).contains i = true)
    (hQ : ∀ c a w, Q (.panic c) (a.put oi.dst v) w → Q (.panic c) a w) (hw : Region.wanted oi (yielded ops a.tmps) = true) (hy : ∀ w, S w → (execOp a.eval oi).run P w = .ok (.value v) w) (hS : S w)
    (h : wpAnyH P md ops Q S fuel (listed.setIfInBounds i true) (a.put oi.dst v) w) : wpAnyH P md ops Q S (fuel + 1) listed a w := by
  rw [Array.getElem?_toList] at hi
  exact wpAnyH_take hi hs hf hr hQ (Or.inl ⟨hw, hy⟩) hS h
/-- One that its guard holds back. -/
theorem held_skip {fuel : Nat} {listed : Array Bool} {a : Act} {w : World} (i : Nat) {oi : Oper} (hi : ops.toList[i]? = some oi)
    (hs : Region.noSelect ops = true) (hf : Region.free md ops listed i = true) (hr : (Region.ready md ops listed).contains i = true)
    (hQ : ∀ c a w, Q (.panic c) (a.put oi.dst undef) w → Q (.panic c) a w) (hw : Region.wanted oi (yielded ops a.tmps) = false) (hS : S w)
    (h : wpAnyH P md ops Q S fuel (listed.setIfInBounds i true) (a.put oi.dst undef) w) : wpAnyH P md ops Q S (fuel + 1) listed a w := by
  rw [Array.getElem?_toList] at hi
  exact wpAnyH_take hi hs hf hr hQ (Or.inr ⟨hw, rfl⟩) hS h
/-- A call, which alone may come up. -/
theorem held_call {fuel : Nat} {listed : Array Bool} {a : Act} {w : World} {i : Nat} {o : Oper} {rs : List Nat} (ho : ops.toList[i]? = some o)
    (h : ∀ K' : Act → World → Prop, Shut (∀ a w, S w → (S w → wpAnyH P md ops Q S fuel (listed.setIfInBounds i true) a w) → K' a w) → if Region.wanted o (yielded ops a.tmps) = true then Oper.wp P o a w K' Q else K' (a.put o.dst undef) w)
    (hs : AllReadyH P md ops Q S fuel listed a w rs) : AllReadyH P md ops Q S fuel listed a w (i :: rs) := by
  rw [Array.getElem?_toList] at ho
  exact AllReadyH.cons ho h hs
end
end Go.Proofs.YtkgjbamkinfmeaaGreatDoor

/- Layer 11: attrs. -/
namespace Go.Proofs.YtkgjbamkinfmeaaGreatDoor
open Go.RowKit

theorem attrsF_steps : Steps attrsF := by
  intro s d s' n h
  unfold attrsF at h
  split at h
  · rename_i hc
    cases e : attrP (d.drop (spanN blI d)) with
    | none => rw [e] at h; cases h
    | some y =>
      obtain ⟨x, m⟩ := y
      rw [e] at h
      have h1 := attrP_le e
      rw [List.length_drop] at h1
      simp only at h
      split at h
      · cases h
      · injection h with _ h; omega
  · cases h
/-- What the loop of attrs keeps. -/
structure AttrsAt (d : List UInt8) (j : Nat) (l : List At) : Prop where
  le : j ≤ d.length
  eq : loopK attrsF [] d 0 = loopK attrsF l (d.drop j) j
  len : l.length ≤ 16
theorem AttrsAt.zero (d : List UInt8) : AttrsAt d 0 [] := ⟨Nat.zero_le _, by simp, by simp⟩
theorem AttrsAt.step {d : List UInt8} {l l' : List At} {j n : Nat} (h : AttrsAt d j l) (e : attrsF l (d.drop j) = .go l' n) (hl : l'.length ≤ 16) : AttrsAt d (j + n) l' := by
  have := attrsF_steps _ _ _ _ e
  rw [List.length_drop] at this
  refine ⟨by omega, ?_, hl⟩
  rw [h.eq, loopK_go attrsF_steps _ e, List.drop_drop]
theorem AttrsAt.stop {d : List UInt8} {l : List At} {j : Nat} (h : AttrsAt d j l) (e : attrsF l (d.drop j) = .stop) : attrsP d = some (l, j + spanN blI (d.drop j)) := by
  unfold attrsP; rw [h.eq, loopK_stop _ e]
theorem AttrsAt.bad {d : List UInt8} {l : List At} {j : Nat} (h : AttrsAt d j l) (e : attrsF l (d.drop j) = .bad ()) : attrsP d = none := by
  unfold attrsP; rw [h.eq, loopK_bad _ e]
theorem attrsF_no {l : List At} {d : List UInt8} (h : ¬ (0 < spanN blI d ∧ leadsB (d.drop (spanN blI d)) = true)) : attrsF l d = .stop := by
  unfold attrsF; rw [if_neg h]
theorem attrsF_yes {l : List At} {d : List UInt8} (h1 : 0 < spanN blI d) (h2 : leadsB (d.drop (spanN blI d)) = true) :
    attrsF l d = match attrP (d.drop (spanN blI d)) with
    | none => .bad ()
    | some (x, n) => if l.length = 16 ∨ (l.any fun y => y.1 == x.1) = true then .bad () else .go (l ++ [x]) (spanN blI d + n) := by
  unfold attrsF; rw [if_pos ⟨h1, h2⟩]
  cases attrP (d.drop (spanN blI d)) <;> rfl
/-- A reader, and attributes that the call itself makes. -/
structure AsSt (w wr : World) (R : Nat) (c : RC) (m : Nat) (v : Value) (l : List At) : Prop where
  ats : Ats wr w.heap.size v l
  rd : Rd wr R c m
  turned : Turned (fun b => b = R) w wr
section
variable {w wr w1 : World} {R : Nat} {c : RC} {m : Nat} {v v1 : Value} {l l1 : List At}
theorem AsSt.base (h : AsSt w wr R c m v l) : w.heap.size ≤ wr.heap.size := h.turned.size
theorem AsSt.call (h : AsSt w wr R c m v l) {m' : Nat} (hr : Rd w1 R c m') (ht : Turned (fun b => b = R) wr w1) : AsSt w w1 R c m' v l :=
  ⟨ownsRow_turned h.ats ht fun k hk e => own_ne_arr h.ats h.rd (Ne.symm t_attr) (by rw [hk]; exact congrArg some e), hr, turned2 h.turned ht⟩
theorem AsSt.below (h : AsSt w wr R c m v l) (hb : Below wr.heap.size wr w1) : AsSt w w1 R c m v l := h.call (h.rd.below hb) (Turned.of_below hb)
theorem AsSt.drawn (h : AsSt w wr R c m v l) (n : Nat) : AsSt w (wr.drewN n) R c m v l := h.below (Drawn.below (drawn_drewN _ _) _)
theorem AsSt.put (h : AsSt w wr R c m v l) (ho : Ats w1 w.heap.size v1 l1) (hg : wr.grownBy w1 v.ownBlock) : AsSt w w1 R c m v1 l1 := by
  have hT := Turned.of_grown (S := fun b => v.ownBlock = some b) hg fun _ e => e
  refine ⟨ho, h.rd.turned hT (own_ne_arr h.ats h.rd (Ne.symm t_attr)), h.turned.trans hT fun i hi e => ?_⟩
  have := (World.ownsRow.lt h.ats i e).1
  omega
theorem AsSt.move (h : AsSt w wr R c m v l) (m' : Nat) {x : Int} (e : x = m') : AsSt w (wr.setCell ⟨R, 1, none⟩ (.int .i64 x)) R c m' v l := h.call (h.rd.move m' e) (turned_setCell wr ⟨R, 1, none⟩ _)
end
/-- What attrs comes to. -/
def AttrsPost (w : World) (R : Nat) (c : RC) (k : Nat) : Option (List At × Nat) → Ending → World → Prop
  | some (l, n), e, w' => ∃ v, e = .returned (.tuple #[v, .nilIface]) ∧ AsSt w w' R c (k + n) v l
  | none, e, w' => e = .returned (.tuple #[.slice none 0 0, .iface 30 (.int .i64 3)]) ∧ ∃ k, k ≤ c.l.length ∧ Rd w' R c k ∧ Turned (fun b => b = R) w w'
theorem AttrsPost.ok {w w' : World} {R : Nat} {c : RC} {k n : Nat} {l : List At} {o : Option (List At × Nat)} {e : Ending} (ho : o = some (l, n)) (v : Value) (he : e = .returned (.tuple #[v, .nilIface])) (h : AsSt w w' R c (k + n) v l) : AttrsPost w R c k o e w' := by subst ho; exact ⟨v, he, h⟩
theorem AttrsPost.no {w w' : World} {R : Nat} {c : RC} {k : Nat} {o : Option (List At × Nat)} {e : Ending} (ho : o = none) (he : e = .returned (.tuple #[.slice none 0 0, .iface 30 (.int .i64 3)])) (h : ∃ k, k ≤ c.l.length ∧ Rd w' R c k ∧ Turned (fun b => b = R) w w') : AttrsPost w R c k o e w' := by subst ho; exact ⟨he, h⟩

set_option maxRecDepth 100000 in
set_option maxHeartbeats 2000000 in
theorem attrs11_any (R : Nat) (c : RC) (k : Nat) (w : World) (h : Rd w R c k) (hk : k ≤ c.l.length) (hl : c.l.length ≤ 100000) :
    Calls Tryz.prog 157 #[.pointer (some ⟨R, 0, none⟩)] w (AttrsPost w R c k (attrsP (c.l.drop k))) := by
  have r0 := Lib.hid h
  clear h
  have hdl : (c.l.drop k).length = c.l.length - k := List.length_drop
  replace hdl := Lib.hid hdl
  generalize hoo : attrsP (c.l.drop k) = o
  replace hoo := Lib.hid hoo
  go_enter Tryz.func157, Tryz.ntmps157
  go_wp2_with fail
  go_loopw [4, 5, 6, 7] (fun v _ _ _ wr => ∃ m l, k ≤ m ∧ m ≤ c.l.length ∧ Hid (AsSt w wr R c m v l) ∧ Hid (AttrsAt (c.l.drop k) (m - k) l)) (fun v _ _ _ wr => c.l.length - (intOf ((wr.cell? ⟨R, 1, none⟩).getD undef)).toNat)
  case atStart => exact ⟨k, [], Nat.le_refl _, hk, ⟨ats_nil _ _, r0.out, Turned.refl _ _⟩, by rw [Nat.sub_self]; exact AttrsAt.zero _⟩
  case round =>
    clear r0
    obtain ⟨m, l, hkm, hm, hs, hq⟩ := hrel
    have hsd := hs.out.below (Drawn.below (drawn_drew wr) _)
    have hbl := blanks11_any R c m wr.drew hsd.rd hm hl
    replace hsd := Lib.hid hsd
    have hbd := spanN_le blI (c.l.drop m)
    rw [List.length_drop] at hbd
    have hbdm := bt_drop c.l
    have cM := hs.out.rd.c1
    replace cM := Lib.hid cM
    have hdm : (c.l.drop k).drop (m - k) = c.l.drop m := by rw [List.drop_drop]; congr 1; omega
    have hlead : leadsB ((c.l.drop m).drop (spanN blI (c.l.drop m))) = (decide (m + spanN blI (c.l.drop m) < c.l.length) && leadI (bt c.l (m + spanN blI (c.l.drop m)))) := by
      unfold leadsB
      rw [List.drop_drop, bt_drop, List.length_drop]
      congr 1
      rw [decide_eq_decide]; omega
    have hno := fun hh => hq.out.stop (by rw [hdm]; exact attrsF_no (l := l) (d := c.l.drop m) hh)
    have hyes := fun h1 h2 => attrsF_yes (l := l) (d := c.l.drop m) h1 h2
    rw [hdm] at hno
    rw [hlead] at hno hyes
    rw [List.drop_drop] at hyes
    generalize hbn : spanN blI (c.l.drop m) = bn at hbl hbd hlead hno hyes
    replace hbn := Lib.hid hbn
    replace hlead := Lib.hid hlead
    replace hdm := Lib.hid hdm
    replace hbdm := Lib.hid hbdm
    obtain ⟨q, hmq⟩ : ∃ q, m + bn = q := ⟨_, rfl⟩
    have hqm : m ≤ q := by omega
    have hql : q ≤ c.l.length := by omega
    rw [hmq] at hbl hno hyes
    have hsub : Hid (k + (m - k + bn) = q) := by show _ = _; omega
    by_cases hb0 : 0 < bn
    case neg =>
      have hP := Lib.hid (hno (fun hh => hb0 hh.1))
      clear hno hyes
      rw [decide_eq_false hb0] at hbl
      replace hbl := Lib.hid hbl
      replace hb0 := Lib.hid hb0
      replace hmq := Lib.hid hmq
      go_wp2_with fail
      refine wp_region_any (by kernel_rfl) ?_
      try (change wpAny _ _ _ _ _ _ _ (World.drew _))
      refine wpAny_take (i := 0) (v := ?_) rfl (by kernel_rfl) (by kernel_rfl) (by kernel_rfl) (fun _ _ _ h => h) (Or.inl ⟨by rfl, ?_⟩) ?_
      rotate_left
      · (intro w; go_simp; all_goals (with_reducible rfl))
      try simp only [Act.put, List.setIfInBounds_toArray]
      refine wpAny_ready (rs := [1]) (by kernel_rfl) (by simp) ?_
      refine AllReady.cons rfl (fun K hK => ?_) AllReady.nil
      go_simp
      go_at_call 115
      refine hbl.out.mono ?_
      rintro e w1 ⟨rfl, r1, t1⟩
      have s1 := hsd.out.call r1 t1
      clear hbl hsd r1 t1
      have hSc : w1.cell? ⟨R, 0, none⟩ = some (.string ⟨c.l.toArray⟩) ∧ w1.cell? ⟨R, 1, none⟩ = some (.int .i64 q) := ⟨s1.rd.c0, s1.rd.c1⟩
      replace s1 := Lib.hid s1
      refine hK _ _ ?_
      clear hK K
      try simp only [Act.put, List.setIfInBounds_toArray, List.set_cons_zero, List.set_cons_succ]
      refine wpAny_of_held (S := fun W => W.cell? ⟨R, 0, none⟩ = some (.string ⟨c.l.toArray⟩) ∧ W.cell? ⟨R, 1, none⟩ = some (.int .i64 q)) _ _ _ _ ?_
      have hHeld := hSc
      refine held_take 2 (v := ?_) rfl (by kernel_rfl) (by kernel_rfl) (by kernel_rfl) (fun _ _ _ h => h) (by rfl) ?_ hHeld ?_
      rotate_left
      · (intro w hSw; (try dsimp only at hSw); go_simp; all_goals (with_reducible rfl))
      try simp only [Act.put, List.setIfInBounds_toArray, List.set_cons_zero, List.set_cons_succ]
      refine held_skip 3 rfl (by kernel_rfl) (by kernel_rfl) (by kernel_rfl) (fun _ _ _ h => h) (by rfl) hHeld ?_
      try simp only [Act.put, List.setIfInBounds_toArray, List.set_cons_zero, List.set_cons_succ]
      refine held_skip 4 rfl (by kernel_rfl) (by kernel_rfl) (by kernel_rfl) (fun _ _ _ h => h) (by rfl) hHeld ?_
      try simp only [Act.put, List.setIfInBounds_toArray, List.set_cons_zero, List.set_cons_succ]
      refine held_skip 5 rfl (by kernel_rfl) (by kernel_rfl) (by kernel_rfl) (fun _ _ _ h => h) (by rfl) hHeld ?_
      try simp only [Act.put, List.setIfInBounds_toArray, List.set_cons_zero, List.set_cons_succ]
      refine held_skip 6 rfl (by kernel_rfl) (by kernel_rfl) (by kernel_rfl) (fun _ _ _ h => h) (by rfl) hHeld ?_
      try simp only [Act.put, List.setIfInBounds_toArray, List.set_cons_zero, List.set_cons_succ]
      refine held_skip 7 rfl (by kernel_rfl) (by kernel_rfl) (by kernel_rfl) (fun _ _ _ h => h) (by rfl) hHeld ?_
      try simp only [Act.put, List.setIfInBounds_toArray, List.set_cons_zero, List.set_cons_succ]
      refine held_skip 8 rfl (by kernel_rfl) (by kernel_rfl) (by kernel_rfl) (fun _ _ _ h => h) (by rfl) hHeld ?_
      try simp only [Act.put, List.setIfInBounds_toArray, List.set_cons_zero, List.set_cons_succ]
      refine held_skip 9 rfl (by kernel_rfl) (by kernel_rfl) (by kernel_rfl) (fun _ _ _ h => h) (by rfl) hHeld ?_
      try simp only [Act.put, List.setIfInBounds_toArray, List.set_cons_zero, List.set_cons_succ]
      refine held_skip 10 rfl (by kernel_rfl) (by kernel_rfl) (by kernel_rfl) (fun _ _ _ h => h) (by rfl) hHeld ?_
      try simp only [Act.put, List.setIfInBounds_toArray, List.set_cons_zero, List.set_cons_succ]
      refine held_skip 11 rfl (by kernel_rfl) (by kernel_rfl) (by kernel_rfl) (fun _ _ _ h => h) (by rfl) hHeld ?_
      try simp only [Act.put, List.setIfInBounds_toArray, List.set_cons_zero, List.set_cons_succ]
      refine held_skip 12 rfl (by kernel_rfl) (by kernel_rfl) (by kernel_rfl) (fun _ _ _ h => h) (by rfl) hHeld ?_
      try simp only [Act.put, List.setIfInBounds_toArray, List.set_cons_zero, List.set_cons_succ]
      refine held_take 13 (v := ?_) rfl (by kernel_rfl) (by kernel_rfl) (by kernel_rfl) (fun _ _ _ h => h) (by rfl) ?_ hHeld ?_
      rotate_left
      · (intro w hSw; (try dsimp only at hSw); go_simp; all_goals (with_reducible rfl))
      try simp only [Act.put, List.setIfInBounds_toArray, List.set_cons_zero, List.set_cons_succ]
      refine held_take 14 (v := ?_) rfl (by kernel_rfl) (by kernel_rfl) (by kernel_rfl) (fun _ _ _ h => h) (by rfl) ?_ hHeld ?_
      rotate_left
      · (intro w hSw; (try dsimp only at hSw); go_simp; all_goals (with_reducible rfl))
      try simp only [Act.put, List.setIfInBounds_toArray, List.set_cons_zero, List.set_cons_succ]
      refine held_skip 15 rfl (by kernel_rfl) (by kernel_rfl) (by kernel_rfl) (fun _ _ _ h => h) (by rfl) hHeld ?_
      try simp only [Act.put, List.setIfInBounds_toArray, List.set_cons_zero, List.set_cons_succ]
      refine held_skip 16 rfl (by kernel_rfl) (by kernel_rfl) (by kernel_rfl) (fun _ _ _ h => h) (by rfl) hHeld ?_
      try simp only [Act.put, List.setIfInBounds_toArray, List.set_cons_zero, List.set_cons_succ]
      refine held_skip 17 rfl (by kernel_rfl) (by kernel_rfl) (by kernel_rfl) (fun _ _ _ h => h) (by rfl) hHeld ?_
      try simp only [Act.put, List.setIfInBounds_toArray, List.set_cons_zero, List.set_cons_succ]
      refine held_skip 18 rfl (by kernel_rfl) (by kernel_rfl) (by kernel_rfl) (fun _ _ _ h => h) (by rfl) hHeld ?_
      try simp only [Act.put, List.setIfInBounds_toArray, List.set_cons_zero, List.set_cons_succ]
      refine held_skip 19 rfl (by kernel_rfl) (by kernel_rfl) (by kernel_rfl) (fun _ _ _ h => h) (by rfl) hHeld ?_
      try simp only [Act.put, List.setIfInBounds_toArray, List.set_cons_zero, List.set_cons_succ]
      refine held_skip 20 rfl (by kernel_rfl) (by kernel_rfl) (by kernel_rfl) (fun _ _ _ h => h) (by rfl) hHeld ?_
      try simp only [Act.put, List.setIfInBounds_toArray, List.set_cons_zero, List.set_cons_succ]
      refine held_skip 21 rfl (by kernel_rfl) (by kernel_rfl) (by kernel_rfl) (fun _ _ _ h => h) (by rfl) hHeld ?_
      try simp only [Act.put, List.setIfInBounds_toArray, List.set_cons_zero, List.set_cons_succ]
      refine held_skip 22 rfl (by kernel_rfl) (by kernel_rfl) (by kernel_rfl) (fun _ _ _ h => h) (by rfl) hHeld ?_
      try simp only [Act.put, List.setIfInBounds_toArray, List.set_cons_zero, List.set_cons_succ]
      refine held_skip 23 rfl (by kernel_rfl) (by kernel_rfl) (by kernel_rfl) (fun _ _ _ h => h) (by rfl) hHeld ?_
      try simp only [Act.put, List.setIfInBounds_toArray, List.set_cons_zero, List.set_cons_succ]
      refine held_skip 24 rfl (by kernel_rfl) (by kernel_rfl) (by kernel_rfl) (fun _ _ _ h => h) (by rfl) hHeld ?_
      try simp only [Act.put, List.setIfInBounds_toArray, List.set_cons_zero, List.set_cons_succ]
      refine held_take 25 (v := ?_) rfl (by kernel_rfl) (by kernel_rfl) (by kernel_rfl) (fun _ _ _ h => h) (by rfl) ?_ hHeld ?_
      rotate_left
      · (intro w hSw; (try dsimp only at hSw); go_simp; all_goals (with_reducible rfl))
      try simp only [Act.put, List.setIfInBounds_toArray, List.set_cons_zero, List.set_cons_succ]
      refine wpAnyH_done (by kernel_rfl) ?_ _
      clear hSc hHeld
      go_wp2_with fail
      go_ret2
      exact AttrsPost.ok (hoo.out.symm.trans hP.out) _ rfl (by have := s1.out; rw [hsub.out]; exact this)
    rw [decide_eq_true hb0] at hbl
    replace hbl := Lib.hid hbl
    by_cases hlt : q < c.l.length
    case neg =>
      have hP := Lib.hid (hno (fun hh => by have := hh.2; rw [decide_eq_false hlt] at this; cases this))
      clear hno hyes
      replace hb0 := Lib.hid hb0
      replace hmq := Lib.hid hmq
      have hlt1 : decide ((q : Int) < c.l.length) = false := by rw [decide_eq_false_iff_not]; omega
      have hlt2 : decide (q < c.l.length) = false := by rw [decide_eq_false_iff_not]; omega
      go_wp2_with fail
      refine wp_region_any (by kernel_rfl) ?_
      try (change wpAny _ _ _ _ _ _ _ (World.drew _))
      refine wpAny_take (i := 0) (v := ?_) rfl (by kernel_rfl) (by kernel_rfl) (by kernel_rfl) (fun _ _ _ h => h) (Or.inl ⟨by rfl, ?_⟩) ?_
      rotate_left
      · (intro w; go_simp; all_goals (with_reducible rfl))
      try simp only [Act.put, List.setIfInBounds_toArray]
      refine wpAny_ready (rs := [1]) (by kernel_rfl) (by simp) ?_
      refine AllReady.cons rfl (fun K hK => ?_) AllReady.nil
      go_simp
      go_at_call 115
      refine hbl.out.mono ?_
      rintro e w1 ⟨rfl, r1, t1⟩
      have s1 := hsd.out.call r1 t1
      clear hbl hsd r1 t1
      have hSc : w1.cell? ⟨R, 0, none⟩ = some (.string ⟨c.l.toArray⟩) ∧ w1.cell? ⟨R, 1, none⟩ = some (.int .i64 q) := ⟨s1.rd.c0, s1.rd.c1⟩
      replace s1 := Lib.hid s1
      refine hK _ _ ?_
      clear hK K
      try simp only [Act.put, List.setIfInBounds_toArray, List.set_cons_zero, List.set_cons_succ]
      refine wpAny_of_held (S := fun W => W.cell? ⟨R, 0, none⟩ = some (.string ⟨c.l.toArray⟩) ∧ W.cell? ⟨R, 1, none⟩ = some (.int .i64 q)) _ _ _ _ ?_
      have hHeld := hSc
      refine held_take 2 (v := ?_) rfl (by kernel_rfl) (by kernel_rfl) (by kernel_rfl) (fun _ _ _ h => h) (by rfl) ?_ hHeld ?_
      rotate_left
      · (intro w hSw; (try dsimp only at hSw); go_simp; all_goals (with_reducible rfl))
      try simp only [Act.put, List.setIfInBounds_toArray, List.set_cons_zero, List.set_cons_succ]
      refine held_take 3 (v := ?_) rfl (by kernel_rfl) (by kernel_rfl) (by kernel_rfl) (fun _ _ _ h => h) (by rfl) ?_ hHeld ?_
      rotate_left
      · (intro w hSw; (try dsimp only at hSw); go_simp; all_goals (with_reducible rfl))
      try simp only [Act.put, List.setIfInBounds_toArray, List.set_cons_zero, List.set_cons_succ]
      refine held_take 4 (v := ?_) rfl (by kernel_rfl) (by kernel_rfl) (by kernel_rfl) (fun _ _ _ h => h) (by rfl) ?_ hHeld ?_
      rotate_left
      · (intro w hSw; (try dsimp only at hSw); go_simp; all_goals (with_reducible rfl))
      try simp only [Act.put, List.setIfInBounds_toArray, List.set_cons_zero, List.set_cons_succ]
      refine held_take 5 (v := ?_) rfl (by kernel_rfl) (by kernel_rfl) (by kernel_rfl) (fun _ _ _ h => h) (by rfl) ?_ hHeld ?_
      rotate_left
      · (intro w hSw; (try dsimp only at hSw); go_simp; all_goals (with_reducible rfl))
      try simp only [Act.put, List.setIfInBounds_toArray, List.set_cons_zero, List.set_cons_succ]
      refine held_take 6 (v := ?_) rfl (by kernel_rfl) (by kernel_rfl) (by kernel_rfl) (fun _ _ _ h => h) (by rfl) ?_ hHeld ?_
      rotate_left
      · (intro w hSw; (try dsimp only at hSw); go_simp; all_goals (with_reducible rfl))
      try simp only [Act.put, List.setIfInBounds_toArray, List.set_cons_zero, List.set_cons_succ]
      refine held_take 7 (v := ?_) rfl (by kernel_rfl) (by kernel_rfl) (by kernel_rfl) (fun _ _ _ h => h) (by rfl) ?_ hHeld ?_
      rotate_left
      · (intro w hSw; (try dsimp only at hSw); go_simp; all_goals (with_reducible rfl))
      try simp only [Act.put, List.setIfInBounds_toArray, List.set_cons_zero, List.set_cons_succ]
      refine held_take 8 (v := ?_) rfl (by kernel_rfl) (by kernel_rfl) (by kernel_rfl) (fun _ _ _ h => h) (by rfl) ?_ hHeld ?_
      rotate_left
      · (intro w hSw; (try dsimp only at hSw); go_simp; all_goals (with_reducible rfl))
      try simp only [Act.put, List.setIfInBounds_toArray, List.set_cons_zero, List.set_cons_succ]
      refine held_take 9 (v := ?_) rfl (by kernel_rfl) (by kernel_rfl) (by kernel_rfl) (fun _ _ _ h => h) (by rfl) ?_ hHeld ?_
      rotate_left
      · (intro w hSw; (try dsimp only at hSw); go_simp; all_goals (with_reducible rfl))
      try simp only [Act.put, List.setIfInBounds_toArray, List.set_cons_zero, List.set_cons_succ]
      refine held_take 10 (v := ?_) rfl (by kernel_rfl) (by kernel_rfl) (by kernel_rfl) (fun _ _ _ h => h) (by rfl) ?_ hHeld ?_
      rotate_left
      · (intro w hSw; (try dsimp only at hSw); go_simp; all_goals (with_reducible rfl))
      try simp only [Act.put, List.setIfInBounds_toArray, List.set_cons_zero, List.set_cons_succ]
      refine held_take 11 (v := ?_) rfl (by kernel_rfl) (by kernel_rfl) (by kernel_rfl) (fun _ _ _ h => h) (by rfl) ?_ hHeld ?_
      rotate_left
      · (intro w hSw; (try dsimp only at hSw); go_simp; all_goals (with_reducible rfl))
      try simp only [Act.put, List.setIfInBounds_toArray, List.set_cons_zero, List.set_cons_succ]
      refine held_take 12 (v := ?_) rfl (by kernel_rfl) (by kernel_rfl) (by kernel_rfl) (fun _ _ _ h => h) (by rfl) ?_ hHeld ?_
      rotate_left
      · (intro w hSw; (try dsimp only at hSw); go_simp; all_goals (with_reducible rfl))
      try simp only [Act.put, List.setIfInBounds_toArray, List.set_cons_zero, List.set_cons_succ]
      refine held_take 13 (v := ?_) rfl (by kernel_rfl) (by kernel_rfl) (by kernel_rfl) (fun _ _ _ h => h) (by rfl) ?_ hHeld ?_
      rotate_left
      · (intro w hSw; (try dsimp only at hSw); go_simp; all_goals (with_reducible rfl))
      try simp only [Act.put, List.setIfInBounds_toArray, List.set_cons_zero, List.set_cons_succ]
      refine held_take 14 (v := ?_) rfl (by kernel_rfl) (by kernel_rfl) (by kernel_rfl) (fun _ _ _ h => h) (by rfl) ?_ hHeld ?_
      rotate_left
      · (intro w hSw; (try dsimp only at hSw); go_simp; all_goals (with_reducible rfl))
      try simp only [Act.put, List.setIfInBounds_toArray, List.set_cons_zero, List.set_cons_succ]
      refine held_skip 15 rfl (by kernel_rfl) (by kernel_rfl) (by kernel_rfl) (fun _ _ _ h => h) (by rfl) hHeld ?_
      try simp only [Act.put, List.setIfInBounds_toArray, List.set_cons_zero, List.set_cons_succ]
      refine held_skip 16 rfl (by kernel_rfl) (by kernel_rfl) (by kernel_rfl) (fun _ _ _ h => h) (by rfl) hHeld ?_
      try simp only [Act.put, List.setIfInBounds_toArray, List.set_cons_zero, List.set_cons_succ]
      refine held_skip 17 rfl (by kernel_rfl) (by kernel_rfl) (by kernel_rfl) (fun _ _ _ h => h) (by rfl) hHeld ?_
      try simp only [Act.put, List.setIfInBounds_toArray, List.set_cons_zero, List.set_cons_succ]
      refine held_skip 18 rfl (by kernel_rfl) (by kernel_rfl) (by kernel_rfl) (fun _ _ _ h => h) (by rfl) hHeld ?_
      try simp only [Act.put, List.setIfInBounds_toArray, List.set_cons_zero, List.set_cons_succ]
      refine held_skip 19 rfl (by kernel_rfl) (by kernel_rfl) (by kernel_rfl) (fun _ _ _ h => h) (by rfl) hHeld ?_
      try simp only [Act.put, List.setIfInBounds_toArray, List.set_cons_zero, List.set_cons_succ]
      refine held_skip 20 rfl (by kernel_rfl) (by kernel_rfl) (by kernel_rfl) (fun _ _ _ h => h) (by rfl) hHeld ?_
      try simp only [Act.put, List.setIfInBounds_toArray, List.set_cons_zero, List.set_cons_succ]
      refine held_skip 21 rfl (by kernel_rfl) (by kernel_rfl) (by kernel_rfl) (fun _ _ _ h => h) (by rfl) hHeld ?_
      try simp only [Act.put, List.setIfInBounds_toArray, List.set_cons_zero, List.set_cons_succ]
      refine held_skip 22 rfl (by kernel_rfl) (by kernel_rfl) (by kernel_rfl) (fun _ _ _ h => h) (by rfl) hHeld ?_
      try simp only [Act.put, List.setIfInBounds_toArray, List.set_cons_zero, List.set_cons_succ]
      refine held_skip 23 rfl (by kernel_rfl) (by kernel_rfl) (by kernel_rfl) (fun _ _ _ h => h) (by rfl) hHeld ?_
      try simp only [Act.put, List.setIfInBounds_toArray, List.set_cons_zero, List.set_cons_succ]
      refine held_skip 24 rfl (by kernel_rfl) (by kernel_rfl) (by kernel_rfl) (fun _ _ _ h => h) (by rfl) hHeld ?_
      try simp only [Act.put, List.setIfInBounds_toArray, List.set_cons_zero, List.set_cons_succ]
      refine held_take 25 (v := ?_) rfl (by kernel_rfl) (by kernel_rfl) (by kernel_rfl) (fun _ _ _ h => h) (by rfl) ?_ hHeld ?_
      rotate_left
      · (intro w hSw; (try dsimp only at hSw); go_simp; all_goals (with_reducible rfl))
      try simp only [Act.put, List.setIfInBounds_toArray, List.set_cons_zero, List.set_cons_succ]
      refine wpAnyH_done (by kernel_rfl) ?_ _
      clear hSc hHeld
      go_wp2_with fail
      go_ret2
      exact AttrsPost.ok (hoo.out.symm.trans hP.out) _ rfl (by have := s1.out; rw [hsub.out]; exact this)
    have hle := fun W : World => lead11_any (bt c.l q) W
    have hlt1 : decide ((q : Int) < c.l.length) = true := by rw [decide_eq_true_eq]; omega
    have hlt2 : decide (q < c.l.length) = true := by rw [decide_eq_true_eq]; omega
    have hlt3 : (q : Int) < c.l.length := by omega
    cases hld : leadI (bt c.l q)
    · have hP := Lib.hid (hno (fun hh => by have := hh.2; rw [hld, Bool.and_false] at this; cases this))
      clear hno hyes
      rw [hld] at hle
      replace hle := Lib.hid hle
      replace hld := Lib.hid hld
      replace hb0 := Lib.hid hb0
      replace hmq := Lib.hid hmq
      go_wp2_with fail
      refine wp_region_any (by kernel_rfl) ?_
      try (change wpAny _ _ _ _ _ _ _ (World.drew _))
      refine wpAny_take (i := 0) (v := ?_) rfl (by kernel_rfl) (by kernel_rfl) (by kernel_rfl) (fun _ _ _ h => h) (Or.inl ⟨by rfl, ?_⟩) ?_
      rotate_left
      · (intro w; go_simp; all_goals (with_reducible rfl))
      try simp only [Act.put, List.setIfInBounds_toArray]
      refine wpAny_ready (rs := [1]) (by kernel_rfl) (by simp) ?_
      refine AllReady.cons rfl (fun K hK => ?_) AllReady.nil
      go_simp
      go_at_call 115
      refine hbl.out.mono ?_
      rintro e w1 ⟨rfl, r1, t1⟩
      have s1 := hsd.out.call r1 t1
      clear hbl hsd r1 t1
      have hSc : w1.cell? ⟨R, 0, none⟩ = some (.string ⟨c.l.toArray⟩) ∧ w1.cell? ⟨R, 1, none⟩ = some (.int .i64 q) := ⟨s1.rd.c0, s1.rd.c1⟩
      replace s1 := Lib.hid s1
      refine hK _ _ ?_
      clear hK K
      try simp only [Act.put, List.setIfInBounds_toArray, List.set_cons_zero, List.set_cons_succ]
      refine wpAny_of_held (S := fun W => W.cell? ⟨R, 0, none⟩ = some (.string ⟨c.l.toArray⟩) ∧ W.cell? ⟨R, 1, none⟩ = some (.int .i64 q)) _ _ _ _ ?_
      have hHeld := hSc
      refine held_take 2 (v := ?_) rfl (by kernel_rfl) (by kernel_rfl) (by kernel_rfl) (fun _ _ _ h => h) (by rfl) ?_ hHeld ?_
      rotate_left
      · (intro w hSw; (try dsimp only at hSw); go_simp; all_goals (with_reducible rfl))
      try simp only [Act.put, List.setIfInBounds_toArray, List.set_cons_zero, List.set_cons_succ]
      refine held_take 3 (v := ?_) rfl (by kernel_rfl) (by kernel_rfl) (by kernel_rfl) (fun _ _ _ h => h) (by rfl) ?_ hHeld ?_
      rotate_left
      · (intro w hSw; (try dsimp only at hSw); go_simp; all_goals (with_reducible rfl))
      try simp only [Act.put, List.setIfInBounds_toArray, List.set_cons_zero, List.set_cons_succ]
      refine held_take 4 (v := ?_) rfl (by kernel_rfl) (by kernel_rfl) (by kernel_rfl) (fun _ _ _ h => h) (by rfl) ?_ hHeld ?_
      rotate_left
      · (intro w hSw; (try dsimp only at hSw); go_simp; all_goals (with_reducible rfl))
      try simp only [Act.put, List.setIfInBounds_toArray, List.set_cons_zero, List.set_cons_succ]
      refine held_take 5 (v := ?_) rfl (by kernel_rfl) (by kernel_rfl) (by kernel_rfl) (fun _ _ _ h => h) (by rfl) ?_ hHeld ?_
      rotate_left
      · (intro w hSw; (try dsimp only at hSw); go_simp; all_goals (with_reducible rfl))
      try simp only [Act.put, List.setIfInBounds_toArray, List.set_cons_zero, List.set_cons_succ]
      refine held_take 6 (v := ?_) rfl (by kernel_rfl) (by kernel_rfl) (by kernel_rfl) (fun _ _ _ h => h) (by rfl) ?_ hHeld ?_
      rotate_left
      · (intro w hSw; (try dsimp only at hSw); go_simp; all_goals (with_reducible rfl))
      try simp only [Act.put, List.setIfInBounds_toArray, List.set_cons_zero, List.set_cons_succ]
      refine held_take 7 (v := ?_) rfl (by kernel_rfl) (by kernel_rfl) (by kernel_rfl) (fun _ _ _ h => h) (by rfl) ?_ hHeld ?_
      rotate_left
      · (intro w hSw; (try dsimp only at hSw); go_simp; all_goals (with_reducible rfl))
      try simp only [Act.put, List.setIfInBounds_toArray, List.set_cons_zero, List.set_cons_succ]
      refine held_take 8 (v := ?_) rfl (by kernel_rfl) (by kernel_rfl) (by kernel_rfl) (fun _ _ _ h => h) (by rfl) ?_ hHeld ?_
      rotate_left
      · (intro w hSw; (try dsimp only at hSw); go_simp; all_goals (with_reducible rfl))
      try simp only [Act.put, List.setIfInBounds_toArray, List.set_cons_zero, List.set_cons_succ]
      refine held_take 9 (v := ?_) rfl (by kernel_rfl) (by kernel_rfl) (by kernel_rfl) (fun _ _ _ h => h) (by rfl) ?_ hHeld ?_
      rotate_left
      · (intro w hSw; (try dsimp only at hSw); go_simp; all_goals (with_reducible rfl))
      try simp only [Act.put, List.setIfInBounds_toArray, List.set_cons_zero, List.set_cons_succ]
      refine held_take 10 (v := ?_) rfl (by kernel_rfl) (by kernel_rfl) (by kernel_rfl) (fun _ _ _ h => h) (by rfl) ?_ hHeld ?_
      rotate_left
      · (intro w hSw; (try dsimp only at hSw); go_simp; all_goals (with_reducible rfl))
      try simp only [Act.put, List.setIfInBounds_toArray, List.set_cons_zero, List.set_cons_succ]
      refine held_take 11 (v := ?_) rfl (by kernel_rfl) (by kernel_rfl) (by kernel_rfl) (fun _ _ _ h => h) (by rfl) ?_ hHeld ?_
      rotate_left
      · (intro w hSw; (try dsimp only at hSw); go_simp; all_goals (with_reducible rfl))
      try simp only [Act.put, List.setIfInBounds_toArray, List.set_cons_zero, List.set_cons_succ]
      refine held_take 12 (v := ?_) rfl (by kernel_rfl) (by kernel_rfl) (by kernel_rfl) (fun _ _ _ h => h) (by rfl) ?_ hHeld ?_
      rotate_left
      · (intro w hSw; (try dsimp only at hSw); go_simp; all_goals (with_reducible rfl))
      try simp only [Act.put, List.setIfInBounds_toArray, List.set_cons_zero, List.set_cons_succ]
      refine held_take 13 (v := ?_) rfl (by kernel_rfl) (by kernel_rfl) (by kernel_rfl) (fun _ _ _ h => h) (by rfl) ?_ hHeld ?_
      rotate_left
      · (intro w hSw; (try dsimp only at hSw); go_simp; all_goals (with_reducible rfl))
      try simp only [Act.put, List.setIfInBounds_toArray, List.set_cons_zero, List.set_cons_succ]
      refine held_take 14 (v := ?_) rfl (by kernel_rfl) (by kernel_rfl) (by kernel_rfl) (fun _ _ _ h => h) (by rfl) ?_ hHeld ?_
      rotate_left
      · (intro w hSw; (try dsimp only at hSw); go_simp; all_goals (with_reducible rfl))
      try simp only [Act.put, List.setIfInBounds_toArray, List.set_cons_zero, List.set_cons_succ]
      refine held_take 15 (v := ?_) rfl (by kernel_rfl) (by kernel_rfl) (by kernel_rfl) (fun _ _ _ h => h) (by rfl) ?_ hHeld ?_
      rotate_left
      · (intro w hSw; (try dsimp only at hSw); go_simp; all_goals (with_reducible rfl))
      try simp only [Act.put, List.setIfInBounds_toArray, List.set_cons_zero, List.set_cons_succ]
      refine held_take 16 (v := ?_) rfl (by kernel_rfl) (by kernel_rfl) (by kernel_rfl) (fun _ _ _ h => h) (by rfl) ?_ hHeld ?_
      rotate_left
      · (intro w hSw; (try dsimp only at hSw); go_simp; all_goals (with_reducible rfl))
      try simp only [Act.put, List.setIfInBounds_toArray, List.set_cons_zero, List.set_cons_succ]
      refine held_take 17 (v := ?_) rfl (by kernel_rfl) (by kernel_rfl) (by kernel_rfl) (fun _ _ _ h => h) (by rfl) ?_ hHeld ?_
      rotate_left
      · (intro w hSw; (try dsimp only at hSw); go_simp; all_goals (with_reducible rfl))
      try simp only [Act.put, List.setIfInBounds_toArray, List.set_cons_zero, List.set_cons_succ]
      refine held_take 18 (v := ?_) rfl (by kernel_rfl) (by kernel_rfl) (by kernel_rfl) (fun _ _ _ h => h) (by rfl) ?_ hHeld ?_
      rotate_left
      · (intro w hSw; (try dsimp only at hSw); go_simp; all_goals (with_reducible rfl))
      try simp only [Act.put, List.setIfInBounds_toArray, List.set_cons_zero, List.set_cons_succ]
      refine held_take 19 (v := ?_) rfl (by kernel_rfl) (by kernel_rfl) (by kernel_rfl) (fun _ _ _ h => h) (by rfl) ?_ hHeld ?_
      rotate_left
      · (intro w hSw; (try dsimp only at hSw); go_simp; all_goals (with_reducible rfl))
      try simp only [Act.put, List.setIfInBounds_toArray, List.set_cons_zero, List.set_cons_succ]
      refine held_take 20 (v := ?_) rfl (by kernel_rfl) (by kernel_rfl) (by kernel_rfl) (fun _ _ _ h => h) (by rfl) ?_ hHeld ?_
      rotate_left
      · (intro w hSw; (try dsimp only at hSw); go_simp; all_goals (with_reducible rfl))
      try simp only [Act.put, List.setIfInBounds_toArray, List.set_cons_zero, List.set_cons_succ]
      refine held_take 21 (v := ?_) rfl (by kernel_rfl) (by kernel_rfl) (by kernel_rfl) (fun _ _ _ h => h) (by rfl) ?_ hHeld ?_
      rotate_left
      · (intro w hSw; (try dsimp only at hSw); go_simp; all_goals (with_reducible rfl))
      try simp only [Act.put, List.setIfInBounds_toArray, List.set_cons_zero, List.set_cons_succ]
      refine held_take 22 (v := ?_) rfl (by kernel_rfl) (by kernel_rfl) (by kernel_rfl) (fun _ _ _ h => h) (by rfl) ?_ hHeld ?_
      rotate_left
      · (intro w hSw; (try dsimp only at hSw); go_simp; all_goals (with_reducible rfl))
      try simp only [Act.put, List.setIfInBounds_toArray, List.set_cons_zero, List.set_cons_succ]
      refine held_take 23 (v := ?_) rfl (by kernel_rfl) (by kernel_rfl) (by kernel_rfl) (fun _ _ _ h => h) (by rfl) ?_ hHeld ?_
      rotate_left
      · (intro w hSw; (try dsimp only at hSw); go_simp; all_goals (with_reducible rfl))
      try simp only [Act.put, List.setIfInBounds_toArray, List.set_cons_zero, List.set_cons_succ]
      refine wpAnyH_ready (rs := [24]) (by kernel_rfl) (by simp) ?_
      refine held_call rfl (fun K hK => ?_) AllReadyH.nil
      go_simp
      go_at_call 155
      refine (hle.out _).mono ?_
      rintro e w' ⟨rfl, rfl⟩
      refine hK.out _ _ hSc (fun hHeld => ?_)
      clear hK K
      try simp only [Act.put, List.setIfInBounds_toArray, List.set_cons_zero, List.set_cons_succ]
      refine held_take 25 (v := ?_) rfl (by kernel_rfl) (by kernel_rfl) (by kernel_rfl) (fun _ _ _ h => h) (by rfl) ?_ hHeld ?_
      rotate_left
      · (intro w hSw; (try dsimp only at hSw); go_simp; all_goals (with_reducible rfl))
      try simp only [Act.put, List.setIfInBounds_toArray, List.set_cons_zero, List.set_cons_succ]
      refine wpAnyH_done (by kernel_rfl) ?_ _
      clear hSc hHeld
      go_wp2_with fail
      go_ret2
      exact AttrsPost.ok (hoo.out.symm.trans hP.out) _ rfl (by have := s1.out; rw [hsub.out]; exact this)
    have hyes := hyes hb0 (by rw [decide_eq_true hlt, hld]; rfl)
    clear hno
    rw [hld] at hle
    replace hle := Lib.hid hle
    replace hld := Lib.hid hld
    replace hb0 := Lib.hid hb0
    have hatl := fun x n => attrP_le (d := c.l.drop q) (x := x) (n := n)
    rw [List.length_drop] at hatl
    obtain ⟨ao, hao⟩ : ∃ ao, attrP (c.l.drop q) = ao := ⟨_, rfl⟩
    rw [hao] at hyes hatl
    replace hao := Lib.hid hao
    have hl16 := hq.out.len
    cases ao with
    | none =>
      have hP := Lib.hid (hq.out.bad (by rw [hdm.out]; exact hyes))
      clear hatl
      replace hyes := Lib.hid hyes
      replace hmq := Lib.hid hmq
      go_wp2_with fail
      refine wp_region_any (by kernel_rfl) ?_
      try (change wpAny _ _ _ _ _ _ _ (World.drew _))
      refine wpAny_take (i := 0) (v := ?_) rfl (by kernel_rfl) (by kernel_rfl) (by kernel_rfl) (fun _ _ _ h => h) (Or.inl ⟨by rfl, ?_⟩) ?_
      rotate_left
      · (intro w; go_simp; all_goals (with_reducible rfl))
      try simp only [Act.put, List.setIfInBounds_toArray]
      refine wpAny_ready (rs := [1]) (by kernel_rfl) (by simp) ?_
      refine AllReady.cons rfl (fun K hK => ?_) AllReady.nil
      go_simp
      go_at_call 115
      refine hbl.out.mono ?_
      rintro e w1 ⟨rfl, r1, t1⟩
      have s1 := hsd.out.call r1 t1
      clear hbl hsd r1 t1
      have hSc : w1.cell? ⟨R, 0, none⟩ = some (.string ⟨c.l.toArray⟩) ∧ w1.cell? ⟨R, 1, none⟩ = some (.int .i64 q) := ⟨s1.rd.c0, s1.rd.c1⟩
      replace s1 := Lib.hid s1
      refine hK _ _ ?_
      clear hK K
      try simp only [Act.put, List.setIfInBounds_toArray, List.set_cons_zero, List.set_cons_succ]
      refine wpAny_of_held (S := fun W => W.cell? ⟨R, 0, none⟩ = some (.string ⟨c.l.toArray⟩) ∧ W.cell? ⟨R, 1, none⟩ = some (.int .i64 q)) _ _ _ _ ?_
      have hHeld := hSc
      refine held_take 2 (v := ?_) rfl (by kernel_rfl) (by kernel_rfl) (by kernel_rfl) (fun _ _ _ h => h) (by rfl) ?_ hHeld ?_
      rotate_left
      · (intro w hSw; (try dsimp only at hSw); go_simp; all_goals (with_reducible rfl))
      try simp only [Act.put, List.setIfInBounds_toArray, List.set_cons_zero, List.set_cons_succ]
      refine held_take 3 (v := ?_) rfl (by kernel_rfl) (by kernel_rfl) (by kernel_rfl) (fun _ _ _ h => h) (by rfl) ?_ hHeld ?_
      rotate_left
      · (intro w hSw; (try dsimp only at hSw); go_simp; all_goals (with_reducible rfl))
      try simp only [Act.put, List.setIfInBounds_toArray, List.set_cons_zero, List.set_cons_succ]
      refine held_take 4 (v := ?_) rfl (by kernel_rfl) (by kernel_rfl) (by kernel_rfl) (fun _ _ _ h => h) (by rfl) ?_ hHeld ?_
      rotate_left
      · (intro w hSw; (try dsimp only at hSw); go_simp; all_goals (with_reducible rfl))
      try simp only [Act.put, List.setIfInBounds_toArray, List.set_cons_zero, List.set_cons_succ]
      refine held_take 5 (v := ?_) rfl (by kernel_rfl) (by kernel_rfl) (by kernel_rfl) (fun _ _ _ h => h) (by rfl) ?_ hHeld ?_
      rotate_left
      · (intro w hSw; (try dsimp only at hSw); go_simp; all_goals (with_reducible rfl))
      try simp only [Act.put, List.setIfInBounds_toArray, List.set_cons_zero, List.set_cons_succ]
      refine held_take 6 (v := ?_) rfl (by kernel_rfl) (by kernel_rfl) (by kernel_rfl) (fun _ _ _ h => h) (by rfl) ?_ hHeld ?_
      rotate_left
      · (intro w hSw; (try dsimp only at hSw); go_simp; all_goals (with_reducible rfl))
      try simp only [Act.put, List.setIfInBounds_toArray, List.set_cons_zero, List.set_cons_succ]
      refine held_take 7 (v := ?_) rfl (by kernel_rfl) (by kernel_rfl) (by kernel_rfl) (fun _ _ _ h => h) (by rfl) ?_ hHeld ?_
      rotate_left
      · (intro w hSw; (try dsimp only at hSw); go_simp; all_goals (with_reducible rfl))
      try simp only [Act.put, List.setIfInBounds_toArray, List.set_cons_zero, List.set_cons_succ]
      refine held_take 8 (v := ?_) rfl (by kernel_rfl) (by kernel_rfl) (by kernel_rfl) (fun _ _ _ h => h) (by rfl) ?_ hHeld ?_
      rotate_left
      · (intro w hSw; (try dsimp only at hSw); go_simp; all_goals (with_reducible rfl))
      try simp only [Act.put, List.setIfInBounds_toArray, List.set_cons_zero, List.set_cons_succ]
      refine held_take 9 (v := ?_) rfl (by kernel_rfl) (by kernel_rfl) (by kernel_rfl) (fun _ _ _ h => h) (by rfl) ?_ hHeld ?_
      rotate_left
      · (intro w hSw; (try dsimp only at hSw); go_simp; all_goals (with_reducible rfl))
      try simp only [Act.put, List.setIfInBounds_toArray, List.set_cons_zero, List.set_cons_succ]
      refine held_take 10 (v := ?_) rfl (by kernel_rfl) (by kernel_rfl) (by kernel_rfl) (fun _ _ _ h => h) (by rfl) ?_ hHeld ?_
      rotate_left
      · (intro w hSw; (try dsimp only at hSw); go_simp; all_goals (with_reducible rfl))
      try simp only [Act.put, List.setIfInBounds_toArray, List.set_cons_zero, List.set_cons_succ]
      refine held_take 11 (v := ?_) rfl (by kernel_rfl) (by kernel_rfl) (by kernel_rfl) (fun _ _ _ h => h) (by rfl) ?_ hHeld ?_
      rotate_left
      · (intro w hSw; (try dsimp only at hSw); go_simp; all_goals (with_reducible rfl))
      try simp only [Act.put, List.setIfInBounds_toArray, List.set_cons_zero, List.set_cons_succ]
      refine held_take 12 (v := ?_) rfl (by kernel_rfl) (by kernel_rfl) (by kernel_rfl) (fun _ _ _ h => h) (by rfl) ?_ hHeld ?_
      rotate_left
      · (intro w hSw; (try dsimp only at hSw); go_simp; all_goals (with_reducible rfl))
      try simp only [Act.put, List.setIfInBounds_toArray, List.set_cons_zero, List.set_cons_succ]
      refine held_take 13 (v := ?_) rfl (by kernel_rfl) (by kernel_rfl) (by kernel_rfl) (fun _ _ _ h => h) (by rfl) ?_ hHeld ?_
      rotate_left
      · (intro w hSw; (try dsimp only at hSw); go_simp; all_goals (with_reducible rfl))
      try simp only [Act.put, List.setIfInBounds_toArray, List.set_cons_zero, List.set_cons_succ]
      refine held_take 14 (v := ?_) rfl (by kernel_rfl) (by kernel_rfl) (by kernel_rfl) (fun _ _ _ h => h) (by rfl) ?_ hHeld ?_
      rotate_left
      · (intro w hSw; (try dsimp only at hSw); go_simp; all_goals (with_reducible rfl))
      try simp only [Act.put, List.setIfInBounds_toArray, List.set_cons_zero, List.set_cons_succ]
      refine held_take 15 (v := ?_) rfl (by kernel_rfl) (by kernel_rfl) (by kernel_rfl) (fun _ _ _ h => h) (by rfl) ?_ hHeld ?_
      rotate_left
      · (intro w hSw; (try dsimp only at hSw); go_simp; all_goals (with_reducible rfl))
      try simp only [Act.put, List.setIfInBounds_toArray, List.set_cons_zero, List.set_cons_succ]
      refine held_take 16 (v := ?_) rfl (by kernel_rfl) (by kernel_rfl) (by kernel_rfl) (fun _ _ _ h => h) (by rfl) ?_ hHeld ?_
      rotate_left
      · (intro w hSw; (try dsimp only at hSw); go_simp; all_goals (with_reducible rfl))
      try simp only [Act.put, List.setIfInBounds_toArray, List.set_cons_zero, List.set_cons_succ]
      refine held_take 17 (v := ?_) rfl (by kernel_rfl) (by kernel_rfl) (by kernel_rfl) (fun _ _ _ h => h) (by rfl) ?_ hHeld ?_
      rotate_left
      · (intro w hSw; (try dsimp only at hSw); go_simp; all_goals (with_reducible rfl))
      try simp only [Act.put, List.setIfInBounds_toArray, List.set_cons_zero, List.set_cons_succ]
      refine held_take 18 (v := ?_) rfl (by kernel_rfl) (by kernel_rfl) (by kernel_rfl) (fun _ _ _ h => h) (by rfl) ?_ hHeld ?_
      rotate_left
      · (intro w hSw; (try dsimp only at hSw); go_simp; all_goals (with_reducible rfl))
      try simp only [Act.put, List.setIfInBounds_toArray, List.set_cons_zero, List.set_cons_succ]
      refine held_take 19 (v := ?_) rfl (by kernel_rfl) (by kernel_rfl) (by kernel_rfl) (fun _ _ _ h => h) (by rfl) ?_ hHeld ?_
      rotate_left
      · (intro w hSw; (try dsimp only at hSw); go_simp; all_goals (with_reducible rfl))
      try simp only [Act.put, List.setIfInBounds_toArray, List.set_cons_zero, List.set_cons_succ]
      refine held_take 20 (v := ?_) rfl (by kernel_rfl) (by kernel_rfl) (by kernel_rfl) (fun _ _ _ h => h) (by rfl) ?_ hHeld ?_
      rotate_left
      · (intro w hSw; (try dsimp only at hSw); go_simp; all_goals (with_reducible rfl))
      try simp only [Act.put, List.setIfInBounds_toArray, List.set_cons_zero, List.set_cons_succ]
      refine held_take 21 (v := ?_) rfl (by kernel_rfl) (by kernel_rfl) (by kernel_rfl) (fun _ _ _ h => h) (by rfl) ?_ hHeld ?_
      rotate_left
      · (intro w hSw; (try dsimp only at hSw); go_simp; all_goals (with_reducible rfl))
      try simp only [Act.put, List.setIfInBounds_toArray, List.set_cons_zero, List.set_cons_succ]
      refine held_take 22 (v := ?_) rfl (by kernel_rfl) (by kernel_rfl) (by kernel_rfl) (fun _ _ _ h => h) (by rfl) ?_ hHeld ?_
      rotate_left
      · (intro w hSw; (try dsimp only at hSw); go_simp; all_goals (with_reducible rfl))
      try simp only [Act.put, List.setIfInBounds_toArray, List.set_cons_zero, List.set_cons_succ]
      refine held_take 23 (v := ?_) rfl (by kernel_rfl) (by kernel_rfl) (by kernel_rfl) (fun _ _ _ h => h) (by rfl) ?_ hHeld ?_
      rotate_left
      · (intro w hSw; (try dsimp only at hSw); go_simp; all_goals (with_reducible rfl))
      try simp only [Act.put, List.setIfInBounds_toArray, List.set_cons_zero, List.set_cons_succ]
      refine wpAnyH_ready (rs := [24]) (by kernel_rfl) (by simp) ?_
      refine held_call rfl (fun K hK => ?_) AllReadyH.nil
      go_simp
      go_at_call 155
      refine (hle.out _).mono ?_
      rintro e w' ⟨rfl, rfl⟩
      refine hK.out _ _ hSc (fun hHeld => ?_)
      clear hK K
      try simp only [Act.put, List.setIfInBounds_toArray, List.set_cons_zero, List.set_cons_succ]
      refine held_take 25 (v := ?_) rfl (by kernel_rfl) (by kernel_rfl) (by kernel_rfl) (fun _ _ _ h => h) (by rfl) ?_ hHeld ?_
      rotate_left
      · (intro w hSw; (try dsimp only at hSw); go_simp; all_goals (with_reducible rfl))
      try simp only [Act.put, List.setIfInBounds_toArray, List.set_cons_zero, List.set_cons_succ]
      refine wpAnyH_done (by kernel_rfl) ?_ _
      have f1' := s1.out.rd.fz 1
      go_wp2_with fail
      refine (attr11_any R c q _ s1.out.rd hql hl).mono ?_
      rw [hao.out]
      rintro e w5 ⟨x1, x2, rfl, k5, hk5, r5, t5⟩
      have s5 := s1.out.call r5 t5
      clear hSc hHeld s1 r5 t5
      replace s5 := Lib.hid s5
      unfold strV
      go_wp2_with fail
      go_ret2
      exact AttrsPost.no (hoo.out.symm.trans hP.out) rfl ⟨k5, hk5, (s5.out.below ((Below.refl _ _).alloc (Nat.le_refl _) _)).rd, (s5.out.below ((Below.refl _ _).alloc (Nat.le_refl _) _)).turned⟩
    | some y =>
      obtain ⟨x, n⟩ := y
      obtain ⟨hn1, hn2⟩ := hatl x n rfl
      clear hatl
      have hbad := fun hh => hq.out.bad (by rw [hdm.out, hyes]; exact if_pos hh)
      have hgood := fun hh => hq.out.step (n := bn + n) (l' := l ++ [x]) (by rw [hdm.out, hyes]; exact if_neg hh)
      clear hyes
      have hx3 : q + n ≤ c.l.length := by omega
      have hx4 : q + n = m + (bn + n) := by omega
      have hx5 : m - k + (bn + n) = m + (bn + n) - k := by omega
      replace hbad := Lib.hid hbad
      replace hgood := Lib.hid hgood
      replace hx4 := Lib.hid hx4
      replace hx5 := Lib.hid hx5
      replace hmq := Lib.hid hmq
      go_wp2_with fail
      refine wp_region_any (by kernel_rfl) ?_
      try (change wpAny _ _ _ _ _ _ _ (World.drew _))
      refine wpAny_take (i := 0) (v := ?_) rfl (by kernel_rfl) (by kernel_rfl) (by kernel_rfl) (fun _ _ _ h => h) (Or.inl ⟨by rfl, ?_⟩) ?_
      rotate_left
      · (intro w; go_simp; all_goals (with_reducible rfl))
      try simp only [Act.put, List.setIfInBounds_toArray]
      refine wpAny_ready (rs := [1]) (by kernel_rfl) (by simp) ?_
      refine AllReady.cons rfl (fun K hK => ?_) AllReady.nil
      go_simp
      go_at_call 115
      refine hbl.out.mono ?_
      rintro e w1 ⟨rfl, r1, t1⟩
      have s1 := hsd.out.call r1 t1
      clear hbl hsd r1 t1
      have hSc : w1.cell? ⟨R, 0, none⟩ = some (.string ⟨c.l.toArray⟩) ∧ w1.cell? ⟨R, 1, none⟩ = some (.int .i64 q) := ⟨s1.rd.c0, s1.rd.c1⟩
      replace s1 := Lib.hid s1
      refine hK _ _ ?_
      clear hK K
      try simp only [Act.put, List.setIfInBounds_toArray, List.set_cons_zero, List.set_cons_succ]
      refine wpAny_of_held (S := fun W => W.cell? ⟨R, 0, none⟩ = some (.string ⟨c.l.toArray⟩) ∧ W.cell? ⟨R, 1, none⟩ = some (.int .i64 q)) _ _ _ _ ?_
      have hHeld := hSc
      refine held_take 2 (v := ?_) rfl (by kernel_rfl) (by kernel_rfl) (by kernel_rfl) (fun _ _ _ h => h) (by rfl) ?_ hHeld ?_
      rotate_left
      · (intro w hSw; (try dsimp only at hSw); go_simp; all_goals (with_reducible rfl))
      try simp only [Act.put, List.setIfInBounds_toArray, List.set_cons_zero, List.set_cons_succ]
      refine held_take 3 (v := ?_) rfl (by kernel_rfl) (by kernel_rfl) (by kernel_rfl) (fun _ _ _ h => h) (by rfl) ?_ hHeld ?_
      rotate_left
      · (intro w hSw; (try dsimp only at hSw); go_simp; all_goals (with_reducible rfl))
      try simp only [Act.put, List.setIfInBounds_toArray, List.set_cons_zero, List.set_cons_succ]
      refine held_take 4 (v := ?_) rfl (by kernel_rfl) (by kernel_rfl) (by kernel_rfl) (fun _ _ _ h => h) (by rfl) ?_ hHeld ?_
      rotate_left
      · (intro w hSw; (try dsimp only at hSw); go_simp; all_goals (with_reducible rfl))
      try simp only [Act.put, List.setIfInBounds_toArray, List.set_cons_zero, List.set_cons_succ]
      refine held_take 5 (v := ?_) rfl (by kernel_rfl) (by kernel_rfl) (by kernel_rfl) (fun _ _ _ h => h) (by rfl) ?_ hHeld ?_
      rotate_left
      · (intro w hSw; (try dsimp only at hSw); go_simp; all_goals (with_reducible rfl))
      try simp only [Act.put, List.setIfInBounds_toArray, List.set_cons_zero, List.set_cons_succ]
      refine held_take 6 (v := ?_) rfl (by kernel_rfl) (by kernel_rfl) (by kernel_rfl) (fun _ _ _ h => h) (by rfl) ?_ hHeld ?_
      rotate_left
      · (intro w hSw; (try dsimp only at hSw); go_simp; all_goals (with_reducible rfl))
      try simp only [Act.put, List.setIfInBounds_toArray, List.set_cons_zero, List.set_cons_succ]
      refine held_take 7 (v := ?_) rfl (by kernel_rfl) (by kernel_rfl) (by kernel_rfl) (fun _ _ _ h => h) (by rfl) ?_ hHeld ?_
      rotate_left
      · (intro w hSw; (try dsimp only at hSw); go_simp; all_goals (with_reducible rfl))
      try simp only [Act.put, List.setIfInBounds_toArray, List.set_cons_zero, List.set_cons_succ]
      refine held_take 8 (v := ?_) rfl (by kernel_rfl) (by kernel_rfl) (by kernel_rfl) (fun _ _ _ h => h) (by rfl) ?_ hHeld ?_
      rotate_left
      · (intro w hSw; (try dsimp only at hSw); go_simp; all_goals (with_reducible rfl))
      try simp only [Act.put, List.setIfInBounds_toArray, List.set_cons_zero, List.set_cons_succ]
      refine held_take 9 (v := ?_) rfl (by kernel_rfl) (by kernel_rfl) (by kernel_rfl) (fun _ _ _ h => h) (by rfl) ?_ hHeld ?_
      rotate_left
      · (intro w hSw; (try dsimp only at hSw); go_simp; all_goals (with_reducible rfl))
      try simp only [Act.put, List.setIfInBounds_toArray, List.set_cons_zero, List.set_cons_succ]
      refine held_take 10 (v := ?_) rfl (by kernel_rfl) (by kernel_rfl) (by kernel_rfl) (fun _ _ _ h => h) (by rfl) ?_ hHeld ?_
      rotate_left
      · (intro w hSw; (try dsimp only at hSw); go_simp; all_goals (with_reducible rfl))
      try simp only [Act.put, List.setIfInBounds_toArray, List.set_cons_zero, List.set_cons_succ]
      refine held_take 11 (v := ?_) rfl (by kernel_rfl) (by kernel_rfl) (by kernel_rfl) (fun _ _ _ h => h) (by rfl) ?_ hHeld ?_
      rotate_left
      · (intro w hSw; (try dsimp only at hSw); go_simp; all_goals (with_reducible rfl))
      try simp only [Act.put, List.setIfInBounds_toArray, List.set_cons_zero, List.set_cons_succ]
      refine held_take 12 (v := ?_) rfl (by kernel_rfl) (by kernel_rfl) (by kernel_rfl) (fun _ _ _ h => h) (by rfl) ?_ hHeld ?_
      rotate_left
      · (intro w hSw; (try dsimp only at hSw); go_simp; all_goals (with_reducible rfl))
      try simp only [Act.put, List.setIfInBounds_toArray, List.set_cons_zero, List.set_cons_succ]
      refine held_take 13 (v := ?_) rfl (by kernel_rfl) (by kernel_rfl) (by kernel_rfl) (fun _ _ _ h => h) (by rfl) ?_ hHeld ?_
      rotate_left
      · (intro w hSw; (try dsimp only at hSw); go_simp; all_goals (with_reducible rfl))
      try simp only [Act.put, List.setIfInBounds_toArray, List.set_cons_zero, List.set_cons_succ]
      refine held_take 14 (v := ?_) rfl (by kernel_rfl) (by kernel_rfl) (by kernel_rfl) (fun _ _ _ h => h) (by rfl) ?_ hHeld ?_
      rotate_left
      · (intro w hSw; (try dsimp only at hSw); go_simp; all_goals (with_reducible rfl))
      try simp only [Act.put, List.setIfInBounds_toArray, List.set_cons_zero, List.set_cons_succ]
      refine held_take 15 (v := ?_) rfl (by kernel_rfl) (by kernel_rfl) (by kernel_rfl) (fun _ _ _ h => h) (by rfl) ?_ hHeld ?_
      rotate_left
      · (intro w hSw; (try dsimp only at hSw); go_simp; all_goals (with_reducible rfl))
      try simp only [Act.put, List.setIfInBounds_toArray, List.set_cons_zero, List.set_cons_succ]
      refine held_take 16 (v := ?_) rfl (by kernel_rfl) (by kernel_rfl) (by kernel_rfl) (fun _ _ _ h => h) (by rfl) ?_ hHeld ?_
      rotate_left
      · (intro w hSw; (try dsimp only at hSw); go_simp; all_goals (with_reducible rfl))
      try simp only [Act.put, List.setIfInBounds_toArray, List.set_cons_zero, List.set_cons_succ]
      refine held_take 17 (v := ?_) rfl (by kernel_rfl) (by kernel_rfl) (by kernel_rfl) (fun _ _ _ h => h) (by rfl) ?_ hHeld ?_
      rotate_left
      · (intro w hSw; (try dsimp only at hSw); go_simp; all_goals (with_reducible rfl))
      try simp only [Act.put, List.setIfInBounds_toArray, List.set_cons_zero, List.set_cons_succ]
      refine held_take 18 (v := ?_) rfl (by kernel_rfl) (by kernel_rfl) (by kernel_rfl) (fun _ _ _ h => h) (by rfl) ?_ hHeld ?_
      rotate_left
      · (intro w hSw; (try dsimp only at hSw); go_simp; all_goals (with_reducible rfl))
      try simp only [Act.put, List.setIfInBounds_toArray, List.set_cons_zero, List.set_cons_succ]
      refine held_take 19 (v := ?_) rfl (by kernel_rfl) (by kernel_rfl) (by kernel_rfl) (fun _ _ _ h => h) (by rfl) ?_ hHeld ?_
      rotate_left
      · (intro w hSw; (try dsimp only at hSw); go_simp; all_goals (with_reducible rfl))
      try simp only [Act.put, List.setIfInBounds_toArray, List.set_cons_zero, List.set_cons_succ]
      refine held_take 20 (v := ?_) rfl (by kernel_rfl) (by kernel_rfl) (by kernel_rfl) (fun _ _ _ h => h) (by rfl) ?_ hHeld ?_
      rotate_left
      · (intro w hSw; (try dsimp only at hSw); go_simp; all_goals (with_reducible rfl))
      try simp only [Act.put, List.setIfInBounds_toArray, List.set_cons_zero, List.set_cons_succ]
      refine held_take 21 (v := ?_) rfl (by kernel_rfl) (by kernel_rfl) (by kernel_rfl) (fun _ _ _ h => h) (by rfl) ?_ hHeld ?_
      rotate_left
      · (intro w hSw; (try dsimp only at hSw); go_simp; all_goals (with_reducible rfl))
      try simp only [Act.put, List.setIfInBounds_toArray, List.set_cons_zero, List.set_cons_succ]
      refine held_take 22 (v := ?_) rfl (by kernel_rfl) (by kernel_rfl) (by kernel_rfl) (fun _ _ _ h => h) (by rfl) ?_ hHeld ?_
      rotate_left
      · (intro w hSw; (try dsimp only at hSw); go_simp; all_goals (with_reducible rfl))
      try simp only [Act.put, List.setIfInBounds_toArray, List.set_cons_zero, List.set_cons_succ]
      refine held_take 23 (v := ?_) rfl (by kernel_rfl) (by kernel_rfl) (by kernel_rfl) (fun _ _ _ h => h) (by rfl) ?_ hHeld ?_
      rotate_left
      · (intro w hSw; (try dsimp only at hSw); go_simp; all_goals (with_reducible rfl))
      try simp only [Act.put, List.setIfInBounds_toArray, List.set_cons_zero, List.set_cons_succ]
      refine wpAnyH_ready (rs := [24]) (by kernel_rfl) (by simp) ?_
      refine held_call rfl (fun K hK => ?_) AllReadyH.nil
      go_simp
      go_at_call 155
      refine (hle.out _).mono ?_
      rintro e w' ⟨rfl, rfl⟩
      refine hK.out _ _ hSc (fun hHeld => ?_)
      clear hK K
      try simp only [Act.put, List.setIfInBounds_toArray, List.set_cons_zero, List.set_cons_succ]
      refine held_take 25 (v := ?_) rfl (by kernel_rfl) (by kernel_rfl) (by kernel_rfl) (fun _ _ _ h => h) (by rfl) ?_ hHeld ?_
      rotate_left
      · (intro w hSw; (try dsimp only at hSw); go_simp; all_goals (with_reducible rfl))
      try simp only [Act.put, List.setIfInBounds_toArray, List.set_cons_zero, List.set_cons_succ]
      refine wpAnyH_done (by kernel_rfl) ?_ _
      have f1' := s1.out.rd.fz 1
      go_wp2_with fail
      refine (attr11_any R c q _ s1.out.rd hql hl).mono ?_
      rw [hao.out]
      rintro e w5 ⟨rfl, r5, t5⟩
      have s5 := s1.out.call r5 t5
      clear hSc hHeld s1 r5 t5
      obtain ⟨nm, v⟩ := x
      have s6 := s5.below ((Below.refl _ _).alloc (Nat.le_refl _) (.cells #[strV nm, strV v] 166))
      replace s5 := Lib.hid s5
      obtain ⟨sa, sc, hsf⟩ := own_form s6.ats
      have sA := s6.ats
      rw [hsf] at sA
      have xrow := arrAt_new w5 166 [strV nm, strV v]
      have c1' := s6.rd.c1
      have f1' := s6.rd.fz 1
      have hbase := s6.base
      replace s6 := Lib.hid s6
      replace sA := Lib.hid sA
      unfold strV at *
      subst hsf
      by_cases h16 : l.length = 16
      · have hP := Lib.hid (hbad.out (Or.inl h16))
        have h16' : ((l.length : Int) == 16) = true := by rw [beq_iff_eq]; omega
        replace h16 := Lib.hid h16
        go_wp2_with fail
        go_ret2
        exact AttrsPost.no (hoo.out.symm.trans hP.out) rfl ⟨q, hql, (s6.out.move q rfl).rd, (s6.out.move q rfl).turned⟩
      · have h16' : ((l.length : Int) == 16) = false := by rw [beq_eq_false_iff_ne]; omega
        replace xrow := Lib.hid xrow
        go_wp2_with fail
        refine (holds11_any w.heap.size _ l nm _ sA.out (by omega)).mono ?_
        rintro e w7 ⟨rfl, hb7⟩
        have s7 := s6.out.below hb7
        have x7 := xrow.out.next hb7
        have c7 := x7.cell 0
        have d7 := x7.cell 1
        have f7 := s7.rd.fz 1
        have e7 := s7.rd.c1
        clear hb7 s6 sA xrow
        replace x7 := Lib.hid x7
        have hb7 := s7.base
        cases hany : (l.any fun y => y.1 == nm)
        · have hg := hgood.out (by rintro (e | e); · exact h16 e
                                   · rw [hany] at e; cases e) (by simp; omega)
          clear hbad hgood
          replace hany := Lib.hid hany
          replace hg := Lib.hid hg
          replace s7 := Lib.hid s7
          go_wp2_with (at_builtin; go_must (refine wpList_appendk rfl _ _ 54 166 rfl Tryz.underlying54 (.agg #[.string ⟨#[]⟩, .string ⟨#[]⟩]) 2 32 info_attr rfl (by decide) (by decide) w.heap.size _ l.length (cellsA l) [.string ⟨nm.toArray⟩, .string ⟨v.toArray⟩] rfl s7.out.ats rfl rfl (by intro u hu; simp at hu; rcases hu with rfl | rfl <;> rfl) (by omega) hb7 ?_))
          intro v1 w8 hown8 hgr8 hwh8
          have s8 := s7.out.put (v1 := v1) (l1 := l ++ [(nm, v)]) (show Ats _ _ _ _ from by rw [Ats, List.length_append, cellsA_app]; exact hown8.out) hgr8.out
          clear hown8 hgr8 hwh8
          replace s8 := Lib.hid s8
          go_wp2_with fail
          exact ⟨⟨m + (bn + n), _, by omega, by rw [← hx4.out]; exact hx3, by rw [← hx4.out]; exact s8.out, by rw [← hx5.out]; exact hg.out⟩, by rw [cM.out, s8.out.rd.c1]; simp [intOf]; have := hmq.out; omega⟩
        · have hP := Lib.hid (hbad.out (Or.inr hany))
          clear hbad hgood
          replace hany := Lib.hid hany
          replace s7 := Lib.hid s7
          go_wp2_with fail
          go_ret2
          exact AttrsPost.no (hoo.out.symm.trans hP.out) rfl ⟨q, hql, (s7.out.move q rfl).rd, (s7.out.move q rfl).turned⟩
end Go.Proofs.YtkgjbamkinfmeaaGreatDoor
