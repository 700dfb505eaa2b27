/- Layer 11: bytes of names, Name; a reader in memory; has, take, blanks. -/
import Derived.Test.YtldnigkaagcciaaDoorD11p
import Derived.Test.YtldnigkaagcciaaDoorTn
import Derived.Test.YtldnigkaagcciaaDoorLs
import Derived.Test.YtldnigkaagcciaaDoorSl
namespace Go.Proofs.YtldnigkaagcciaaDoor
open Go.RowKit

theorem lead11_any (c : Int) (w : World) : Calls Tryd.prog 14 #[.int .u8 c] w fun e w' => e = .returned (.bool (leadI c)) ∧ w = w' := by
  go_enter Tryd.func14, Tryd.ntmps14
  go_wp2_with fail
  all_goals go_ret
  all_goals refine ⟨ret_bool ?_, rfl⟩
  all_goals unfold leadI
  all_goals rw [Bool.eq_iff_iff]
  all_goals simp only [Bool.or_eq_true, decide_eq_true_eq, beq_iff_eq, true_iff]
  all_goals first | omega | simp
theorem foll11_any (c : Int) (w : World) : Calls Tryd.prog 15 #[.int .u8 c] w fun e w' => e = .returned (.bool (follI c)) ∧ w = w' := by
  have h := fun W : World => lead11_any c W
  unfold follI
  cases hq : leadI c
  all_goals
    rw [hq] at h
    replace h := Lib.hid h
    replace hq := Lib.hid hq
    go_enter Tryd.func15, Tryd.ntmps15
    go_wp2_with fail
    refine (h.out _).mono ?_; rintro e w' ⟨rfl, rfl⟩
    go_wp2_with fail
    all_goals go_ret
    all_goals refine ⟨ret_bool ?_, rfl⟩
    all_goals rw [Bool.eq_iff_iff]
    all_goals simp only [Bool.or_eq_true, Bool.and_eq_true, decide_eq_true_eq, beq_iff_eq, Bool.false_eq_true, false_or, Bool.true_or]
    all_goals try first | omega | simp
theorem blank11_any (c : Int) (w : World) : Calls Tryd.prog 47 #[.int .u8 c] w fun e w' => e = .returned (.bool (blI c)) ∧ w = w' := by
  go_enter Tryd.func47, Tryd.ntmps47
  go_wp2_with fail
  all_goals go_ret
  all_goals refine ⟨ret_bool ?_, rfl⟩
  all_goals unfold blI
  all_goals rw [Bool.eq_iff_iff]
  all_goals simp only [Bool.or_eq_true, decide_eq_true_eq, beq_iff_eq, true_iff]
  all_goals first | omega | simp

theorem all_bt (p : Int → Bool) (s : List UInt8) : (s.all fun c => p c.toNat) = true ↔ ∀ j, j < s.length → p (bt s j) = true := by
  rw [List.all_eq_true]
  constructor
  · intro h j hj
    have := h _ (List.getElem_mem hj)
    simpa [bt, List.getD, hj] using this
  · intro h x hx
    obtain ⟨j, hj, rfl⟩ := List.mem_iff_getElem.1 hx
    have := h j hj
    simpa [bt, List.getD, hj] using this

set_option maxHeartbeats 400000 in
theorem name11_any (s : List UInt8) (w : World) : Calls Tryd.prog 9 #[.string ⟨s.toArray⟩] w fun e w' => e = .returned (.bool (nameB s)) ∧ w = w' := by
  by_cases h0 : s.length = 0
  · have hn : nameB s = false := by unfold nameB; simp [h0]
    have he : s.isEmpty = true := by cases s <;> simp_all
    rw [hn]
    replace hn := Lib.hid hn
    replace h0 := Lib.hid h0
    go_enter Tryd.func9, Tryd.ntmps9
    go_wp2_with fail
    go_ret
    exact ⟨rfl, rfl⟩
  have he : s.isEmpty = false := by cases s <;> simp_all
  have hp : 0 < s.length := by omega
  by_cases h1 : 64 < s.length
  · have hn : nameB s = false := by unfold nameB; rw [decide_eq_false (by omega)]; rfl
    rw [hn]
    replace hn := Lib.hid hn
    replace h0 := Lib.hid h0
    go_enter Tryd.func9, Tryd.ntmps9
    go_wp2_with fail
    go_ret
    exact ⟨rfl, rfl⟩
  have hd : decide (1 ≤ s.length ∧ s.length ≤ 64) = true := by rw [decide_eq_true_eq]; omega
  have hl := fun W : World => lead11_any (bt s 0) W
  have hn : nameB s = (leadI (bt s 0) && s.all fun c => follI c.toNat) := by unfold nameB; rw [hd]; simp
  rw [hn]
  replace h0 := Lib.hid h0
  clear hd hn
  cases hq : leadI (bt s 0)
  · rw [hq] at hl
    replace hl := Lib.hid hl
    replace hq := Lib.hid hq
    go_enter Tryd.func9, Tryd.ntmps9
    go_wp2_with fail
    refine (hl.out _).mono ?_; rintro e w' ⟨rfl, rfl⟩
    go_wp2_with fail
    go_ret
    exact ⟨rfl, rfl⟩
  · rw [hq] at hl
    replace hl := Lib.hid hl
    replace hq := Lib.hid hq
    rw [Bool.true_and]
    go_enter Tryd.func9, Tryd.ntmps9
    go_wp2_with fail
    refine (hl.out _).mono ?_; rintro e w' ⟨rfl, rfl⟩
    clear hl
    go_wp2_with fail
    go_loop [19] (fun i => ∃ k : Nat, i = .int .i64 k ∧ k ≤ s.length ∧ Hid (∀ j, j < k → follI (bt s j) = true)) (fun i => s.length - (intOf i).toNat)
    case atStart => exact ⟨0, rfl, Nat.zero_le _, fun j hj => by omega⟩
    case round =>
      obtain ⟨k, rfl, hk, hall⟩ := hrel
      by_cases hlt : k < s.length
      · have hf := fun W : World => foll11_any (bt s k) W
        cases hc : follI (bt s k)
        · have hend : Hid ((s.all fun c => follI c.toNat) = false) := by
            show _ = _
            rw [Bool.eq_false_iff]
            intro ha
            have := (all_bt follI s).1 ha k hlt
            rw [hc] at this; cases this
          rw [hc] at hf
          replace hf := Lib.hid hf
          replace hc := Lib.hid hc
          go_wp2_with fail
          refine (hf.out _).mono ?_; rintro e w' ⟨rfl, rfl⟩
          go_wp2_with fail
          go_ret
          exact ⟨ret_bool hend.out.symm, rfl⟩
        · rw [hc] at hf
          replace hf := Lib.hid hf
          replace hc := Lib.hid hc
          go_wp2_with fail
          refine (hf.out _).mono ?_; rintro e w' ⟨rfl, rfl⟩
          go_wp2_with fail
          exact ⟨⟨k + 1, by go_num, by omega, fun j hj => by
            by_cases e : j = k
            · subst e; exact hc.out
            · exact hall.out j (by omega)⟩, by simp [intOf]; omega⟩
      · have hend : Hid ((s.all fun c => follI c.toNat) = true) := (all_bt follI s).2 fun j hj => hall.out j (by omega)
        have hlt2 : ¬ ((k : Int) < s.length) := by omega
        clear hall
        go_wp2_with fail
        go_ret
        exact ⟨ret_bool hend.out.symm, rfl⟩

/-- A reader's cells, but for its place. -/
structure RC where
  l : List UInt8
  dep : Int
  rt : Bool
  vO : Value
  vT : Value
  vK : Value
def RC.cells (c : RC) (k : Nat) : List Value := [.string ⟨c.l.toArray⟩, .int .i64 k, .int .i64 c.dep, .bool c.rt, c.vO, c.vT, c.vK]
/-- A reader in memory, at a place. -/
def Rd (w : World) (R : Nat) (c : RC) (k : Nat) : Prop := ArrAt w R 45 (c.cells k)
section
variable {w w' : World} {R : Nat} {c : RC} {k : Nat}
theorem Rd.c0 (h : Rd w R c k) : w.cell? ⟨R, 0, none⟩ = some (.string ⟨c.l.toArray⟩) := by rw [ArrAt.cell h]; rfl
theorem Rd.c1 (h : Rd w R c k) : w.cell? ⟨R, 1, none⟩ = some (.int .i64 k) := by rw [ArrAt.cell h]; rfl
theorem Rd.c2 (h : Rd w R c k) : w.cell? ⟨R, 2, none⟩ = some (.int .i64 c.dep) := by rw [ArrAt.cell h]; rfl
theorem Rd.c3 (h : Rd w R c k) : w.cell? ⟨R, 3, none⟩ = some (.bool c.rt) := by rw [ArrAt.cell h]; rfl
theorem Rd.c4 (h : Rd w R c k) : w.cell? ⟨R, 4, none⟩ = some c.vO := by rw [ArrAt.cell h]; rfl
theorem Rd.c5 (h : Rd w R c k) : w.cell? ⟨R, 5, none⟩ = some c.vT := by rw [ArrAt.cell h]; rfl
theorem Rd.c6 (h : Rd w R c k) : w.cell? ⟨R, 6, none⟩ = some c.vK := by rw [ArrAt.cell h]; rfl
theorem Rd.fz (h : Rd w R c k) (i : Nat) : w.frozen? ⟨R, i, none⟩ = false := ArrAt.soft h i
theorem Rd.lt (h : Rd w R c k) : R < w.heap.size := ArrAt.lt h
theorem Rd.turned {S : Nat → Prop} (h : Rd w R c k) (ht : Turned S w w') (hS : ¬ S R) : Rd w' R c k := ArrAt.turned h ht hS
theorem Rd.below (h : Rd w R c k) (hb : Below w.heap.size w w') : Rd w' R c k := h.turned (S := fun _ => False) (Turned.of_below hb) fun h => h
theorem Rd.drawn (h : Rd w R c k) (hd : Drawn w w') : Rd w' R c k := h.below (hd.below _)
theorem Rd.move (h : Rd w R c k) (k' : Nat) {x : Int} (e : x = k') : Rd (w.setCell ⟨R, 1, none⟩ (.int .i64 x)) R c k' := by subst e; exact ArrAt.set h 1 _
end

set_option maxHeartbeats 400000 in
theorem has11_any (R : Nat) (c : RC) (k : Nat) (p : List UInt8) (w : World) (h : Rd w R c k) (hk : k ≤ c.l.length) (_hl : c.l.length ≤ 100000) :
    Calls Tryd.prog 42 #[.pointer (some ⟨R, 0, none⟩), .string ⟨p.toArray⟩] w fun e w' => e = .returned (.bool (Lib.hasPrefix (c.l.drop k) p)) ∧ Drawn w w' := by
  have c0 := h.c0
  have c1 := h.c1
  replace h := Lib.hid h
  have hp := fun W : World => hasPrefix_any (c.l.drop k) p W
  replace hp := Lib.hid hp
  generalize hq : Lib.hasPrefix (c.l.drop k) p = b at hp
  replace hq := Lib.hid hq
  have htl : c.l.take c.l.length = c.l := List.take_length
  go_enter Tryd.func42, Tryd.ntmps42
  go_wp2_with fail
  go_quiet ((go_at_call 53; exact Calls.drawn_at (hp.out _)))
  go_wp2_with fail
  go_ret
  exact ⟨rfl, ⟨_, rfl⟩⟩

set_option maxHeartbeats 400000 in
theorem take11_any (R : Nat) (c : RC) (k : Nat) (p : List UInt8) (w : World) (h : Rd w R c k) (hk : k ≤ c.l.length) (hl : c.l.length ≤ 100000) :
    Calls Tryd.prog 34 #[.pointer (some ⟨R, 0, none⟩), .string ⟨p.toArray⟩] w fun e w' => e = .returned (.bool (Lib.hasPrefix (c.l.drop k) p)) ∧ Rd w' R c (if Lib.hasPrefix (c.l.drop k) p then k + p.length else k) ∧ Turned (fun b => b = R) w w' := by
  have hh := has11_any R c k p w h hk hl
  have hpl : Lib.hasPrefix (c.l.drop k) p = true → k + p.length ≤ c.l.length := by
    intro e
    have := (List.isPrefixOf_iff_prefix.1 e).length_le
    rw [List.length_drop] at this
    omega
  cases hq : Lib.hasPrefix (c.l.drop k) p
  · rw [hq] at hh
    rw [if_neg (by decide)]
    replace hh := Lib.hid hh
    replace hq := Lib.hid hq
    replace h := Lib.hid h
    clear hpl
    go_enter Tryd.func34, Tryd.ntmps34
    go_wp2_with fail
    refine hh.out.mono ?_; rintro e w' ⟨rfl, n, rfl⟩
    go_wp2_with fail
    go_ret
    exact ⟨rfl, h.out.drawn ⟨n, rfl⟩, Turned.of_below (Drawn.below ⟨n, rfl⟩ _)⟩
  · rw [hq] at hh
    rw [if_pos rfl]
    have hpl := hpl hq
    replace hh := Lib.hid hh
    replace hq := Lib.hid hq
    go_enter Tryd.func34, Tryd.ntmps34
    go_wp2_with fail
    refine hh.out.mono ?_; rintro e w' ⟨rfl, n, rfl⟩
    have h' := h.drawn (drawn_drewN w n)
    have c1 := h'.c1
    have f1 := h'.fz 1
    replace h' := Lib.hid h'
    replace h := Lib.hid h
    go_wp2_with fail
    go_ret
    exact ⟨rfl, h'.out.move _ (by omega), (Turned.of_below (Drawn.below ⟨n, rfl⟩ _)).trans (turned_setCell _ _ _) fun _ _ e => e⟩

set_option maxHeartbeats 1000000 in
theorem blanks11_any (R : Nat) (c : RC) (k : Nat) (w : World) (h : Rd w R c k) (hk : k ≤ c.l.length) (hl : c.l.length ≤ 100000) :
    Calls Tryd.prog 35 #[.pointer (some ⟨R, 0, none⟩)] w fun e w' => e = .returned (.bool (decide (0 < spanN blI (c.l.drop k)))) ∧ Rd w' R c (k + spanN blI (c.l.drop k)) ∧ Turned (fun b => b = R) w w' := by
  have c1 := h.c1
  have hst : Hid (Rd w R c k) := h
  clear h
  go_enter Tryd.func35, Tryd.ntmps35
  go_wp2_with fail
  go_loopw [] (fun wr => ∃ m : Nat, k ≤ m ∧ m ≤ c.l.length ∧ Hid (SpAtN blI (c.l.drop k) (m - k)) ∧ Hid (Rd wr R c m) ∧ Hid (Turned (fun b => b = R) w wr)) (fun wr => c.l.length - (intOf ((wr.cell? ⟨R, 1, none⟩).getD undef)).toNat)
  case atStart => exact ⟨k, Nat.le_refl _, hk, by rw [Nat.sub_self]; exact SpAtN.zero _ _, hst.out, Turned.refl _ _⟩
  case round =>
    clear c1 hst
    obtain ⟨m, hkm, hm, hsp, hr, ht⟩ := hrel
    have c0 := hr.out.c0
    have c1 := hr.out.c1
    have f1 := hr.out.fz 1
    have hdl : (c.l.drop k).length = c.l.length - k := List.length_drop
    have hbt : bt (c.l.drop k) (m - k) = bt c.l m := by rw [bt_drop]; congr 1; omega
    replace hdl := Lib.hid hdl
    replace hbt := Lib.hid hbt
    by_cases hlt : m < c.l.length
    · have hlt1 : (m : Int) < c.l.length := by omega
      have hbl := fun W : World => blank11_any (bt c.l m) W
      cases hb : blI (bt c.l m)
      · have hend : Hid (spanN blI (c.l.drop k) = m - k) := hsp.out.stop (by rw [hdl.out]; omega) (by rw [hbt.out]; exact hb)
        rw [hb] at hbl
        replace hbl := Lib.hid hbl
        replace hb := Lib.hid hb
        go_wp2_with fail
        go_quiet ((go_at_call 47; exact Calls.drawn_at (hbl.out _)))
        go_wp2_with fail
        go_ret
        refine ⟨ret_bool ?_, ?_, ht.out.trans (Turned.of_below (Drawn.below ⟨_, rfl⟩ _) : Turned (fun b => b = R) _ _) fun _ _ e => e⟩
        · rw [hend.out, Bool.eq_iff_iff]; simp only [decide_eq_true_eq]; omega
        · rw [hend.out, show k + (m - k) = m by omega]; exact hr.out.drawn ⟨_, rfl⟩
      · have hnx : Hid (SpAtN blI (c.l.drop k) (m + 1 - k)) := by
          have := hsp.out.step (by rw [hdl.out]; omega) (by rw [hbt.out]; exact hb)
          rw [show m - k + 1 = m + 1 - k by omega] at this
          exact this
        rw [hb] at hbl
        replace hbl := Lib.hid hbl
        replace hb := Lib.hid hb
        go_wp2_with fail
        go_quiet ((go_at_call 47; exact Calls.drawn_at (hbl.out _)))
        go_wp2_with fail
        have hmv := (hr.out.drawn (drawn_drewN wr nq)).move (m + 1) (x := (m : Int) + 1) (by omega)
        refine ⟨⟨m + 1, by omega, by omega, hnx, hmv, (ht.out.trans (Turned.of_below (Drawn.below ⟨_, rfl⟩ _) : Turned (fun b => b = R) wr (wr.drewN nq)) fun _ _ e => e).trans (turned_setCell _ _ _) fun _ _ e => e⟩, ?_⟩
        rw [c1, hmv.c1]
        simp [intOf]; omega
    · have hlt1 : decide ((m : Int) < c.l.length) = false := by rw [decide_eq_false_iff_not]; omega
      have hend : Hid (spanN blI (c.l.drop k) = m - k) := hsp.out.done (by rw [hdl.out]; omega)
      go_wp2_with fail
      go_quiet (fail)
      go_wp2_with fail
      go_ret
      refine ⟨ret_bool ?_, ?_, ht.out.trans (Turned.of_below (Drawn.below ⟨_, rfl⟩ _) : Turned (fun b => b = R) _ _) fun _ _ e => e⟩
      · rw [hend.out, Bool.eq_iff_iff]; simp only [decide_eq_true_eq]; omega
      · rw [hend.out, show k + (m - k) = m by omega]; exact hr.out.drawn ⟨_, rfl⟩
end Go.Proofs.YtldnigkaagcciaaDoor
