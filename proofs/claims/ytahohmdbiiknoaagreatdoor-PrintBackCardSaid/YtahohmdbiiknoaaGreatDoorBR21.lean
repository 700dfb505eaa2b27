/- Tokens that the call itself made, with their attributes; the last of a slice of texts. -/
import Derived.Test.YtahohmdbiiknoaaGreatDoorBR07
import Derived.Test.YtahohmdbiiknoaaGreatDoorBR05
import Derived.Deep.RegionHeld3
import Derived.Test.YtahohmdbiiknoaaGreatDoorBR11
namespace Go.Proofs.YtahohmdbiiknoaaGreatDoor
open Go.RowKit

/-- Two changes of the reader's place, one behind the other. -/
theorem turned2 {R : Nat} {w w1 w2 : World} (h : Turned (fun b => b = R) w w1) (h2 : Turned (fun b => b = R) w1 w2) : Turned (fun b => b = R) w w2 := h.trans h2 fun _ _ e => e
theorem turned_drawn {R : Nat} {w w1 : World} (h : Drawn w w1) : Turned (fun b => b = R) w w1 := Turned.of_below (h.below _)
theorem info_attr : (Tryz.prog.info? 112).map (fun i => (i.zero, i.size, i.bytes)) = some (some (.agg #[.string ⟨#[]⟩, .string ⟨#[]⟩]), 2, 32) := by kernel_rfl
def tkV (p : Tk × Value) : List Value := [.int .i64 p.1.kind, strV p.1.name, p.2, strV p.1.text]
def cellsK (P : List (Tk × Value)) : List Value := P.flatMap tkV
theorem cellsK_len (P : List (Tk × Value)) : (cellsK P).length = P.length * 4 := by
  induction P with
  | nil => rfl
  | cons x t ih => simp [cellsK, tkV] at ih ⊢; omega
theorem cellsK_app (l m : List (Tk × Value)) : cellsK (l ++ m) = cellsK l ++ cellsK m := by simp [cellsK]
/-- A slice of tokens that the call itself made: P tells each one, with its attributes' slice. -/
structure Tks (w : World) (B : Nat) (v : Value) (P : List (Tk × Value)) : Prop where
  row : w.ownsRow B 65 4 v P.length (cellsK P)
  ats : ∀ p ∈ P, Ats w B p.2 p.1.attrs
theorem tks_nil (w : World) (B : Nat) : Tks w B (.slice none 0 0) [] := ⟨World.ownsRow_nil _ _ _ _, fun p h => by simp at h⟩
theorem Tks.turned {S : Nat → Prop} {w w' : World} {B : Nat} {v : Value} {P : List (Tk × Value)} (h : Tks w B v P) (ht : Turned S w w') (h1 : ∀ k, v.ownBlock = some k → ¬ S k) (h2 : ∀ p ∈ P, ∀ k, p.2.ownBlock = some k → ¬ S k) : Tks w' B v P :=
  ⟨ownsRow_turned h.row ht h1, fun p hp => ownsRow_turned (h.ats p hp) ht (h2 p hp)⟩
theorem Tks.below {w w' : World} {B : Nat} {v : Value} {P : List (Tk × Value)} (h : Tks w B v P) (hb : Below w.heap.size w w') : Tks w' B v P :=
  h.turned (S := fun _ => False) (Turned.of_below hb) (fun _ _ h => h) fun _ _ _ _ h => h
theorem info_tok : (Tryz.prog.info? 65).map (fun i => (i.zero, i.size, i.bytes)) = some (some (.agg #[.int .i64 0, .string ⟨#[]⟩, .slice none 0 0, .string ⟨#[]⟩]), 4, 64) := by kernel_rfl
/-- The last of the open elements, and the others. -/
theorem opn_last {w : World} {B : Nat} {v : Value} {op : List (List UInt8)} {nm : List UInt8} (h : Strs w B v (op ++ [nm])) : ∃ g cap, v = .slice (some ⟨g, 0, none⟩) (op.length + 1) cap ∧ op.length + 1 ≤ cap ∧ g < w.heap.size ∧ w.cell? ⟨g, op.length, none⟩ = some (.string ⟨nm.toArray⟩) ∧
    v.ownBlock = some g ∧ Strs w B (.slice (some ⟨g, 0, none⟩) op.length cap) op := by
  have hlt := World.ownsRow.lt h
  have hlen : (op ++ [nm]).length = op.length + 1 := by simp
  have hcs := fun g hv => World.ownsRow.cells h (g := g) hv
  rcases h.2 with ⟨_, hn⟩ | ⟨g, cap, cur, hv, hb, hg, h1, h2, h3, h4⟩
  · rw [hlen] at hn; omega
  · have hob : v.ownBlock = some g := by rw [hv]; rfl
    rw [hlen] at hv h1
    refine ⟨g, cap, hv, h1, (hlt g hob).2, ?_, hob, ⟨by simp, Or.inr ⟨g, cap, cur, rfl, hb, hg, by omega, h2, h3, ?_⟩⟩⟩
    · have := hcs g hob op.length (strV nm) (by simp)
      have hadd : (⟨g, 0, none⟩ : Addr).add op.length = ⟨g, op.length, none⟩ := by unfold Addr.add; split <;> simp_all
      rw [hadd] at this
      exact this
    · rw [hlen] at h4
      have : (cur.toList.take ((op.length + 1) * 1)).take (op.length * 1) = ((op ++ [nm]).map strV).take (op.length * 1) := by rw [h4]
      rw [List.take_take, Nat.min_eq_left (by omega)] at this
      rw [this, Nat.mul_one, List.map_append, List.take_left' (by simp)]
end Go.Proofs.YtahohmdbiiknoaaGreatDoor

/- The reference of layer 11: bytes of names, Name; its reader in memory; has, blanks, name. -/
namespace Go.Proofs.YtahohmdbiiknoaaGreatDoor
open Go.RowKit

theorem rfirst_any (c : Int) (w : World) : Calls Tryz.prog 50 #[.int .u8 c] w fun e w' => e = .returned (.bool (leadI c)) ∧ w = w' := by
  go_enter Tryz.func50, Tryz.ntmps50
  go_wp2_with fail
  all_goals go_ret
  all_goals refine ⟨ret_bool ?_, rfl⟩
  all_goals unfold leadI
  all_goals rw [Bool.eq_iff_iff]
  all_goals simp only [Bool.or_eq_true, decide_eq_true_eq, beq_iff_eq, true_iff]
  all_goals first | omega | simp
theorem rmore_any (c : Int) (w : World) : Calls Tryz.prog 85 #[.int .u8 c] w fun e w' => e = .returned (.bool (follI c)) ∧ w = w' := by
  have h := fun W : World => rfirst_any c W
  unfold follI
  cases hq : leadI c
  all_goals
    rw [hq] at h
    replace h := Lib.hid h
    replace hq := Lib.hid hq
    go_enter Tryz.func85, Tryz.ntmps85
    go_wp2_with fail
    refine (h.out _).mono ?_; rintro e w' ⟨rfl, rfl⟩
    go_wp2_with fail
    all_goals go_ret
    all_goals refine ⟨ret_bool ?_, rfl⟩
    all_goals rw [Bool.eq_iff_iff]
    all_goals simp only [Bool.or_eq_true, Bool.and_eq_true, decide_eq_true_eq, beq_iff_eq, Bool.false_eq_true, false_or, Bool.true_or]
    all_goals try first | omega | simp
theorem rblank_any (c : Int) (w : World) : Calls Tryz.prog 33 #[.int .u8 c] w fun e w' => e = .returned (.bool (blI c)) ∧ w = w' := by
  go_enter Tryz.func33, Tryz.ntmps33
  go_wp2_with fail
  all_goals go_ret
  all_goals refine ⟨ret_bool ?_, rfl⟩
  all_goals unfold blI
  all_goals rw [Bool.eq_iff_iff]
  all_goals simp only [Bool.or_eq_true, decide_eq_true_eq, beq_iff_eq, true_iff]
  all_goals first | omega | simp

set_option maxHeartbeats 400000 in
theorem rname_any (s : List UInt8) (w : World) : Calls Tryz.prog 86 #[.string ⟨s.toArray⟩] w fun e w' => e = .returned (.bool (nameB s)) ∧ w = w' := by
  by_cases h0 : s.length = 0
  · have hn : nameB s = false := by unfold nameB; simp [h0]
    have he : s.isEmpty = true := by cases s <;> simp_all
    rw [hn]
    replace hn := Lib.hid hn
    replace h0 := Lib.hid h0
    go_enter Tryz.func86, Tryz.ntmps86
    go_wp2_with fail
    go_ret
    exact ⟨rfl, rfl⟩
  have he : s.isEmpty = false := by cases s <;> simp_all
  have hp : 0 < s.length := by omega
  by_cases h1 : 64 < s.length
  · have hn : nameB s = false := by unfold nameB; rw [decide_eq_false (by omega)]; rfl
    rw [hn]
    replace hn := Lib.hid hn
    replace h0 := Lib.hid h0
    go_enter Tryz.func86, Tryz.ntmps86
    go_wp2_with fail
    go_ret
    exact ⟨rfl, rfl⟩
  have hd : decide (1 ≤ s.length ∧ s.length ≤ 64) = true := by rw [decide_eq_true_eq]; omega
  have hl := fun W : World => rfirst_any (bt s 0) W
  have hn : nameB s = (leadI (bt s 0) && s.all fun c => follI c.toNat) := by unfold nameB; rw [hd]; simp
  rw [hn]
  replace h0 := Lib.hid h0
  clear hd hn
  cases hq : leadI (bt s 0)
  · rw [hq] at hl
    replace hl := Lib.hid hl
    replace hq := Lib.hid hq
    go_enter Tryz.func86, Tryz.ntmps86
    go_wp2_with fail
    refine (hl.out _).mono ?_; rintro e w' ⟨rfl, rfl⟩
    go_wp2_with fail
    go_ret
    exact ⟨rfl, rfl⟩
  · rw [hq] at hl
    replace hl := Lib.hid hl
    replace hq := Lib.hid hq
    rw [Bool.true_and]
    go_enter Tryz.func86, Tryz.ntmps86
    go_wp2_with fail
    refine (hl.out _).mono ?_; rintro e w' ⟨rfl, rfl⟩
    clear hl
    go_wp2_with fail
    go_loop [3] (fun i => ∃ k : Nat, i = .int .i64 k ∧ k ≤ s.length ∧ Hid (∀ j, j < k → follI (bt s j) = true)) (fun i => s.length - (intOf i).toNat)
    case atStart => exact ⟨0, rfl, Nat.zero_le _, fun j hj => by omega⟩
    case round =>
      obtain ⟨k, rfl, hk, hall⟩ := hrel
      by_cases hlt : k < s.length
      · have hf := fun W : World => rmore_any (bt s k) W
        cases hc : follI (bt s k)
        · have hend : Hid ((s.all fun c => follI c.toNat) = false) := by
            show _ = _
            rw [Bool.eq_false_iff]
            intro ha
            have := (all_bt follI s).1 ha k hlt
            rw [hc] at this; cases this
          rw [hc] at hf
          replace hf := Lib.hid hf
          replace hc := Lib.hid hc
          go_wp2_with fail
          refine (hf.out _).mono ?_; rintro e w' ⟨rfl, rfl⟩
          go_wp2_with fail
          go_ret
          exact ⟨ret_bool hend.out.symm, rfl⟩
        · rw [hc] at hf
          replace hf := Lib.hid hf
          replace hc := Lib.hid hc
          go_wp2_with fail
          refine (hf.out _).mono ?_; rintro e w' ⟨rfl, rfl⟩
          go_wp2_with fail
          exact ⟨⟨k + 1, by go_num, by omega, fun j hj => by
            by_cases e : j = k
            · subst e; exact hc.out
            · exact hall.out j (by omega)⟩, by simp [intOf]; omega⟩
      · have hend : Hid ((s.all fun c => follI c.toNat) = true) := (all_bt follI s).2 fun j hj => hall.out j (by omega)
        have hlt2 : ¬ ((k : Int) < s.length) := by omega
        clear hall
        go_wp2_with fail
        go_ret
        exact ⟨ret_bool hend.out.symm, rfl⟩

/-- The reference's reader: its cells, but for its place. -/
structure SC where
  l : List UInt8
  dep : Int
  vO : Value
  tx : List UInt8
  vK : Value
  rt : Bool
def SC.cells (c : SC) (k : Nat) : List Value := [.string ⟨c.l.toArray⟩, .int .i64 k, .int .i64 c.dep, c.vO, .string ⟨c.tx.toArray⟩, c.vK, .bool c.rt]
/-- It in memory, at a place. -/
def Sn (w : World) (R : Nat) (c : SC) (k : Nat) : Prop := ArrAt w R 62 (c.cells k)
section
variable {w w' : World} {R : Nat} {c : SC} {k : Nat}
theorem Sn.c0 (h : Sn w R c k) : w.cell? ⟨R, 0, none⟩ = some (.string ⟨c.l.toArray⟩) := by rw [ArrAt.cell h]; rfl
theorem Sn.c1 (h : Sn w R c k) : w.cell? ⟨R, 1, none⟩ = some (.int .i64 k) := by rw [ArrAt.cell h]; rfl
theorem Sn.c2 (h : Sn w R c k) : w.cell? ⟨R, 2, none⟩ = some (.int .i64 c.dep) := by rw [ArrAt.cell h]; rfl
theorem Sn.c3 (h : Sn w R c k) : w.cell? ⟨R, 3, none⟩ = some c.vO := by rw [ArrAt.cell h]; rfl
theorem Sn.c4 (h : Sn w R c k) : w.cell? ⟨R, 4, none⟩ = some (.string ⟨c.tx.toArray⟩) := by rw [ArrAt.cell h]; rfl
theorem Sn.c5 (h : Sn w R c k) : w.cell? ⟨R, 5, none⟩ = some c.vK := by rw [ArrAt.cell h]; rfl
theorem Sn.c6 (h : Sn w R c k) : w.cell? ⟨R, 6, none⟩ = some (.bool c.rt) := by rw [ArrAt.cell h]; rfl
theorem Sn.fz (h : Sn w R c k) (i : Nat) : w.frozen? ⟨R, i, none⟩ = false := ArrAt.soft h i
theorem Sn.lt (h : Sn w R c k) : R < w.heap.size := ArrAt.lt h
theorem Sn.turned {S : Nat → Prop} (h : Sn w R c k) (ht : Turned S w w') (hS : ¬ S R) : Sn w' R c k := ArrAt.turned h ht hS
theorem Sn.below (h : Sn w R c k) (hb : Below w.heap.size w w') : Sn w' R c k := h.turned (S := fun _ => False) (Turned.of_below hb) fun h => h
theorem Sn.drawn (h : Sn w R c k) (hd : Drawn w w') : Sn w' R c k := h.below (hd.below _)
theorem Sn.move (h : Sn w R c k) (k' : Nat) {x : Int} (e : x = k') : Sn (w.setCell ⟨R, 1, none⟩ (.int .i64 x)) R c k' := by subst e; exact ArrAt.set h 1 _
end
theorem take_beq {d p : List UInt8} : (d.take p.length == p) = Lib.hasPrefix d p := by
  rw [Bool.eq_iff_iff, beq_iff_eq]
  refine ⟨fun h => List.isPrefixOf_iff_prefix.2 (List.prefix_iff_eq_take.2 h.symm), fun h => (List.prefix_iff_eq_take.1 (List.isPrefixOf_iff_prefix.1 h)).symm⟩

set_option maxHeartbeats 400000 in
theorem rhas_any (R : Nat) (c : SC) (k : Nat) (p : List UInt8) (w : World) (h : Sn w R c k) (hk : k ≤ c.l.length) (_hl : c.l.length ≤ 100000) (hp : p.length ≤ 100) :
    Calls Tryz.prog 32 #[.pointer (some ⟨R, 0, none⟩), .string ⟨p.toArray⟩] w fun e w' => e = .returned (.bool (Lib.hasPrefix (c.l.drop k) p)) ∧ Drawn w w' := by
  have c0 := h.c0
  have c1 := h.c1
  replace h := Lib.hid h
  by_cases hlen : k + p.length ≤ c.l.length
  · have hle : (p.length : Int) ≤ (c.l.length : Int) - k := by omega
    have hcmp : (((c.l.take (k + p.length)).drop k) == p) = Lib.hasPrefix (c.l.drop k) p := by
      rw [List.drop_take, show k + p.length - k = p.length by omega, take_beq]
    generalize Lib.hasPrefix (c.l.drop k) p = b at hcmp
    cases b
    all_goals
      go_enter Tryz.func32, Tryz.ntmps32
      go_wp2_with fail
      go_quiet (fail)
      go_wp2_with fail
      go_ret
      exact ⟨rfl, ⟨_, rfl⟩⟩
  · have hle : decide ((p.length : Int) ≤ (c.l.length : Int) - k) = false := by rw [decide_eq_false_iff_not]; omega
    have hf : Lib.hasPrefix (c.l.drop k) p = false := by
      rw [Bool.eq_false_iff]; intro e
      have := prefix_len e
      rw [List.length_drop] at this
      omega
    rw [hf]
    replace hf := Lib.hid hf
    go_enter Tryz.func32, Tryz.ntmps32
    go_wp2_with fail
    go_quiet (fail)
    go_wp2_with fail
    go_ret
    exact ⟨rfl, ⟨_, rfl⟩⟩

set_option maxHeartbeats 1000000 in
theorem rblanks_any (R : Nat) (c : SC) (k : Nat) (w : World) (h : Sn w R c k) (hk : k ≤ c.l.length) (hl : c.l.length ≤ 100000) :
    Calls Tryz.prog 53 #[.pointer (some ⟨R, 0, none⟩)] w fun e w' => e = .returned (.int .i64 (spanN blI (c.l.drop k))) ∧ Sn w' R c (k + spanN blI (c.l.drop k)) ∧ Turned (fun b => b = R) w w' := by
  have c1 := h.c1
  have hst : Hid (Sn w R c k) := h
  clear h
  go_enter Tryz.func53, Tryz.ntmps53
  go_wp2_with fail
  go_loopw [3] (fun i wr => ∃ m : Nat, k ≤ m ∧ m ≤ c.l.length ∧ i = .int .i64 ((m - k : Nat) : Int) ∧ Hid (SpAtN blI (c.l.drop k) (m - k)) ∧ Hid (Sn wr R c m) ∧ Hid (Turned (fun b => b = R) w wr)) (fun i wr => c.l.length - (intOf ((wr.cell? ⟨R, 1, none⟩).getD undef)).toNat)
  case atStart => exact ⟨k, Nat.le_refl _, hk, by simp, by rw [Nat.sub_self]; exact SpAtN.zero _ _, hst.out, Turned.refl _ _⟩
  case round =>
    clear c1 hst
    obtain ⟨m, hkm, hm, rfl, hsp, hr, ht⟩ := hrel
    have c0 := hr.out.c0
    have c1 := hr.out.c1
    have f1 := hr.out.fz 1
    have hdl : (c.l.drop k).length = c.l.length - k := List.length_drop
    have hbt : bt (c.l.drop k) (m - k) = bt c.l m := by rw [bt_drop]; congr 1; omega
    replace hdl := Lib.hid hdl
    replace hbt := Lib.hid hbt
    obtain ⟨n, hn⟩ : ∃ n, m - k = n := ⟨_, rfl⟩
    rw [hn]
    have hnm : m = k + n := by omega
    replace hn := Lib.hid hn
    by_cases hlt : m < c.l.length
    · have hlt1 : (m : Int) < c.l.length := by omega
      have hbl := fun W : World => rblank_any (bt c.l m) W
      cases hb : blI (bt c.l m)
      · have hend : Hid (spanN blI (c.l.drop k) = n) := by rw [← hn.out]; exact hsp.out.stop (by rw [hdl.out]; omega) (by rw [hbt.out]; exact hb)
        rw [hb] at hbl
        replace hbl := Lib.hid hbl
        replace hb := Lib.hid hb
        replace hnm := Lib.hid hnm
        go_wp2_with fail
        go_quiet ((go_at_call 33; exact Calls.drawn_at (hbl.out _)))
        go_wp2_with fail
        go_ret
        refine ⟨by rw [hend.out]; rfl, ?_, ht.out.trans (Turned.of_below (Drawn.below ⟨_, rfl⟩ _) : Turned (fun b => b = R) _ _) fun _ _ e => e⟩
        rw [hend.out, ← hnm.out]; exact hr.out.drawn ⟨_, rfl⟩
      · have hnx : Hid (SpAtN blI (c.l.drop k) (m + 1 - k)) := by
          have := hsp.out.step (by rw [hdl.out]; omega) (by rw [hbt.out]; exact hb)
          rw [show m - k + 1 = m + 1 - k by omega] at this
          exact this
        rw [hb] at hbl
        replace hbl := Lib.hid hbl
        replace hb := Lib.hid hb
        replace hnm := Lib.hid hnm
        have hnb : n ≤ 100000 := by have := hn.out; omega
        go_wp2_with fail
        go_quiet ((go_at_call 33; exact Calls.drawn_at (hbl.out _)))
        go_wp2_with fail
        have hmv := (hr.out.drawn (drawn_drewN wr nq)).move (m + 1) (x := (m : Int) + 1) (by omega)
        refine ⟨⟨m + 1, by omega, by omega, by have := hnm.out; subst this; rw [show k + n + 1 - k = n + 1 by omega]; go_num, hnx, hmv, (ht.out.trans (Turned.of_below (Drawn.below ⟨_, rfl⟩ _) : Turned (fun b => b = R) wr (wr.drewN nq)) fun _ _ e => e).trans (turned_setCell _ _ _) fun _ _ e => e⟩, ?_⟩
        rw [c1, hmv.c1]
        simp [intOf]; omega
    · have hlt1 : decide ((m : Int) < c.l.length) = false := by rw [decide_eq_false_iff_not]; omega
      have hend : Hid (spanN blI (c.l.drop k) = n) := by rw [← hn.out]; exact hsp.out.done (by rw [hdl.out]; omega)
      replace hnm := Lib.hid hnm
      go_wp2_with fail
      go_quiet (fail)
      go_wp2_with fail
      go_ret
      refine ⟨by rw [hend.out]; rfl, ?_, ht.out.trans (Turned.of_below (Drawn.below ⟨_, rfl⟩ _) : Turned (fun b => b = R) _ _) fun _ _ e => e⟩
      rw [hend.out, ← hnm.out]; exact hr.out.drawn ⟨_, rfl⟩

set_option maxHeartbeats 1000000 in
theorem rnamem_any (R : Nat) (c : SC) (k : Nat) (w : World) (h : Sn w R c k) (hk : k ≤ c.l.length) (hl : c.l.length ≤ 100000) :
    Calls Tryz.prog 67 #[.pointer (some ⟨R, 0, none⟩)] w fun e w' => e = .returned (.tuple #[.string ⟨((c.l.drop k).take (spanN follI (c.l.drop k))).toArray⟩, .bool (nameB ((c.l.drop k).take (spanN follI (c.l.drop k))))]) ∧ Sn w' R c (k + spanN follI (c.l.drop k)) ∧ Turned (fun b => b = R) w w' := by
  have c1 := h.c1
  have c0 := h.c0
  have f1 := h.fz 1
  have hst : Hid (Sn w R c k) := h
  clear h
  go_enter Tryz.func67, Tryz.ntmps67
  go_wp2_with fail
  go_loopw [4] (fun i wr => ∃ m : Nat, i = .int .i64 m ∧ k ≤ m ∧ m ≤ c.l.length ∧ Hid (SpAtN follI (c.l.drop k) (m - k)) ∧ Drawn w wr) (fun i _ => c.l.length - (intOf i).toNat)
  case atStart => exact ⟨k, rfl, Nat.le_refl _, hk, by rw [Nat.sub_self]; exact SpAtN.zero _ _, Drawn.refl _⟩
  case round =>
    obtain ⟨m, rfl, hkm, hm, hsp, n0, rfl⟩ := hrel
    have hdl : (c.l.drop k).length = c.l.length - k := List.length_drop
    have hbt : bt (c.l.drop k) (m - k) = bt c.l m := by rw [bt_drop]; congr 1; omega
    replace hdl := Lib.hid hdl
    replace hbt := Lib.hid hbt
    by_cases hlt : m < c.l.length
    · have hlt1 : (m : Int) < c.l.length := by omega
      have hf := fun W : World => rmore_any (bt c.l m) W
      cases hb : follI (bt c.l m)
      · have hend : Hid (spanN follI (c.l.drop k) = m - k) := hsp.out.stop (by rw [hdl.out]; omega) (by rw [hbt.out]; exact hb)
        rw [hb] at hf
        replace hf := Lib.hid hf
        replace hb := Lib.hid hb
        go_wp2_with fail
        refine (hf.out _).mono ?_; rintro e w' ⟨rfl, rfl⟩
        go_wp2_with fail
        go_quiet (fail)
        have hR := fun n : Nat => (hst.out.drawn (drawn_drewN w n)).move (k + (m - k)) (x := (m : Int)) (by omega)
        replace hR := Lib.hid hR
        go_wp2_with fail
        refine (rname_any _ _).mono ?_; rintro e w' ⟨rfl, rfl⟩
        have hx : (c.l.take m).drop k = (c.l.drop k).take (spanN follI (c.l.drop k)) := by rw [hend.out, List.drop_take]
        replace hx := Lib.hid hx
        go_wp2_with fail
        go_ret2
        refine ⟨by rw [← hx.out]; rfl, by rw [hend.out]; simpa using hR.out _, (Turned.of_below (Drawn.below ⟨n0 + nq, by simp⟩ _)).trans (turned_setCell _ _ _) fun _ _ e => e⟩
      · have hnx : Hid (SpAtN follI (c.l.drop k) (m + 1 - k)) := by
          have := hsp.out.step (by rw [hdl.out]; omega) (by rw [hbt.out]; exact hb)
          rw [show m - k + 1 = m + 1 - k by omega] at this
          exact this
        rw [hb] at hf
        replace hf := Lib.hid hf
        replace hb := Lib.hid hb
        go_wp2_with fail
        refine (hf.out _).mono ?_; rintro e w' ⟨rfl, rfl⟩
        go_wp2_with fail
        exact ⟨⟨m + 1, by go_num, by omega, by omega, hnx, ⟨_, rfl⟩⟩, by simp [intOf]; omega⟩
    · have hlt1 : ¬ ((m : Int) < c.l.length) := by omega
      have hend : Hid (spanN follI (c.l.drop k) = m - k) := hsp.out.done (by rw [hdl.out]; omega)
      go_wp2_with fail
      go_quiet (fail)
      have hR := fun n : Nat => (hst.out.drawn (drawn_drewN w n)).move (k + (m - k)) (x := (m : Int)) (by omega)
      replace hR := Lib.hid hR
      go_wp2_with fail
      refine (rname_any _ _).mono ?_; rintro e w' ⟨rfl, rfl⟩
      have hx : (c.l.take m).drop k = (c.l.drop k).take (spanN follI (c.l.drop k)) := by rw [hend.out, List.drop_take]
      replace hx := Lib.hid hx
      go_wp2_with fail
      go_ret2
      refine ⟨by rw [← hx.out]; rfl, by rw [hend.out]; simpa using hR.out _, (Turned.of_below (Drawn.below ⟨n0 + nq, by simp⟩ _)).trans (turned_setCell _ _ _) fun _ _ e => e⟩
end Go.Proofs.YtahohmdbiiknoaaGreatDoor

/- The reference of layer 11: until, named. -/
namespace Go.Proofs.YtahohmdbiiknoaaGreatDoor
open Go.RowKit

/-- The reader, and that nothing else has changed since w0. -/
def Sf (w0 w : World) (R : Nat) (c : SC) (k : Nat) : Prop := Sn w R c k ∧ Turned (fun b => b = R) w0 w
section
variable {w0 w w' : World} {R : Nat} {c : SC} {k : Nat}
theorem sf_turn {k' : Nat} (h : Hid (Sf w0 w R c k)) (hs : Sf w w' R c k') : Hid (Sf w0 w' R c k') := ⟨hs.1, turned2 h.out.2 hs.2⟩
theorem sf_below (h : Hid (Sf w0 w R c k)) (hb : Below w.heap.size w w') : Hid (Sf w0 w' R c k) := sf_turn h ⟨h.out.1.below hb, Turned.of_below hb⟩
theorem sf_drew (h : Hid (Sf w0 w R c k)) : Hid (Sf w0 w.drew R c k) := sf_below h (Drawn.below (drawn_drew _) _)
theorem sf_drawn (h : Hid (Sf w0 w R c k)) (n : Nat) : Hid (Sf w0 (w.drewN n) R c k) := sf_below h (Drawn.below (drawn_drewN _ _) _)
theorem sf_on (h : Hid (Sf w0 w R c k)) (hd : Drawn w w') : Hid (Sf w0 w' R c k) := sf_below h (Drawn.below hd _)
theorem sf_keep (h : Hid (Sf w0 w R c k)) : w.cell? ⟨R, 0, none⟩ = some (.string ⟨c.l.toArray⟩) ∧ w.cell? ⟨R, 1, none⟩ = some (.int .i64 k) := ⟨h.out.1.c0, h.out.1.c1⟩
theorem sf_put (h : Hid (Sf w0 w R c k)) (k' : Nat) {x : Int} (e : x = k') : Hid (Sf w0 (w.setCell ⟨R, 1, none⟩ (.int .i64 x)) R c k') :=
  sf_turn h ⟨h.out.1.move k' e, turned_setCell w ⟨R, 1, none⟩ _⟩
theorem sf_start (h : Sn w R c k) : Hid (Sf w w R c k) := ⟨h, Turned.refl _ _⟩
theorem Sf.below (h : Sf w0 w R c k) (hR : R ≤ w0.heap.size) : Below R w0 w := h.2.below (fun i _ e => by have : i = R := e; omega) hR
end
/-- A text that was read; or none: where the reader is then is of no account. -/
def RtPost (w : World) (R : Nat) (c : SC) (k : Nat) : Option (List UInt8 × Nat) → Ending → World → Prop
  | some (x, n), e, w' => e = .returned (.tuple #[.string ⟨x.toArray⟩, .bool true]) ∧ Sf w w' R c (k + n)
  | none, e, w' => (∃ x : List UInt8, e = .returned (.tuple #[.string ⟨x.toArray⟩, .bool false]) ∧ x.length ≤ 4) ∧ ∃ k', Sf w w' R c k'
section
variable {w w' : World} {R : Nat} {c : SC} {k : Nat} {o : Option (List UInt8 × Nat)}
theorem RtPost.ok {n : Nat} {x : List UInt8} (ho : o = some (x, n)) (h : Hid (Sf w w' R c (k + n))) : RtPost w R c k o (.returned (.tuple #[.string ⟨x.toArray⟩, .bool true])) w' := by subst ho; exact ⟨rfl, h.out⟩
theorem RtPost.no {k' : Nat} (x : List UInt8) (hx : x.length ≤ 4) (ho : o = none) (h : Hid (Sf w w' R c k')) : RtPost w R c k o (.returned (.tuple #[.string ⟨x.toArray⟩, .bool false])) w' := by subst ho; exact ⟨⟨x, rfl, hx⟩, ⟨k', h.out⟩⟩
end

set_option maxHeartbeats 1000000 in
theorem runtil_any (R : Nat) (c : SC) (k : Nat) (p : List UInt8) (w : World) (h : Sn w R c k) (hk : k ≤ c.l.length) (hl : c.l.length ≤ 100000) (hp : p.length ≤ 100) :
    Calls Tryz.prog 34 #[.pointer (some ⟨R, 0, none⟩), .string ⟨p.toArray⟩] w (RtPost w R c k (untilR p (c.l.drop k))) := by
  have c1 := h.c1
  have c0 := h.c0
  have f1 := h.fz 1
  have hlt := h.lt
  have hst : Hid (Sn w R c k) := h
  clear h
  have hdl : (c.l.drop k).length = c.l.length - k := List.length_drop
  replace hdl := Lib.hid hdl
  obtain ⟨o, ho⟩ : ∃ o, untilR p (c.l.drop k) = o := ⟨_, rfl⟩
  rw [ho]
  unfold untilR at ho
  replace ho := Lib.hid ho
  go_enter Tryz.func34, Tryz.ntmps34
  go_wp2_with fail
  go_loopw [6] (fun i wr => ∃ m : Nat, i = .int .i64 m ∧ k ≤ m ∧ m ≤ c.l.length ∧ Hid (FiAt p (c.l.drop k) (m - k)) ∧ wr = w) (fun i _ => c.l.length + 1 - (intOf i).toNat)
  case atStart => exact ⟨k, rfl, Nat.le_refl _, hk, by rw [Nat.sub_self]; exact FiAt.zero _ _, rfl⟩
  case round =>
    obtain ⟨m, rfl, hkm, hm, hq, rfl⟩ := hrel
    by_cases hlen : m + p.length ≤ c.l.length
    · have hlen1 : ((m : Int) + p.length ≤ c.l.length) := by omega
      have hcmp : (((c.l.take (m + p.length)).drop m) == p) = Lib.hasPrefix (c.l.drop m) p := by
        rw [List.drop_take, show m + p.length - m = p.length by omega, take_beq]
      have hdd : (c.l.drop k).drop (m - k) = c.l.drop m := by rw [List.drop_drop]; congr 1; omega
      cases hb : Lib.hasPrefix (c.l.drop m) p
      · rw [hb] at hcmp
        have hnx : m < c.l.length → Hid (FiAt p (c.l.drop k) (m + 1 - k)) := fun hml => by
          have := hq.out.step (by rw [hdl.out]; omega) (by rw [hdd]; exact hb)
          rw [show m - k + 1 = m + 1 - k by omega] at this
          exact this
        have hml : m < c.l.length := by
          by_cases e : m < c.l.length
          · exact e
          · exfalso
            have h0 : p = [] := List.length_eq_zero_iff.1 (by omega)
            rw [h0] at hb
            simp [Lib.hasPrefix] at hb
        have hnx := hnx hml
        clear hdd
        replace hb := Lib.hid hb
        go_wp2_with fail
        exact ⟨⟨m + 1, by go_num, by omega, by omega, hnx, trivial⟩, by simp [intOf]; omega⟩
      · rw [hb] at hcmp
        have hP : Hid (o = some ((c.l.take m).drop k, m + p.length - k)) := by
          have := hq.out.hit (by rw [hdd]; exact hb)
          show o = _
          rw [← ho.out, this, Option.map_some, List.drop_take, show m - k + p.length = m + p.length - k by omega]
        clear hdd
        replace hb := Lib.hid hb
        have hfin := fun n : Nat => sf_put (sf_drawn (sf_start hst.out) n) (k + (m + p.length - k)) (x := (m : Int) + p.length) (by omega)
        go_wp2_with fail
        go_quiet (fail)
        go_wp2_with fail
        go_ret2
        exact RtPost.ok hP.out (hfin _)
    · have hlen1 : ¬ ((m : Int) + p.length ≤ c.l.length) := by omega
      have hP : Hid (o = none) := by
        have := hq.out.none (by rw [hdl.out]; omega)
        show o = _
        rw [← ho.out, this]; rfl
      go_wp2_with fail
      go_ret2
      exact RtPost.no [] (by decide) hP.out (sf_start hst.out)

set_option maxHeartbeats 1000000 in
theorem rnamed_any (R : Nat) (c : SC) (k : Nat) (w : World) (h : Sn w R c k) (hk : k < c.l.length) (h38 : bt c.l k = 38) (hl : c.l.length ≤ 100000) :
    Calls Tryz.prog 52 #[.pointer (some ⟨R, 0, none⟩)] w (RtPost w R c k (refP (c.l.drop k))) := by
  have c1 := h.c1
  have c0 := h.c0
  have hlt := h.lt
  have hways := ref_ways (c.l.drop k) (by rw [List.length_drop]; omega) (by rw [bt_drop]; exact h38)
  obtain ⟨d, hd⟩ : ∃ d, (c.l.drop k).take 13 = d := ⟨_, rfl⟩
  rw [hd] at hways
  have hdl : d.length = min 13 (c.l.length - k) := by rw [← hd, List.length_take, List.length_drop]
  have hbt : ∀ j, j < d.length → bt d j = bt c.l (k + j) := fun j hj => by
    rw [← hd]
    unfold bt
    rw [List.getD, List.getD, List.getElem?_take, if_pos (by omega), List.getElem?_drop]
  replace hbt := Lib.hid hbt
  replace h38 := Lib.hid h38
  have hst : Hid (Sn w R c k) := h
  clear h
  obtain ⟨o, ho⟩ : ∃ o, refP (c.l.drop k) = o := ⟨_, rfl⟩
  rw [ho]
  rw [ho] at hways
  replace ho := Lib.hid ho
  replace hways := Lib.hid hways
  go_enter Tryz.func52, Tryz.ntmps52
  go_wp2_with fail
  go_loopw [4] (fun i wr => ∃ m : Nat, i = .int .i64 m ∧ k ≤ m ∧ m ≤ k + d.length ∧ Hid (∀ j, j < m - k → bt d j ≠ 59) ∧ wr = w) (fun i _ => c.l.length + 1 - (intOf i).toNat)
  case atStart => exact ⟨k, rfl, Nat.le_refl _, by omega, fun j hj => by omega, rfl⟩
  case round =>
    obtain ⟨m, rfl, hkm, hm, hno, rfl⟩ := hrel
    by_cases hlt2 : m < k + d.length
    · have hml : m < c.l.length := by omega
      have hml1 : (m : Int) < c.l.length := by omega
      have h12 : (m : Int) - k ≤ 12 := by omega
      have hb := hbt.out (m - k) (by omega)
      rw [show k + (m - k) = m by omega] at hb
      replace hdl := Lib.hid hdl
      by_cases h59 : bt c.l m = 59
      · have h59' : (bt c.l m == 59) = true := by rw [h59]; rfl
        have hix : Lib.indexByte d 59 = ((m - k : Nat) : Int) := by
          exact indexByte_at d 59 (m - k) (by omega) (by rw [hb]; exact h59) fun j hj => hno.out j hj
        have hkm2 : k + 1 ≤ m := by
          by_cases e : k = m
          · subst e; have := h38.out; rw [this] at h59; cases h59
          · omega
        have hsl : ((d.take (m - k)).drop 1) = (c.l.take m).drop (k + 1) := by
          rw [← hd, List.take_take, Nat.min_eq_left (by have := hdl.out; omega), List.drop_take, List.drop_take, List.drop_drop]
          congr 1
        rcases hways.out with ⟨h1, _⟩ | ⟨n, h1, h2, h3⟩
        · rw [hix] at h1; omega
        have hn : n + 1 = m - k := by omega
        rw [hn, hsl] at h3
        have hnm := fun W : World => refnamed_any ((c.l.take m).drop (k + 1)) W (by rw [List.length_drop, List.length_take]; omega)
        generalize namedS ((c.l.take m).drop (k + 1)) = x at h3 hnm
        replace hnm := Lib.hid hnm
        clear h1 h2 hix hsl
        have h3 := Lib.hid h3
        clear hb
        replace hno := Lib.hid hno
        have hsf := sf_start hst.out
        obtain ⟨M, hM⟩ : ∃ M, (c.l.take m).drop (k + 1) = M := ⟨_, rfl⟩
        rw [hM] at hnm
        have b0 : IntKind.i64.wrap ((k : Int) + 1) = (k : Int) + 1 := by rw [IntKind.wrap_i64]; omega
        have b1 : (0 : Int) ≤ (k : Int) + 1 := by omega
        have b2 : (k : Int) + 1 ≤ m := by omega
        have b3 : (m : Int) ≤ c.l.length := by omega
        go_wp2_with fail
        have hsf' := sf_drew hsf
        go_region_held3 (fun W => W.cell? ⟨R, 0, none⟩ = some (.string ⟨c.l.toArray⟩) ∧ W.cell? ⟨R, 1, none⟩ = some (.int .i64 k)) (first | exact sf_keep (by assumption) | exact sf_keep (sf_drew (by assumption)))
          (first | (go_at_call 29; ((with_reducible refine (hnm.out _).mono ?_); rintro e w' ⟨t, rfl, ht, hb, htl⟩; have hs2 := sf_below (by first | assumption | exact sf_drew (by assumption)) hb; replace hb := Lib.hid hb; replace ht := Lib.hid ht)))
        all_goals
          have f1 := hs2.out.1.fz 1
          have hput := sf_put hs2 (m + 1) (x := (m : Int) + 1) (by omega)
          go_wp2_with fail
          go_ret2
          cases x with
          | none => exact RtPost.no t htl h3.out hput
          | some y =>
            obtain rfl := ht.out y rfl
            exact RtPost.ok (n := m + 1 - k) (by rw [h3.out]; show some (_, _) = some (_, _); congr 2; omega) (by rw [show k + (m + 1 - k) = m + 1 by omega]; exact hput)
      · have h59' : (bt c.l m == 59) = false := by rw [beq_eq_false_iff_ne]; exact h59
        have hno2 : Hid (∀ j, j < m + 1 - k → bt d j ≠ 59) := fun j hj => by
          by_cases e : j = m - k
          · subst e; rw [hb]; exact h59
          · exact hno.out j (by omega)
        clear hno hb
        go_wp2_with fail
        exact ⟨⟨m + 1, by go_num, by omega, by omega, hno2, trivial⟩, by have := hdl.out; simp [intOf]; omega⟩
    · have hmd : m = k + d.length := by omega
      have hP : Hid (o = none) := by
        rcases hways.out with ⟨_, h1⟩ | ⟨n, h1, h2, _⟩
        · exact h1
        · exfalso
          have := indexByte_not d 59 fun j hj => hno.out j (by omega)
          omega
      by_cases hend : m < c.l.length
      · have hend1 : (m : Int) < c.l.length := by omega
        have h12 : ¬ ((m : Int) - k ≤ 12) := by omega
        replace hmd := Lib.hid hmd
        replace hdl := Lib.hid hdl
        clear hno
        go_wp2_with fail
        go_ret2
        exact RtPost.no [] (by decide) hP.out (sf_start hst.out)
      · have hend1 : ¬ ((m : Int) < c.l.length) := by omega
        replace hmd := Lib.hid hmd
        replace hdl := Lib.hid hdl
        clear hno
        go_wp2_with fail
        go_ret2
        exact RtPost.no [] (by decide) hP.out (sf_start hst.out)
end Go.Proofs.YtahohmdbiiknoaaGreatDoor
