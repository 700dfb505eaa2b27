/- Tokens that the call itself made, with their attributes; the last of a slice of texts. -/
import Derived.Test.YtfmlgfeldlnlgaaGreatDoorBR02
import Derived.Test.YtfmlgfeldlnlgaaGreatDoorBR08
import Derived.Test.YtfmlgfeldlnlgaaGreatDoorBR05
import Derived.Test.YtfmlgfeldlnlgaaGreatDoorBR01
namespace Go.Proofs.YtfmlgfeldlnlgaaGreatDoor
open Go.RowKit

/-- Two changes of the reader's place, one behind the other. -/
theorem turned2 {R : Nat} {w w1 w2 : World} (h : Turned (fun b => b = R) w w1) (h2 : Turned (fun b => b = R) w1 w2) : Turned (fun b => b = R) w w2 := h.trans h2 fun _ _ e => e
theorem turned_drawn {R : Nat} {w w1 : World} (h : Drawn w w1) : Turned (fun b => b = R) w w1 := Turned.of_below (h.below _)
theorem info_attr : (Tryz.prog.info? 172).map (fun i => (i.zero, i.size, i.bytes)) = some (some (.agg #[.string ⟨#[]⟩, .string ⟨#[]⟩]), 2, 32) := by kernel_rfl
def tkV (p : Tk × Value) : List Value := [.int .i64 p.1.kind, strV p.1.name, p.2, strV p.1.text]
def cellsK (P : List (Tk × Value)) : List Value := P.flatMap tkV
theorem cellsK_len (P : List (Tk × Value)) : (cellsK P).length = P.length * 4 := by
  induction P with
  | nil => rfl
  | cons x t ih => simp [cellsK, tkV] at ih ⊢; omega
theorem cellsK_app (l m : List (Tk × Value)) : cellsK (l ++ m) = cellsK l ++ cellsK m := by simp [cellsK]
/-- A slice of tokens that the call itself made: P tells each one, with its attributes' slice. -/
structure Tks (w : World) (B : Nat) (v : Value) (P : List (Tk × Value)) : Prop where
  row : w.ownsRow B 103 4 v P.length (cellsK P)
  ats : ∀ p ∈ P, Ats w B p.2 p.1.attrs
theorem tks_nil (w : World) (B : Nat) : Tks w B (.slice none 0 0) [] := ⟨World.ownsRow_nil _ _ _ _, fun p h => by simp at h⟩
theorem Tks.turned {S : Nat → Prop} {w w' : World} {B : Nat} {v : Value} {P : List (Tk × Value)} (h : Tks w B v P) (ht : Turned S w w') (h1 : ∀ k, v.ownBlock = some k → ¬ S k) (h2 : ∀ p ∈ P, ∀ k, p.2.ownBlock = some k → ¬ S k) : Tks w' B v P :=
  ⟨ownsRow_turned h.row ht h1, fun p hp => ownsRow_turned (h.ats p hp) ht (h2 p hp)⟩
theorem Tks.below {w w' : World} {B : Nat} {v : Value} {P : List (Tk × Value)} (h : Tks w B v P) (hb : Below w.heap.size w w') : Tks w' B v P :=
  h.turned (S := fun _ => False) (Turned.of_below hb) (fun _ _ h => h) fun _ _ _ _ h => h
theorem info_tok : (Tryz.prog.info? 103).map (fun i => (i.zero, i.size, i.bytes)) = some (some (.agg #[.int .i64 0, .string ⟨#[]⟩, .slice none 0 0, .string ⟨#[]⟩]), 4, 64) := by kernel_rfl
/-- The last of the open elements, and the others. -/
theorem opn_last {w : World} {B : Nat} {v : Value} {op : List (List UInt8)} {nm : List UInt8} (h : Strs w B v (op ++ [nm])) : ∃ g cap, v = .slice (some ⟨g, 0, none⟩) (op.length + 1) cap ∧ op.length + 1 ≤ cap ∧ g < w.heap.size ∧ w.cell? ⟨g, op.length, none⟩ = some (.string ⟨nm.toArray⟩) ∧
    v.ownBlock = some g ∧ Strs w B (.slice (some ⟨g, 0, none⟩) op.length cap) op := by
  have hlt := World.ownsRow.lt h
  have hlen : (op ++ [nm]).length = op.length + 1 := by simp
  have hcs := fun g hv => World.ownsRow.cells h (g := g) hv
  rcases h.2 with ⟨_, hn⟩ | ⟨g, cap, cur, hv, hb, hg, h1, h2, h3, h4⟩
  · rw [hlen] at hn; omega
  · have hob : v.ownBlock = some g := by rw [hv]; rfl
    rw [hlen] at hv h1
    refine ⟨g, cap, hv, h1, (hlt g hob).2, ?_, hob, ⟨by simp, Or.inr ⟨g, cap, cur, rfl, hb, hg, by omega, h2, h3, ?_⟩⟩⟩
    · have := hcs g hob op.length (strV nm) (by simp)
      have hadd : (⟨g, 0, none⟩ : Addr).add op.length = ⟨g, op.length, none⟩ := by unfold Addr.add; split <;> simp_all
      rw [hadd] at this
      exact this
    · rw [hlen] at h4
      have : (cur.toList.take ((op.length + 1) * 1)).take (op.length * 1) = ((op ++ [nm]).map strV).take (op.length * 1) := by rw [h4]
      rw [List.take_take, Nat.min_eq_left (by omega)] at this
      rw [this, Nat.mul_one, List.map_append, List.take_left' (by simp)]
end Go.Proofs.YtfmlgfeldlnlgaaGreatDoor

/- The reference of layer 11: bytes of names, Name; its reader in memory; has, blanks, name. -/
namespace Go.Proofs.YtfmlgfeldlnlgaaGreatDoor
open Go.RowKit

theorem rfirst_any (c : Int) (w : World) : Calls Tryz.prog 88 #[.int .u8 c] w fun e w' => e = .returned (.bool (leadI c)) ∧ w = w' := by
  go_enter Tryz.func88, Tryz.ntmps88
  go_wp2_with fail
  all_goals go_ret
  all_goals refine ⟨ret_bool ?_, rfl⟩
  all_goals unfold leadI
  all_goals rw [Bool.eq_iff_iff]
  all_goals simp only [Bool.or_eq_true, decide_eq_true_eq, beq_iff_eq, true_iff]
  all_goals first | omega | simp
theorem rmore_any (c : Int) (w : World) : Calls Tryz.prog 128 #[.int .u8 c] w fun e w' => e = .returned (.bool (follI c)) ∧ w = w' := by
  have h := fun W : World => rfirst_any c W
  unfold follI
  cases hq : leadI c
  all_goals
    rw [hq] at h
    replace h := Lib.hid h
    replace hq := Lib.hid hq
    go_enter Tryz.func128, Tryz.ntmps128
    go_wp2_with fail
    refine (h.out _).mono ?_; rintro e w' ⟨rfl, rfl⟩
    go_wp2_with fail
    all_goals go_ret
    all_goals refine ⟨ret_bool ?_, rfl⟩
    all_goals rw [Bool.eq_iff_iff]
    all_goals simp only [Bool.or_eq_true, Bool.and_eq_true, decide_eq_true_eq, beq_iff_eq, Bool.false_eq_true, false_or, Bool.true_or]
    all_goals try first | omega | simp
theorem rblank_any (c : Int) (w : World) : Calls Tryz.prog 49 #[.int .u8 c] w fun e w' => e = .returned (.bool (blI c)) ∧ w = w' := by
  go_enter Tryz.func49, Tryz.ntmps49
  go_wp2_with fail
  all_goals go_ret
  all_goals refine ⟨ret_bool ?_, rfl⟩
  all_goals unfold blI
  all_goals rw [Bool.eq_iff_iff]
  all_goals simp only [Bool.or_eq_true, decide_eq_true_eq, beq_iff_eq, true_iff]
  all_goals first | omega | simp

set_option maxHeartbeats 400000 in
theorem rname_any (s : List UInt8) (w : World) : Calls Tryz.prog 129 #[.string ⟨s.toArray⟩] w fun e w' => e = .returned (.bool (nameB s)) ∧ w = w' := by
  by_cases h0 : s.length = 0
  · have hn : nameB s = false := by unfold nameB; simp [h0]
    have he : s.isEmpty = true := by cases s <;> simp_all
    rw [hn]
    replace hn := Lib.hid hn
    replace h0 := Lib.hid h0
    go_enter Tryz.func129, Tryz.ntmps129
    go_wp2_with fail
    go_ret
    exact ⟨rfl, rfl⟩
  have he : s.isEmpty = false := by cases s <;> simp_all
  have hp : 0 < s.length := by omega
  by_cases h1 : 64 < s.length
  · have hn : nameB s = false := by unfold nameB; rw [decide_eq_false (by omega)]; rfl
    rw [hn]
    replace hn := Lib.hid hn
    replace h0 := Lib.hid h0
    go_enter Tryz.func129, Tryz.ntmps129
    go_wp2_with fail
    go_ret
    exact ⟨rfl, rfl⟩
  have hd : decide (1 ≤ s.length ∧ s.length ≤ 64) = true := by rw [decide_eq_true_eq]; omega
  have hl := fun W : World => rfirst_any (bt s 0) W
  have hn : nameB s = (leadI (bt s 0) && s.all fun c => follI c.toNat) := by unfold nameB; rw [hd]; simp
  rw [hn]
  replace h0 := Lib.hid h0
  clear hd hn
  cases hq : leadI (bt s 0)
  · rw [hq] at hl
    replace hl := Lib.hid hl
    replace hq := Lib.hid hq
    go_enter Tryz.func129, Tryz.ntmps129
    go_wp2_with fail
    refine (hl.out _).mono ?_; rintro e w' ⟨rfl, rfl⟩
    go_wp2_with fail
    go_ret
    exact ⟨rfl, rfl⟩
  · rw [hq] at hl
    replace hl := Lib.hid hl
    replace hq := Lib.hid hq
    rw [Bool.true_and]
    go_enter Tryz.func129, Tryz.ntmps129
    go_wp2_with fail
    refine (hl.out _).mono ?_; rintro e w' ⟨rfl, rfl⟩
    clear hl
    go_wp2_with fail
    go_loop [3] (fun i => ∃ k : Nat, i = .int .i64 k ∧ k ≤ s.length ∧ Hid (∀ j, j < k → follI (bt s j) = true)) (fun i => s.length - (intOf i).toNat)
    case atStart => exact ⟨0, rfl, Nat.zero_le _, fun j hj => by omega⟩
    case round =>
      obtain ⟨k, rfl, hk, hall⟩ := hrel
      by_cases hlt : k < s.length
      · have hf := fun W : World => rmore_any (bt s k) W
        cases hc : follI (bt s k)
        · have hend : Hid ((s.all fun c => follI c.toNat) = false) := by
            show _ = _
            rw [Bool.eq_false_iff]
            intro ha
            have := (all_bt follI s).1 ha k hlt
            rw [hc] at this; cases this
          rw [hc] at hf
          replace hf := Lib.hid hf
          replace hc := Lib.hid hc
          go_wp2_with fail
          refine (hf.out _).mono ?_; rintro e w' ⟨rfl, rfl⟩
          go_wp2_with fail
          go_ret
          exact ⟨ret_bool hend.out.symm, rfl⟩
        · rw [hc] at hf
          replace hf := Lib.hid hf
          replace hc := Lib.hid hc
          go_wp2_with fail
          refine (hf.out _).mono ?_; rintro e w' ⟨rfl, rfl⟩
          go_wp2_with fail
          exact ⟨⟨k + 1, by go_num, by omega, fun j hj => by
            by_cases e : j = k
            · subst e; exact hc.out
            · exact hall.out j (by omega)⟩, by simp [intOf]; omega⟩
      · have hend : Hid ((s.all fun c => follI c.toNat) = true) := (all_bt follI s).2 fun j hj => hall.out j (by omega)
        have hlt2 : ¬ ((k : Int) < s.length) := by omega
        clear hall
        go_wp2_with fail
        go_ret
        exact ⟨ret_bool hend.out.symm, rfl⟩

/-- The reference's reader: its cells, but for its place. -/
structure SC where
  l : List UInt8
  dep : Int
  vO : Value
  tx : List UInt8
  vK : Value
  rt : Bool
def SC.cells (c : SC) (k : Nat) : List Value := [.string ⟨c.l.toArray⟩, .int .i64 k, .int .i64 c.dep, c.vO, .string ⟨c.tx.toArray⟩, c.vK, .bool c.rt]
/-- It in memory, at a place. -/
def Sn (w : World) (R : Nat) (c : SC) (k : Nat) : Prop := ArrAt w R 97 (c.cells k)
section
variable {w w' : World} {R : Nat} {c : SC} {k : Nat}
theorem Sn.c0 (h : Sn w R c k) : w.cell? ⟨R, 0, none⟩ = some (.string ⟨c.l.toArray⟩) := by rw [ArrAt.cell h]; rfl
theorem Sn.c1 (h : Sn w R c k) : w.cell? ⟨R, 1, none⟩ = some (.int .i64 k) := by rw [ArrAt.cell h]; rfl
theorem Sn.c2 (h : Sn w R c k) : w.cell? ⟨R, 2, none⟩ = some (.int .i64 c.dep) := by rw [ArrAt.cell h]; rfl
theorem Sn.c3 (h : Sn w R c k) : w.cell? ⟨R, 3, none⟩ = some c.vO := by rw [ArrAt.cell h]; rfl
theorem Sn.c4 (h : Sn w R c k) : w.cell? ⟨R, 4, none⟩ = some (.string ⟨c.tx.toArray⟩) := by rw [ArrAt.cell h]; rfl
theorem Sn.c5 (h : Sn w R c k) : w.cell? ⟨R, 5, none⟩ = some c.vK := by rw [ArrAt.cell h]; rfl
theorem Sn.c6 (h : Sn w R c k) : w.cell? ⟨R, 6, none⟩ = some (.bool c.rt) := by rw [ArrAt.cell h]; rfl
theorem Sn.fz (h : Sn w R c k) (i : Nat) : w.frozen? ⟨R, i, none⟩ = false := ArrAt.soft h i
theorem Sn.lt (h : Sn w R c k) : R < w.heap.size := ArrAt.lt h
theorem Sn.turned {S : Nat → Prop} (h : Sn w R c k) (ht : Turned S w w') (hS : ¬ S R) : Sn w' R c k := ArrAt.turned h ht hS
theorem Sn.below (h : Sn w R c k) (hb : Below w.heap.size w w') : Sn w' R c k := h.turned (S := fun _ => False) (Turned.of_below hb) fun h => h
theorem Sn.drawn (h : Sn w R c k) (hd : Drawn w w') : Sn w' R c k := h.below (hd.below _)
theorem Sn.move (h : Sn w R c k) (k' : Nat) {x : Int} (e : x = k') : Sn (w.setCell ⟨R, 1, none⟩ (.int .i64 x)) R c k' := by subst e; exact ArrAt.set h 1 _
end
theorem take_beq {d p : List UInt8} : (d.take p.length == p) = Lib.hasPrefix d p := by
  rw [Bool.eq_iff_iff, beq_iff_eq]
  refine ⟨fun h => List.isPrefixOf_iff_prefix.2 (List.prefix_iff_eq_take.2 h.symm), fun h => (List.prefix_iff_eq_take.1 (List.isPrefixOf_iff_prefix.1 h)).symm⟩

set_option maxHeartbeats 400000 in
theorem rhas_any (R : Nat) (c : SC) (k : Nat) (p : List UInt8) (w : World) (h : Sn w R c k) (hk : k ≤ c.l.length) (_hl : c.l.length ≤ 100000) (hp : p.length ≤ 100) :
    Calls Tryz.prog 48 #[.pointer (some ⟨R, 0, none⟩), .string ⟨p.toArray⟩] w fun e w' => e = .returned (.bool (Lib.hasPrefix (c.l.drop k) p)) ∧ Drawn w w' := by
  have c0 := h.c0
  have c1 := h.c1
  replace h := Lib.hid h
  by_cases hlen : k + p.length ≤ c.l.length
  · have hle : (p.length : Int) ≤ (c.l.length : Int) - k := by omega
    have hcmp : (((c.l.take (k + p.length)).drop k) == p) = Lib.hasPrefix (c.l.drop k) p := by
      rw [List.drop_take, show k + p.length - k = p.length by omega, take_beq]
    generalize Lib.hasPrefix (c.l.drop k) p = b at hcmp
    cases b
    all_goals
      go_enter Tryz.func48, Tryz.ntmps48
      go_wp2_with fail
      go_quiet (fail)
      go_wp2_with fail
      go_ret
      exact ⟨rfl, ⟨_, rfl⟩⟩
  · have hle : decide ((p.length : Int) ≤ (c.l.length : Int) - k) = false := by rw [decide_eq_false_iff_not]; omega
    have hf : Lib.hasPrefix (c.l.drop k) p = false := by
      rw [Bool.eq_false_iff]; intro e
      have := prefix_len e
      rw [List.length_drop] at this
      omega
    rw [hf]
    replace hf := Lib.hid hf
    go_enter Tryz.func48, Tryz.ntmps48
    go_wp2_with fail
    go_quiet (fail)
    go_wp2_with fail
    go_ret
    exact ⟨rfl, ⟨_, rfl⟩⟩

set_option maxHeartbeats 1000000 in
theorem rblanks_any (R : Nat) (c : SC) (k : Nat) (w : World) (h : Sn w R c k) (hk : k ≤ c.l.length) (hl : c.l.length ≤ 100000) :
    Calls Tryz.prog 91 #[.pointer (some ⟨R, 0, none⟩)] w fun e w' => e = .returned (.int .i64 (spanN blI (c.l.drop k))) ∧ Sn w' R c (k + spanN blI (c.l.drop k)) ∧ Turned (fun b => b = R) w w' := by
  have c1 := h.c1
  have hst : Hid (Sn w R c k) := h
  clear h
  go_enter Tryz.func91, Tryz.ntmps91
  go_wp2_with fail
  go_loopw [3] (fun i wr => ∃ m : Nat, k ≤ m ∧ m ≤ c.l.length ∧ i = .int .i64 ((m - k : Nat) : Int) ∧ Hid (SpAtN blI (c.l.drop k) (m - k)) ∧ Hid (Sn wr R c m) ∧ Hid (Turned (fun b => b = R) w wr)) (fun i wr => c.l.length - (intOf ((wr.cell? ⟨R, 1, none⟩).getD undef)).toNat)
  case atStart => exact ⟨k, Nat.le_refl _, hk, by simp, by rw [Nat.sub_self]; exact SpAtN.zero _ _, hst.out, Turned.refl _ _⟩
  case round =>
    clear c1 hst
    obtain ⟨m, hkm, hm, rfl, hsp, hr, ht⟩ := hrel
    have c0 := hr.out.c0
    have c1 := hr.out.c1
    have f1 := hr.out.fz 1
    have hdl : (c.l.drop k).length = c.l.length - k := List.length_drop
    have hbt : bt (c.l.drop k) (m - k) = bt c.l m := by rw [bt_drop]; congr 1; omega
    replace hdl := Lib.hid hdl
    replace hbt := Lib.hid hbt
    obtain ⟨n, hn⟩ : ∃ n, m - k = n := ⟨_, rfl⟩
    rw [hn]
    have hnm : m = k + n := by omega
    replace hn := Lib.hid hn
    by_cases hlt : m < c.l.length
    · have hlt1 : (m : Int) < c.l.length := by omega
      have hbl := fun W : World => rblank_any (bt c.l m) W
      cases hb : blI (bt c.l m)
      · have hend : Hid (spanN blI (c.l.drop k) = n) := by rw [← hn.out]; exact hsp.out.stop (by rw [hdl.out]; omega) (by rw [hbt.out]; exact hb)
        rw [hb] at hbl
        replace hbl := Lib.hid hbl
        replace hb := Lib.hid hb
        replace hnm := Lib.hid hnm
        go_wp2_with fail
        go_quiet ((go_at_call 49; exact Calls.drawn_at (hbl.out _)))
        go_wp2_with fail
        go_ret
        refine ⟨by rw [hend.out]; rfl, ?_, ht.out.trans (Turned.of_below (Drawn.below ⟨_, rfl⟩ _) : Turned (fun b => b = R) _ _) fun _ _ e => e⟩
        rw [hend.out, ← hnm.out]; exact hr.out.drawn ⟨_, rfl⟩
      · have hnx : Hid (SpAtN blI (c.l.drop k) (m + 1 - k)) := by
          have := hsp.out.step (by rw [hdl.out]; omega) (by rw [hbt.out]; exact hb)
          rw [show m - k + 1 = m + 1 - k by omega] at this
          exact this
        rw [hb] at hbl
        replace hbl := Lib.hid hbl
        replace hb := Lib.hid hb
        replace hnm := Lib.hid hnm
        have hnb : n ≤ 100000 := by have := hn.out; omega
        go_wp2_with fail
        go_quiet ((go_at_call 49; exact Calls.drawn_at (hbl.out _)))
        go_wp2_with fail
        have hmv := (hr.out.drawn (drawn_drewN wr nq)).move (m + 1) (x := (m : Int) + 1) (by omega)
        refine ⟨⟨m + 1, by omega, by omega, by have := hnm.out; subst this; rw [show k + n + 1 - k = n + 1 by omega]; go_num, hnx, hmv, (ht.out.trans (Turned.of_below (Drawn.below ⟨_, rfl⟩ _) : Turned (fun b => b = R) wr (wr.drewN nq)) fun _ _ e => e).trans (turned_setCell _ _ _) fun _ _ e => e⟩, ?_⟩
        rw [c1, hmv.c1]
        simp [intOf]; omega
    · have hlt1 : decide ((m : Int) < c.l.length) = false := by rw [decide_eq_false_iff_not]; omega
      have hend : Hid (spanN blI (c.l.drop k) = n) := by rw [← hn.out]; exact hsp.out.done (by rw [hdl.out]; omega)
      replace hnm := Lib.hid hnm
      go_wp2_with fail
      go_quiet (fail)
      go_wp2_with fail
      go_ret
      refine ⟨by rw [hend.out]; rfl, ?_, ht.out.trans (Turned.of_below (Drawn.below ⟨_, rfl⟩ _) : Turned (fun b => b = R) _ _) fun _ _ e => e⟩
      rw [hend.out, ← hnm.out]; exact hr.out.drawn ⟨_, rfl⟩

set_option maxHeartbeats 1000000 in
theorem rnamem_any (R : Nat) (c : SC) (k : Nat) (w : World) (h : Sn w R c k) (hk : k ≤ c.l.length) (hl : c.l.length ≤ 100000) :
    Calls Tryz.prog 112 #[.pointer (some ⟨R, 0, none⟩)] w fun e w' => e = .returned (.tuple #[.string ⟨((c.l.drop k).take (spanN follI (c.l.drop k))).toArray⟩, .bool (nameB ((c.l.drop k).take (spanN follI (c.l.drop k))))]) ∧ Sn w' R c (k + spanN follI (c.l.drop k)) ∧ Turned (fun b => b = R) w w' := by
  have c1 := h.c1
  have c0 := h.c0
  have f1 := h.fz 1
  have hst : Hid (Sn w R c k) := h
  clear h
  go_enter Tryz.func112, Tryz.ntmps112
  go_wp2_with fail
  go_loopw [4] (fun i wr => ∃ m : Nat, i = .int .i64 m ∧ k ≤ m ∧ m ≤ c.l.length ∧ Hid (SpAtN follI (c.l.drop k) (m - k)) ∧ Drawn w wr) (fun i _ => c.l.length - (intOf i).toNat)
  case atStart => exact ⟨k, rfl, Nat.le_refl _, hk, by rw [Nat.sub_self]; exact SpAtN.zero _ _, Drawn.refl _⟩
  case round =>
    obtain ⟨m, rfl, hkm, hm, hsp, n0, rfl⟩ := hrel
    have hdl : (c.l.drop k).length = c.l.length - k := List.length_drop
    have hbt : bt (c.l.drop k) (m - k) = bt c.l m := by rw [bt_drop]; congr 1; omega
    replace hdl := Lib.hid hdl
    replace hbt := Lib.hid hbt
    by_cases hlt : m < c.l.length
    · have hlt1 : (m : Int) < c.l.length := by omega
      have hf := fun W : World => rmore_any (bt c.l m) W
      cases hb : follI (bt c.l m)
      · have hend : Hid (spanN follI (c.l.drop k) = m - k) := hsp.out.stop (by rw [hdl.out]; omega) (by rw [hbt.out]; exact hb)
        rw [hb] at hf
        replace hf := Lib.hid hf
        replace hb := Lib.hid hb
        go_wp2_with fail
        refine (hf.out _).mono ?_; rintro e w' ⟨rfl, rfl⟩
        go_wp2_with fail
        go_quiet (fail)
        have hR := fun n : Nat => (hst.out.drawn (drawn_drewN w n)).move (k + (m - k)) (x := (m : Int)) (by omega)
        replace hR := Lib.hid hR
        go_wp2_with fail
        refine (rname_any _ _).mono ?_; rintro e w' ⟨rfl, rfl⟩
        have hx : (c.l.take m).drop k = (c.l.drop k).take (spanN follI (c.l.drop k)) := by rw [hend.out, List.drop_take]
        replace hx := Lib.hid hx
        go_wp2_with fail
        go_ret2
        refine ⟨by rw [← hx.out]; rfl, by rw [hend.out]; simpa using hR.out _, (Turned.of_below (Drawn.below ⟨n0 + nq, by simp⟩ _)).trans (turned_setCell _ _ _) fun _ _ e => e⟩
      · have hnx : Hid (SpAtN follI (c.l.drop k) (m + 1 - k)) := by
          have := hsp.out.step (by rw [hdl.out]; omega) (by rw [hbt.out]; exact hb)
          rw [show m - k + 1 = m + 1 - k by omega] at this
          exact this
        rw [hb] at hf
        replace hf := Lib.hid hf
        replace hb := Lib.hid hb
        go_wp2_with fail
        refine (hf.out _).mono ?_; rintro e w' ⟨rfl, rfl⟩
        go_wp2_with fail
        exact ⟨⟨m + 1, by go_num, by omega, by omega, hnx, ⟨_, rfl⟩⟩, by simp [intOf]; omega⟩
    · have hlt1 : ¬ ((m : Int) < c.l.length) := by omega
      have hend : Hid (spanN follI (c.l.drop k) = m - k) := hsp.out.done (by rw [hdl.out]; omega)
      go_wp2_with fail
      go_quiet (fail)
      have hR := fun n : Nat => (hst.out.drawn (drawn_drewN w n)).move (k + (m - k)) (x := (m : Int)) (by omega)
      replace hR := Lib.hid hR
      go_wp2_with fail
      refine (rname_any _ _).mono ?_; rintro e w' ⟨rfl, rfl⟩
      have hx : (c.l.take m).drop k = (c.l.drop k).take (spanN follI (c.l.drop k)) := by rw [hend.out, List.drop_take]
      replace hx := Lib.hid hx
      go_wp2_with fail
      go_ret2
      refine ⟨by rw [← hx.out]; rfl, by rw [hend.out]; simpa using hR.out _, (Turned.of_below (Drawn.below ⟨n0 + nq, by simp⟩ _)).trans (turned_setCell _ _ _) fun _ _ e => e⟩
end Go.Proofs.YtfmlgfeldlnlgaaGreatDoor

/- The walks of Is, lead, follower, put, Bytes, Encode: the program's and the reference's. -/
namespace Go.Proofs.YtfmlgfeldlnlgaaGreatDoor
open Go.RowKit


set_option maxHeartbeats 400000 in
theorem follower_any (r : Int) (w : World) (_h0 : 0 ≤ r) (_h1 : r ≤ 1114111) :
    Calls Tryz.prog 146 #[.int .i32 r] w fun e w' => e = .returned (.int .u8 (128 + r % 64)) ∧ w = w' := by
  go_enter Tryz.func146, Tryz.ntmps146
  go_wp2
  go_ret
  exact ⟨ret_int (by omega), rfl⟩

set_option maxHeartbeats 400000 in
theorem lead_any (r : Int) (w : World) (h0 : 0 ≤ r) (h1 : r ≤ 1114111) :
    Calls Tryz.prog 145 #[.int .i32 r] w fun e w' => e = .returned (.tuple #[.int .u8 ((encR r).headD 0), .int .i64 (folN r)]) ∧ w = w' := by
  go_enter Tryz.func145, Tryz.ntmps145
  go_wp2
  all_goals go_ret2
  all_goals refine ⟨ret_int2 ?_ ?_, rfl⟩
  all_goals first | (unfold encR) | (unfold folN)
  all_goals (repeat (first | rw [if_pos (by omega)] | rw [if_neg (by omega)]))
  all_goals rfl

theorem isR_eq {r : Int} {b : Bool} (h : (0 ≤ r ∧ r ≤ 1114111 ∧ ¬ (55296 ≤ r ∧ r ≤ 57343)) ↔ b = true) : Ending.returned (.bool b) = .returned (.bool (isR r)) := by
  rw [show isR r = b from by unfold isR; cases b <;> simp at h ⊢ <;> omega]

set_option maxHeartbeats 400000 in
theorem is_any (r : Int) (w : World) :
    Calls Tryz.prog 144 #[.int .i32 r] w fun e w' => e = .returned (.bool (isR r)) ∧ w = w' := by
  by_cases h1 : 0 ≤ r <;> by_cases h2 : r ≤ 1114111 <;> by_cases h3 : 55296 ≤ r <;> by_cases h4 : r ≤ 57343
  all_goals first | (exfalso; omega) | skip
  all_goals
    go_enter Tryz.func144, Tryz.ntmps144
    go_wp2
    go_ret
    exact ⟨isR_eq (by simp; omega), rfl⟩

set_option maxHeartbeats 400000 in
theorem refis_any (r : Int) (w : World) :
    Calls Tryz.prog 137 #[.int .i32 r] w fun e w' => e = .returned (.bool (isR r)) ∧ w = w' := by
  by_cases h1 : 0 ≤ r <;> by_cases h2 : r ≤ 1114111 <;> by_cases h3 : 55296 ≤ r <;> by_cases h4 : r ≤ 57343
  all_goals first | (exfalso; omega) | skip
  all_goals
    go_enter Tryz.func137, Tryz.ntmps137
    go_wp2
    go_ret
    exact ⟨isR_eq (by simp; omega), rfl⟩

theorem info_byte : (Tryz.prog.info? 5).map (fun i => (i.zero, i.size, i.bytes)) = some (some (.int .u8 0), 1, 1) := by kernel_rfl

/-- A slice of bytes that the call itself made. -/
def Byts (w : World) (B : Nat) (v : Value) (xs : List Int) : Prop := w.ownsRow B 5 1 v xs.length (xs.map (Value.int .u8))

def PutPost (B : Nat) (w : World) (xs : List Int) (e : Ending) (w' : World) : Prop := ∃ v, e = .returned v ∧ Byts w' B v xs ∧ Below B w w'

theorem isR_bd {r : Int} (h : isR r = true) : 0 ≤ r ∧ r ≤ 1114111 := by unfold isR at h; simp at h; omega

theorem byts_mk {w : World} {B : Nat} {v : Value} {xs : List Int} (ys : List Int) {n : Nat} (h : w.ownsRow B 5 1 v n (xs.map (Value.int .u8) ++ ys.map (Value.int .u8))) (hn : n = xs.length + ys.length) : Byts w B v (xs ++ ys) := by
  subst hn; unfold Byts; rw [List.length_append, List.map_append]; exact h

set_option maxHeartbeats 400000 in
theorem putR_any (B : Nat) (v : Value) (xs : List Int) (r : Int) (w : World) (hr : isR r = true) (hown : Byts w B v xs) (hB : B ≤ w.heap.size) (hn : xs.length ≤ 1000000) :
    Calls Tryz.prog 142 #[v, .int .i32 r] w (PutPost B w (xs ++ encR r)) := by
  have hb := isR_bd hr
  replace hown := Lib.hid hown
  have hc : (r < 128 ∧ encR r = [r] ∧ folN r = 0) ∨ (128 ≤ r ∧ r < 2048 ∧ encR r = [192 + r / 64, 128 + r % 64] ∧ folN r = 1) ∨
      (2048 ≤ r ∧ r < 65536 ∧ encR r = [224 + r / 4096, 128 + r / 64 % 64, 128 + r % 64] ∧ folN r = 2) ∨
      (65536 ≤ r ∧ encR r = [240 + r / 262144, 128 + r / 4096 % 64, 128 + r / 64 % 64, 128 + r % 64] ∧ folN r = 3) := by
    unfold encR folN
    by_cases h1 : r < 128
    · rw [if_pos h1, if_pos h1]; exact Or.inl ⟨h1, rfl, rfl⟩
    · by_cases h2 : r < 2048
      · rw [if_neg h1, if_pos h2, if_neg h1, if_pos h2]; exact Or.inr (Or.inl ⟨by omega, h2, rfl, rfl⟩)
      · by_cases h3 : r < 65536
        · rw [if_neg h1, if_neg h2, if_pos h3, if_neg h1, if_neg h2, if_pos h3]; exact Or.inr (Or.inr (Or.inl ⟨by omega, h3, rfl, rfl⟩))
        · rw [if_neg h1, if_neg h2, if_neg h3, if_neg h1, if_neg h2, if_neg h3]; exact Or.inr (Or.inr (Or.inr ⟨by omega, rfl, rfl⟩))
  rcases hc with ⟨c1, ce, cf⟩ | ⟨c1, c2, ce, cf⟩ | ⟨c1, c2, ce, cf⟩ | ⟨c1, ce, cf⟩
  all_goals
    rw [ce]
    go_enter Tryz.func142, Tryz.ntmps142
    go_wp2_with fail
    refine (is_any r _).mono ?_; rintro e w' ⟨rfl, rfl⟩
    go_wp2_with fail
    refine (lead_any r _ (by omega) (by omega)).mono ?_; rintro e w' ⟨rfl, rfl⟩
    rw [ce, cf]
    clear ce cf
    go_wp2_with (at_builtin; go_must (refine wpList_append1 rfl _ _ 105 5 rfl Tryz.underlying105 (.int .u8 0) 1 info_byte rfl (by decide) B _ _ _ _ hown.out rfl rfl rfl (by omega) (by omega) ?_))
    intro v1 w1 hown1 hb1 _
    replace hown1 := Lib.hid hown1
    have hs1 := hb1.size
    replace hb1 := Lib.hid hb1
    go_wp2_with fail
  · go_ret
    exact ⟨_, rfl, byts_mk _ hown1.out rfl, hb1.out⟩
  · refine (follower_any r _ (by omega) (by omega)).mono ?_; rintro e w' ⟨rfl, rfl⟩
    go_wp2_with (at_builtin; go_must (refine wpList_append1 rfl _ _ 105 5 rfl Tryz.underlying105 (.int .u8 0) 1 info_byte rfl (by decide) B _ _ _ _ hown1.out rfl rfl rfl (by omega) (by omega) ?_))
    intro v2 w2 hown2 hb2 _
    replace hown2 := Lib.hid hown2
    replace hb2 := Lib.hid hb2
    go_wp2_with fail
    go_ret
    exact ⟨_, rfl, byts_mk _ hown2.out rfl, hb1.out.trans hb2.out⟩
  · refine (follower_any (r / 64) _ (by omega) (by omega)).mono ?_; rintro e w' ⟨rfl, rfl⟩
    go_wp2_with (at_builtin; go_must (refine wpList_append1 rfl _ _ 105 5 rfl Tryz.underlying105 (.int .u8 0) 1 info_byte rfl (by decide) B _ _ _ _ hown1.out rfl rfl rfl (by omega) (by omega) ?_))
    intro v2 w2 hown2 hb2 _
    replace hown2 := Lib.hid hown2
    have hs2 := hb2.size
    replace hb2 := Lib.hid hb2
    go_wp2_with fail
    refine (follower_any r _ (by omega) (by omega)).mono ?_; rintro e w' ⟨rfl, rfl⟩
    go_wp2_with (at_builtin; go_must (refine wpList_append1 rfl _ _ 105 5 rfl Tryz.underlying105 (.int .u8 0) 1 info_byte rfl (by decide) B _ _ _ _ hown2.out rfl rfl rfl (by omega) (by omega) ?_))
    intro v3 w3 hown3 hb3 _
    replace hown3 := Lib.hid hown3
    replace hb3 := Lib.hid hb3
    go_wp2_with fail
    go_ret
    exact ⟨_, rfl, byts_mk _ hown3.out rfl, (hb1.out.trans hb2.out).trans hb3.out⟩
  · refine (follower_any (r / 4096) _ (by omega) (by omega)).mono ?_; rintro e w' ⟨rfl, rfl⟩
    go_wp2_with (at_builtin; go_must (refine wpList_append1 rfl _ _ 105 5 rfl Tryz.underlying105 (.int .u8 0) 1 info_byte rfl (by decide) B _ _ _ _ hown1.out rfl rfl rfl (by omega) (by omega) ?_))
    intro v2 w2 hown2 hb2 _
    replace hown2 := Lib.hid hown2
    have hs2 := hb2.size
    replace hb2 := Lib.hid hb2
    go_wp2_with fail
    refine (follower_any (r / 64) _ (by omega) (by omega)).mono ?_; rintro e w' ⟨rfl, rfl⟩
    go_wp2_with (at_builtin; go_must (refine wpList_append1 rfl _ _ 105 5 rfl Tryz.underlying105 (.int .u8 0) 1 info_byte rfl (by decide) B _ _ _ _ hown2.out rfl rfl rfl (by omega) (by omega) ?_))
    intro v3 w3 hown3 hb3 _
    replace hown3 := Lib.hid hown3
    have hs3 := hb3.size
    replace hb3 := Lib.hid hb3
    go_wp2_with fail
    refine (follower_any r _ (by omega) (by omega)).mono ?_; rintro e w' ⟨rfl, rfl⟩
    go_wp2_with (at_builtin; go_must (refine wpList_append1 rfl _ _ 105 5 rfl Tryz.underlying105 (.int .u8 0) 1 info_byte rfl (by decide) B _ _ _ _ hown3.out rfl rfl rfl (by omega) (by omega) ?_))
    intro v4 w4 hown4 hb4 _
    replace hown4 := Lib.hid hown4
    replace hb4 := Lib.hid hb4
    go_wp2_with fail
    go_ret
    exact ⟨_, rfl, byts_mk _ hown4.out rfl, ((hb1.out.trans hb2.out).trans hb3.out).trans hb4.out⟩
end Go.Proofs.YtfmlgfeldlnlgaaGreatDoor
