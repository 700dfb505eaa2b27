/- Slices of numbers that can be read, over calls; slices of int that the call itself made; the bounds of a kind. -/
import Derived.Test.YtfmlgfeldlnlgaaGreatDoorBR02
import Derived.Test.YtfmlgfeldlnlgaaGreatDoorBR03
import Derived.Test.YtfmlgfeldlnlgaaGreatDoorBR01
namespace Go.Proofs.YtfmlgfeldlnlgaaGreatDoor
open Go.RowKit

theorem bd_u64 {x : Int} (hx : (Lit.int .u64 x).wf = true) : 0 ≤ x ∧ x ≤ 18446744073709551615 := by
  simp [Lit.wf, IntKind.min, IntKind.max, IntKind.bits, IntKind.signed] at hx
  omega
theorem bd_u64s {xs : List Int} (hx : ∀ x ∈ xs, (Lit.int .u64 x).wf = true) : ∀ x ∈ xs, 0 ≤ x ∧ x ≤ 18446744073709551615 := fun x hm => bd_u64 (hx x hm)
theorem bd_u8 {n : Int} (h : (Lit.int .u8 n).wf = true) : 0 ≤ n ∧ n ≤ 255 := by
  simp [Lit.wf, IntKind.min, IntKind.max, IntKind.bits, IntKind.signed] at h
  omega
theorem bd_i64 {n : Int} (h : (Lit.int .i64 n).wf = true) : -9223372036854775808 ≤ n ∧ n ≤ 9223372036854775807 := by
  simp [Lit.wf, IntKind.min, IntKind.max, IntKind.bits, IntKind.signed] at h
  omega

/-- A slice of numbers that can be read, over calls. -/
structure RdSl (k : IntKind) (w : World) (v : Value) (xs : List Int) : Prop where
  sl : IntSl k w v xs
  low : SlBelow w.heap.size v
theorem RdSl.next {k : IntKind} {w w' : World} {v : Value} {xs : List Int} (h : RdSl k w v xs) (hb : Below w.heap.size w w') : RdSl k w' v xs := ⟨h.sl.below hb h.low, h.low.mono hb.size⟩
theorem info_int : (Tryz.prog.info? 3).map (fun i => (i.zero, i.size, i.bytes)) = some (some (.int .i64 0), 1, 8) := by kernel_rfl
/-- A slice of int that the call itself made. -/
def Ints (w : World) (B : Nat) (v : Value) (xs : List Int) : Prop := w.ownsRow B 3 1 v xs.length (xs.map (Value.int .i64))
theorem Ints.rd {w : World} {B : Nat} {v : Value} {xs : List Int} (h : Ints w B v xs) : RdSl .i64 w v xs := ⟨intSl_own h, slBelow_own h⟩
theorem ints_one {w : World} {B : Nat} {v : Value} {xs : List Int} {y : Int} (h : w.ownsRow B 3 1 v (xs.length + 1) (xs.map (Value.int .i64) ++ [.int .i64 y])) : Ints w B v (xs ++ [y]) := by
  unfold Ints; rw [List.length_append, List.map_append]; exact h
end Go.Proofs.YtfmlgfeldlnlgaaGreatDoor

/- Layer 12: places; faults; attributes of a node; a node's kids, and the named ones. -/
namespace Go.Proofs.YtfmlgfeldlnlgaaGreatDoor
open Go.RowKit

theorem place12_any (a : Option Addr) (n c : Nat) (i : Int) (w : World) : Calls Tryz.prog 56 #[.slice a n c, .int .i64 i] w fun e w' => e = .returned (.bool (decide (0 ≤ i) && decide (i < (n : Int)))) ∧ w = w' := by
  go_enter Tryz.func56, Tryz.ntmps56
  go_wp2_with fail
  all_goals go_ret
  all_goals refine ⟨ret_bool ?_, rfl⟩
  all_goals rw [Bool.eq_iff_iff]
  all_goals simp only [Bool.and_eq_true, decide_eq_true_eq, Bool.false_eq_true, false_iff]
  all_goals first | omega | simp | (simp; omega)
theorem refis12_any (a : Option Addr) (n c : Nat) (i : Int) (w : World) : Calls Tryz.prog 61 #[.slice a n c, .int .i64 i] w fun e w' => e = .returned (.bool (decide (0 ≤ i) && decide (i < (n : Int)))) ∧ w = w' := by
  go_enter Tryz.func61, Tryz.ntmps61
  go_wp2_with fail
  all_goals go_ret
  all_goals refine ⟨ret_bool ?_, rfl⟩
  all_goals rw [Bool.eq_iff_iff]
  all_goals simp only [Bool.and_eq_true, decide_eq_true_eq, Bool.false_eq_true, false_iff]
  all_goals first | omega | simp | (simp; omega)
theorem attrB_cons (a : At) (t : List At) (nm : List UInt8) : attrB (a :: t) nm = if (a.1 == nm) = true then (a.2, true) else attrB t nm := by
  unfold attrB
  cases h : (a.1 == nm) <;> simp [h]
/-- A node as an argument. -/
def ndA (x : Nd) (va : Value) : Value := .agg #[.string ⟨x.name.toArray⟩, va, .string ⟨x.text.toArray⟩, .int .i64 x.up]
/-- What Attr answers. -/
def AttrPost (w : World) (o : List UInt8 × Bool) (e : Ending) (w' : World) : Prop := e = .returned (.tuple #[.string ⟨o.1.toArray⟩, .bool o.2]) ∧ Below w.heap.size w w'
theorem AttrPost.mk {w w' : World} {o : List UInt8 × Bool} {s : List UInt8} {b : Bool} (ho : o = (s, b)) (hb : Below w.heap.size w w') : AttrPost w o (.returned (.tuple #[.string ⟨s.toArray⟩, .bool b])) w' := by subst ho; exact ⟨rfl, hb⟩
theorem drop_at {α : Type} (l : List α) (d : α) (k : Nat) (h : k < l.length) : l.drop k = l.getD k d :: l.drop (k + 1) := by
  rw [List.drop_eq_getElem_cons h]
  simp [List.getD, h]

end Go.Proofs.YtfmlgfeldlnlgaaGreatDoor

/- Layer 12: a node's kids, the program's and the reference's. -/
namespace Go.Proofs.YtfmlgfeldlnlgaaGreatDoor
open Go.RowKit

/-- What the loop of Kids keeps. -/
structure KidAt (P : List (Nd × Value)) (i : Int) (w : World) (k : Nat) (u : Value) (wr : World) : Prop where
  own : Ints wr w.heap.size u (kidsTo (nodes P) i k)
  below : Below w.heap.size w wr
/-- A slice of places. -/
def IntsPost (xs : List Int) (w : World) (e : Ending) (w' : World) : Prop := ∃ v, e = .returned v ∧ Ints w' w.heap.size v xs ∧ Below w.heap.size w w'
theorem IntsPost.mk {xs ys : List Int} {w w' : World} {v : Value} (hx : xs = ys) (h : Ints w' w.heap.size v ys) (hb : Below w.heap.size w w') : IntsPost xs w (.returned v) w' := by subst hx; exact ⟨v, rfl, h, hb⟩
theorem IntsPost.nil {xs : List Int} {w w' : World} (hx : xs = []) (hb : Below w.heap.size w w') : IntsPost xs w (.returned (.slice none 0 0)) w' := by subst hx; exact ⟨_, rfl, World.ownsRow_nil _ _ _ _, hb⟩
theorem place_nodes {P : List (Nd × Value)} {i : Int} : placeB (nodes P) i = (decide (0 ≤ i) && decide (i < (P.length : Int))) := by unfold placeB nodes; simp

set_option maxHeartbeats 2000000 in
theorem kids12_any (P : List (Nd × Value)) (v : Value) (i : Int) (w : World) (h : NdSl w v P) (hn : P.length ≤ 1000000) :
    Calls Tryz.prog 34 #[v, .int .i64 i] w (IntsPost (kidsB (nodes P) i) w) := by
  have hplb := place_nodes (P := P) (i := i)
  cases hpl : placeB (nodes P) i
  · have hk : kidsB (nodes P) i = [] := by unfold kidsB; rw [if_neg (by rw [hpl]; decide)]
    obtain ⟨a, c, rfl⟩ := h.form
    have hp := fun W : World => place12_any a P.length c i W
    rw [← hplb, hpl] at hp
    clear h hplb hpl
    replace hp := Lib.hid hp
    go_enter Tryz.func34, Tryz.ntmps34
    go_wp2_with fail
    refine (hp.out _).mono ?_; rintro e w1 ⟨rfl, rfl⟩
    go_wp2_with fail
    go_ret
    exact IntsPost.nil hk (Below.refl _ _)
  have hk : kidsB (nodes P) i = kidsTo (nodes P) i P.length := by unfold kidsB nodes; rw [if_pos hpl, List.length_map]
  have hpos : 0 < P.length := by have := place_iff.1 hpl; unfold nodes at this; rw [List.length_map] at this; omega
  obtain ⟨b, off, cap, hcap, hbl, rfl, hcl⟩ := h.some hpos
  have hat := h.atsAt
  have hp := fun W : World => place12_any (some ⟨b, off, none⟩) P.length cap i W
  rw [← hplb, hpl] at hp
  clear h hplb hpl
  replace hp := Lib.hid hp
  replace hk := Lib.hid hk
  replace hcl := Lib.hid hcl
  replace hat := Lib.hid hat
  replace hpos := Lib.hid hpos
  go_enter Tryz.func34, Tryz.ntmps34
  go_wp2_with fail
  refine (hp.out _).mono ?_; rintro e w1 ⟨rfl, rfl⟩
  go_wp2_with fail
  go_loopw [5, 14] (fun u ii wr => ∃ (k m : Nat) (a' : Option Addr) (c' : Nat), ii = .int .i64 k ∧ u = .slice a' m c' ∧ k ≤ P.length ∧ m ≤ k ∧ Hid (m = (kidsTo (nodes P) i k).length) ∧ Hid (KidAt P i w k u wr)) (fun _ ii _ => P.length - (intOf ii).toNat)
  case atStart => exact ⟨0, 0, none, 0, rfl, rfl, Nat.zero_le _, Nat.le_refl _, rfl, ⟨World.ownsRow_nil _ _ _ _, Below.refl _ _⟩⟩
  case round =>
    obtain ⟨k, m, a', c', rfl, rfl, hkl, hmk, hm, hc⟩ := hrel
    by_cases hlt : k < P.length
    · obtain ⟨d0, d1, d2, d3⟩ := (hcl.out k hlt).next hc.out.below
      obtain ⟨aa, ac, hva⟩ := (hat.out k hlt).form
      rw [hva] at d1
      rw [nodes_at hlt] at d0 d1 d2 d3
      have hnx := kidsTo_next (nodes P) i k
      unfold upN at hnx
      generalize atN (nodes P) (k : Int) = x at d0 d1 d2 d3 hnx
      clear hva
      obtain ⟨xn, xa, xt, xu⟩ := x
      unfold strV at d0 d2
      simp only at d0 d1 d2 d3 hnx
      have hsz := hc.out.below.size
      have hbw : b < wr.heap.size := by omega
      have hba : Below w.heap.size w (wr.alloc (.cells #[.string ⟨xn.toArray⟩, .slice aa xa.length ac, .string ⟨xt.toArray⟩, .int .i64 xu] 72)) := hc.out.below.alloc hsz _
      have hoa : Ints (wr.alloc (.cells #[.string ⟨xn.toArray⟩, .slice aa xa.length ac, .string ⟨xt.toArray⟩, .int .i64 xu] 72)) w.heap.size (.slice a' m c') (kidsTo (nodes P) i k) := World.ownsRow.alloc hc.out.own _
      replace hba := Lib.hid hba
      replace hoa := Lib.hid hoa
      by_cases hyes : xu = i ∧ (k : Int) ≠ i
      · rw [if_pos hyes] at hnx
        have hq1 : (xu == i) = true := by rw [beq_iff_eq]; exact hyes.1
        have hq2 : ((k : Int) != i) = true := by rw [bne_iff_ne]; exact hyes.2
        clear hyes
        replace hnx := Lib.hid hnx
        go_wp2_with (at_builtin; go_must (refine wpList_append1 rfl _ _ 48 3 rfl Tryz.underlying48 (.int .i64 0) 8 info_int rfl (by decide) w.heap.size _ m _ (.int .i64 k) (by have := hoa.out; unfold Ints at this; rw [← hm.out] at this; exact this) rfl (by first | rfl | simp [Act.eval]) rfl (by omega) (by simp; omega) ?_))
        intro v2 w2 ho2 hb2 _
        have ho3 := Lib.hid (show Ints w2 w.heap.size v2 (kidsTo (nodes P) i (k + 1)) by rw [hnx.out]; rw [hm.out] at ho2; exact ints_one ho2)
        have hl := Lib.hid (show m + 1 = (kidsTo (nodes P) i (k + 1)).length by rw [hnx.out, List.length_append, ← hm.out]; rfl)
        obtain ⟨a2, c2, rfl⟩ := own_form ho2
        have hb12 := Lib.hid (hba.out.trans hb2)
        clear ho2
        go_wp2_with fail
        exact ⟨⟨k + 1, m + 1, a2, c2, by go_num, rfl, by omega, by omega, hl, ⟨ho3.out, hb12.out⟩⟩, by simp [intOf]; omega⟩
      · rw [if_neg hyes, List.append_nil] at hnx
        have hgo : ((xu == i) = false) ∨ ((xu == i) = true ∧ ((k : Int) != i) = false) := by
          cases hq : (xu == i)
          · exact Or.inl rfl
          · refine Or.inr ⟨rfl, ?_⟩
            rw [bne_eq_false_iff_eq]
            rw [beq_iff_eq] at hq
            by_cases e : (k : Int) = i
            · exact e
            · exact absurd ⟨hq, e⟩ hyes
        clear hyes
        replace hnx := Lib.hid hnx
        rcases hgo with hq1 | ⟨hq1, hq2⟩
        all_goals
          go_wp2_with fail
          exact ⟨⟨k + 1, m, a', c', by go_num, rfl, by omega, by omega, Lib.hid (by rw [hnx.out]; exact hm.out), ⟨by rw [hnx.out]; exact hoa.out, hba.out⟩⟩, by simp [intOf]; omega⟩
    · have hke : ¬ ((k : Int) < P.length) := by omega
      have hkk := Lib.hid (show k = P.length by omega)
      go_wp2_with fail
      go_ret
      refine IntsPost.mk hk.out ?_ hc.out.below
      have := hc.out.own
      rw [hkk.out] at this
      exact this

set_option maxHeartbeats 2000000 in
theorem refkids12_any (P : List (Nd × Value)) (v : Value) (i : Int) (w : World) (h : NdSl w v P) (hn : P.length ≤ 1000000) :
    Calls Tryz.prog 45 #[v, .int .i64 i] w (IntsPost (kidsB (nodes P) i) w) := by
  have hplb := place_nodes (P := P) (i := i)
  by_cases h0 : P = []
  · have hk : kidsB (nodes P) i = [] := by
      have : placeB (nodes P) i = false := by subst h0; rw [hplb, Bool.and_eq_false_iff]; simp; omega
      unfold kidsB; rw [if_neg (by rw [this]; decide)]
    obtain ⟨a, c, rfl⟩ := h.form
    clear h hplb
    subst h0
    go_enter Tryz.func45, Tryz.ntmps45
    go_wp2_with fail
    refine wp_loop_rounds 1 ?_; rw [rounds_succ]
    go_wp2_with fail
    go_ret
    exact IntsPost.nil hk (Below.refl _ _)
  have hpos : 0 < P.length := List.length_pos_iff.2 h0
  obtain ⟨b, off, cap, hcap, hbl, rfl, hcl⟩ := h.some hpos
  have hat := h.atsAt
  have hp := fun W : World => refis12_any (some ⟨b, off, none⟩) P.length cap i W
  rw [← hplb] at hp
  clear h h0
  cases hpl : placeB (nodes P) i
  · have hk : kidsB (nodes P) i = [] := by unfold kidsB; rw [if_neg (by rw [hpl]; decide)]
    rw [hpl] at hp
    have hpos1 : (0 : Int) < P.length := by omega
    clear hplb hpl hcl hat
    replace hp := Lib.hid hp
    go_enter Tryz.func45, Tryz.ntmps45
    go_wp2_with fail
    refine wp_loop_rounds 1 ?_; rw [rounds_succ]
    go_wp2_with fail
    refine (hp.out _).mono ?_; rintro e w1 ⟨rfl, rfl⟩
    go_wp2_with fail
    go_ret
    exact IntsPost.nil hk (Below.refl _ _)
  have hk : kidsB (nodes P) i = kidsTo (nodes P) i P.length := by unfold kidsB nodes; rw [if_pos hpl, List.length_map]
  rw [hpl] at hp
  clear hplb hpl
  replace hp := Lib.hid hp
  replace hk := Lib.hid hk
  replace hcl := Lib.hid hcl
  replace hat := Lib.hid hat
  replace hpos := Lib.hid hpos
  go_enter Tryz.func45, Tryz.ntmps45
  go_wp2_with fail
  go_loopw [5, 6] (fun u ii wr => ∃ (k m : Nat) (a' : Option Addr) (c' : Nat), ii = .int .i64 k ∧ u = .slice a' m c' ∧ k ≤ P.length ∧ m ≤ k ∧ Hid (m = (kidsTo (nodes P) i k).length) ∧ Hid (KidAt P i w k u wr)) (fun _ ii _ => P.length - (intOf ii).toNat)
  case atStart => exact ⟨0, 0, none, 0, rfl, rfl, Nat.zero_le _, Nat.le_refl _, rfl, ⟨World.ownsRow_nil _ _ _ _, Below.refl _ _⟩⟩
  case round =>
    obtain ⟨k, m, a', c', rfl, rfl, hkl, hmk, hm, hc⟩ := hrel
    by_cases hlt : k < P.length
    · obtain ⟨d0, d1, d2, d3⟩ := (hcl.out k hlt).next hc.out.below
      rw [nodes_at hlt] at d3
      have hnx := kidsTo_next (nodes P) i k
      unfold upN at hnx
      generalize (atN (nodes P) (k : Int)).up = xu at d3 hnx
      clear d0 d1 d2
      have hsz := hc.out.below.size
      have hbw : b < wr.heap.size := by omega
      have hlt1 : (k : Int) < P.length := by omega
      by_cases hyes : xu = i ∧ (k : Int) ≠ i
      · rw [if_pos hyes] at hnx
        have hq1 : (xu == i) = true := by rw [beq_iff_eq]; exact hyes.1
        have hq2 : ((k : Int) != i) = true := by rw [bne_iff_ne]; exact hyes.2
        clear hyes
        replace hnx := Lib.hid hnx
        go_wp2_with fail
        refine (hp.out _).mono ?_; rintro e w1 ⟨rfl, rfl⟩
        go_wp2_with (at_builtin; go_must (refine wpList_append1 rfl _ _ 48 3 rfl Tryz.underlying48 (.int .i64 0) 8 info_int rfl (by decide) w.heap.size _ m _ (.int .i64 k) (by have := hc.out.own; unfold Ints at this; rw [← hm.out] at this; exact this) rfl (by first | rfl | simp [Act.eval]) rfl (by omega) (by omega) ?_))
        intro v2 w2 ho2 hb2 _
        have ho3 := Lib.hid (show Ints w2 w.heap.size v2 (kidsTo (nodes P) i (k + 1)) by rw [hnx.out]; rw [hm.out] at ho2; exact ints_one ho2)
        have hl := Lib.hid (show m + 1 = (kidsTo (nodes P) i (k + 1)).length by rw [hnx.out, List.length_append, ← hm.out]; rfl)
        obtain ⟨a2, c2, rfl⟩ := own_form ho2
        have hb12 := Lib.hid (hc.out.below.trans hb2)
        clear ho2
        go_wp2_with fail
        exact ⟨⟨k + 1, m + 1, a2, c2, by go_num, rfl, by omega, by omega, hl, ⟨ho3.out, hb12.out⟩⟩, by simp [intOf]; omega⟩
      · rw [if_neg hyes, List.append_nil] at hnx
        have hgo : ((xu == i) = false) ∨ ((xu == i) = true ∧ ((k : Int) != i) = false) := by
          cases hq : (xu == i)
          · exact Or.inl rfl
          · refine Or.inr ⟨rfl, ?_⟩
            rw [bne_eq_false_iff_eq]
            rw [beq_iff_eq] at hq
            by_cases e : (k : Int) = i
            · exact e
            · exact absurd ⟨hq, e⟩ hyes
        clear hyes
        replace hnx := Lib.hid hnx
        rcases hgo with hq1 | ⟨hq1, hq2⟩
        all_goals
          go_wp2_with fail
          refine (hp.out _).mono ?_; rintro e w1 ⟨rfl, rfl⟩
          go_wp2_with fail
          exact ⟨⟨k + 1, m, a', c', by go_num, rfl, by omega, by omega, Lib.hid (by rw [hnx.out]; exact hm.out), ⟨by rw [hnx.out]; exact hc.out.own, hc.out.below⟩⟩, by simp [intOf]; omega⟩
    · have hke : ¬ ((k : Int) < P.length) := by omega
      have hkk := Lib.hid (show k = P.length by omega)
      go_wp2_with fail
      go_ret
      refine IntsPost.mk hk.out ?_ hc.out.below
      have := hc.out.own
      rw [hkk.out] at this
      exact this
end Go.Proofs.YtfmlgfeldlnlgaaGreatDoor
