/- Slices of numbers that can be read, over calls; slices of int that the call itself made; the bounds of a kind. -/
import Derived.Test.YtahohmdbiiknoaaGreatDoorBR01
import Derived.Test.YtahohmdbiiknoaaGreatDoorBR07
namespace Go.Proofs.YtahohmdbiiknoaaGreatDoor
open Go.RowKit

theorem bd_u64 {x : Int} (hx : (Lit.int .u64 x).wf = true) : 0 ≤ x ∧ x ≤ 18446744073709551615 := by
  simp [Lit.wf, IntKind.min, IntKind.max, IntKind.bits, IntKind.signed] at hx
  omega
theorem bd_u64s {xs : List Int} (hx : ∀ x ∈ xs, (Lit.int .u64 x).wf = true) : ∀ x ∈ xs, 0 ≤ x ∧ x ≤ 18446744073709551615 := fun x hm => bd_u64 (hx x hm)
theorem bd_u8 {n : Int} (h : (Lit.int .u8 n).wf = true) : 0 ≤ n ∧ n ≤ 255 := by
  simp [Lit.wf, IntKind.min, IntKind.max, IntKind.bits, IntKind.signed] at h
  omega
theorem bd_i64 {n : Int} (h : (Lit.int .i64 n).wf = true) : -9223372036854775808 ≤ n ∧ n ≤ 9223372036854775807 := by
  simp [Lit.wf, IntKind.min, IntKind.max, IntKind.bits, IntKind.signed] at h
  omega

/-- A slice of numbers that can be read, over calls. -/
structure RdSl (k : IntKind) (w : World) (v : Value) (xs : List Int) : Prop where
  sl : IntSl k w v xs
  low : SlBelow w.heap.size v
theorem RdSl.next {k : IntKind} {w w' : World} {v : Value} {xs : List Int} (h : RdSl k w v xs) (hb : Below w.heap.size w w') : RdSl k w' v xs := ⟨h.sl.below hb h.low, h.low.mono hb.size⟩
theorem info_int : (Tryz.prog.info? 3).map (fun i => (i.zero, i.size, i.bytes)) = some (some (.int .i64 0), 1, 8) := by kernel_rfl
/-- A slice of int that the call itself made. -/
def Ints (w : World) (B : Nat) (v : Value) (xs : List Int) : Prop := w.ownsRow B 3 1 v xs.length (xs.map (Value.int .i64))
theorem Ints.rd {w : World} {B : Nat} {v : Value} {xs : List Int} (h : Ints w B v xs) : RdSl .i64 w v xs := ⟨intSl_own h, slBelow_own h⟩
theorem ints_one {w : World} {B : Nat} {v : Value} {xs : List Int} {y : Int} (h : w.ownsRow B 3 1 v (xs.length + 1) (xs.map (Value.int .i64) ++ [.int .i64 y])) : Ints w B v (xs ++ [y]) := by
  unfold Ints; rw [List.length_append, List.map_append]; exact h
end Go.Proofs.YtahohmdbiiknoaaGreatDoor

/- Layer 12: places; faults; attributes of a node; a node's kids, and the named ones. -/
namespace Go.Proofs.YtahohmdbiiknoaaGreatDoor
open Go.RowKit

theorem refis12_any (a : Option Addr) (n c : Nat) (i : Int) (w : World) : Calls Tryz.prog 70 #[.slice a n c, .int .i64 i] w fun e w' => e = .returned (.bool (decide (0 ≤ i) && decide (i < (n : Int)))) ∧ w = w' := by
  go_enter Tryz.func70, Tryz.ntmps70
  go_wp2_with fail
  all_goals go_ret
  all_goals refine ⟨ret_bool ?_, rfl⟩
  all_goals rw [Bool.eq_iff_iff]
  all_goals simp only [Bool.and_eq_true, decide_eq_true_eq, Bool.false_eq_true, false_iff]
  all_goals first | omega | simp | (simp; omega)
theorem attrB_cons (a : At) (t : List At) (nm : List UInt8) : attrB (a :: t) nm = if (a.1 == nm) = true then (a.2, true) else attrB t nm := by
  unfold attrB
  cases h : (a.1 == nm) <;> simp [h]
/-- A node as an argument. -/
def ndA (x : Nd) (va : Value) : Value := .agg #[.string ⟨x.name.toArray⟩, va, .string ⟨x.text.toArray⟩, .int .i64 x.up]
/-- What Attr answers. -/
def AttrPost (w : World) (o : List UInt8 × Bool) (e : Ending) (w' : World) : Prop := e = .returned (.tuple #[.string ⟨o.1.toArray⟩, .bool o.2]) ∧ Below w.heap.size w w'
theorem AttrPost.mk {w w' : World} {o : List UInt8 × Bool} {s : List UInt8} {b : Bool} (ho : o = (s, b)) (hb : Below w.heap.size w w') : AttrPost w o (.returned (.tuple #[.string ⟨s.toArray⟩, .bool b])) w' := by subst ho; exact ⟨rfl, hb⟩
theorem drop_at {α : Type} (l : List α) (d : α) (k : Nat) (h : k < l.length) : l.drop k = l.getD k d :: l.drop (k + 1) := by
  rw [List.drop_eq_getElem_cons h]
  simp [List.getD, h]

set_option maxHeartbeats 1000000 in
theorem refattr12_any (x : Nd) (va : Value) (nm : List UInt8) (w : World) (h : AtSl w va x.attrs) (hn : x.attrs.length ≤ 9223372036854775807) :
    Calls Tryz.prog 72 #[ndA x va, .string ⟨nm.toArray⟩] w (AttrPost w (attrB x.attrs nm)) := by
  obtain ⟨xn, l, xt, xu⟩ := x
  unfold ndA
  simp only at h hn ⊢
  have hb0 : Below w.heap.size w (w.alloc (.cells #[.string ⟨xn.toArray⟩, va, .string ⟨xt.toArray⟩, .int .i64 xu] 49)) := (Below.refl _ _).alloc (Nat.le_refl _) _
  by_cases h0 : l = []
  · obtain ⟨a, c, rfl⟩ := h.nil h0
    subst h0
    clear h
    replace hb0 := Lib.hid hb0
    go_enter Tryz.func72, Tryz.ntmps72
    go_wp2_with fail
    refine wp_loop_rounds 1 ?_; rw [rounds_succ]
    go_wp2_with fail
    go_ret2
    exact AttrPost.mk rfl hb0.out
  obtain ⟨g, off, cap, hcap, hg, rfl, hcl⟩ := h.some h0
  clear h
  have hpos : 0 < l.length := List.length_pos_iff.2 h0
  replace h0 := Lib.hid h0
  replace hcl := Lib.hid hcl
  replace hb0 := Lib.hid hb0
  go_enter Tryz.func72, Tryz.ntmps72
  go_wp2_with fail
  have hga := hg
  go_loopw [6] (fun i wr => ∃ k : Nat, i = .int .i64 k ∧ k ≤ l.length ∧ Hid (attrB l nm = attrB (l.drop k) nm) ∧ wr = w.alloc (.cells #[.string ⟨xn.toArray⟩, .slice (some ⟨g, off, none⟩) l.length cap, .string ⟨xt.toArray⟩, .int .i64 xu] 49)) (fun i _ => l.length - (intOf i).toNat)
  case atStart => exact ⟨0, rfl, Nat.zero_le _, rfl, rfl⟩
  case round =>
    obtain ⟨k, rfl, hk, ho, rfl⟩ := hrel
    by_cases hlt : k < l.length
    · obtain ⟨d0, d1⟩ := hcl.out k hlt
      have ho2 := ho.out
      rw [drop_at l ([], []) k hlt, attrB_cons] at ho2
      unfold strV at d0 d1
      generalize l.getD k ([], []) = x at d0 d1 ho2
      obtain ⟨x1, x2⟩ := x
      simp only at d0 d1 ho2
      cases hq : (x1 == nm)
      · rw [hq, if_neg (by decide)] at ho2
        replace ho2 := Lib.hid ho2
        go_wp2_with fail
        exact ⟨⟨k + 1, by go_num, by omega, ho2, trivial⟩, by simp [intOf]; omega⟩
      · rw [hq, if_pos rfl] at ho2
        replace ho2 := Lib.hid ho2
        go_wp2_with fail
        go_ret2
        exact AttrPost.mk ho2.out hb0.out
    · have hend := ho.out
      rw [List.drop_eq_nil_of_le (by omega)] at hend
      replace hend := Lib.hid hend
      have hlt2 : ¬ ((k : Int) < l.length) := by omega
      go_wp2_with fail
      go_ret2
      exact AttrPost.mk hend.out hb0.out
end Go.Proofs.YtahohmdbiiknoaaGreatDoor

/- Layer 12: a node's kids, the program's and the reference's. -/
namespace Go.Proofs.YtahohmdbiiknoaaGreatDoor
open Go.RowKit

/-- What the loop of Kids keeps. -/
structure KidAt (P : List (Nd × Value)) (i : Int) (w : World) (k : Nat) (u : Value) (wr : World) : Prop where
  own : Ints wr w.heap.size u (kidsTo (nodes P) i k)
  below : Below w.heap.size w wr
/-- A slice of places. -/
def IntsPost (xs : List Int) (w : World) (e : Ending) (w' : World) : Prop := ∃ v, e = .returned v ∧ Ints w' w.heap.size v xs ∧ Below w.heap.size w w'
theorem IntsPost.mk {xs ys : List Int} {w w' : World} {v : Value} (hx : xs = ys) (h : Ints w' w.heap.size v ys) (hb : Below w.heap.size w w') : IntsPost xs w (.returned v) w' := by subst hx; exact ⟨v, rfl, h, hb⟩
theorem IntsPost.nil {xs : List Int} {w w' : World} (hx : xs = []) (hb : Below w.heap.size w w') : IntsPost xs w (.returned (.slice none 0 0)) w' := by subst hx; exact ⟨_, rfl, World.ownsRow_nil _ _ _ _, hb⟩
theorem place_nodes {P : List (Nd × Value)} {i : Int} : placeB (nodes P) i = (decide (0 ≤ i) && decide (i < (P.length : Int))) := by unfold placeB nodes; simp

set_option maxHeartbeats 2000000 in
theorem refkids12_any (P : List (Nd × Value)) (v : Value) (i : Int) (w : World) (h : NdSl w v P) (hn : P.length ≤ 1000000) :
    Calls Tryz.prog 54 #[v, .int .i64 i] w (IntsPost (kidsB (nodes P) i) w) := by
  have hplb := place_nodes (P := P) (i := i)
  by_cases h0 : P = []
  · have hk : kidsB (nodes P) i = [] := by
      have : placeB (nodes P) i = false := by subst h0; rw [hplb, Bool.and_eq_false_iff]; simp; omega
      unfold kidsB; rw [if_neg (by rw [this]; decide)]
    obtain ⟨a, c, rfl⟩ := h.form
    clear h hplb
    subst h0
    go_enter Tryz.func54, Tryz.ntmps54
    go_wp2_with fail
    refine wp_loop_rounds 1 ?_; rw [rounds_succ]
    go_wp2_with fail
    go_ret
    exact IntsPost.nil hk (Below.refl _ _)
  have hpos : 0 < P.length := List.length_pos_iff.2 h0
  obtain ⟨b, off, cap, hcap, hbl, rfl, hcl⟩ := h.some hpos
  have hat := h.atsAt
  have hp := fun W : World => refis12_any (some ⟨b, off, none⟩) P.length cap i W
  rw [← hplb] at hp
  clear h h0
  cases hpl : placeB (nodes P) i
  · have hk : kidsB (nodes P) i = [] := by unfold kidsB; rw [if_neg (by rw [hpl]; decide)]
    rw [hpl] at hp
    have hpos1 : (0 : Int) < P.length := by omega
    clear hplb hpl hcl hat
    replace hp := Lib.hid hp
    go_enter Tryz.func54, Tryz.ntmps54
    go_wp2_with fail
    refine wp_loop_rounds 1 ?_; rw [rounds_succ]
    go_wp2_with fail
    refine (hp.out _).mono ?_; rintro e w1 ⟨rfl, rfl⟩
    go_wp2_with fail
    go_ret
    exact IntsPost.nil hk (Below.refl _ _)
  have hk : kidsB (nodes P) i = kidsTo (nodes P) i P.length := by unfold kidsB nodes; rw [if_pos hpl, List.length_map]
  rw [hpl] at hp
  clear hplb hpl
  replace hp := Lib.hid hp
  replace hk := Lib.hid hk
  replace hcl := Lib.hid hcl
  replace hat := Lib.hid hat
  replace hpos := Lib.hid hpos
  go_enter Tryz.func54, Tryz.ntmps54
  go_wp2_with fail
  go_loopw [5, 6] (fun u ii wr => ∃ (k m : Nat) (a' : Option Addr) (c' : Nat), ii = .int .i64 k ∧ u = .slice a' m c' ∧ k ≤ P.length ∧ m ≤ k ∧ Hid (m = (kidsTo (nodes P) i k).length) ∧ Hid (KidAt P i w k u wr)) (fun _ ii _ => P.length - (intOf ii).toNat)
  case atStart => exact ⟨0, 0, none, 0, rfl, rfl, Nat.zero_le _, Nat.le_refl _, rfl, ⟨World.ownsRow_nil _ _ _ _, Below.refl _ _⟩⟩
  case round =>
    obtain ⟨k, m, a', c', rfl, rfl, hkl, hmk, hm, hc⟩ := hrel
    by_cases hlt : k < P.length
    · obtain ⟨d0, d1, d2, d3⟩ := (hcl.out k hlt).next hc.out.below
      rw [nodes_at hlt] at d3
      have hnx := kidsTo_next (nodes P) i k
      unfold upN at hnx
      generalize (atN (nodes P) (k : Int)).up = xu at d3 hnx
      clear d0 d1 d2
      have hsz := hc.out.below.size
      have hbw : b < wr.heap.size := by omega
      have hlt1 : (k : Int) < P.length := by omega
      by_cases hyes : xu = i ∧ (k : Int) ≠ i
      · rw [if_pos hyes] at hnx
        have hq1 : (xu == i) = true := by rw [beq_iff_eq]; exact hyes.1
        have hq2 : ((k : Int) != i) = true := by rw [bne_iff_ne]; exact hyes.2
        clear hyes
        replace hnx := Lib.hid hnx
        go_wp2_with fail
        refine (hp.out _).mono ?_; rintro e w1 ⟨rfl, rfl⟩
        go_wp2_with (at_builtin; go_must (refine wpList_append1 rfl _ _ 66 3 rfl Tryz.underlying66 (.int .i64 0) 8 info_int rfl (by decide) w.heap.size _ m _ (.int .i64 k) (by have := hc.out.own; unfold Ints at this; rw [← hm.out] at this; exact this) rfl (by first | rfl | simp [Act.eval]) rfl (by omega) (by omega) ?_))
        intro v2 w2 ho2 hb2 _
        have ho3 := Lib.hid (show Ints w2 w.heap.size v2 (kidsTo (nodes P) i (k + 1)) by rw [hnx.out]; rw [hm.out] at ho2; exact ints_one ho2)
        have hl := Lib.hid (show m + 1 = (kidsTo (nodes P) i (k + 1)).length by rw [hnx.out, List.length_append, ← hm.out]; rfl)
        obtain ⟨a2, c2, rfl⟩ := own_form ho2
        have hb12 := Lib.hid (hc.out.below.trans hb2)
        clear ho2
        go_wp2_with fail
        exact ⟨⟨k + 1, m + 1, a2, c2, by go_num, rfl, by omega, by omega, hl, ⟨ho3.out, hb12.out⟩⟩, by simp [intOf]; omega⟩
      · rw [if_neg hyes, List.append_nil] at hnx
        have hgo : ((xu == i) = false) ∨ ((xu == i) = true ∧ ((k : Int) != i) = false) := by
          cases hq : (xu == i)
          · exact Or.inl rfl
          · refine Or.inr ⟨rfl, ?_⟩
            rw [bne_eq_false_iff_eq]
            rw [beq_iff_eq] at hq
            by_cases e : (k : Int) = i
            · exact e
            · exact absurd ⟨hq, e⟩ hyes
        clear hyes
        replace hnx := Lib.hid hnx
        rcases hgo with hq1 | ⟨hq1, hq2⟩
        all_goals
          go_wp2_with fail
          refine (hp.out _).mono ?_; rintro e w1 ⟨rfl, rfl⟩
          go_wp2_with fail
          exact ⟨⟨k + 1, m, a', c', by go_num, rfl, by omega, by omega, Lib.hid (by rw [hnx.out]; exact hm.out), ⟨by rw [hnx.out]; exact hc.out.own, hc.out.below⟩⟩, by simp [intOf]; omega⟩
    · have hke : ¬ ((k : Int) < P.length) := by omega
      have hkk := Lib.hid (show k = P.length by omega)
      go_wp2_with fail
      go_ret
      refine IntsPost.mk hk.out ?_ hc.out.below
      have := hc.out.own
      rw [hkk.out] at this
      exact this
end Go.Proofs.YtahohmdbiiknoaaGreatDoor

/- Layer 12: the kids of a name, the program's and the reference's; same. -/
namespace Go.Proofs.YtahohmdbiiknoaaGreatDoor
open Go.RowKit

/-- Of the first k those that f lets through. -/
def filtTo (f : Int → Bool) (xs : List Int) (k : Nat) : List Int := (xs.take k).filter f
theorem filtTo_next (f : Int → Bool) (xs : List Int) (k : Nat) (h : k < xs.length) : filtTo f xs (k + 1) = filtTo f xs k ++ if f (xs.getD k 0) = true then [xs.getD k 0] else [] := by
  unfold filtTo
  rw [List.take_add_one, List.filter_append]
  congr 1
  simp only [List.getElem?_eq_getElem h, Option.toList_some, List.getD, Option.getD_some]
  by_cases e : f xs[k] = true
  · simp [e]
  · simp [e]
theorem filtTo_all (f : Int → Bool) (xs : List Int) : filtTo f xs xs.length = xs.filter f := by unfold filtTo; rw [List.take_length]
def nmF (l : List Nd) (nm : List UInt8) (j : Int) : Bool := (atN l j).name == nm && nm != []
theorem namedB_eq (l : List Nd) (i : Int) (nm : List UInt8) : namedB l i nm = (kidsB l i).filter (nmF l nm) := by
  unfold namedB nmF
  by_cases h : nm = []
  · subst h; simp
  · rw [if_neg h]
    congr 1
    funext j
    rw [show (nm != []) = true by rw [bne_iff_ne]; exact h, Bool.and_true]
/-- What the loop of Named keeps. -/
structure NamAt (f : Int → Bool) (xs : List Int) (w1 : World) (k : Nat) (u : Value) (wr : World) : Prop where
  own : Ints wr w1.heap.size u (filtTo f xs k)
  below : Below w1.heap.size w1 wr

set_option maxHeartbeats 2000000 in
theorem refnamed12_any (P : List (Nd × Value)) (v : Value) (i : Int) (nm : List UInt8) (w : World) (h : NdSl w v P) (hn : P.length ≤ 1000000) :
    Calls Tryz.prog 37 #[v, .int .i64 i, .string ⟨nm.toArray⟩] w (IntsPost (namedB (nodes P) i nm) w) := by
  have hk := namedB_eq (nodes P) i nm
  have hkid := refkids12_any P v i w h hn
  have hbd : ∀ j ∈ kidsB (nodes P) i, placeB (nodes P) j = true := fun j hj => (kidsB_bd hj).1
  have hlen := kidsB_len (nodes P) i
  have hnl : (nodes P).length = P.length := by unfold nodes; simp
  rw [hnl] at hlen
  have hnmf : ∀ j, nmF (nodes P) nm j = ((atN (nodes P) j).name == nm && nm != []) := fun j => rfl
  generalize kidsB (nodes P) i = xs at hk hkid hbd hlen
  generalize hf : nmF (nodes P) nm = f at hk hnmf
  clear hf
  obtain ⟨va, vc, hva⟩ := h.form
  subst hva
  replace hk := Lib.hid hk
  replace hkid := Lib.hid hkid
  replace hbd := Lib.hid hbd
  replace hnmf := Lib.hid hnmf
  replace h := Lib.hid h
  replace hnl := Lib.hid hnl
  go_enter Tryz.func37, Tryz.ntmps37
  go_wp2_with fail
  refine hkid.out.mono ?_; rintro e w1 ⟨u, rfl, hu, hb1⟩
  obtain ⟨ua, uc, rfl⟩ := own_form hu
  have hrd := hu.rd
  have hnd := h.out.next hb1
  clear hkid hu
  replace hrd := Lib.hid hrd
  replace hnd := Lib.hid hnd
  replace hb1 := Lib.hid hb1
  go_wp2_with fail
  go_loopw [7, 9] (fun u ii wr => ∃ (k m : Nat) (a' : Option Addr) (c' : Nat), ii = .int .i64 k ∧ u = .slice a' m c' ∧ k ≤ xs.length ∧ m ≤ k ∧ Hid (m = (filtTo f xs k).length) ∧ Hid (NamAt f xs w1 k u wr)) (fun _ ii _ => xs.length - (intOf ii).toNat)
  case atStart => exact ⟨0, 0, none, 0, rfl, rfl, Nat.zero_le _, Nat.le_refl _, rfl, ⟨World.ownsRow_nil _ _ _ _, Below.refl _ _⟩⟩
  case round =>
    obtain ⟨k, m, a', c', rfl, rfl, hkl, hmk, hm, hc⟩ := hrel
    by_cases hlt : k < xs.length
    · have hxne : xs ≠ [] := by intro e; rw [e] at hlt; simp at hlt
      obtain ⟨ub, uo, uc', ue, uh⟩ := (hrd.out.next hc.out.below).sl.some hxne
      injection ue with ue ue2 ue3
      clear ue2
      subst ue ue3
      have g1 := uh k hlt
      have hmem : xs.getD k 0 ∈ xs := by rw [show xs.getD k 0 = xs[k] by simp [List.getD, hlt]]; exact List.getElem_mem hlt
      have hpj := hbd.out _ hmem
      have hnx := filtTo_next f xs k hlt
      rw [hnmf.out] at hnx
      clear uh hmem hxne
      generalize xs.getD k 0 = j at g1 hpj hnx
      have hpj2 := place_iff.1 hpj
      rw [hnl.out] at hpj2
      obtain ⟨q, rfl⟩ : ∃ q : Nat, j = q := ⟨j.toNat, by omega⟩
      have hq : q < P.length := by omega
      obtain ⟨b, off, cap, hcap, hbl, hve, hcl⟩ := (hnd.out.next hc.out.below).some (by omega)
      injection hve with hve1 hve2 hve3
      clear hve2
      subst hve1 hve3
      obtain ⟨d0, d1, d2, d3⟩ := hcl q hq
      rw [nodes_at hq] at d0
      clear d1 d2 d3 hcl hpj hpj2
      generalize (atN (nodes P) (q : Int)).name = xn at d0 hnx
      unfold strV at d0
      have hsz := hc.out.below.size
      have hlt1 : (k : Int) < xs.length := by omega
      have hex : nm.isEmpty = (nm == []) := by cases nm <;> rfl
      cases hc0 : (xn == nm)
      · rw [hc0, Bool.false_and, if_neg (by decide), List.append_nil] at hnx
        replace hnx := Lib.hid hnx
        clear hex
        go_wp2_with fail
        exact ⟨⟨k + 1, m, a', c', by go_num, rfl, by omega, by omega, Lib.hid (by rw [hnx.out]; exact hm.out), ⟨by rw [hnx.out]; exact hc.out.own, hc.out.below⟩⟩, by simp [intOf]; omega⟩
      · rw [hc0, Bool.true_and] at hnx
        cases hem : (nm != [])
        · rw [hem, if_neg (by decide), List.append_nil] at hnx
          have hem2 : nm.isEmpty = true := by rw [hex]; unfold bne at hem; simpa using hem
          have hem3 : nm = [] := by simpa using hem2
          replace hnx := Lib.hid hnx
          replace hem := Lib.hid hem
          replace hem3 := Lib.hid hem3
          clear hex
          go_wp2_with fail
          exact ⟨⟨k + 1, m, a', c', by go_num, rfl, by omega, by omega, Lib.hid (by rw [hnx.out]; exact hm.out), ⟨by rw [hnx.out]; exact hc.out.own, hc.out.below⟩⟩, by simp [intOf]; omega⟩
        · rw [hem, if_pos rfl] at hnx
          have hem2 : nm.isEmpty = false := by rw [hex]; unfold bne at hem; simpa using hem
          replace hnx := Lib.hid hnx
          replace hem := Lib.hid hem
          clear hex
          go_wp2_with (at_builtin; go_must (refine wpList_append1 rfl _ _ 66 3 rfl Tryz.underlying66 (.int .i64 0) 8 info_int rfl (by decide) w1.heap.size _ m _ (.int .i64 q) (by have := hc.out.own; unfold Ints at this; rw [← hm.out] at this; exact this) rfl (by first | rfl | simp [Act.eval]) rfl (by omega) (by omega) ?_))
          intro v2 w2 ho2 hb2 _
          have ho3 := Lib.hid (show Ints w2 w1.heap.size v2 (filtTo f xs (k + 1)) by rw [hnx.out]; rw [hm.out] at ho2; exact ints_one ho2)
          have hl := Lib.hid (show m + 1 = (filtTo f xs (k + 1)).length by rw [hnx.out, List.length_append, ← hm.out]; rfl)
          obtain ⟨a2, c2, rfl⟩ := own_form ho2
          have hb12 := Lib.hid (hc.out.below.trans hb2)
          clear ho2
          go_wp2_with fail
          exact ⟨⟨k + 1, m + 1, a2, c2, by go_num, rfl, by omega, by omega, hl, ⟨ho3.out, hb12.out⟩⟩, by simp [intOf]; omega⟩
    · have hke : ¬ ((k : Int) < xs.length) := by omega
      have hkk := Lib.hid (show k = xs.length by omega)
      go_wp2_with fail
      go_ret
      have ho := hc.out.own
      rw [hkk.out, filtTo_all] at ho
      exact IntsPost.mk hk.out (ownsRow_mono ho hb1.out.size) (hb1.out.andThen hc.out.below)

end Go.Proofs.YtahohmdbiiknoaaGreatDoor
