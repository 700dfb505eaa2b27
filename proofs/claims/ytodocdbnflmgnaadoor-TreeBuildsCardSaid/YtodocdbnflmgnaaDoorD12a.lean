/- Layer 12: places; faults; attributes of a node; a node's kids, and the named ones. -/
import Derived.Test.YtodocdbnflmgnaaDoorNd
import Derived.Test.YtodocdbnflmgnaaDoorNi
namespace Go.Proofs.YtodocdbnflmgnaaDoor
open Go.RowKit

theorem place12_any (a : Option Addr) (n c : Nat) (i : Int) (w : World) : Calls Tryd.prog 25 #[.slice a n c, .int .i64 i] w fun e w' => e = .returned (.bool (decide (0 ≤ i) && decide (i < (n : Int)))) ∧ w = w' := by
  go_enter Tryd.func25, Tryd.ntmps25
  go_wp2_with fail
  all_goals go_ret
  all_goals refine ⟨ret_bool ?_, rfl⟩
  all_goals rw [Bool.eq_iff_iff]
  all_goals simp only [Bool.and_eq_true, decide_eq_true_eq, Bool.false_eq_true, false_iff]
  all_goals first | omega | simp | (simp; omega)
theorem refis12_any (a : Option Addr) (n c : Nat) (i : Int) (w : World) : Calls Tryd.prog 26 #[.slice a n c, .int .i64 i] w fun e w' => e = .returned (.bool (decide (0 ≤ i) && decide (i < (n : Int)))) ∧ w = w' := by
  go_enter Tryd.func26, Tryd.ntmps26
  go_wp2_with fail
  all_goals go_ret
  all_goals refine ⟨ret_bool ?_, rfl⟩
  all_goals rw [Bool.eq_iff_iff]
  all_goals simp only [Bool.and_eq_true, decide_eq_true_eq, Bool.false_eq_true, false_iff]
  all_goals first | omega | simp | (simp; omega)
theorem fault12_any (w : World) : Calls Tryd.prog 24 #[] w fun e w' => e = .returned (.iface 55 (.pointer (some ⟨w.heap.size, 0, none⟩))) ∧ w' = w.alloc (.cells #[.int .i64 0, .iface 29 (.int .i64 2)] 81) := by
  go_enter Tryd.func24, Tryd.ntmps24
  go_wp2_with fail
  go_ret
  exact ⟨rfl, rfl⟩

theorem attrB_cons (a : At) (t : List At) (nm : List UInt8) : attrB (a :: t) nm = if (a.1 == nm) = true then (a.2, true) else attrB t nm := by
  unfold attrB
  cases h : (a.1 == nm) <;> simp [h]
/-- A node as an argument. -/
def ndA (x : Nd) (va : Value) : Value := .agg #[.string ⟨x.name.toArray⟩, va, .string ⟨x.text.toArray⟩, .int .i64 x.up]
/-- What Attr answers. -/
def AttrPost (w : World) (o : List UInt8 × Bool) (e : Ending) (w' : World) : Prop := e = .returned (.tuple #[.string ⟨o.1.toArray⟩, .bool o.2]) ∧ Below w.heap.size w w'
theorem AttrPost.mk {w w' : World} {o : List UInt8 × Bool} {s : List UInt8} {b : Bool} (ho : o = (s, b)) (hb : Below w.heap.size w w') : AttrPost w o (.returned (.tuple #[.string ⟨s.toArray⟩, .bool b])) w' := by subst ho; exact ⟨rfl, hb⟩
theorem drop_at {α : Type} (l : List α) (d : α) (k : Nat) (h : k < l.length) : l.drop k = l.getD k d :: l.drop (k + 1) := by
  rw [List.drop_eq_getElem_cons h]
  simp [List.getD, h]

set_option maxHeartbeats 1000000 in
theorem attr12_any (x : Nd) (va : Value) (nm : List UInt8) (w : World) (h : AtSl w va x.attrs) (hn : x.attrs.length ≤ 9223372036854775807) :
    Calls Tryd.prog 19 #[ndA x va, .string ⟨nm.toArray⟩] w (AttrPost w (attrB x.attrs nm)) := by
  obtain ⟨xn, l, xt, xu⟩ := x
  unfold ndA
  simp only at h hn ⊢
  have hb0 : Below w.heap.size w (w.alloc (.cells #[.string ⟨xn.toArray⟩, va, .string ⟨xt.toArray⟩, .int .i64 xu] 44)) := (Below.refl _ _).alloc (Nat.le_refl _) _
  by_cases h0 : l = []
  · obtain ⟨a, c, rfl⟩ := h.nil h0
    subst h0
    clear h
    replace hb0 := Lib.hid hb0
    go_enter Tryd.func19, Tryd.ntmps19
    go_wp2_with fail
    refine wp_loop_rounds 1 ?_; rw [rounds_succ]
    go_wp2_with fail
    go_ret2
    exact AttrPost.mk rfl hb0.out
  obtain ⟨g, off, cap, hcap, hg, rfl, hcl⟩ := h.some h0
  clear h
  have hpos : 0 < l.length := List.length_pos_iff.2 h0
  replace h0 := Lib.hid h0
  replace hcl := Lib.hid hcl
  replace hb0 := Lib.hid hb0
  go_enter Tryd.func19, Tryd.ntmps19
  go_wp2_with fail
  go_loopw [11] (fun i wr => ∃ k : Nat, i = .int .i64 k ∧ k ≤ l.length ∧ Hid (attrB l nm = attrB (l.drop k) nm) ∧ Hid (Below w.heap.size w wr)) (fun i _ => l.length - (intOf i).toNat)
  case atStart => exact ⟨0, rfl, Nat.zero_le _, rfl, hb0.out⟩
  case round =>
    obtain ⟨k, rfl, hk, ho, hb⟩ := hrel
    by_cases hlt : k < l.length
    · obtain ⟨c0, c1⟩ := hcl.out k hlt
      have d0 := (hb.out.cell (p := ⟨g, off + k * 2, none⟩) hg).trans c0
      have d1 := (hb.out.cell (p := ⟨g, off + k * 2 + 1, none⟩) hg).trans c1
      clear c0 c1
      have ho2 := ho.out
      rw [drop_at l ([], []) k hlt, attrB_cons] at ho2
      have hsz := hb.out.size
      have hgw : g < wr.heap.size := by omega
      unfold strV at d0 d1
      generalize l.getD k ([], []) = x at d0 d1 ho2
      obtain ⟨x1, x2⟩ := x
      simp only at d0 d1 ho2
      cases hq : (x1 == nm)
      · rw [hq, if_neg (by decide)] at ho2
        replace ho2 := Lib.hid ho2
        go_wp2_with fail
        exact ⟨⟨k + 1, by go_num, by omega, ho2, hb.out.alloc hsz _⟩, by simp [intOf]; omega⟩
      · rw [hq, if_pos rfl] at ho2
        replace ho2 := Lib.hid ho2
        go_wp2_with fail
        go_ret2
        exact AttrPost.mk ho2.out (hb.out.alloc hsz _)
    · have hend := ho.out
      rw [List.drop_eq_nil_of_le (by omega)] at hend
      replace hend := Lib.hid hend
      have hlt2 : ¬ ((k : Int) < l.length) := by omega
      go_wp2_with fail
      go_ret2
      exact AttrPost.mk hend.out hb.out

set_option maxHeartbeats 1000000 in
theorem refattr12_any (x : Nd) (va : Value) (nm : List UInt8) (w : World) (h : AtSl w va x.attrs) (hn : x.attrs.length ≤ 9223372036854775807) :
    Calls Tryd.prog 20 #[ndA x va, .string ⟨nm.toArray⟩] w (AttrPost w (attrB x.attrs nm)) := by
  obtain ⟨xn, l, xt, xu⟩ := x
  unfold ndA
  simp only at h hn ⊢
  have hb0 : Below w.heap.size w (w.alloc (.cells #[.string ⟨xn.toArray⟩, va, .string ⟨xt.toArray⟩, .int .i64 xu] 44)) := (Below.refl _ _).alloc (Nat.le_refl _) _
  by_cases h0 : l = []
  · obtain ⟨a, c, rfl⟩ := h.nil h0
    subst h0
    clear h
    replace hb0 := Lib.hid hb0
    go_enter Tryd.func20, Tryd.ntmps20
    go_wp2_with fail
    refine wp_loop_rounds 1 ?_; rw [rounds_succ]
    go_wp2_with fail
    go_ret2
    exact AttrPost.mk rfl hb0.out
  obtain ⟨g, off, cap, hcap, hg, rfl, hcl⟩ := h.some h0
  clear h
  have hpos : 0 < l.length := List.length_pos_iff.2 h0
  replace h0 := Lib.hid h0
  replace hcl := Lib.hid hcl
  replace hb0 := Lib.hid hb0
  go_enter Tryd.func20, Tryd.ntmps20
  go_wp2_with fail
  have hga := hg
  go_loopw [6] (fun i wr => ∃ k : Nat, i = .int .i64 k ∧ k ≤ l.length ∧ Hid (attrB l nm = attrB (l.drop k) nm) ∧ wr = w.alloc (.cells #[.string ⟨xn.toArray⟩, .slice (some ⟨g, off, none⟩) l.length cap, .string ⟨xt.toArray⟩, .int .i64 xu] 44)) (fun i _ => l.length - (intOf i).toNat)
  case atStart => exact ⟨0, rfl, Nat.zero_le _, rfl, rfl⟩
  case round =>
    obtain ⟨k, rfl, hk, ho, rfl⟩ := hrel
    by_cases hlt : k < l.length
    · obtain ⟨d0, d1⟩ := hcl.out k hlt
      have ho2 := ho.out
      rw [drop_at l ([], []) k hlt, attrB_cons] at ho2
      unfold strV at d0 d1
      generalize l.getD k ([], []) = x at d0 d1 ho2
      obtain ⟨x1, x2⟩ := x
      simp only at d0 d1 ho2
      cases hq : (x1 == nm)
      · rw [hq, if_neg (by decide)] at ho2
        replace ho2 := Lib.hid ho2
        go_wp2_with fail
        exact ⟨⟨k + 1, by go_num, by omega, ho2, trivial⟩, by simp [intOf]; omega⟩
      · rw [hq, if_pos rfl] at ho2
        replace ho2 := Lib.hid ho2
        go_wp2_with fail
        go_ret2
        exact AttrPost.mk ho2.out hb0.out
    · have hend := ho.out
      rw [List.drop_eq_nil_of_le (by omega)] at hend
      replace hend := Lib.hid hend
      have hlt2 : ¬ ((k : Int) < l.length) := by omega
      go_wp2_with fail
      go_ret2
      exact AttrPost.mk hend.out hb0.out
end Go.Proofs.YtodocdbnflmgnaaDoor
