/- The walks of layer 6's Near, the reference's, and awake. -/
import Derived.Test.YtonekkjodolmaaaD06a
import Derived.Test.YtonekkjodolmaaaNi
namespace Go.Proofs.Ytonekkjodolmaaa
open Go.RowKit

/-- What the loop of Near keeps. -/
structure NearAt (xs : List Int) (s d : Int) (w : World) (v0 : Value) (k : Nat) (v : Value) (wr : World) : Prop where
  own : Ints wr w.heap.size v (nearTo xs s d k)
  sl : IntSl .u64 wr v0 xs
  below : Below w.heap.size w wr
def NearPost (xs : List Int) (s d : Int) (w : World) (e : Ending) (w' : World) : Prop := ∃ v, e = .returned v ∧ Ints w' w.heap.size v (nearB xs s d) ∧ Below w.heap.size w w'

set_option maxHeartbeats 1000000 in
theorem near_any (xs : List Int) (v : Value) (s d : Int) (w : World) (hv : IntSl .u64 w v xs) (hlow : SlBelow w.heap.size v) (hn : xs.length ≤ 100000) (hx : ∀ x ∈ xs, 0 ≤ x ∧ x ≤ 18446744073709551615) (hs0 : 0 ≤ s) (hs1 : s ≤ 18446744073709551615) :
    Calls Try.prog 12 #[v, .int .u64 s, .int .i64 d] w (NearPost xs s d w) := by
  obtain ⟨a, c, rfl⟩ := hv.form
  replace hv := Lib.hid hv
  replace hlow := Lib.hid hlow
  replace hx := Lib.hid hx
  go_enter Try.func12, Try.ntmps12
  go_wp2_with fail
  go_loopw [7, 8, 9, 12] (fun u _ _ i wr => ∃ (k m : Nat) (a' : Option Addr) (c' : Nat), i = .int .i64 k ∧ u = .slice a' m c' ∧ k ≤ xs.length ∧ m ≤ k ∧ Hid (m = (nearTo xs s d k).length) ∧ Hid (NearAt xs s d w (.slice a xs.length c) k u wr)) (fun _ _ _ i _ => xs.length - (intOf i).toNat)
  case atStart => exact ⟨0, 0, none, 0, rfl, rfl, Nat.zero_le _, Nat.le_refl _, rfl, ⟨World.ownsRow_nil _ _ _ _, hv.out, Below.refl _ _⟩⟩
  case round =>
    obtain ⟨k, m, a', c', rfl, rfl, hk, hmk, hm, hc⟩ := hrel
    by_cases hlt : k < xs.length
    · have hne : xs ≠ [] := by intro e; subst e; simp at hlt
      obtain ⟨b, off, c1, e1, h1⟩ := hc.out.sl.some hne
      injection e1 with e1 e1'' e1'
      clear e1''
      subst e1 e1'
      have g1 := h1 k hlt
      have hxb := hx.out (xs.getD k 0) (by simp [List.getD, hlt])
      have hny := nearTo_yes xs s d k
      have hnn := nearTo_no xs s d k
      generalize xs.getD k 0 = x at g1 hxb hny hnn
      obtain ⟨hx0, hx1⟩ := hxb
      have hsz := hc.out.below.size
      clear h1 hne
      by_cases hd : distB x s ≤ d
      · replace hny := Lib.hid (hny hd)
        clear hnn
        go_wp2_with fail
        refine (dist_any x s wr hx0 hx1 hs0 hs1).mono ?_; rintro e w1 ⟨rfl, rfl⟩
        go_wp2_with (at_builtin; go_must (refine wpList_append1 rfl _ _ 28 3 rfl Try.underlying28 (.int .i64 0) 8 info_int rfl (by decide) w.heap.size _ m _ (.int .i64 k) (by have := hc.out.own; unfold Ints at this; rw [← hm.out] at this; exact this) rfl rfl rfl (by omega) (by omega) ?_))
        intro v2 w2 ho2 hb2 _
        have ho3 := Lib.hid (show Ints w2 w.heap.size v2 (nearTo xs s d (k + 1)) by rw [hny.out]; rw [hm.out] at ho2; exact ints_one ho2)
        have hl := Lib.hid (show m + 1 = (nearTo xs s d (k + 1)).length by rw [hny.out, List.length_append, ← hm.out]; rfl)
        obtain ⟨a2, c2, rfl⟩ := own_form ho2
        have hb12 := Lib.hid (hc.out.below.trans hb2)
        have hsl2 := Lib.hid (hc.out.sl.below hb2 hlow.out)
        clear ho2
        go_wp2_with fail
        exact ⟨⟨k + 1, m + 1, a2, c2, by go_num, rfl, by omega, by omega, hl, ⟨ho3.out, hsl2.out, hb12.out⟩⟩, by simp [intOf]; omega⟩
      · replace hnn := Lib.hid (hnn hd)
        clear hny
        go_wp2_with fail
        refine (dist_any x s wr hx0 hx1 hs0 hs1).mono ?_; rintro e w1 ⟨rfl, rfl⟩
        go_wp2_with fail
        exact ⟨⟨k + 1, m, a', c', by go_num, rfl, by omega, by omega, Lib.hid (by rw [hnn.out]; exact hm.out), ⟨by rw [hnn.out]; exact hc.out.own, hc.out.sl, hc.out.below⟩⟩, by simp [intOf]; omega⟩
    · have hke : ¬ ((k : Int) < xs.length) := by omega
      have hkk := Lib.hid (show k = xs.length by omega)
      go_wp2_with fail
      go_ret
      refine ⟨_, rfl, ?_, hc.out.below⟩
      have := hc.out.own
      rw [hkk.out] at this
      exact this

set_option maxHeartbeats 1000000 in
theorem refnear_any (xs : List Int) (v : Value) (s d : Int) (w : World) (hv : IntSl .u64 w v xs) (hlow : SlBelow w.heap.size v) (hn : xs.length ≤ 100000) (hx : ∀ x ∈ xs, 0 ≤ x ∧ x ≤ 18446744073709551615) (hs0 : 0 ≤ s) (hs1 : s ≤ 18446744073709551615) :
    Calls Try.prog 13 #[v, .int .u64 s, .int .i64 d] w (NearPost xs s d w) := by
  obtain ⟨a, c, rfl⟩ := hv.form
  replace hv := Lib.hid hv
  replace hlow := Lib.hid hlow
  replace hx := Lib.hid hx
  go_enter Try.func13, Try.ntmps13
  go_wp2_with fail
  go_loopw [7, 8] (fun u i wr => ∃ (k m : Nat) (a' : Option Addr) (c' : Nat), i = .int .i64 k ∧ u = .slice a' m c' ∧ k ≤ xs.length ∧ m ≤ k ∧ Hid (m = (nearTo xs s d k).length) ∧ Hid (NearAt xs s d w (.slice a xs.length c) k u wr)) (fun _ i _ => xs.length - (intOf i).toNat)
  case atStart => exact ⟨0, 0, none, 0, rfl, rfl, Nat.zero_le _, Nat.le_refl _, rfl, ⟨World.ownsRow_nil _ _ _ _, hv.out, Below.refl _ _⟩⟩
  case round =>
    obtain ⟨k, m, a', c', rfl, rfl, hk, hmk, hm, hc⟩ := hrel
    by_cases hlt : k < xs.length
    · have hne : xs ≠ [] := by intro e; subst e; simp at hlt
      obtain ⟨b, off, c1, e1, h1⟩ := hc.out.sl.some hne
      injection e1 with e1 e1'' e1'
      clear e1''
      subst e1 e1'
      have g1 := h1 k hlt
      have hxb := hx.out (xs.getD k 0) (by simp [List.getD, hlt])
      have hny := nearTo_yes xs s d k
      have hnn := nearTo_no xs s d k
      generalize xs.getD k 0 = x at g1 hxb hny hnn
      obtain ⟨hx0, hx1⟩ := hxb
      have hsz := hc.out.below.size
      clear h1 hne
      by_cases hd : distB x s ≤ d
      · replace hny := Lib.hid (hny hd)
        clear hnn
        go_wp2_with fail
        refine (refdist_any x s wr hx0 hx1 hs0 hs1).mono ?_; rintro e w1 ⟨rfl, rfl⟩
        go_wp2_with (at_builtin; go_must (refine wpList_append1 rfl _ _ 28 3 rfl Try.underlying28 (.int .i64 0) 8 info_int rfl (by decide) w.heap.size _ m _ (.int .i64 k) (by have := hc.out.own; unfold Ints at this; rw [← hm.out] at this; exact this) rfl rfl rfl (by omega) (by omega) ?_))
        intro v2 w2 ho2 hb2 _
        have ho3 := Lib.hid (show Ints w2 w.heap.size v2 (nearTo xs s d (k + 1)) by rw [hny.out]; rw [hm.out] at ho2; exact ints_one ho2)
        have hl := Lib.hid (show m + 1 = (nearTo xs s d (k + 1)).length by rw [hny.out, List.length_append, ← hm.out]; rfl)
        obtain ⟨a2, c2, rfl⟩ := own_form ho2
        have hb12 := Lib.hid (hc.out.below.trans hb2)
        have hsl2 := Lib.hid (hc.out.sl.below hb2 hlow.out)
        clear ho2
        go_wp2_with fail
        exact ⟨⟨k + 1, m + 1, a2, c2, by go_num, rfl, by omega, by omega, hl, ⟨ho3.out, hsl2.out, hb12.out⟩⟩, by simp [intOf]; omega⟩
      · replace hnn := Lib.hid (hnn hd)
        clear hny
        go_wp2_with fail
        refine (refdist_any x s wr hx0 hx1 hs0 hs1).mono ?_; rintro e w1 ⟨rfl, rfl⟩
        go_wp2_with fail
        exact ⟨⟨k + 1, m, a', c', by go_num, rfl, by omega, by omega, Lib.hid (by rw [hnn.out]; exact hm.out), ⟨by rw [hnn.out]; exact hc.out.own, hc.out.sl, hc.out.below⟩⟩, by simp [intOf]; omega⟩
    · have hke : ¬ ((k : Int) < xs.length) := by omega
      have hkk := Lib.hid (show k = xs.length by omega)
      go_wp2_with fail
      go_ret
      refine ⟨_, rfl, ?_, hc.out.below⟩
      have := hc.out.own
      rw [hkk.out] at this
      exact this
end Go.Proofs.Ytonekkjodolmaaa
