/- The walks of layer 4's count, shingle, Shingles and Hashes. -/
import Derived.Test.YtonbgdcgfoipjaaDoorD04a
import Derived.Test.YtonbgdcgfoipjaaDoorWj
import Derived.Test.YtonbgdcgfoipjaaDoorNu
namespace Go.Proofs.YtonbgdcgfoipjaaDoor
open Go.RowKit

set_option maxHeartbeats 400000 in
theorem count_any (n : Nat) (k : Int) (w : World) (hn : n ≤ 100000) (hk0 : -9223372036854775808 ≤ k) (hk1 : k ≤ 9223372036854775807) :
    Calls Tryd.prog 25 #[.int .i64 n, .int .i64 k] w fun e w' => e = .returned (.int .i64 (cnt n k)) ∧ w = w' := by
  by_cases h0 : n = 0
  · subst h0
    go_enter Tryd.func25, Tryd.ntmps25
    go_wp2_with fail
    go_ret
    exact ⟨rfl, rfl⟩
  by_cases h1 : k < 1
  · have hc : cnt n k = 0 := by unfold cnt; rw [if_pos (Or.inr h1)]
    replace hc := Lib.hid hc
    go_enter Tryd.func25, Tryd.ntmps25
    go_wp2_with fail
    go_ret
    exact ⟨ret_int (by rw [hc.out]; rfl), rfl⟩
  have hc : (cnt n k : Int) = max ((n : Int) - k) 0 + 1 := by unfold cnt; rw [if_neg (by omega)]; omega
  by_cases h2 : (n : Int) - k ≤ 0
  · replace hc := Lib.hid (show (cnt n k : Int) = 0 + 1 by omega)
    go_enter Tryd.func25, Tryd.ntmps25
    go_wp2_with fail
    go_ret
    exact ⟨ret_int (by rw [hc.out]; try omega), rfl⟩
  · replace hc := Lib.hid (show (cnt n k : Int) = (n : Int) - k + 1 by omega)
    go_enter Tryd.func25, Tryd.ntmps25
    go_wp2_with fail
    go_ret
    exact ⟨ret_int (by rw [hc.out]; try omega), rfl⟩

set_option maxHeartbeats 400000 in
theorem shingle_any (xs : List (List UInt8)) (v : Value) (i : Nat) (k : Int) (w : World) (hv : StrSl w v xs) (hlow : SlBelow w.heap.size v) (hn : xs.length ≤ 100000) (hl : sumLen xs ≤ 1000000) (hi : i < xs.length) (hk0 : 1 ≤ k) (hk1 : k ≤ 9223372036854775807) :
    Calls Tryd.prog 27 #[v, .int .i64 i, .int .i64 k] w fun e w' => e = .returned (.string ⟨(shin xs k i).toArray⟩) ∧ Below w.heap.size w w' := by
  have hx0 : xs ≠ [] := by intro e; subst e; simp at hi
  obtain ⟨b, off, c, rfl, h1⟩ := hv.some hx0
  have hcap := hv.cap.2 hx0
  have hpl := shin_len xs k i
  have hbk : b < w.heap.size := hlow _ _ _ rfl (by omega)
  obtain ⟨m, hm⟩ : ∃ m, m = min k.toNat (xs.length - i) := ⟨_, rfl⟩
  have hm2 : (min k ((xs.length - i : Nat) : Int)).toNat = m := by omega
  have hsub := strSl_sub hv hx0 i (i + m) (c - i) (by omega) (by omega) (by omega)
  rw [show i + m - i = m by omega] at hsub
  have hsh : (xs.drop i).take m = (xs.drop i).take k.toNat := by
    rw [hm]
    rcases Nat.le_total k.toNat (xs.length - i) with h | h
    · rw [Nat.min_eq_left h]
    · rw [Nat.min_eq_right h, List.take_of_length_le (by simp), List.take_of_length_le (by simp; omega)]
  have hj := wjoin_any _ _ w hsub (fun a n c' e _ => by injection e with e _ _; injection e with e; subst e; exact hbk) (by simp; omega) (by rw [hsh]; unfold shin at hpl; omega)
  rw [hsh] at hj
  replace hm2 := Lib.hid hm2
  clear h1 hlow hsub hv hsh hm hpl
  go_enter Tryd.func27, Tryd.ntmps27
  go_wp2_with fail
  rw [hm2.out]
  refine hj.mono ?_; rintro e w1 ⟨rfl, hb⟩
  go_wp2_with fail
  go_ret
  exact ⟨rfl, hb⟩

theorem strs_range {w : World} {B : Nat} {v : Value} {n : Nat} {f : Nat → List UInt8} : Strs w B v ((List.range n).map f) ↔ w.ownsRow B 9 1 v n (((List.range n).map f).map strV) := by
  unfold Strs; rw [List.length_map, List.length_range]
theorem strs_range_next {w : World} {B : Nat} {v : Value} {n : Nat} {f : Nat → List UInt8} (h : w.ownsRow B 9 1 v (n + 1) (((List.range n).map f).map strV ++ [.string ⟨(f n).toArray⟩])) : Strs w B v ((List.range (n + 1)).map f) := by
  rw [strs_range, range_snoc, List.map_append]; exact h
/-- What the loop of Shingles keeps. -/
structure ShinAt (xs : List (List UInt8)) (k : Int) (w : World) (v0 : Value) (i : Nat) (v : Value) (wr : World) : Prop where
  le : i ≤ cnt xs.length k
  own : Strs wr w.heap.size v ((List.range i).map (shin xs k))
  sl : StrSl wr v0 xs
  below : Below w.heap.size w wr

def ShingPost (xs : List (List UInt8)) (k : Int) (w : World) (e : Ending) (w' : World) : Prop := ∃ v, e = .returned v ∧ Strs w' w.heap.size v (shinB xs k) ∧ Below w.heap.size w w'

/-- What the loop of Hashes keeps. -/
structure HashAt (xs : List (List UInt8)) (k : Int) (w : World) (v0 : Value) (i : Nat) (v : Value) (wr : World) : Prop where
  le : i ≤ cnt xs.length k
  own : U64s wr w.heap.size v ((List.range i).map fun j => hashB (shin xs k j))
  sl : StrSl wr v0 xs
  below : Below w.heap.size w wr

def HashPost (xs : List (List UInt8)) (k : Int) (w : World) (e : Ending) (w' : World) : Prop := ∃ v, e = .returned v ∧ U64s w' w.heap.size v (hashesB xs k) ∧ Below w.heap.size w w'

set_option maxHeartbeats 400000 in
theorem hashes_any (xs : List (List UInt8)) (v : Value) (k : Int) (w : World) (hv : StrSl w v xs) (hlow : SlBelow w.heap.size v) (hn : xs.length ≤ 100000) (hl : sumLen xs ≤ 1000000) (hk0 : -9223372036854775808 ≤ k) (hk1 : k ≤ 9223372036854775807) :
    Calls Tryd.prog 18 #[v, .int .i64 k] w (HashPost xs k w) := by
  have hcl := cnt_le xs.length k
  obtain ⟨a, c, rfl⟩ := hv.form
  replace hv := Lib.hid hv
  replace hlow := Lib.hid hlow
  go_enter Tryd.func18, Tryd.ntmps18
  go_wp2_with fail
  refine (count_any xs.length k w hn hk0 hk1).mono ?_; rintro e w1 ⟨rfl, rfl⟩
  go_wp2_with fail
  go_loopw [5, 6, 11] (fun s _ i wr => ∃ (n : Nat) (a' : Option Addr) (c' : Nat), i = .int .i64 n ∧ s = .slice a' n c' ∧ n ≤ cnt xs.length k ∧ Hid (HashAt xs k w (.slice a xs.length c) n s wr)) (fun _ _ i _ => cnt xs.length k - (intOf i).toNat)
  case atStart => exact ⟨0, none, 0, rfl, rfl, Nat.zero_le _, ⟨Nat.zero_le _, World.ownsRow_nil _ _ _ _, hv.out, Below.refl _ _⟩⟩
  case round =>
    obtain ⟨n, a', c', rfl, rfl, hnl, hc⟩ := hrel
    by_cases hlt : n < cnt xs.length k
    · obtain ⟨hni, hk⟩ := cnt_lt hlt
      go_wp2_with fail
      refine (shingle_any xs _ n k _ hc.out.sl (hlow.out.mono hc.out.below.size) hn hl hni hk hk1).mono ?_; rintro e w1 ⟨rfl, hb1⟩
      have ho1 := Lib.hid (show U64s w1 w.heap.size _ ((List.range n).map fun j => hashB (shin xs k j)) from ownsRow_below hc.out.own hb1)
      have hsl1 := Lib.hid (hc.out.sl.below hb1 (hlow.out.mono hc.out.below.size))
      replace hb1 := Lib.hid (hc.out.below.andThen hb1)
      have hsz := hb1.out.size
      have hshl := shin_len xs k n
      go_wp2_with fail
      refine (hash_any _ _ (by unfold maxLen; omega)).mono ?_; rintro e w1' ⟨rfl, rfl⟩
      clear hshl
      go_wp2_with (at_builtin; go_must (refine wpList_append1 rfl _ _ 22 26 rfl Tryd.underlying22 (.int .u64 0) 8 info_u64 rfl (by decide) w.heap.size _ n _ (.int .u64 (hashB (shin xs k n))) (u64s_range.1 ho1.out) rfl rfl rfl (by omega) (by omega) ?_))
      intro v2 w2 ho2 hb2 _
      rw [← List.map_map] at ho2
      replace ho2 := Lib.hid (u64s_range_next ho2)
      obtain ⟨a2, c2, rfl⟩ := own_form ho2.out
      have hb12 := Lib.hid (hb1.out.trans hb2)
      have hsl2 := Lib.hid (hsl1.out.below hb2 hlow.out)
      go_wp2_with fail
      exact ⟨⟨n + 1, a2, c2, by go_num, by simp, by omega, ⟨by omega, ho2.out, hsl2.out, hb12.out⟩⟩, by simp [intOf]; omega⟩
    · have hke : ¬ ((n : Int) < cnt xs.length k) := by omega
      have hne : n = cnt xs.length k := by omega
      go_wp2_with fail
      go_ret
      subst hne
      exact ⟨_, rfl, by have := hc.out.own; unfold hashesB shinB; rw [List.map_map]; exact this, hc.out.below⟩
end Go.Proofs.YtonbgdcgfoipjaaDoor
