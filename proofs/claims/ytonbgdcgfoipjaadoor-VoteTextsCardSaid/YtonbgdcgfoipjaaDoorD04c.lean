/- The walks of the reference of layer 4: Shingles, Hashes. -/
import Derived.Test.YtonbgdcgfoipjaaDoorD04b
namespace Go.Proofs.YtonbgdcgfoipjaaDoor
open Go.RowKit

/-- What the loop of the reference's Shingles keeps. -/
structure RefShinAt (xs : List (List UInt8)) (k : Int) (w : World) (v0 : Value) (i : Nat) (v : Value) (wr : World) : Prop where
  own : Strs wr w.heap.size v ((List.range i).map (shin xs k))
  sl : StrSl wr v0 xs
  below : Below w.heap.size w wr

set_option maxHeartbeats 1000000 in
theorem refshingles_any (xs : List (List UInt8)) (v : Value) (k : Int) (w : World) (hv : StrSl w v xs) (hlow : SlBelow w.heap.size v) (hn : xs.length ≤ 100000) (hl : sumLen xs ≤ 1000000) (hk0 : -9223372036854775808 ≤ k) (hk1 : k ≤ 9223372036854775807) :
    Calls Tryd.prog 20 #[v, .int .i64 k] w (ShingPost xs k w) := by
  by_cases h0 : xs = []
  · obtain ⟨a, c, rfl⟩ := hv.nil h0
    have hs := Lib.hid (shinB_none xs k (Or.inl h0))
    subst h0
    go_enter Tryd.func20, Tryd.ntmps20
    go_wp2_with fail
    go_ret
    exact ⟨_, rfl, by rw [hs.out]; exact World.ownsRow_nil _ _ _ _, Below.refl _ _⟩
  have hl0 : 0 < xs.length := List.length_pos_iff.2 h0
  by_cases h1 : k < 1
  · obtain ⟨a, c, rfl⟩ := hv.form
    have hs := Lib.hid (shinB_none xs k (Or.inr h1))
    have hz : ¬ ((xs.length : Int) = 0) := by omega
    go_enter Tryd.func20, Tryd.ntmps20
    go_wp2_with fail
    go_ret
    exact ⟨_, rfl, by rw [hs.out]; exact World.ownsRow_nil _ _ _ _, Below.refl _ _⟩
  obtain ⟨b, off, c, rfl, hcells⟩ := hv.some h0
  clear hcells
  have hpl := part_len xs 0 xs.length
  rw [List.drop_zero, List.take_length] at hpl
  by_cases h2 : (xs.length : Int) ≤ k
  · have hs := Lib.hid (shinB_few xs k h0 h2)
    have hz : ¬ ((xs.length : Int) = 0) := by omega
    replace hv := Lib.hid hv
    replace h0 := Lib.hid h0
    go_enter Tryd.func20, Tryd.ntmps20
    go_wp2_with fail
    refine (refjoin_any xs _ w hv.out (by omega) hn).mono ?_; rintro e w1 ⟨rfl, rfl⟩
    go_wp2_with fail
    go_ret
    exact ⟨_, rfl, by rw [hs.out]; exact ownsRow_one w _ _, (Below.refl _ _).alloc (Nat.le_refl _) _⟩
  have hcm := cnt_many xs.length k (by omega) (by omega)
  have hcap := hv.cap.2 h0
  have hz : ¬ ((xs.length : Int) = 0) := by omega
  replace hv := Lib.hid hv
  replace h0 := Lib.hid h0
  replace hlow := Lib.hid hlow
  obtain ⟨N, hN⟩ : ∃ N, N = cnt xs.length k := ⟨_, rfl⟩
  rw [← hN] at hcm
  replace hN := Lib.hid hN
  go_enter Tryd.func20, Tryd.ntmps20
  go_wp2_with fail
  go_loopw [5, 6] (fun s i wr => ∃ (n : Nat) (a' : Option Addr) (c' : Nat), i = .int .i64 n ∧ s = .slice a' n c' ∧ n ≤ N ∧ Hid (RefShinAt xs k w (.slice (some ⟨b, off, none⟩) xs.length c) n s wr)) (fun _ i _ => N - (intOf i).toNat)
  case atStart => exact ⟨0, none, 0, rfl, rfl, Nat.zero_le _, ⟨World.ownsRow_nil _ _ _ _, hv.out, Below.refl _ _⟩⟩
  case round =>
    obtain ⟨n, a', c', rfl, rfl, hnl, hc⟩ := hrel
    by_cases hlt : n < N
    · have hle : (n : Int) ≤ xs.length - k := by omega
      have hsub := strSl_sub hc.out.sl h0.out n (n + k.toNat) (c - n) (by omega) (by omega) (by omega)
      rw [show n + k.toNat - n = k.toNat by omega] at hsub
      have hpl2 := part_len xs n k.toNat
      have hj := refjoin_any _ _ wr hsub (by omega) (by simp; omega)
      have hsz := hc.out.below.size
      replace hpl2 := Lib.hid hpl2
      replace hsub := Lib.hid hsub
      have hnk : ((n : Int) + k).toNat - n = k.toNat := by omega
      have hjs : Hid (joinB ((xs.drop n).take k.toNat) = shin xs k n) := rfl
      go_wp2_with fail
      refine hj.mono ?_; rintro e w1 ⟨rfl, rfl⟩
      rw [hjs.out]
      clear hj hjs
      go_wp2_with (at_builtin; go_must (refine wpList_append1 rfl _ _ 31 9 rfl Tryd.underlying31 (.string ⟨#[]⟩) 16 info_str rfl (by decide) w.heap.size _ n _ (.string ⟨(shin xs k n).toArray⟩) (strs_range.1 hc.out.own) rfl rfl rfl (by omega) (by omega) ?_))
      intro v2 w2 ho2 hb2 _
      rw [← List.map_map] at ho2
      replace ho2 := Lib.hid (strs_range_next ho2)
      obtain ⟨a2, c2, rfl⟩ := own_form ho2.out
      have hsl2 := Lib.hid (hc.out.sl.below hb2 hlow.out)
      replace hb2 := Lib.hid (hc.out.below.trans hb2)
      go_wp2_with fail
      exact ⟨⟨n + 1, a2, c2, by go_num, by simp, by omega, ⟨ho2.out, hsl2.out, hb2.out⟩⟩, by simp [intOf]; omega⟩
    · have hke : ¬ ((n : Int) ≤ xs.length - k) := by omega
      have hne : n = N := by omega
      go_wp2_with fail
      go_ret
      subst hne
      exact ⟨_, rfl, by unfold shinB; rw [← hN.out]; exact hc.out.own, hc.out.below⟩

/-- What the loop of the reference's Hashes keeps. -/
structure RefHashAt (ss : List (List UInt8)) (w : World) (v0 : Value) (i : Nat) (v : Value) (wr : World) : Prop where
  own : U64s wr w.heap.size v ((List.range i).map fun j => hashB (ss.getD j []))
  sl : StrSl wr v0 ss
  below : Below w.heap.size w wr
theorem range_getD {α : Type} (l : List α) (d : α) : (List.range l.length).map (fun j => l.getD j d) = l := by
  apply List.ext_getElem
  · simp
  · intro i h1 h2; simp [List.getD, h2]

set_option maxHeartbeats 1000000 in
theorem refhashes_any (xs : List (List UInt8)) (v : Value) (k : Int) (w : World) (hv : StrSl w v xs) (hlow : SlBelow w.heap.size v) (hn : xs.length ≤ 100000) (hl : sumLen xs ≤ 1000000) (hk0 : -9223372036854775808 ≤ k) (hk1 : k ≤ 9223372036854775807) :
    Calls Tryd.prog 15 #[v, .int .i64 k] w (HashPost xs k w) := by
  obtain ⟨a, c, rfl⟩ := hv.form
  replace hv := Lib.hid hv
  replace hlow := Lib.hid hlow
  go_enter Tryd.func15, Tryd.ntmps15
  go_wp2_with fail
  refine (refshingles_any xs _ k w hv.out hlow.out hn hl hk0 hk1).mono ?_; rintro e w1 ⟨v1, rfl, ho1, hb1⟩
  have hcl := cnt_le xs.length k
  have hsh : ∀ j, j < (shinB xs k).length → ((shinB xs k).getD j []).length ≤ sumLen xs + xs.length := by
    intro j hj
    rw [shinB_len] at hj
    rw [shinB_getD xs k j hj]
    exact shin_len xs k j
  rw [← shinB_len] at hcl
  have hh : hashesB xs k = (shinB xs k).map hashB := rfl
  replace hh := Lib.hid hh
  generalize shinB xs k = ss at ho1 hcl hsh hh
  replace hsh := Lib.hid hsh
  have hsl1 := Lib.hid (strSl_own ho1)
  have hlow1 := Lib.hid (slBelow_own ho1)
  obtain ⟨a1, c1, rfl⟩ := own_form ho1
  clear ho1
  replace hb1 := Lib.hid hb1
  go_wp2_with fail
  go_loopw [5, 7] (fun s i wr => ∃ (n : Nat) (a' : Option Addr) (c' : Nat), i = .int .i64 n ∧ s = .slice a' n c' ∧ n ≤ ss.length ∧ Hid (RefHashAt ss w1 (.slice a1 ss.length c1) n s wr)) (fun _ i _ => ss.length - (intOf i).toNat)
  case atStart => exact ⟨0, none, 0, rfl, rfl, Nat.zero_le _, ⟨World.ownsRow_nil _ _ _ _, hsl1.out, Below.refl _ _⟩⟩
  case round =>
    obtain ⟨n, a', c', rfl, rfl, hnl, hc⟩ := hrel
    by_cases hlt : n < ss.length
    · have hne : ss ≠ [] := by intro e; subst e; simp at hlt
      obtain ⟨b, off, c5, e1, h1⟩ := hc.out.sl.some hne
      injection e1 with e1 e1'' e1'
      clear e1''
      subst e1 e1'
      have g1 := h1 n hlt
      have hxl := hsh.out n hlt
      obtain ⟨x, hx⟩ : ∃ x, x = ss.getD n [] := ⟨_, rfl⟩
      rw [← hx] at g1 hxl
      replace hx := Lib.hid hx
      unfold strV at g1
      have hsz := hc.out.below.size
      clear h1 hne
      go_wp2_with fail
      refine (refhash_any x _ (by unfold maxLen; omega)).mono ?_; rintro e w2 ⟨rfl, rfl⟩
      go_wp2_with (at_builtin; go_must (refine wpList_append1 rfl _ _ 22 26 rfl Tryd.underlying22 (.int .u64 0) 8 info_u64 rfl (by decide) w1.heap.size _ n _ (.int .u64 (hashB x)) (u64s_range.1 hc.out.own) rfl rfl rfl (by omega) (by omega) ?_))
      intro v2 w2 ho2 hb2 _
      rw [hx.out, ← List.map_map] at ho2
      replace ho2 := Lib.hid (u64s_range_next (f := fun j => hashB (ss.getD j [])) ho2)
      obtain ⟨a2, c2, rfl⟩ := own_form ho2.out
      have hsl2 := Lib.hid (hc.out.sl.below hb2 hlow1.out)
      replace hb2 := Lib.hid (hc.out.below.trans hb2)
      go_wp2_with fail
      exact ⟨⟨n + 1, a2, c2, by go_num, by simp, by omega, ⟨ho2.out, hsl2.out, hb2.out⟩⟩, by simp [intOf]; omega⟩
    · have hke : ¬ ((n : Int) < ss.length) := by omega
      have hne : n = ss.length := by omega
      go_wp2_with fail
      go_ret
      subst hne
      have hf : (List.range ss.length).map (fun j => hashB (ss.getD j [])) = hashesB xs k := by
        rw [hh.out]
        have := congrArg (List.map hashB) (range_getD ss [])
        rw [List.map_map] at this
        exact this
      have hown := hc.out.own
      rw [hf] at hown
      exact ⟨_, rfl, ownsRow_mono hown hb1.out.size, hb1.out.andThen hc.out.below⟩
end Go.Proofs.YtonbgdcgfoipjaaDoor
