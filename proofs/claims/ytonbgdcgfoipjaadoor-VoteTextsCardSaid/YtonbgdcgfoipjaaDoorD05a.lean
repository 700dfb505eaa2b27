/- The walks of layer 5's Votes and Sig, and the reference's. -/
import Derived.Test.YtonbgdcgfoipjaaDoorAr
import Derived.Test.YtonbgdcgfoipjaaDoorNu
import Derived.Test.YtonbgdcgfoipjaaDoorD05p
import Derived.ChangeKeysEq
namespace Go.Proofs.YtonbgdcgfoipjaaDoor
open Go.RowKit

/-- A row of n numbers. -/
def ints (f : Nat → Int) (n : Nat) : List Value := (List.range n).map fun k => .int .i64 (f k)
theorem ints_get (f : Nat → Int) (n k : Nat) (h : k < n) : (ints f n)[k]? = some (.int .i64 (f k)) := by unfold ints; simp [h]
theorem ints_len (f : Nat → Int) (n : Nat) : (ints f n).length = n := by unfold ints; simp
theorem ints_size (f : Nat → Int) (n : Nat) : (ints f n).toArray.size = n := by unfold ints; simp
theorem ints_one (f : Nat → Int) (n : Nat) : ∀ v ∈ ints f n, v.oneCell' = true := by
  intro v hv
  unfold ints at hv
  obtain ⟨k, _, rfl⟩ := List.mem_map.1 hv
  rfl
theorem ints_set (f g : Nat → Int) (n k : Nat) (v : Int) (h1 : g k = v) (h2 : ∀ j, j ≠ k → g j = f j) : (ints f n).set k (.int .i64 v) = ints g n := by
  unfold ints
  apply List.ext_getElem
  · simp
  · intro i h3 h4
    rw [List.getElem_set]
    by_cases hi : k = i
    · subst hi; simp [h1]
    · simp [hi, h2 i (Ne.symm hi)]
theorem ints_congr (f g : Nat → Int) (n : Nat) (h : ∀ j, j < n → g j = f j) : ints g n = ints f n := by
  unfold ints
  apply List.map_congr_left
  intro j hj
  rw [h j (List.mem_range.1 hj)]
theorem info_arr : (Tryd.prog.info? 24).map (·.size) = some 64 := by kernel_rfl

/-- The votes of the first i numbers, and of the next one for the first k bits. -/
def part5 (l : List Int) (i k : Nat) (j : Nat) : Int := vote (l.take i) j + if j < k then pm (l.getD i 0) j else 0
theorem part5_zero (l : List Int) (i : Nat) (j : Nat) : part5 l i 0 j = vote (l.take i) j := by unfold part5; simp
theorem part5_full (l : List Int) (i : Nat) (h : i < l.length) (j : Nat) (hj : j < 64) : vote (l.take (i + 1)) j = part5 l i 64 j := by unfold part5; rw [vote_take l i j h, if_pos hj]
/-- What the loops of Votes keep. -/
structure VotesAt (l : List Int) (w : World) (v : Value) (g : Nat) (f : Nat → Int) (wr : World) : Prop where
  arr : ArrAt wr (g + 1) 24 (ints f 64)
  res : ArrAt wr g 24 (ints (fun _ => 0) 64)
  sl : IntSl .u64 wr v l
  below : Below w.heap.size w wr

theorem VotesAt.next {l : List Int} {w wr : World} {v : Value} {g i k : Nat} (h : VotesAt l w v g (part5 l i k) wr) (hg : w.heap.size ≤ g) (hlow : SlBelow w.heap.size v) (d : Int) (hd : pm (l.getD i 0) k = d) :
    VotesAt l w v g (part5 l i (k + 1)) (wr.setCell ⟨g + 1, k, none⟩ (.int .i64 (vote (l.take i) k + d))) := by
  have hb : Below w.heap.size wr (wr.setCell ⟨g + 1, k, none⟩ (.int .i64 (vote (l.take i) k + d))) := (Below.refl _ _).setCell (p := ⟨g + 1, k, none⟩) (by simp; omega) _
  refine ⟨?_, h.res.far k _ (by omega), h.sl.below hb hlow, h.below.trans hb⟩
  have := h.arr.set k (.int .i64 (vote (l.take i) k + d))
  rw [ints_set (part5 l i k) (part5 l i (k + 1)) 64 k _ ?_ ?_] at this
  · exact this
  · unfold part5; rw [if_pos (by omega), hd]
  · intro j hj
    unfold part5
    by_cases h1 : j < k
    · rw [if_pos h1, if_pos (by omega)]
    · rw [if_neg h1, if_neg (by omega)]

theorem votesAt_start (xs : List Int) (w : World) (v : Value) (hv : IntSl .u64 w v xs) (hlow : SlBelow w.heap.size v) (c : Array Value) (hc : c = (ints (fun _ => 0) 64).toArray) :
    VotesAt xs w v w.heap.size (fun j => vote (xs.take 0) j) ((w.alloc (.cells c 24)).alloc (.cells c 24)) := by
  subst hc
  have hb : Below w.heap.size w ((w.alloc (.cells (ints (fun _ => 0) 64).toArray 24)).alloc (.cells (ints (fun _ => 0) 64).toArray 24)) := ((Below.refl _ _).alloc (Nat.le_refl _) _).alloc (by simp) _
  have h1 := arrAt_new w 24 (ints (fun _ => 0) 64)
  have h2 := arrAt_new (w.alloc (.cells (ints (fun _ => 0) 64).toArray 24)) 24 (ints (fun _ => 0) 64)
  rw [show (w.alloc (.cells (ints (fun _ => 0) 64).toArray 24)).heap.size = w.heap.size + 1 by simp] at h2
  exact ⟨h2, h1.next ((Below.refl _ _).alloc (Nat.le_refl _) _), hv.below hb hlow, hb⟩
theorem VotesAt.cell {l : List Int} {w wr : World} {v : Value} {g i k : Nat} (h : VotesAt l w v g (part5 l i k) wr) (hk : k < 64) : wr.cell? ⟨g + 1, k, none⟩ = some (.int .i64 (vote (l.take i) k)) := by
  rw [h.arr.cell k, ints_get _ _ _ hk]; unfold part5; rw [if_neg (by omega), Int.add_zero]
theorem VotesAt.turn {l : List Int} {w wr : World} {v : Value} {g : Nat} {f f' : Nat → Int} (h : VotesAt l w v g f wr) (he : ∀ j, j < 64 → f' j = f j) : VotesAt l w v g f' wr :=
  ⟨by rw [ints_congr f f' 64 he]; exact h.arr, h.res, h.sl, h.below⟩

set_option maxHeartbeats 1000000 in
set_option maxRecDepth 100000 in
theorem votes_any (xs : List Int) (v : Value) (w : World) (hv : IntSl .u64 w v xs) (hlow : SlBelow w.heap.size v) (hn : xs.length ≤ 100000) (hx : ∀ x ∈ xs, 0 ≤ x ∧ x ≤ 18446744073709551615) :
    Calls Tryd.prog 9 #[v] w fun e w' => e = .returned (.agg (voteArr xs)) ∧ Below w.heap.size w w' := by
  obtain ⟨a, c, hvv⟩ : ∃ a c, v = .slice a xs.length c := by
    rcases hv with ⟨rfl, a, c, h⟩ | ⟨b, off, c, h, _⟩
    · exact ⟨a, c, h⟩
    · exact ⟨_, c, h⟩
  subst hvv
  replace hv := Lib.hid hv
  replace hlow := Lib.hid hlow
  replace hx := Lib.hid hx
  go_enter Tryd.func9, Tryd.ntmps9
  go_wp2_with fail
  have hst := Lib.hid (votesAt_start xs w _ hv.out hlow.out _ rfl)
  go_loopw [9] (fun i wr => ∃ n : Nat, i = .int .i64 n ∧ n ≤ xs.length ∧ Hid (VotesAt xs w (.slice a xs.length c) w.heap.size (fun j => vote (xs.take n) j) wr)) (fun i _ => xs.length - (intOf i).toNat)
  case atStart => exact ⟨0, rfl, Nat.zero_le _, hst⟩
  case round =>
    obtain ⟨n, rfl, hnl, hc⟩ := hrel
    by_cases hlt : n < xs.length
    · have hne : xs ≠ [] := by intro e; subst e; simp at hlt
      obtain ⟨b, off, c1, e1, h1⟩ := hc.out.sl.some hne
      injection e1 with e1 e1'' e1'
      clear e1''
      subst e1 e1'
      have g1 := h1 n hlt
      have hxb := hx.out (xs.getD n 0) (by simp [List.getD, hlt])
      obtain ⟨x, hxe⟩ : ∃ x, x = xs.getD n 0 := ⟨_, rfl⟩
      rw [← hxe] at g1 hxb
      replace hxe := Lib.hid hxe
      obtain ⟨hx0, hx1⟩ := hxb
      have hc0 := Lib.hid (hc.out.turn (f' := part5 xs n 0) (fun j _ => part5_zero xs n j))
      clear h1 hne hc
      go_wp2_with fail
      go_loopw [13] (fun i wq => ∃ k : Nat, i = .int .i64 k ∧ k ≤ 64 ∧ Hid (VotesAt xs w (.slice (some ⟨b, off, none⟩) xs.length c) w.heap.size (part5 xs n k) wq)) (fun i _ => 64 - (intOf i).toNat)
      case atStart => exact ⟨0, rfl, Nat.zero_le _, hc0⟩
      case round =>
        obtain ⟨k, rfl, hk, hc⟩ := hrel
        by_cases hlk : k < 64
        · have g2 := hc.out.cell hlk
          have g3 := hc.out.arr.soft k
          have hvb := vote_bd (xs.take n) k
          rw [List.length_take] at hvb
          generalize hV : vote (xs.take n) k = V at g2 hvb
          replace hV := Lib.hid hV
          have hv0 : -(100000 : Int) ≤ V := by omega
          have hv1 : V ≤ 100000 := by omega
          clear hvb
          have hbt := bit_test x k hx0 hx1
          by_cases hbit : hasBit x k = true
          · have hd := Lib.hid (show pm (xs.getD n 0) k = 1 by rw [← hxe.out]; unfold pm; rw [if_pos hbit])
            rw [hbit] at hbt
            replace hbit := Lib.hid hbit
            go_wp2_with fail
            exact ⟨⟨k + 1, by go_num, by omega, Lib.hid (hV.out ▸ hc.out.next (Nat.le_refl _) hlow.out 1 hd.out)⟩, by simp [intOf]; omega⟩
          · have hd := Lib.hid (show pm (xs.getD n 0) k = -1 by rw [← hxe.out]; unfold pm; rw [if_neg hbit])
            rw [Bool.eq_false_iff.2 hbit] at hbt
            replace hbit := Lib.hid hbit
            go_wp2_with fail
            exact ⟨⟨k + 1, by go_num, by omega, Lib.hid (hV.out ▸ hc.out.next (Nat.le_refl _) hlow.out (-1) hd.out)⟩, by simp [intOf]; omega⟩
        · have hk64 : k = 64 := by omega
          have hc1 := Lib.hid (hc.out.turn (f' := fun j => vote (xs.take (n + 1)) j) (fun j hj => by rw [hk64]; exact part5_full xs n hlt j hj))
          have hkk : ¬ ((k : Int) < 64) := by omega
          clear hc
          go_wp2_with fail
          exact ⟨⟨n + 1, by go_num, by omega, hc1⟩, by simp [intOf]; omega⟩
    · have hke : ¬ ((n : Int) < xs.length) := by omega
      have hc2 := Lib.hid (hc.out.turn (f' := fun j => vote xs j) (fun j _ => by rw [List.take_of_length_le (by omega)]))
      clear hc
      have hth := hc2.out.res.there
      rw [ints_len] at hth
      go_wp2_with (first
        | (refine wpList_load_mid rfl 24 (.tmp 3) rfl (w.heap.size + 1) 0 rfl (ints (fun j => vote xs j) 64) (.array 64 3) hc2.out.arr.range Tryd.underlying24 rfl (by rw [ints_len]; exact info_arr) ?_)
        | (refine wpList_store_mid rfl 24 (.tmp 2) (.tmp 33) rfl w.heap.size 0 (ints (fun j => vote xs j) 64).toArray rfl rfl (by rw [ints_size]; exact hth) (by rw [ints_size]; exact info_arr) (all_oneCell_toArray (ints_one _ _)) ?_))
      exact bodyPost_ret (v := .agg (voteArr xs)) (results_row rfl _ _ w.heap.size (ints (fun j => vote xs j) 64) 64 3 24 rfl (hc2.out.res.whole (by rw [ints_len, ints_len])) Tryd.underlying24 (by rw [ints_len]; exact info_arr)) rfl ⟨rfl, below_setCells _ (Nat.le_refl _) _ _ _ hc2.out.below⟩
set_option maxHeartbeats 1000000 in
set_option maxRecDepth 100000 in
theorem refvotes_any (xs : List Int) (v : Value) (w : World) (hv : IntSl .u64 w v xs) (hlow : SlBelow w.heap.size v) (hn : xs.length ≤ 100000) (hx : ∀ x ∈ xs, 0 ≤ x ∧ x ≤ 18446744073709551615) :
    Calls Tryd.prog 10 #[v] w fun e w' => e = .returned (.agg (voteArr xs)) ∧ Below w.heap.size w w' := by
  obtain ⟨a, c, hvv⟩ : ∃ a c, v = .slice a xs.length c := by
    rcases hv with ⟨rfl, a, c, h⟩ | ⟨b, off, c, h, _⟩
    · exact ⟨a, c, h⟩
    · exact ⟨_, c, h⟩
  subst hvv
  replace hv := Lib.hid hv
  replace hlow := Lib.hid hlow
  replace hx := Lib.hid hx
  go_enter Tryd.func10, Tryd.ntmps10
  go_wp2_with fail
  have hst := Lib.hid (votesAt_start xs w _ hv.out hlow.out _ rfl)
  go_loopw [4] (fun i wr => ∃ n : Nat, i = .int .i64 n ∧ n ≤ xs.length ∧ Hid (VotesAt xs w (.slice a xs.length c) w.heap.size (fun j => vote (xs.take n) j) wr)) (fun i _ => xs.length - (intOf i).toNat)
  case atStart => exact ⟨0, rfl, Nat.zero_le _, hst⟩
  case round =>
    obtain ⟨n, rfl, hnl, hc⟩ := hrel
    by_cases hlt : n < xs.length
    · have hne : xs ≠ [] := by intro e; subst e; simp at hlt
      obtain ⟨b, off, c1, e1, h1⟩ := hc.out.sl.some hne
      injection e1 with e1 e1'' e1'
      clear e1''
      subst e1 e1'
      have g1 := h1 n hlt
      have hxb := hx.out (xs.getD n 0) (by simp [List.getD, hlt])
      obtain ⟨x, hxe⟩ : ∃ x, x = xs.getD n 0 := ⟨_, rfl⟩
      rw [← hxe] at g1 hxb
      replace hxe := Lib.hid hxe
      obtain ⟨hx0, hx1⟩ := hxb
      have hc0 := Lib.hid (hc.out.turn (f' := part5 xs n 0) (fun j _ => part5_zero xs n j))
      clear g1 h1 hne hc
      go_wp2_with fail
      go_loopw [5] (fun i wq => ∃ k : Nat, i = .int .i64 k ∧ k ≤ 64 ∧ Hid (VotesAt xs w (.slice (some ⟨b, off, none⟩) xs.length c) w.heap.size (part5 xs n k) wq)) (fun i _ => 64 - (intOf i).toNat)
      case atStart => exact ⟨0, rfl, Nat.zero_le _, hc0⟩
      case round =>
        obtain ⟨k, rfl, hk, hc⟩ := hrel
        obtain ⟨b', off', c1, e1, h1⟩ := hc.out.sl.some (by intro e; subst e; simp at hlt)
        injection e1 with e1 e1'' e1'
        injection e1 with e1
        injection e1 with e1 e1a e1b
        clear e1'' e1b e1'
        subst e1 e1a
        have g1 := h1 n hlt
        rw [← hxe.out] at g1
        clear h1
        by_cases hlk : k < 64
        · have g2 := hc.out.cell hlk
          have g3 := hc.out.arr.soft k
          have hvb := vote_bd (xs.take n) k
          rw [List.length_take] at hvb
          generalize hV : vote (xs.take n) k = V at g2 hvb
          replace hV := Lib.hid hV
          have hv0 : -(100000 : Int) ≤ V := by omega
          have hv1 : V ≤ 100000 := by omega
          clear hvb
          have hbt := bit_test x k hx0 hx1
          by_cases hbit : hasBit x k = true
          · have hd := Lib.hid (show pm (xs.getD n 0) k = 1 by rw [← hxe.out]; unfold pm; rw [if_pos hbit])
            rw [hbit] at hbt
            replace hbit := Lib.hid hbit
            go_wp2_with fail
            exact ⟨⟨k + 1, by go_num, by omega, Lib.hid (hV.out ▸ hc.out.next (Nat.le_refl _) hlow.out 1 hd.out)⟩, by simp [intOf]; omega⟩
          · have hd := Lib.hid (show pm (xs.getD n 0) k = -1 by rw [← hxe.out]; unfold pm; rw [if_neg hbit])
            rw [Bool.eq_false_iff.2 hbit] at hbt
            replace hbit := Lib.hid hbit
            go_wp2_with fail
            exact ⟨⟨k + 1, by go_num, by omega, Lib.hid (hV.out ▸ hc.out.next (Nat.le_refl _) hlow.out (-1) hd.out)⟩, by simp [intOf]; omega⟩
        · have hk64 : k = 64 := by omega
          have hc1 := Lib.hid (hc.out.turn (f' := fun j => vote (xs.take (n + 1)) j) (fun j hj => by rw [hk64]; exact part5_full xs n hlt j hj))
          have hkk : ¬ ((k : Int) < 64) := by omega
          clear hc
          go_wp2_with fail
          exact ⟨⟨n + 1, by go_num, by omega, hc1⟩, by simp [intOf]; omega⟩
    · have hke : ¬ ((n : Int) < xs.length) := by omega
      have hc2 := Lib.hid (hc.out.turn (f' := fun j => vote xs j) (fun j _ => by rw [List.take_of_length_le (by omega)]))
      clear hc
      have hth := hc2.out.res.there
      rw [ints_len] at hth
      go_wp2_with (first
        | (refine wpList_load_mid rfl 24 (.tmp 3) rfl (w.heap.size + 1) 0 rfl (ints (fun j => vote xs j) 64) (.array 64 3) hc2.out.arr.range Tryd.underlying24 rfl (by rw [ints_len]; exact info_arr) ?_)
        | (refine wpList_store_mid rfl 24 (.tmp 2) (.tmp 35) rfl w.heap.size 0 (ints (fun j => vote xs j) 64).toArray rfl rfl (by rw [ints_size]; exact hth) (by rw [ints_size]; exact info_arr) (all_oneCell_toArray (ints_one _ _)) ?_))
      exact bodyPost_ret (v := .agg (voteArr xs)) (results_row rfl _ _ w.heap.size (ints (fun j => vote xs j) 64) 64 3 24 rfl (hc2.out.res.whole (by rw [ints_len, ints_len])) Tryd.underlying24 (by rw [ints_len]; exact info_arr)) rfl ⟨rfl, below_setCells _ (Nat.le_refl _) _ _ _ hc2.out.below⟩

theorem run_index_arr {w : World} (cs : Array Value) (i : Nat) (v : Value) (hi : i < 64) (hv : cs[i]? = some v) :
    (Instr.index 24 (.agg cs) (.int .i64 i)).run Tryd.prog w = .ok v w := by
  simp [Instr.index, Tryd.sizeOf3, Tryd.isAgg3, part, asIntOf, hi, hv, go_sem]

set_option maxHeartbeats 1000000 in
set_option maxRecDepth 100000 in
theorem sig_any (xs : List Int) (v : Value) (w : World) (hv : IntSl .u64 w v xs) (hlow : SlBelow w.heap.size v) (hn : xs.length ≤ 100000) (hx : ∀ x ∈ xs, 0 ≤ x ∧ x ≤ 18446744073709551615) :
    Calls Tryd.prog 11 #[v] w fun e w' => e = .returned (.int .u64 (sigB xs)) ∧ Below w.heap.size w w' := by
  have hvs := votes_any xs v w hv hlow hn hx
  obtain ⟨c, hc⟩ : ∃ c, c = voteArr xs := ⟨_, rfl⟩
  rw [← hc] at hvs
  replace hc := Lib.hid hc
  clear hv hlow hx
  go_enter Tryd.func11, Tryd.ntmps11
  go_wp2_with fail
  refine hvs.mono ?_; rintro e w1 ⟨rfl, hb⟩
  replace hb := Lib.hid hb
  clear hvs
  go_wp2_with fail
  go_loop [3, 8] (fun s i => ∃ k : Nat, i = .int .i64 k ∧ k ≤ 64 ∧ s = .int .u64 (sigTo xs k)) (fun _ i => 64 - (intOf i).toNat)
  case atStart => exact ⟨0, rfl, by omega, by rw [sigTo_zero]⟩
  case round =>
    obtain ⟨k, rfl, hk, rfl⟩ := hrel
    by_cases hlt : k < 64
    · have hix := fun W => run_index_arr (w := W) c k (.int .i64 (vote xs k)) hlt (by rw [hc.out]; exact voteArr_get xs k hlt)
      have hbd := vote_bd xs k
      have hsb := sigTo_bd xs k hk
      by_cases hpos : 0 < vote xs k
      · have hor := Lib.hid (sigTo_or xs k hlt (won_pos xs k hpos))
        have hwb := wrap_bit k hlt
        generalize vote xs k = V at hix hbd hpos
        generalize hS : sigTo xs k = S at hor hsb
        replace hS := Lib.hid hS
        go_wp2_with fail
        exact ⟨⟨k + 1, by go_num, by omega, by rw [← hor.out]⟩, by simp [intOf]; omega⟩
      · have hor := Lib.hid (sigTo_keep xs k (won_neg xs k hpos))
        generalize vote xs k = V at hix hbd hpos
        generalize hS : sigTo xs k = S at hor hsb
        replace hS := Lib.hid hS
        go_wp2_with fail
        exact ⟨⟨k + 1, by go_num, by omega, by rw [← hor.out]⟩, by simp [intOf]; omega⟩
    · have hke : ¬ ((k : Int) < 64) := by omega
      have hk64 : k = 64 := by omega
      have hall := Lib.hid (show sigTo xs k = sigB xs by rw [hk64]; exact sigTo_all xs)
      generalize sigTo xs k = S at hall
      clear hk64
      go_wp2_with fail
      go_ret
      exact ⟨ret_int hall.out, hb.out⟩

/-- A call's array, laid into a new one. -/
theorem arr_laid (w1 : World) (t : TypeId) (c c' : List Value) (hl : c'.length = c.length) : ArrAt ((w1.alloc (.cells c.toArray t)).setCells w1.heap.size 0 c') w1.heap.size t c' := (arrAt_new w1 t c).whole hl
theorem below_laid {B : Nat} {w w1 : World} (h : Below B w w1) (hB : B ≤ w1.heap.size) (t : TypeId) (c : Array Value) (c' : List Value) : Below B w ((w1.alloc (.cells c t)).setCells w1.heap.size 0 c') := below_setCells _ hB _ _ _ (h.alloc hB _)

set_option maxHeartbeats 1000000 in
set_option maxRecDepth 100000 in
theorem refsig_any (xs : List Int) (v : Value) (w : World) (hv : IntSl .u64 w v xs) (hlow : SlBelow w.heap.size v) (hn : xs.length ≤ 100000) (hx : ∀ x ∈ xs, 0 ≤ x ∧ x ≤ 18446744073709551615) :
    Calls Tryd.prog 12 #[v] w fun e w' => e = .returned (.int .u64 (sigB xs)) ∧ Below w.heap.size w w' := by
  have hvs := refvotes_any xs v w hv hlow hn hx
  obtain ⟨c, hc⟩ : ∃ c, c = ints (fun j => vote xs j) 64 := ⟨_, rfl⟩
  rw [show voteArr xs = c.toArray by rw [hc]; rfl] at hvs
  replace hc := Lib.hid hc
  have hcl : c.length = 64 := by rw [hc.out, ints_len]
  have hcl2 : c.toArray.size = 64 := by simp [hcl]
  replace hcl := Lib.hid hcl
  replace hcl2 := Lib.hid hcl2
  clear hv hlow hx
  go_enter Tryd.func12, Tryd.ntmps12
  go_wp2_with fail
  refine hvs.mono ?_; rintro e w1 ⟨rfl, hb⟩
  clear hvs
  have hz := arrAt_new w1 24 (ints (fun _ => 0) 64)
  have hth := hz.there
  rw [ints_len] at hth
  have har := Lib.hid (arr_laid w1 24 (ints (fun _ => 0) 64) c (by rw [ints_len, hcl.out]))
  have hbl := Lib.hid (below_laid hb hb.size 24 (ints (fun _ => 0) 64).toArray c)
  go_wp2_with ((refine wpList_store_mid rfl 24 (.tmp 3) (.tmp 7) rfl w1.heap.size 0 c.toArray rfl rfl (by rw [hcl2.out]; exact hth) (by rw [hcl2.out]; exact info_arr) (all_oneCell_toArray (by rw [hc.out]; exact ints_one _ _)) ?_))
  clear hz hth hb
  go_loopw [4, 5] (fun s i wr => ∃ k : Nat, i = .int .i64 k ∧ k ≤ 64 ∧ s = .int .u64 (sigTo xs k) ∧ Hid (ArrAt wr w1.heap.size 24 c ∧ Below w.heap.size w wr)) (fun _ i _ => 64 - (intOf i).toNat)
  case atStart => exact ⟨0, rfl, by omega, by rw [sigTo_zero], har.out, hbl.out⟩
  case round =>
    obtain ⟨k, rfl, hk, rfl, hr⟩ := hrel
    by_cases hlt : k < 64
    · have hcell : wr.cell? ⟨w1.heap.size, k, none⟩ = some (.int .i64 (vote xs k)) := by rw [hr.out.1.cell k, hc.out, ints_get _ _ _ hlt]
      have hbd := vote_bd xs k
      have hsb := sigTo_bd xs k hk
      by_cases hpos : 0 < vote xs k
      · have hor := Lib.hid (sigTo_or xs k hlt (won_pos xs k hpos))
        have hwb := wrap_bit k hlt
        generalize vote xs k = V at hcell hbd hpos
        generalize hS : sigTo xs k = S at hor hsb
        replace hS := Lib.hid hS
        go_wp2_with fail
        exact ⟨⟨k + 1, by go_num, by omega, by rw [← hor.out], hr⟩, by simp [intOf]; omega⟩
      · have hor := Lib.hid (sigTo_keep xs k (won_neg xs k hpos))
        generalize vote xs k = V at hcell hbd hpos
        generalize hS : sigTo xs k = S at hor hsb
        replace hS := Lib.hid hS
        go_wp2_with fail
        exact ⟨⟨k + 1, by go_num, by omega, by rw [← hor.out], hr⟩, by simp [intOf]; omega⟩
    · have hke : ¬ ((k : Int) < 64) := by omega
      have hk64 : k = 64 := by omega
      have hall := Lib.hid (show sigTo xs k = sigB xs by rw [hk64]; exact sigTo_all xs)
      generalize sigTo xs k = S at hall
      clear hk64
      go_wp2_with fail
      go_ret
      exact ⟨ret_int hall.out, hr.out.2⟩

theorem run_eqItems_same (d : Nat) (V : Array Value) (w : World) : ∀ is : List Nat, (∀ i ∈ is, ∃ x, V[i]? = some (.int .i64 x)) → (Op.eqItems (d + 1) 3 1 V V is).run Tryd.prog w = .ok true w
  | [], _ => by simp [Op.eqItems]
  | i :: is, h => by
    obtain ⟨x, hx⟩ := h i (by simp)
    have hp : (part 3 V (i * 1)).run Tryd.prog w = .ok (.int .i64 x) w := by simp [part, hx, go_sem]
    have he := run_equalIn_int (P := Tryd.prog) w d 3 .i64 .i64 x x Tryd.underlying3
    have hr := run_eqItems_same d V w is fun j hj => h j (by simp [hj])
    simp only [Op.eqItems, Sem.run_bind, hp, he, Result.andThen_ok]
    simp [hr]
/-- An array of numbers is the same as itself. -/
theorem run_equal_same (V : Array Value) (hV : ∀ i, i < 64 → ∃ x, V[i]? = some (.int .i64 x)) (w : World) : (Op.equalIn 10000 24 (.agg V) (.agg V)).run Tryd.prog w = .ok true w := by
  have hi : Tryd.prog.info? 3 = some Tryd.t3 := by kernel_rfl
  have hc : Tryd.prog.cellsOf 3 = 1 := by kernel_rfl
  have := run_equalIn_array (P := Tryd.prog) (w := w) 9999 V V Tryd.underlying24 hi
  rw [hc] at this
  refine this.trans (run_eqItems_same 9998 V w _ fun i hm => hV i (List.mem_range.1 hm))
theorem voteArr_ints (xs : List Int) (i : Nat) (h : i < 64) : ∃ x, (voteArr xs)[i]? = some (.int .i64 x) := ⟨_, voteArr_get xs i h⟩
end Go.Proofs.YtonbgdcgfoipjaaDoor
