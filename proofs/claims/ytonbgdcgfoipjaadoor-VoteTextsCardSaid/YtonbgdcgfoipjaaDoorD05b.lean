/- The walks of layer 5's Text, the reference's, and the law's awake. -/
import Derived.Test.YtonbgdcgfoipjaaDoorD05a
import Derived.Test.YtonbgdcgfoipjaaDoorWa
import Derived.Test.YtonbgdcgfoipjaaDoorWc
import Derived.Test.YtonbgdcgfoipjaaDoorD04c
import Derived.Deep.RegionHeld3
namespace Go.Proofs.YtonbgdcgfoipjaaDoor
open Go.RowKit

/-- The signature of a text. -/
def textB (l : List UInt8) (k : Int) : Int := sigB (hashesB (wordsB l) k)
theorem hashesB_bd (xs : List (List UInt8)) (k : Int) : ∀ x ∈ hashesB xs k, 0 ≤ x ∧ x ≤ 18446744073709551615 := by
  intro x hx
  obtain ⟨s, _, rfl⟩ := List.mem_map.1 hx
  exact hashB_bd s
theorem sumLen_le (m : Nat) : ∀ xs : List (List UInt8), (∀ x ∈ xs, x.length ≤ m) → sumLen xs ≤ m * xs.length
  | [], _ => by simp [sumLen]
  | x :: xs, h => by
    have h1 := sumLen_le m xs fun y hy => h y (by simp [hy])
    have h2 := h x (by simp)
    have h3 : sumLen (x :: xs) = x.length + sumLen xs := by simp [sumLen]
    rw [List.length_cons, Nat.mul_succ]; omega
theorem words_sum (l : List UInt8) : sumLen (wordsB l) ≤ 262144 := by
  obtain ⟨h1, _, h3⟩ := words_bd l
  have := sumLen_le 64 (wordsB l) fun x hx => (h3 x hx).2
  omega

set_option maxHeartbeats 1000000 in
theorem text_any (l : List UInt8) (k : Int) (w : World) (h : Tab w) (hl : l.length ≤ 1000000) (hk0 : -9223372036854775808 ≤ k) (hk1 : k ≤ 9223372036854775807) :
    Calls Tryd.prog 13 #[.string ⟨l.toArray⟩, .int .i64 k] w fun e w' => e = .returned (.int .u64 (textB l k)) ∧ Below w.heap.size w w' := by
  have hw := words_any l w h (by unfold maxLen; omega)
  have hs := words_sum l
  have hb := words_bd l
  go_enter Tryd.func13, Tryd.ntmps13
  go_wp2_with fail
  refine hw.mono ?_; rintro e w1 ⟨v1, rfl, ho1, hb1⟩
  clear hw
  have hh := hashes_any (wordsB l) v1 k w1 ho1.sl ho1.low (by omega) (by omega) hk0 hk1
  have hx := hashesB_bd (wordsB l) k
  have hc := cnt_le (wordsB l).length k
  rw [← hashesB_len] at hc
  have ht : Hid (textB l k = sigB (hashesB (wordsB l) k)) := rfl
  generalize wordsB l = ws at hh hx hc ht hs hb ho1
  replace ho1 := Lib.hid ho1
  replace hb1 := Lib.hid hb1
  replace hx := Lib.hid hx
  obtain ⟨hb, -, -⟩ := hb
  go_wp2_with fail
  refine hh.mono ?_; rintro e w2 ⟨v2, rfl, ho2, hb2⟩
  clear hh
  generalize hashesB ws k = hs' at hx hc ht ho2
  have hsg := sig_any hs' v2 w2 ho2.sl ho2.low (by omega) hx.out
  replace ho2 := Lib.hid ho2
  replace hb2 := Lib.hid (hb1.out.andThen hb2)
  go_wp2_with fail
  refine hsg.mono ?_; rintro e w3 ⟨rfl, hb3⟩
  clear hsg
  replace hb3 := Lib.hid (hb2.out.andThen hb3)
  go_wp2_with fail
  go_ret
  exact ⟨ret_int ht.out.symm, hb3.out⟩

set_option maxHeartbeats 1000000 in
theorem reftext_any (l : List UInt8) (k : Int) (w : World) (hl : l.length ≤ 20000) (hk0 : -9223372036854775808 ≤ k) (hk1 : k ≤ 9223372036854775807) :
    Calls Tryd.prog 14 #[.string ⟨l.toArray⟩, .int .i64 k] w fun e w' => e = .returned (.int .u64 (textB l k)) ∧ Below w.heap.size w w' := by
  have hw := refwords_any l w hl
  have hs := words_sum l
  have hb := words_bd l
  go_enter Tryd.func14, Tryd.ntmps14
  go_wp2_with fail
  refine hw.mono ?_; rintro e w1 ⟨v1, rfl, ho1, hb1⟩
  clear hw
  have hh := refhashes_any (wordsB l) v1 k w1 ho1.sl ho1.low (by omega) (by omega) hk0 hk1
  have hx := hashesB_bd (wordsB l) k
  have hc := cnt_le (wordsB l).length k
  rw [← hashesB_len] at hc
  have ht : Hid (textB l k = sigB (hashesB (wordsB l) k)) := rfl
  generalize wordsB l = ws at hh hx hc ht hs hb ho1
  replace ho1 := Lib.hid ho1
  replace hb1 := Lib.hid hb1
  replace hx := Lib.hid hx
  obtain ⟨hb, -, -⟩ := hb
  go_wp2_with fail
  refine hh.mono ?_; rintro e w2 ⟨v2, rfl, ho2, hb2⟩
  clear hh
  generalize hashesB ws k = hs' at hx hc ht ho2
  have hsg := refsig_any hs' v2 w2 ho2.sl ho2.low (by omega) hx.out
  replace ho2 := Lib.hid ho2
  replace hb2 := Lib.hid (hb1.out.andThen hb2)
  go_wp2_with fail
  refine hsg.mono ?_; rintro e w3 ⟨rfl, hb3⟩
  clear hsg
  replace hb3 := Lib.hid (hb2.out.andThen hb3)
  go_wp2_with fail
  go_ret
  exact ⟨ret_int ht.out.symm, hb3.out⟩

theorem text_ex : textB [97] 2 = 12638187200555641996 := by decide +kernel
theorem sig_ex : sigB [1, 1, 2] = 1 := by decide +kernel
theorem sig_ex0 : sigB [] = 0 := by decide +kernel
theorem vote_ex : vote [1, 1, 2] 0 = 1 ∧ vote [1, 1, 2] 1 = -1 ∧ vote [1, 1, 2] 5 = -3 := by decide +kernel
/-- A slice of numbers, just built. -/
theorem intSl_new (w : World) (k : IntKind) (E : TypeId) (xs : List Int) (n : Nat) (hn : n = xs.length) : IntSl k (w.alloc (.cells (xs.map (Value.int k)).toArray E)) (.slice (some ⟨w.heap.size, 0, none⟩) n n) xs := by
  subst hn
  refine Or.inr ⟨_, 0, _, rfl, fun j hj => ?_⟩
  rw [cell_of_row _ _ _ _ _ _ (heap_alloc_new w _)]
  simp [List.getD, hj]

/-- What awake's statement keeps. -/
structure AwAt (w0 : World) (g : Nat) (w : World) : Prop where
  tab : Tab w
  arr : ArrAt w g 24 (ints (fun j => vote [1, 1, 2] j) 64)
  below : Below w0.heap.size w0 w
theorem AwAt.next {w0 w w' : World} {g : Nat} (h : AwAt w0 g w) (hb : Below w.heap.size w w') : AwAt w0 g w' := ⟨h.tab.below hb, h.arr.next hb, h.below.andThen hb⟩
theorem aw_drew {w0 w : World} {g : Nat} (h : Hid (AwAt w0 g w)) : Hid (AwAt w0 g w.drew) := Lib.hid (h.out.next (Drawn.below ⟨1, rfl⟩ _))
theorem aw_cells {w0 w : World} {g : Nat} (h : Hid (AwAt w0 g w)) : w.cell? ⟨g, 0, none⟩ = some (.int .i64 1) ∧ w.cell? ⟨g, 1, none⟩ = some (.int .i64 (-1)) ∧ w.cell? ⟨g, 5, none⟩ = some (.int .i64 (-3)) := by
  have a := h.out.arr
  refine ⟨?_, ?_, ?_⟩ <;> rw [a.cell, ints_get _ _ _ (by omega)]
  · rw [vote_ex.1]
  · rw [vote_ex.2.1]
  · rw [vote_ex.2.2]
theorem aw_sig {w0 w : World} {g : Nat} (h : Hid (AwAt w0 g w)) (xs : List Int) (v : Value) (hv : IntSl .u64 w v xs) (hlow : SlBelow w.heap.size v) (hn : xs.length ≤ 100000) (hx : ∀ x ∈ xs, 0 ≤ x ∧ x ≤ 18446744073709551615) (s : Int) (hs : sigB xs = s) :
    Calls Tryd.prog 11 #[v] w fun e w' => e = .returned (.int .u64 s) ∧ Hid (AwAt w0 g w') := by
  subst hs
  exact (sig_any xs v w hv hlow hn hx).mono fun _ _ ⟨he, hb⟩ => ⟨he, Lib.hid (h.out.next hb)⟩
theorem aw_text {w0 w : World} {g : Nat} (h : Hid (AwAt w0 g w)) : Calls Tryd.prog 13 #[.string ⟨#[97]⟩, .int .i64 2] w fun e w' => e = .returned (.int .u64 12638187200555641996) ∧ Hid (AwAt w0 g w') := by
  have := (text_any [97] 2 w h.out.tab (by simp) (by omega) (by omega)).mono fun _ _ ⟨he, hb⟩ => (⟨he, Lib.hid (h.out.next hb)⟩ : _ ∧ Hid (AwAt w0 g _))
  rw [text_ex] at this
  exact this
theorem u64_ex : ∀ x ∈ [(1 : Int), 1, 2], 0 ≤ x ∧ x ≤ 18446744073709551615 := by decide

set_option maxHeartbeats 1000000 in
set_option maxRecDepth 100000 in
theorem awake5_any (w : World) (h : Tab w) : Calls Tryd.prog 8 #[] w (LawPost w) := by
  have hvs := votes_any [1, 1, 2] _ _ (intSl_new w .u64 26 [1, 1, 2] 3 rfl) (slBelow_new _ _ _ _ _) (by simp) u64_ex
  obtain ⟨c, hc⟩ : ∃ c, c = ints (fun j => vote [1, 1, 2] j) 64 := ⟨_, rfl⟩
  rw [show voteArr [1, 1, 2] = c.toArray by rw [hc]; rfl] at hvs
  replace hc := Lib.hid hc
  have hcl : c.length = 64 := by rw [hc.out, ints_len]
  have hcl2 : c.toArray.size = 64 := by simp [hcl]
  replace hcl := Lib.hid hcl
  replace hcl2 := Lib.hid hcl2
  replace h := Lib.hid h
  go_enter Tryd.func8, Tryd.ntmps8
  go_wp2_with fail
  refine hvs.mono ?_; rintro e w1 ⟨rfl, hb⟩
  clear hvs
  have hbw := Lib.hid (((Below.refl w.heap.size w).alloc (Nat.le_refl _) _).trans (hb.mono (by simp)))
  clear hb
  go_wp2_with ((refine wpList_store_arr rfl 24 (.tmp 1) (.tmp 3) rfl w1.heap.size 24 (ints (fun _ => 0) 64) c rfl rfl (arrAt_new w1 24 (ints (fun _ => 0) 64)) (by rw [hcl.out, ints_len]) (by rw [hcl.out]; exact info_arr) (by rw [hc.out]; exact ints_one _ _) ?_
                intro wz har hbe
                have hst : Hid (AwAt w w1.heap.size wz) := Lib.hid (by
                  have hbz := hbe.out _ _ hbw.out.size (hbw.out.alloc hbw.out.size _)
                  exact ⟨h.out.below hbz, by rw [← hc.out]; exact har.out, hbz⟩)
                clear har hbe))
  refine (aw_sig (Lib.hid (hst.out.next ((Below.refl _ _).alloc (Nat.le_refl _) _))) [1, 1, 2] _ (intSl_new _ .u64 26 [1, 1, 2] 3 rfl) (slBelow_new _ _ _ _ _) (by simp) u64_ex 1 sig_ex).mono ?_
  rintro e w2 ⟨rfl, hst2⟩
  go_wp2_with fail
  refine (aw_sig hst2 [] _ (Or.inl ⟨rfl, _, _, rfl⟩) (fun _ _ _ e _ => by injection e with e _ _; cases e) (by simp) (by simp) 0 sig_ex0).mono ?_
  rintro e w3 ⟨rfl, hst3⟩
  obtain ⟨g0, g1, g5⟩ := aw_cells hst3
  go_wp2_with fail
  refine (aw_text hst3).mono ?_
  rintro e w4 ⟨rfl, hst4⟩
  go_wp2_with fail
  go_ret
  exact ⟨rfl, hst4.out.below⟩
end Go.Proofs.YtonbgdcgfoipjaaDoor
