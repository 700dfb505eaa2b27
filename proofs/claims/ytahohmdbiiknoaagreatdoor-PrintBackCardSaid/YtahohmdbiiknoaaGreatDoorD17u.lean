/- Layer 17, the law: awake. -/
import Derived.Test.YtahohmdbiiknoaaGreatDoorD17n
namespace Go.Proofs.YtahohmdbiiknoaaGreatDoor
open Go.RowKit

/-- The document's own example. -/
def it17 : It := ⟨[103], [97, 32, 60, 32, 98], [], [], 0, true⟩
def hd21 : List UInt8 := [60, 63, 120, 109, 108, 32, 118, 101, 114, 115, 105, 111, 110, 61, 34, 49, 46, 48, 34, 63, 62]
theorem itSl_one (w : World) (x : It) : ItSl (w.alloc (.cells (itC x).toArray 26)) (.slice (some ⟨w.heap.size, 0, none⟩) 1 1) [x] := by
  refine Or.inr ⟨w.heap.size, 0, 1, Nat.le_refl _, rfl, fun j hj => ?_⟩
  have hj0 : j = 0 := by simp at hj; omega
  subst hj0
  have h := arrAt_new w 26 (itC x)
  exact ⟨h.cell 0, h.cell 1, h.cell 2, h.cell 3, h.cell 4, h.cell 5⟩
theorem rssB_awake (l : List It) (h : l ≠ []) : 100 < (rssB l).length ∧ (rssB l).take 21 = hd21 := by
  obtain ⟨x, r, rfl⟩ := List.exists_cons_of_ne_nil h
  rw [rssB_eq]
  constructor
  · have h1 := itemP_len itemL (rssF x)
    rw [List.flatMap_cons]
    simp only [List.length_append]
    rw [h1]
    have : rssHd.length = 74 := rfl
    have : rssTl.length = 17 := rfl
    have : itemL.length = 4 := rfl
    omega
  · rw [List.append_assoc, List.take_append_of_le_length (by decide)]
    rfl
theorem atomB_awake (l : List It) (h : l ≠ []) : 100 < (atomB l).length ∧ (atomB l).take 21 = hd21 := by
  obtain ⟨x, r, rfl⟩ := List.exists_cons_of_ne_nil h
  rw [atomB_eq]
  constructor
  · have h1 := itemP_len entryL (atomF x)
    rw [List.flatMap_cons]
    simp only [List.length_append]
    rw [h1]
    have : atomHd.length = 88 := rfl
    have : atomTl.length = 8 := rfl
    have : entryL.length = 5 := rfl
    omega
  · rw [List.append_assoc, List.take_append_of_le_length (by decide)]
    rfl
set_option maxHeartbeats 2000000 in
theorem awake17_any (w : World) (hE : Env13 w) : Calls Tryz.prog 5 #[] w (LawPost w) := by
  have hbw : Below w.heap.size w (w.alloc (.cells (itC it17).toArray 26)) := (Below.refl _ w).alloc (Nat.le_refl _) _
  have hsl := itSl_one w it17
  have hE1 := hE.below hbw
  obtain ⟨s1, s2⟩ := rssB_awake [it17] (by simp)
  obtain ⟨t1, t2⟩ := atomB_awake [it17] (by simp)
  have hR := fun (W : World) (h : ItSl W (.slice (some ⟨w.heap.size, 0, none⟩) 1 1) [it17]) (hE : Env13 W) => rss17_any [it17] _ W h hE (by decide) (by decide)
  have hA := fun (W : World) (h : ItSl W (.slice (some ⟨w.heap.size, 0, none⟩) 1 1) [it17]) (hE : Env13 W) => atom17_any [it17] _ W h hE (by decide) (by decide)
  have hX := fun W : World => escape17_any [97, 60, 98, 62, 38, 34] W (by decide)
  have hx : escB [97, 60, 98, 62, 38, 34] = [97, 38, 108, 116, 59, 98, 38, 103, 116, 59, 38, 97, 109, 112, 59, 38, 113, 117, 111, 116, 59] := by decide
  rw [hx] at hX
  have sl := rssB_len [it17]
  have tl := atomB_len [it17]
  have hb : bytesL [it17] = 6 := by decide
  rw [hb] at sl tl
  simp only [List.length_cons, List.length_nil] at sl tl
  generalize rssB [it17] = S at *
  generalize atomB [it17] = T at *
  have s3 : (100 : Int) < S.length := by omega
  have t3 : (100 : Int) < T.length := by omega
  have s4 : (21 : Int) ≤ S.length := by omega
  have t4 : (21 : Int) ≤ T.length := by omega
  have s5 : (S.take 21 == hd21) = true := by rw [s2]; decide
  have t5 : (T.take 21 == hd21) = true := by rw [t2]; decide
  unfold hd21 at s5 t5
  clear s2 t2 hx hb
  replace hR := Lib.hid hR
  replace hA := Lib.hid hA
  replace hX := Lib.hid hX
  have c1 := Lib.hid (hR.out _ hsl hE1)
  replace hbw := Lib.hid hbw
  replace hsl := Lib.hid hsl
  replace hE1 := Lib.hid hE1
  unfold itC it17 at c1 hbw hsl hE1
  simp only [strV] at c1 hbw hsl hE1
  go_enter Tryz.func5, Tryz.ntmps5
  go_wp2_with fail
  refine c1.out.mono ?_
  rintro e w1 ⟨rfl, k1⟩
  have c2 := Lib.hid (hA.out w1 (hsl.out.next k1) (hE1.out.below k1))
  replace hbw := Lib.hid (hbw.out.andThen k1)
  clear c1 k1 hsl hE1 hR hA
  go_wp2_with fail
  refine c2.out.mono ?_
  rintro e w2 ⟨rfl, k2⟩
  replace hbw := Lib.hid (hbw.out.andThen k2)
  clear c2 k2
  go_wp2_with fail
  refine (hX.out w2).mono ?_
  rintro e w3 ⟨rfl, k3⟩
  replace hbw := Lib.hid (hbw.out.andThen k3)
  clear k3
  go_wp2_with fail
  go_ret
  exact ⟨rfl, hbw.out⟩
end Go.Proofs.YtahohmdbiiknoaaGreatDoor
