/- The walk of the law WordCase. -/
import Derived.Test.YtlinmokkbikjfaaDoorWd
import Derived.Test.YtlinmokkbikjfaaDoorBy
import Derived.Deep.RegionHeld3
namespace Go.Proofs.YtlinmokkbikjfaaDoor
open Go.RowKit

/-- The first k bytes turned, the others as they were. -/
def turned (f : UInt8 → UInt8) (l : List UInt8) (k : Nat) : List UInt8 := (l.take k).map f ++ l.drop k
theorem turned_len (f : UInt8 → UInt8) (l : List UInt8) (k : Nat) : (turned f l k).length = l.length := by unfold turned; simp; omega
theorem turned_zero (f : UInt8 → UInt8) (l : List UInt8) : turned f l 0 = l := by unfold turned; simp
theorem turned_all (f : UInt8 → UInt8) (l : List UInt8) : turned f l l.length = l.map f := by unfold turned; simp
theorem turned_at (f : UInt8 → UInt8) (l : List UInt8) (k : Nat) (h : k < l.length) : (turned f l k).getD k 0 = l.getD k 0 := by
  have hm : min k l.length = k := Nat.min_eq_left (Nat.le_of_lt h)
  unfold turned
  rw [List.getD, List.getElem?_append_right (by simp [hm])]
  simp [List.getD, hm]
theorem turned_next (f : UInt8 → UInt8) (l : List UInt8) (k : Nat) (h : k < l.length) : turned f l (k + 1) = (turned f l k).set k (f (l.getD k 0)) := by
  have hm : min k l.length = k := Nat.min_eq_left (Nat.le_of_lt h)
  have hd : l.drop k = l[k] :: l.drop (k + 1) := List.drop_eq_getElem_cons h
  unfold turned
  rw [take_snoc 0 h, List.set_append_right _ _ (by simp [hm]), hd]
  simp only [List.length_map, List.length_take, hm, Nat.sub_self, List.map_append, List.map_cons, List.map_nil, List.append_assoc, List.singleton_append, List.set_cons_zero]

/-- What the loop keeps. -/
structure CaseAt (l : List UInt8) (w : World) (g1 g2 : Nat) (k : Nat) (wr : World) : Prop where
  b : ByRow wr g1 (turned upC l k)
  c : ByRow wr g2 (turned loC l k)
  below : Below w.heap.size w wr
theorem CaseAt.keep {l : List UInt8} {w wr : World} {g1 g2 k : Nat} (h : CaseAt l w g1 g2 k wr) (hk : k < l.length) (h1 : upC (l.getD k 0) = l.getD k 0) (h2 : loC (l.getD k 0) = l.getD k 0) : CaseAt l w g1 g2 (k + 1) wr := by
  have e1 : turned upC l (k + 1) = turned upC l k := by
    rw [turned_next _ _ _ hk, h1, ← turned_at upC l k hk]
    have hl : k < (turned upC l k).length := by rw [turned_len]; exact hk
    simp [List.getD, hl]
  have e2 : turned loC l (k + 1) = turned loC l k := by
    rw [turned_next _ _ _ hk, h2, ← turned_at loC l k hk]
    have hl : k < (turned loC l k).length := by rw [turned_len]; exact hk
    simp [List.getD, hl]
  exact ⟨e1 ▸ h.b, e2 ▸ h.c, h.below⟩
theorem CaseAt.up {l : List UInt8} {w wr : World} {g1 g2 k : Nat} {n : Int} (h : CaseAt l w g1 g2 k wr) (hk : k < l.length) (hg : g1 ≠ g2) (hg1 : w.heap.size ≤ g1) (h1 : ((upC (l.getD k 0)).toNat : Int) = n) (h2 : loC (l.getD k 0) = l.getD k 0) :
    CaseAt l w g1 g2 (k + 1) (wr.setCell ⟨g1, k, none⟩ (.int .u8 n)) := by
  have e2 : turned loC l (k + 1) = turned loC l k := by
    rw [turned_next _ _ _ hk, h2, ← turned_at loC l k hk]
    have hl : k < (turned loC l k).length := by rw [turned_len]; exact hk
    simp [List.getD, hl]
  subst h1
  refine ⟨?_, e2 ▸ h.c.far k _ hg, h.below.setCell hg1 _⟩
  rw [turned_next _ _ _ hk]
  exact h.b.set k _ (by rw [turned_len]; exact hk)
theorem CaseAt.lo {l : List UInt8} {w wr : World} {g1 g2 k : Nat} {n : Int} (h : CaseAt l w g1 g2 k wr) (hk : k < l.length) (hg : g1 ≠ g2) (hg2 : w.heap.size ≤ g2) (h1 : ((loC (l.getD k 0)).toNat : Int) = n) (h2 : upC (l.getD k 0) = l.getD k 0) :
    CaseAt l w g1 g2 (k + 1) (wr.setCell ⟨g2, k, none⟩ (.int .u8 n)) := by
  have e2 : turned upC l (k + 1) = turned upC l k := by
    rw [turned_next _ _ _ hk, h2, ← turned_at upC l k hk]
    have hl : k < (turned upC l k).length := by rw [turned_len]; exact hk
    simp [List.getD, hl]
  subst h1
  refine ⟨e2 ▸ h.b.far k _ (Ne.symm hg), ?_, h.below.setCell hg2 _⟩
  rw [turned_next _ _ _ hk]
  exact h.c.set k _ (by rw [turned_len]; exact hk)

/-- What the last statement keeps. -/
structure Good (w0 : World) (g1 g2 : Nat) (lb lc : List UInt8) (w : World) : Prop where
  tab : Tab w
  b : ByRow w g1 lb
  c : ByRow w g2 lc
  below : Below w0.heap.size w0 w
theorem Good.next {w0 w w' : World} {g1 g2 : Nat} {lb lc : List UInt8} (h : Good w0 g1 g2 lb lc w) (hb : Below w.heap.size w w') : Good w0 g1 g2 lb lc w' := ⟨h.tab.below hb, h.b.next hb, h.c.next hb, h.below.andThen hb⟩
theorem good_awake {w0 w : World} {g1 g2 : Nat} {lb lc : List UInt8} (h : Hid (Good w0 g1 g2 lb lc w)) : Calls Tryd.prog 9 #[] w fun e w' => e = .returned (.bool true) ∧ Hid (Good w0 g1 g2 lb lc w') :=
  (awake_any w h.out.tab).mono fun _ _ ⟨he, hb⟩ => ⟨he, Lib.hid (h.out.next hb)⟩
def GoodPost (w0 : World) (g1 g2 : Nat) (lb lc l : List UInt8) (w : World) (e : Ending) (w' : World) : Prop := ∃ v, e = .returned v ∧ Hid (∃ B, Strs w' B v (wordsB l)) ∧ Hid (Below w.heap.size w w') ∧ Hid (Good w0 g1 g2 lb lc w')
theorem good_words {w0 w : World} {g1 g2 : Nat} {lb lc l : List UInt8} (h : Hid (Good w0 g1 g2 lb lc w)) (hl : l.length ≤ 5000) : Calls Tryd.prog 11 #[.string ⟨l.toArray⟩] w (GoodPost w0 g1 g2 lb lc l w) :=
  (words_any l w h.out.tab (by unfold maxLen; omega)).mono fun _ _ ⟨v, he, ho, hb⟩ => ⟨v, he, Lib.hid ⟨_, ho⟩, Lib.hid hb, Lib.hid (h.out.next hb)⟩
theorem good_convb {w0 w : World} {g1 g2 : Nat} {lb lc : List UInt8} {n c : Nat} (h : Hid (Good w0 g1 g2 lb lc w)) (hn : lb.length = n) : (convert 34 9 (.slice (some ⟨g1, 0, none⟩) n c)).run Tryd.prog w = .ok (.string ⟨lb.toArray⟩) w := by
  have := run_str (P := Tryd.prog) w 34 9 5 Tryd.underlying34 Tryd.underlying5 Tryd.underlying9 (h.out.b.sl c)
  rw [nums_u8] at this
  rw [← hn]
  exact this
theorem good_convc {w0 w : World} {g1 g2 : Nat} {lb lc : List UInt8} {n c : Nat} (h : Hid (Good w0 g1 g2 lb lc w)) (hn : lc.length = n) : (convert 34 9 (.slice (some ⟨g2, 0, none⟩) n c)).run Tryd.prog w = .ok (.string ⟨lc.toArray⟩) w := by
  have := run_str (P := Tryd.prog) w 34 9 5 Tryd.underlying34 Tryd.underlying5 Tryd.underlying9 (h.out.c.sl c)
  rw [nums_u8] at this
  rw [← hn]
  exact this
theorem good_same {w1 w2 : World} {v1 v2 : Value} {L L' : List (List UInt8)} {w0 : World} {g1 g2 : Nat} {lb lc : List UInt8} (h1 : Hid (∃ B, Strs w1 B v1 L)) (hb : Hid (Below w1.heap.size w1 w2)) (h2 : Hid (∃ B, Strs w2 B v2 L')) (he : L = L') (hg : Hid (Good w0 g1 g2 lb lc w2)) (hL : L.length ≤ 4096) :
    Calls Tryd.prog 10 #[v1, v2] w2 fun e w' => e = .returned (.bool true) ∧ Hid (Good w0 g1 g2 lb lc w') := by
  subst he
  obtain ⟨B1, h1⟩ := h1.out
  obtain ⟨B2, h2⟩ := h2.out
  exact (same_words_any L v1 v2 w2 ((strSl_own h1).below hb.out (slBelow_own h1)) (strSl_own h2) (by omega)).mono fun _ _ ⟨he, hd⟩ => ⟨he, Lib.hid (hg.out.next (hd.below _))⟩

theorem bytesRow_size (l : List UInt8) (cap : Nat) : l.length ≤ (bytesRow ⟨l.toArray⟩ cap).size := by unfold bytesRow; simp
theorem conv_new (l : List UInt8) (w : World) : ∃ (c : Nat) (w1 : World), (convert 9 34 (.string ⟨l.toArray⟩)).run Tryd.prog w = .ok (.slice (some ⟨w.heap.size, 0, none⟩) l.length c) w1 ∧ Hid (ByRow w1 w.heap.size l) ∧ Hid (Below w.heap.size w w1) ∧ w1.heap.size = w.heap.size + 1 := by
  have h := run_bytes_of_string (P := Tryd.prog) w 9 34 5 ⟨l.toArray⟩ Tryd.underlying9 Tryd.underlying34 Tryd.underlying5
  rw [show (ByteArray.mk l.toArray).size = l.length from by simp [ByteArray.size]] at h
  generalize grownCap w l.length 0 5 = c at h
  refine ⟨c, _, h, Lib.hid ?_, Lib.hid ?_, by simp⟩
  · exact byRow_new w.drew l _ c _ (bytesRow_size l c)
  · exact (Drawn.below ⟨1, rfl⟩ w.heap.size).alloc (Nat.le_refl _) _
theorem good_keep {w0 w : World} {g1 g2 : Nat} {lb lc : List UInt8} {n c1 c2 : Nat} (h : Hid (Good w0 g1 g2 lb lc w)) (hb : lb.length = n) (hc : lc.length = n) :
    (convert 34 9 (.slice (some ⟨g1, 0, none⟩) n c1)).run Tryd.prog w = .ok (.string ⟨lb.toArray⟩) w ∧ (convert 34 9 (.slice (some ⟨g2, 0, none⟩) n c2)).run Tryd.prog w = .ok (.string ⟨lc.toArray⟩) w := ⟨good_convb h hb, good_convc h hc⟩
theorem good_drew {w0 w : World} {g1 g2 : Nat} {lb lc : List UInt8} (h : Hid (Good w0 g1 g2 lb lc w)) : Hid (Good w0 g1 g2 lb lc w.drew) := Lib.hid (h.out.next (Drawn.below ⟨1, rfl⟩ _))
set_option maxRecDepth 100000 in
set_option maxHeartbeats 1000000 in
theorem case03_law (l : List UInt8) (w : World) (hs : l.length ≤ maxLen) (h : Tab w) : Calls Tryd.prog 8 #[.string ⟨l.toArray⟩] w (AwakePost w) := by
  unfold maxLen at hs
  by_cases hl : 5000 < l.length
  · go_enter Tryd.func8, Tryd.ntmps8
    go_wp2_with fail
    refine (awake_any w h).mono ?_
    rintro e w1 ⟨rfl, hb⟩
    go_wp2_with fail
    go_ret
    exact ⟨rfl, hb⟩
  replace h := Lib.hid h
  obtain ⟨c1, w1, hr1, hy1, hb1, hz1⟩ := conv_new l w
  obtain ⟨c2, w2, hr2, hy2, hb2, hz2⟩ := conv_new l w1
  have hst := Lib.hid (show CaseAt l w w.heap.size w1.heap.size 0 w2 from ⟨by rw [turned_zero]; exact hy1.out.below hb2.out (by omega), by rw [turned_zero]; exact hy2.out, hb1.out.trans (hb2.out.mono (by omega))⟩)
  clear hy1 hy2 hb1 hb2
  have hne := Lib.hid (show w.heap.size ≠ w1.heap.size by omega)
  have hle := Lib.hid (show w.heap.size ≤ w1.heap.size by omega)
  clear hz1 hz2
  go_enter Tryd.func8, Tryd.ntmps8
  go_wp2_with fail
  clear hr1 hr2
  generalize w1.heap.size = g2 at hst hne hle
  go_loopw [5] (fun i wr => ∃ k : Nat, i = .int .i64 k ∧ k ≤ l.length ∧ Hid (CaseAt l w w.heap.size g2 k wr)) (fun i _ => l.length - (intOf i).toNat)
  case atStart => exact ⟨0, rfl, Nat.zero_le _, hst⟩
  case round =>
    obtain ⟨k, rfl, hk, hc⟩ := hrel
    by_cases hlt : k < l.length
    · obtain ⟨b1, b2⟩ := hc.out.b.2 k (by rw [turned_len]; exact hlt)
      obtain ⟨c1, c2⟩ := hc.out.c.2 k (by rw [turned_len]; exact hlt)
      rw [turned_at _ _ _ hlt] at b1 c1
      have hxl := (l.getD k 0).toNat_lt
      have hup := upC_nat (l.getD k 0)
      have hlo := loC_nat (l.getD k 0)
      generalize hx : l.getD k 0 = x at b1 c1 hup hlo hxl
      replace hx := Lib.hid hx
      by_cases h1 : 97 ≤ x.toNat ∧ x.toNat ≤ 122
      · have e1 := Lib.hid (show ((upC (l.getD k 0)).toNat : Int) = (x.toNat : Int) - 32 by rw [hx.out]; rw [if_pos h1] at hup; omega)
        have e2 := Lib.hid (show loC (l.getD k 0) = l.getD k 0 by rw [hx.out]; unfold loC; rw [if_neg (by omega)])
        have c1' : (wr.setCell ⟨w.heap.size, k, none⟩ (.int .u8 ((x.toNat : Int) - 32))).cell? ⟨g2, k, none⟩ = some (.int .u8 (x.toNat : Int)) := by
          rw [World.cell?_setCell_other wr _ _ _ (by intro e; injection e with e _ _; exact hne.out e)]; exact c1
        obtain ⟨h1a, h1b⟩ := h1
        clear hup hlo
        go_wp2_with fail
        exact ⟨⟨k + 1, by go_num, by omega, Lib.hid (hc.out.up hlt hne.out (Nat.le_refl _) e1.out e2.out)⟩, by simp [intOf]; omega⟩
      · by_cases h2 : 65 ≤ x.toNat ∧ x.toNat ≤ 90
        · have e1 := Lib.hid (show ((loC (l.getD k 0)).toNat : Int) = (x.toNat : Int) + 32 by rw [hx.out]; rw [if_pos h2] at hlo; omega)
          have e2 := Lib.hid (show upC (l.getD k 0) = l.getD k 0 by rw [hx.out]; unfold upC; rw [if_neg h1])
          obtain ⟨h2a, h2b⟩ := h2
          have h1a : ¬ (97 ≤ (x.toNat : Int)) := by omega
          clear hup hlo h1
          go_wp2_with fail
          exact ⟨⟨k + 1, by go_num, by omega, Lib.hid (hc.out.lo hlt hne.out hle.out e1.out e2.out)⟩, by simp [intOf]; omega⟩
        · have e1 := Lib.hid (show upC (l.getD k 0) = l.getD k 0 by rw [hx.out]; unfold upC; rw [if_neg h1])
          have e2 := Lib.hid (show loC (l.getD k 0) = l.getD k 0 by rw [hx.out]; unfold loC; rw [if_neg h2])
          clear hup hlo
          rcases (show x.toNat < 65 ∨ (90 < x.toNat ∧ x.toNat < 97) ∨ 122 < x.toNat by omega) with hh | ⟨hh, hh2⟩ | hh
          all_goals clear h1 h2
          all_goals go_wp2_with fail
          all_goals exact ⟨⟨k + 1, by go_num, by omega, Lib.hid (hc.out.keep hlt e1.out e2.out)⟩, by simp [intOf]; omega⟩
    · have hke : ¬ ((k : Int) < l.length) := by omega
      have hkl : k = l.length := by omega
      have hg : Hid (Good w w.heap.size g2 (l.map upC) (l.map loC) wr) := by
        have hc := hc.out
        subst hkl
        exact ⟨h.out.below hc.below, turned_all upC l ▸ hc.b, turned_all loC l ▸ hc.c, hc.below⟩
      clear hc hkl hst
      go_wp2_with fail
      go_region_held3 (fun w' => (convert 34 9 (.slice (some ⟨w.heap.size, 0, none⟩) l.length c1)).run Tryd.prog w' = .ok (.string ⟨(l.map upC).toArray⟩) w' ∧ (convert 34 9 (.slice (some ⟨g2, 0, none⟩) l.length c2)).run Tryd.prog w' = .ok (.string ⟨(l.map loC).toArray⟩) w')
        (first | exact good_keep (by assumption) (List.length_map _) (List.length_map _) | exact good_keep (good_drew (by assumption)) (List.length_map _) (List.length_map _))
        (first
          | (go_at_call 9; refine (good_awake (good_drew hg)).mono ?_; rintro e w' ⟨rfl, hg1⟩)
          | (go_at_call 11; refine (good_words (by assumption) (by simp; omega)).mono ?_; rintro e w' ⟨v, rfl, ho, hb, hg2⟩)
          | (go_at_call 10; refine (good_same (by assumption) (by assumption) (by assumption) (words_case l) (by assumption) (words_bd _).1).mono ?_; rintro e w' ⟨rfl, hg3⟩))
      all_goals
        go_wp2_with fail
        go_ret
        exact ⟨rfl, Good.below (Hid.out (by assumption))⟩
end Go.Proofs.YtlinmokkbikjfaaDoor
