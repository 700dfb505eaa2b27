/- Layer 21: the writer: lists. -/
import Derived.Test.YtpfcamebkcengaaD21b
import Derived.Test.YtpfcamebkcengaaGs
namespace Go.Proofs.Ytpfcamebkcengaa
open Go.RowKit

theorem SlOf.low {α : Type} {k : Nat} {f : α → List Value} {w w' : World} {v : Value} {l : List α} {B : Nat} (h : SlOf k f w v l) (hs : SlBelow B v) (hb : Below B w w') : SlOf k f w' v l := by
  rcases h with h | ⟨b, off, c, hc, rfl, h⟩
  · exact Or.inl h
  · exact Or.inr ⟨b, off, c, hc, rfl, fun i hi t u ht hu => (hb.cell (p := ⟨b, off + i * k + t, none⟩) (hs ⟨b, off, none⟩ _ _ rfl (by omega))).trans (h i hi t u ht hu)⟩
/-- A text as its cell. -/
def stC (s : List UInt8) : List Value := [.string ⟨s.toArray⟩]
theorem stC_len (s : List UInt8) : (stC s).length = 1 := rfl
theorem kyC_len (k : Ky21) : (kyC k).length = 2 := rfl
theorem enC_len (x : En21) : (enC x).length = 7 := rfl
theorem flat_step {α : Type} (g : α → List UInt8) (L : List α) (j : Nat) (h : j < L.length) : (L.take (j + 1)).flatMap g = (L.take j).flatMap g ++ g (L[j]'h) ∧ ((L.take j).flatMap g).length + (g (L[j]'h)).length ≤ (L.flatMap g).length := by
  have h1 : (L.take (j + 1)).flatMap g = (L.take j).flatMap g ++ g (L[j]'h) := by
    rw [List.take_succ_eq_append_getElem h, List.flatMap_append, List.flatMap_cons, List.flatMap_nil, List.append_nil]
  refine ⟨h1, ?_⟩
  have h2 : L.flatMap g = (L.take (j + 1)).flatMap g ++ (L.drop (j + 1)).flatMap g := by rw [← List.flatMap_append, List.take_append_drop]
  rw [h2, h1, List.length_append, List.length_append]
  omega

set_option maxHeartbeats 4000000 in
set_option maxRecDepth 100000 in
theorem wr_texts {w : World} {B b : Nat} {l : List UInt8} {o : Option Nat} (h : WrAt w B b l o) (v : Value) (L : List (List UInt8)) (hv : SlOf 1 stC w v L) (hlow : SlBelow B v) (hn : L.length ≤ 9223372036854775807) (hP : ∀ x ∈ L, (fun s : List UInt8 => s.length ≤ 9223372036854775807) x) (hlen : l.length + ((int21 L.length).length + (L.flatMap text21).length) ≤ 140737488355328) :
    Calls Try.prog 63 #[.pointer (some ⟨b, 0, none⟩), v, .func (.func 37) #[.pointer (some ⟨b, 0, none⟩)] #[]] w (WrPost w B b o (l ++ (int21 L.length ++ L.flatMap text21)) (.tuple #[])) := by
  have hb0 := h.base
  have hW0 := Lib.hid h
  have hc0 := Lib.hid (wr_number h L.length (by omega) (by omega) (by omega))
  obtain ⟨sa, sc, rfl⟩ := hv.form
  replace hv := Lib.hid hv
  replace hlow := Lib.hid hlow
  replace hP := Lib.hid hP
  clear h
  go_enter Try.func63, Try.ntmps63
  go_wp2_with fail
  refine hc0.out.mono ?_
  rintro e w1 ⟨rfl, o1, k1, k2⟩
  have hst : Hid (∃ o', WrAt w1 B b (l ++ (int21 L.length ++ (L.take 0).flatMap text21)) o' ∧ Wr w w1 b o o') := Lib.hid ⟨o1, by rw [List.take_zero, List.flatMap_nil, List.append_nil]; exact k1, k2⟩
  clear k1 k2 hc0
  go_wp2_with fail
  go_loopw [14] (fun i wr => ∃ j : Nat, i = .int .i64 (j : Int) ∧ j ≤ L.length ∧ Hid (∃ o', WrAt wr B b (l ++ (int21 L.length ++ (L.take j).flatMap text21)) o' ∧ Wr w wr b o o')) (fun i _ => L.length - (intOf i).toNat)
  case atStart => exact ⟨0, rfl, Nat.zero_le _, hst⟩
  case round =>
    obtain ⟨j, rfl, hj, hr⟩ := hrel
    by_cases hlt : j < L.length
    · have h0 : L ≠ [] := by intro e; rw [e] at hlt; simp at hlt
      obtain ⟨ow, hr1, hr2⟩ := hr.out
      obtain ⟨bk, off, cc, _, hblt, e, hc⟩ := ((hv.out.low hlow.out (Wr.below hr2 hW0.out)).some stC_len (by decide) h0)
      injection e with e1 e2 e3
      subst e1 e3
      clear e2
      have hjL : (j : Int) < L.length := by omega
      have c0 := hc j hlt 0 _ (by decide) rfl
      rw [Nat.mul_one, Nat.add_zero] at c0
      have hx := hP.out _ (List.getElem_mem hlt)
      obtain ⟨ht1, ht2⟩ := flat_step text21 L j hlt
      generalize L[j]'hlt = x at c0 hx ht1 ht2
      have hc1 := Lib.hid (wr_txt hr1 x hx (by simp only [List.length_append]; omega))
      have hnx := Lib.hid (show l ++ (int21 L.length ++ (L.take j).flatMap text21) ++ text21 x = l ++ (int21 L.length ++ (L.take (j + 1)).flatMap text21) by rw [ht1]; simp only [List.append_assoc])
      unfold stC at *
      try simp only at *
      replace hr2 := Lib.hid hr2
      clear hr hr1 hc ht1 ht2 h0 hx hst
      go_wp2_with fail
      refine hc1.out.mono ?_
      rintro e w2 ⟨rfl, o2, k1, k2⟩
      replace k1 := Lib.hid k1
      replace k2 := Lib.hid k2
      clear hc1
      go_wp2_with fail
      exact ⟨⟨j + 1, rfl, by omega, Lib.hid ⟨o2, hnx.out ▸ k1.out, hr2.out.trans k2.out⟩⟩, by simp [intOf]; omega⟩
    · have hq := hr.out
      rw [List.take_of_length_le (by omega)] at hq
      have hjL : ¬ ((j : Int) < L.length) := by omega
      replace hq := Lib.hid hq
      clear hr hst
      go_wp2_with fail
      go_end0
      exact ⟨rfl, hq.out⟩

set_option maxHeartbeats 4000000 in
set_option maxRecDepth 100000 in
theorem wr_keys {w : World} {B b : Nat} {l : List UInt8} {o : Option Nat} (h : WrAt w B b l o) (v : Value) (L : List (Ky21)) (hv : SlOf 2 kyC w v L) (hlow : SlBelow B v) (hn : L.length ≤ 9223372036854775807) (hP : ∀ x ∈ L, (KyBd) x) (hlen : l.length + ((int21 L.length).length + (L.flatMap key21).length) ≤ 140737488355328) :
    Calls Try.prog 66 #[.pointer (some ⟨b, 0, none⟩), v, .func (.func 67) #[.pointer (some ⟨b, 0, none⟩)] #[]] w (WrPost w B b o (l ++ (int21 L.length ++ L.flatMap key21)) (.tuple #[])) := by
  have hb0 := h.base
  have hW0 := Lib.hid h
  have hc0 := Lib.hid (wr_number h L.length (by omega) (by omega) (by omega))
  obtain ⟨sa, sc, rfl⟩ := hv.form
  replace hv := Lib.hid hv
  replace hlow := Lib.hid hlow
  replace hP := Lib.hid hP
  clear h
  go_enter Try.func66, Try.ntmps66
  go_wp2_with fail
  refine hc0.out.mono ?_
  rintro e w1 ⟨rfl, o1, k1, k2⟩
  have hst : Hid (∃ o', WrAt w1 B b (l ++ (int21 L.length ++ (L.take 0).flatMap key21)) o' ∧ Wr w w1 b o o') := Lib.hid ⟨o1, by rw [List.take_zero, List.flatMap_nil, List.append_nil]; exact k1, k2⟩
  clear k1 k2 hc0
  go_wp2_with fail
  go_loopw [14] (fun i wr => ∃ j : Nat, i = .int .i64 (j : Int) ∧ j ≤ L.length ∧ Hid (∃ o', WrAt wr B b (l ++ (int21 L.length ++ (L.take j).flatMap key21)) o' ∧ Wr w wr b o o')) (fun i _ => L.length - (intOf i).toNat)
  case atStart => exact ⟨0, rfl, Nat.zero_le _, hst⟩
  case round =>
    obtain ⟨j, rfl, hj, hr⟩ := hrel
    by_cases hlt : j < L.length
    · have h0 : L ≠ [] := by intro e; rw [e] at hlt; simp at hlt
      obtain ⟨ow, hr1, hr2⟩ := hr.out
      obtain ⟨bk, off, cc, _, hblt, e, hc⟩ := ((hv.out.low hlow.out (Wr.below hr2 hW0.out)).some kyC_len (by decide) h0)
      injection e with e1 e2 e3
      subst e1 e3
      clear e2
      have hjL : (j : Int) < L.length := by omega
      have c0 := hc j hlt 0 _ (by decide) rfl
      have c1 := hc j hlt 1 _ (by decide) rfl
      rw [Nat.add_zero] at c0
      have hx := hP.out _ (List.getElem_mem hlt)
      obtain ⟨ht1, ht2⟩ := flat_step key21 L j hlt
      generalize L[j]'hlt = x at c0 c1 hx ht1 ht2
      have hbn := (Below.refl wr.heap.size wr).alloc (Nat.le_refl _) (.cells (kyC x).toArray 51)
      have hc1 := Lib.hid (wr_key (hr1.next hbn) x hx (by simp only [List.length_append]; omega))
      have hnx := Lib.hid (show l ++ (int21 L.length ++ (L.take j).flatMap key21) ++ key21 x = l ++ (int21 L.length ++ (L.take (j + 1)).flatMap key21) by rw [ht1]; simp only [List.append_assoc])
      replace hbn := Lib.hid hbn
      obtain ⟨f, g⟩ := x
      unfold kyV kyC at *
      try simp only at *
      replace hr2 := Lib.hid hr2
      clear hr hr1 hc ht1 ht2 h0 hx hst
      go_wp2_with fail
      refine hc1.out.mono ?_
      rintro e w2 ⟨rfl, o2, k1, k2⟩
      replace k1 := Lib.hid k1
      replace k2 := Lib.hid k2
      clear hc1
      go_wp2_with fail
      exact ⟨⟨j + 1, rfl, by omega, Lib.hid ⟨o2, hnx.out ▸ k1.out, (hr2.out.after hbn.out).trans k2.out⟩⟩, by simp [intOf]; omega⟩
    · have hq := hr.out
      rw [List.take_of_length_le (by omega)] at hq
      have hjL : ¬ ((j : Int) < L.length) := by omega
      replace hq := Lib.hid hq
      clear hr hst
      go_wp2_with fail
      go_end0
      exact ⟨rfl, hq.out⟩

set_option maxHeartbeats 4000000 in
set_option maxRecDepth 100000 in
theorem wr_entries {w : World} {B b : Nat} {l : List UInt8} {o : Option Nat} (h : WrAt w B b l o) (v : Value) (L : List (En21)) (hv : SlOf 7 enC w v L) (hlow : SlBelow B v) (hn : L.length ≤ 9223372036854775807) (hP : ∀ x ∈ L, (EnBd) x) (hlen : l.length + ((int21 L.length).length + (L.flatMap ent21).length) ≤ 140737488355328) :
    Calls Try.prog 64 #[.pointer (some ⟨b, 0, none⟩), v, .func (.func 65) #[.pointer (some ⟨b, 0, none⟩)] #[]] w (WrPost w B b o (l ++ (int21 L.length ++ L.flatMap ent21)) (.tuple #[])) := by
  have hb0 := h.base
  have hW0 := Lib.hid h
  have hc0 := Lib.hid (wr_number h L.length (by omega) (by omega) (by omega))
  obtain ⟨sa, sc, rfl⟩ := hv.form
  replace hv := Lib.hid hv
  replace hlow := Lib.hid hlow
  replace hP := Lib.hid hP
  clear h
  go_enter Try.func64, Try.ntmps64
  go_wp2_with fail
  refine hc0.out.mono ?_
  rintro e w1 ⟨rfl, o1, k1, k2⟩
  have hst : Hid (∃ o', WrAt w1 B b (l ++ (int21 L.length ++ (L.take 0).flatMap ent21)) o' ∧ Wr w w1 b o o') := Lib.hid ⟨o1, by rw [List.take_zero, List.flatMap_nil, List.append_nil]; exact k1, k2⟩
  clear k1 k2 hc0
  go_wp2_with fail
  go_loopw [14] (fun i wr => ∃ j : Nat, i = .int .i64 (j : Int) ∧ j ≤ L.length ∧ Hid (∃ o', WrAt wr B b (l ++ (int21 L.length ++ (L.take j).flatMap ent21)) o' ∧ Wr w wr b o o')) (fun i _ => L.length - (intOf i).toNat)
  case atStart => exact ⟨0, rfl, Nat.zero_le _, hst⟩
  case round =>
    obtain ⟨j, rfl, hj, hr⟩ := hrel
    by_cases hlt : j < L.length
    · have h0 : L ≠ [] := by intro e; rw [e] at hlt; simp at hlt
      obtain ⟨ow, hr1, hr2⟩ := hr.out
      obtain ⟨bk, off, cc, _, hblt, e, hc⟩ := ((hv.out.low hlow.out (Wr.below hr2 hW0.out)).some enC_len (by decide) h0)
      injection e with e1 e2 e3
      subst e1 e3
      clear e2
      have hjL : (j : Int) < L.length := by omega
      have c0 := hc j hlt 0 _ (by decide) rfl
      have c1 := hc j hlt 1 _ (by decide) rfl
      have c2 := hc j hlt 2 _ (by decide) rfl
      have c3 := hc j hlt 3 _ (by decide) rfl
      have c4 := hc j hlt 4 _ (by decide) rfl
      have c5 := hc j hlt 5 _ (by decide) rfl
      have c6 := hc j hlt 6 _ (by decide) rfl
      rw [Nat.add_zero] at c0
      have hx := hP.out _ (List.getElem_mem hlt)
      obtain ⟨ht1, ht2⟩ := flat_step ent21 L j hlt
      generalize L[j]'hlt = x at c0 c1 c2 c3 c4 c5 c6 hx ht1 ht2
      have hbn := (Below.refl wr.heap.size wr).alloc (Nat.le_refl _) (.cells (enC x).toArray 53)
      have hc1 := Lib.hid (wr_entry (hr1.next hbn) x hx (by simp only [List.length_append]; omega))
      have hnx := Lib.hid (show l ++ (int21 L.length ++ (L.take j).flatMap ent21) ++ ent21 x = l ++ (int21 L.length ++ (L.take (j + 1)).flatMap ent21) by rw [ht1]; simp only [List.append_assoc])
      replace hbn := Lib.hid hbn
      obtain ⟨⟨f, g⟩, t, lk, by_, st, sg⟩ := x
      unfold enV enC at *
      try simp only at *
      replace hr2 := Lib.hid hr2
      clear hr hr1 hc ht1 ht2 h0 hx hst
      go_wp2_with fail
      refine hc1.out.mono ?_
      rintro e w2 ⟨rfl, o2, k1, k2⟩
      replace k1 := Lib.hid k1
      replace k2 := Lib.hid k2
      clear hc1
      go_wp2_with fail
      exact ⟨⟨j + 1, rfl, by omega, Lib.hid ⟨o2, hnx.out ▸ k1.out, (hr2.out.after hbn.out).trans k2.out⟩⟩, by simp [intOf]; omega⟩
    · have hq := hr.out
      rw [List.take_of_length_le (by omega)] at hq
      have hjL : ¬ ((j : Int) < L.length) := by omega
      replace hq := Lib.hid hq
      clear hr hst
      go_wp2_with fail
      go_end0
      exact ⟨rfl, hq.out⟩
end Go.Proofs.Ytpfcamebkcengaa
