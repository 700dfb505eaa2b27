/- Layer 17, the program: hide, Escape, element. -/
import Derived.Test.YtahohmdbiiknoaaGreatDoorTe
import Derived.Test.YtahohmdbiiknoaaGreatDoorBR16
import Derived.Test.YtahohmdbiiknoaaGreatDoorBR18
namespace Go.Proofs.YtahohmdbiiknoaaGreatDoor
open Go.RowKit

/-- A text under work, and nothing older than the work has turned. -/
def TxOn (w0 w : World) (v : Value) (l : List UInt8) : Prop := TxE w w0.heap.size v l ∧ Below w0.heap.size w0 w
def TxPost (w0 w : World) (l : List UInt8) (e : Ending) (w' : World) : Prop := ∃ v, e = .returned v ∧ TxOn w0 w' v l ∧ U8Only w w'
theorem TxOn.next {w0 w w' : World} {v : Value} {l : List UInt8} (h : TxOn w0 w v l) (hb : Below w.heap.size w w') : TxOn w0 w' v l := ⟨h.1.next hb, h.2.trans (hb.mono h.2.size)⟩
theorem TxOn.step {w0 w w' : World} {v v' : Value} {l m : List UInt8} (h : TxOn w0 w v l) (h1 : TxE w' w0.heap.size v' m) (hb : Below w0.heap.size w w') : TxOn w0 w' v' m := ⟨h1, h.2.trans hb⟩
theorem TxOn.low {w0 w : World} {v : Value} {l : List UInt8} (h : TxOn w0 w v l) : w0.heap.size ≤ w.heap.size := h.2.size
theorem txOn_nil (w : World) : TxOn w w (.slice none 0 0) [] := ⟨txE_nil _ _, Below.refl _ _⟩
theorem TxOn.to {w0 w : World} {v : Value} {l m : List UInt8} (h : TxOn w0 w v l) (e : l = m) : TxOn w0 w v m := e ▸ h
theorem TxOn.form {w0 w : World} {v : Value} {l : List UInt8} (h : TxOn w0 w v l) : ∃ a c, v = .slice a l.length c := h.1.form
theorem esc_take (s : List UInt8) (k : Nat) (h : k < s.length) : escB (s.take (k + 1)) = escB (s.take k) ++ esc1 (s.getD k 0) := by
  have e : s.getD k 0 = s[k]'h := by simp [List.getD, h]
  rw [List.take_add_one, List.getElem?_eq_getElem h, e]
  unfold escB
  rw [List.flatMap_append]
  simp
theorem esc1_bt (s : List UInt8) (k : Nat) : esc1 (s.getD k 0) = if bt s k = 38 then [38, 97, 109, 112, 59] else if bt s k = 60 then [38, 108, 116, 59] else if bt s k = 62 then [38, 103, 116, 59] else if bt s k = 34 then [38, 113, 117, 111, 116, 59] else [s.getD k 0] := by
  have h : ∀ c : UInt8, (bt s k = (c.toNat : Int)) = (s.getD k 0 = c) := fun c => by
    unfold bt
    rw [eq_iff_iff]
    constructor
    · intro e; exact UInt8.toNat_inj.1 (by omega)
    · intro e; rw [e]
  have h1 := h 38
  have h2 := h 60
  have h3 := h 62
  have h4 := h 34
  simp only [show ((38 : UInt8).toNat : Int) = 38 from rfl, show ((60 : UInt8).toNat : Int) = 60 from rfl, show ((62 : UInt8).toNat : Int) = 62 from rfl, show ((34 : UInt8).toNat : Int) = 34 from rfl] at h1 h2 h3 h4
  unfold esc1
  simp only [h1, h2, h3, h4]
theorem bt_getD (s : List UInt8) (k : Nat) : bt s k = ((s.getD k 0).toNat : Int) := rfl

set_option maxHeartbeats 1000000 in
theorem hide17_any (w0 w : World) (v : Value) (l s : List UInt8) (h : TxOn w0 w v l) (hn : l.length + 6 * s.length ≤ 1000000000000) :
    Calls Tryz.prog 27 #[v, .string ⟨s.toArray⟩] w (TxPost w0 w (l ++ escB s)) := by
  have hmax : (s.length : Int) ≤ 1000000000000 := by omega
  replace h := Lib.hid h
  go_enter Tryz.func27, Tryz.ntmps27
  go_wp2_with fail
  go_loopw [0, 8] (fun a i wr => ∃ k : Nat, i = .int .i64 k ∧ k ≤ s.length ∧ Hid (TxOn w0 wr a (l ++ escB (s.take k))) ∧ Hid (U8Only w wr)) (fun _ i _ => s.length - (intOf i).toNat)
  case atStart => exact ⟨0, rfl, Nat.zero_le _, Lib.hid (h.out.to (by simp [escB])), Lib.hid (U8Only.refl _)⟩
  case round =>
    obtain ⟨k, rfl, hk, ht, hO⟩ := hrel
    by_cases hlt : k < s.length
    · have hlt1 : (k : Int) < s.length := by omega
      have hs : l ++ escB (s.take (k + 1)) = (l ++ escB (s.take k)) ++ esc1 (s.getD k 0) := by rw [esc_take s k hlt, List.append_assoc]
      rw [esc1_bt] at hs
      have hl : (l ++ escB (s.take k)).length + 6 ≤ 1000000000000 + 6 := by
        have := escB_len (s.take k)
        rw [List.length_take] at this
        rw [List.length_append]; omega
      obtain ⟨T, hT⟩ : ∃ T, l ++ escB (s.take k) = T := ⟨_, rfl⟩
      rw [hT] at hs hl ht
      have hB := ht.out.low
      have hbt := Lib.hid (bt_getD s k)
      clear hT
      by_cases c1 : bt s k = 38
      · rw [if_pos c1] at hs
        replace hs := Lib.hid hs
        replace ht := Lib.hid ht.out
        go_wp2_with (at_builtin; go_must (refine wpList_appendE rfl _ _ 51 9 rfl Tryz.underlying51 Tryz.underlying9 info_u8 w0.heap.size _ T [38, 97, 109, 112, 59] ht.out.1 rfl rfl (by simp only [List.length_cons, List.length_nil]; omega) hB ?_))
        intro v' w' h1 hb hO1
        have ht2 := Lib.hid ((ht.out.step h1 hb).to hs.out.symm)
        have hO2 := Lib.hid (hO.out.trans hO1)
        clear h1 hb ht hs hO hO1
        go_wp2_with fail
        exact ⟨⟨k + 1, by go_num, by omega, ht2, hO2⟩, by simp [intOf]; omega⟩
      rw [if_neg c1] at hs
      by_cases c2 : bt s k = 60
      · rw [if_pos c2] at hs
        replace hs := Lib.hid hs
        replace ht := Lib.hid ht.out
        clear c1
        go_wp2_with (at_builtin; go_must (refine wpList_appendE rfl _ _ 51 9 rfl Tryz.underlying51 Tryz.underlying9 info_u8 w0.heap.size _ T [38, 108, 116, 59] ht.out.1 rfl rfl (by simp only [List.length_cons, List.length_nil]; omega) hB ?_))
        intro v' w' h1 hb hO1
        have ht2 := Lib.hid ((ht.out.step h1 hb).to hs.out.symm)
        have hO2 := Lib.hid (hO.out.trans hO1)
        clear h1 hb ht hs hO hO1
        go_wp2_with fail
        exact ⟨⟨k + 1, by go_num, by omega, ht2, hO2⟩, by simp [intOf]; omega⟩
      rw [if_neg c2] at hs
      by_cases c3 : bt s k = 62
      · rw [if_pos c3] at hs
        replace hs := Lib.hid hs
        replace ht := Lib.hid ht.out
        clear c1 c2
        go_wp2_with (at_builtin; go_must (refine wpList_appendE rfl _ _ 51 9 rfl Tryz.underlying51 Tryz.underlying9 info_u8 w0.heap.size _ T [38, 103, 116, 59] ht.out.1 rfl rfl (by simp only [List.length_cons, List.length_nil]; omega) hB ?_))
        intro v' w' h1 hb hO1
        have ht2 := Lib.hid ((ht.out.step h1 hb).to hs.out.symm)
        have hO2 := Lib.hid (hO.out.trans hO1)
        clear h1 hb ht hs hO hO1
        go_wp2_with fail
        exact ⟨⟨k + 1, by go_num, by omega, ht2, hO2⟩, by simp [intOf]; omega⟩
      rw [if_neg c3] at hs
      by_cases c4 : bt s k = 34
      · rw [if_pos c4] at hs
        replace hs := Lib.hid hs
        replace ht := Lib.hid ht.out
        clear c1 c2 c3
        go_wp2_with (at_builtin; go_must (refine wpList_appendE rfl _ _ 51 9 rfl Tryz.underlying51 Tryz.underlying9 info_u8 w0.heap.size _ T [38, 113, 117, 111, 116, 59] ht.out.1 rfl rfl (by simp only [List.length_cons, List.length_nil]; omega) hB ?_))
        intro v' w' h1 hb hO1
        have ht2 := Lib.hid ((ht.out.step h1 hb).to hs.out.symm)
        have hO2 := Lib.hid (hO.out.trans hO1)
        clear h1 hb ht hs hO hO1
        go_wp2_with fail
        exact ⟨⟨k + 1, by go_num, by omega, ht2, hO2⟩, by simp [intOf]; omega⟩
      rw [if_neg c4] at hs
      replace hs := Lib.hid hs
      replace ht := Lib.hid ht.out
      go_wp2_with (at_builtin; go_must (refine wpList_append1E rfl _ _ 51 rfl Tryz.underlying51 info_u8 w0.heap.size _ T (s.getD k 0) _ hbt.out ht.out.1 rfl rfl (by omega) hB ?_))
      intro v' w' h1 hb hO1
      have ht2 := Lib.hid (show TxOn w0 w' v' (l ++ escB (s.take (k + 1))) from (ht.out.step h1 hb).to (by rw [hs.out]; simp [List.getD, hlt]))
      have hO2 := Lib.hid (hO.out.trans hO1)
      clear h1 hb ht hs hO hO1
      go_wp2_with fail
      exact ⟨⟨k + 1, by go_num, by omega, ht2, hO2⟩, by simp [intOf]; omega⟩
    · have hlt1 : ¬ ((k : Int) < s.length) := by omega
      have hs : s.take k = s := List.take_of_length_le (by omega)
      rw [hs] at ht
      go_wp2_with fail
      go_ret
      exact ⟨_, rfl, ht.out, hO.out⟩

theorem escape17_any (s : List UInt8) (w : World) (hn : s.length ≤ 100000000000) : Calls Tryz.prog 14 #[.string ⟨s.toArray⟩] w (StrB w (escB s)) := by
  have hc := Lib.hid (hide17_any w w (.slice none 0 0) [] s (txOn_nil w) (by simp only [List.length_nil]; omega))
  go_enter Tryz.func14, Tryz.ntmps14
  go_wp2_with fail
  refine hc.out.mono ?_
  rintro e w' ⟨v, rfl, ht, -⟩
  rw [List.nil_append] at ht
  have hcv := txE_str ht.1
  replace ht := Lib.hid ht
  go_wp2_with fail
  go_ret
  exact ⟨rfl, ht.out.2⟩

/-- An element, as it is printed. -/
def elB (nm x : List UInt8) : List UInt8 := 60 :: (nm ++ 62 :: (escB x ++ 60 :: 47 :: (nm ++ [62])))
set_option maxHeartbeats 1000000 in
theorem element17_any (w0 w : World) (v : Value) (l nm x : List UInt8) (h : TxOn w0 w v l) (hnm : nm.length ≤ 100) (hn : l.length + 6 * x.length ≤ 900000000000) :
    Calls Tryz.prog 42 #[v, .string ⟨nm.toArray⟩, .string ⟨x.toArray⟩] w (TxPost w0 w (l ++ elB nm x)) := by
  have hB := h.low
  have he := escB_len x
  have e1 : (60 :: (nm ++ [62]) : List UInt8).length = nm.length + 2 := by simp
  have e2 : (60 :: 47 :: (nm ++ [62]) : List UInt8).length = nm.length + 3 := by simp
  have hfin : l ++ elB nm x = l ++ (60 :: (nm ++ [62])) ++ escB x ++ (60 :: 47 :: (nm ++ [62])) := by unfold elB; simp
  replace hfin := Lib.hid hfin
  replace h := Lib.hid h
  go_enter Tryz.func42, Tryz.ntmps42
  go_wp2_with (at_builtin; go_must (refine wpList_appendE rfl _ _ 51 9 rfl Tryz.underlying51 Tryz.underlying9 info_u8 w0.heap.size _ l (60 :: (nm ++ [62])) h.out.1 rfl (by simp [go_sem]) (by omega) hB ?_))
  intro v1 w1 h1 hb1 o1
  have ht1 := h.out.step h1 hb1
  clear h1 hb1 h
  replace o1 := Lib.hid o1
  have hc := Lib.hid (hide17_any w0 w1 v1 _ x ht1 (by rw [List.length_append, e1]; omega))
  clear ht1
  go_wp2_with fail
  refine hc.out.mono ?_
  rintro e w2 ⟨v2, rfl, ht2, o2⟩
  clear hc
  replace o1 := Lib.hid (o1.out.trans o2)
  clear o2
  have hB2 := ht2.low
  have hl2 : (l ++ (60 :: (nm ++ [62])) ++ escB x).length ≤ 1000000000000 := by rw [List.length_append, List.length_append, e1]; omega
  obtain ⟨T, hT⟩ : ∃ T, l ++ (60 :: (nm ++ [62])) ++ escB x = T := ⟨_, rfl⟩
  rw [hT] at ht2 hl2 hfin
  clear hT
  replace ht2 := Lib.hid ht2
  go_wp2_with (at_builtin; go_must (refine wpList_appendE rfl _ _ 51 9 rfl Tryz.underlying51 Tryz.underlying9 info_u8 w0.heap.size _ T (60 :: 47 :: (nm ++ [62])) ht2.out.1 rfl (by simp [go_sem]) (by omega) hB2 ?_))
  intro v3 w3 h3 hb3 o3
  replace o1 := Lib.hid (o1.out.trans o3)
  clear o3
  have ht3 := Lib.hid ((ht2.out.step h3 hb3).to hfin.out.symm)
  clear h3 hb3 ht2
  go_wp2_with fail
  go_ret
  exact ⟨_, rfl, ht3.out, o1.out⟩
end Go.Proofs.YtahohmdbiiknoaaGreatDoor
