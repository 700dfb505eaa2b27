/- Layer 10: place, Strip, the program's and the reference's. -/
import Derived.Test.YtahjopajnckbaaaD10g
namespace Go.Proofs.Ytahjopajnckbaaa
open Go.RowKit

/-- Where a byte stands first, from a place on; -1: nowhere. -/
def placeB (l : List UInt8) (c : UInt8) (k : Nat) : Int := if 0 ≤ Lib.indexByte (l.drop k) c then k + Lib.indexByte (l.drop k) c else -1
theorem drop_take1 (l : List UInt8) (k : Nat) (h : k < l.length) : (l.drop k).take 1 = [l.getD k 0] := by
  rw [List.drop_eq_getElem_cons h, List.take_succ_cons, List.take_zero]; simp [List.getD, h]
theorem bt_get0 (l : List UInt8) (k : Nat) : bt l k = ((l.getD k 0).toNat : Int) := rfl

set_option maxHeartbeats 1000000 in
theorem place_any (l : List UInt8) (c : UInt8) (k : Nat) (w : World) (hk : k ≤ l.length) (hl : l.length ≤ 100000) :
    Calls Try.prog 29 #[.string ⟨l.toArray⟩, .string ⟨[c].toArray⟩, .int .i64 k] w fun e w' => e = .returned (.int .i64 (placeB l c k)) ∧ w = w' := by
  go_enter Try.func29, Try.ntmps29
  go_wp2_with fail
  go_loop [7] (fun i => ∃ m : Nat, i = .int .i64 m ∧ k ≤ m ∧ m ≤ l.length ∧ Hid (∀ j, k ≤ j → j < m → bt l j ≠ (c.toNat : Int))) (fun i => l.length - (intOf i).toNat)
  case atStart => exact ⟨k, rfl, Nat.le_refl _, hk, fun j h1 h2 => by omega⟩
  case round =>
    obtain ⟨m, rfl, hkm, hm, hno⟩ := hrel
    by_cases hlt : m < l.length
    · have htd := take_drop1 l m hlt
      rw [drop_take1 l m hlt] at htd
      have hg := bt_get0 l m
      generalize l.getD m 0 = x at htd hg
      by_cases hx : x = c
      · subst hx
        have hpl : placeB l x k = (m : Int) := by
          unfold placeB
          have := indexByte_at (l.drop k) x (m - k) (by rw [List.length_drop]; omega) (by rw [bt_drop, show k + (m - k) = m from by omega]; exact hg) (fun j hj => by rw [bt_drop]; exact hno.out _ (by omega) (by omega))
          rw [this, if_pos (by omega)]; omega
        have heq : ((l.take (m + 1)).drop m == [x]) = true := by rw [htd]; simp
        replace hpl := Lib.hid hpl
        replace hg := Lib.hid hg
        replace htd := Lib.hid htd
        go_wp2_with fail
        go_ret
        exact ⟨ret_int hpl.out.symm, rfl⟩
      · have heq : ((l.take (m + 1)).drop m == [c]) = false := by rw [htd]; simpa using hx
        have hno2 : Hid (∀ j, k ≤ j → j < m + 1 → bt l j ≠ (c.toNat : Int)) := by
          intro j h1 h2
          by_cases hj : j = m
          · subst hj; rw [hg]; intro e; exact hx (UInt8.toNat_inj.1 (by omega))
          · exact hno.out j h1 (by omega)
        replace hg := Lib.hid hg
        replace htd := Lib.hid htd
        replace hx := Lib.hid hx
        go_wp2_with fail
        exact ⟨⟨m + 1, by go_num, by omega, by omega, hno2⟩, by simp [intOf]; omega⟩
    · have hpl : placeB l c k = -1 := by
        unfold placeB
        rw [indexByte_not (l.drop k) c fun j hj => by rw [bt_drop]; rw [List.length_drop] at hj; exact hno.out _ (by omega) (by omega)]
        rfl
      have hke : ¬ ((m : Int) + 1 ≤ l.length) := by omega
      replace hpl := Lib.hid hpl
      go_wp2_with fail
      go_ret
      exact ⟨ret_int hpl.out.symm, rfl⟩

/-- What the loops of Strip keep: acc is made, from place k on is to come. -/
structure StAt (l : List UInt8) (k : Nat) (acc : List UInt8) : Prop where
  le : k ≤ l.length
  eq : acc ++ stripB (l.drop k) = stripB l
  len : acc.length ≤ k
theorem strip_step (d : List UInt8) (h : d ≠ []) : stripB d = (markF d).1 ++ stripB (d.drop ((markF d).2 + 1)) := walkT_step markF d h
theorem StAt.mark {l : List UInt8} {k n : Nat} {acc : List UInt8} (h : StAt l k acc) (hk : k < l.length) (ho : opensB (l.drop k) = true) (hn : Lib.indexByte (l.drop k) 62 = n) : StAt l (k + n + 1) (acc ++ [32]) := by
  have hlt := indexByte_lt (l.drop k) 62
  rw [hn, List.length_drop] at hlt
  have hm : markF (l.drop k) = ([32], n) := by
    unfold markF
    rw [if_pos ⟨ho, by omega⟩, hn]; simp
  refine ⟨by omega, ?_, by have := h.len; rw [List.length_append]; simp; omega⟩
  rw [← h.eq, strip_step _ (drop_ne hk), hm, List.drop_drop, List.append_assoc, Nat.add_assoc]
theorem StAt.sign {l : List UInt8} {k : Nat} {acc : List UInt8} (h : StAt l k acc) (hk : k < l.length) (ho : opensB (l.drop k) = false ∨ Lib.indexByte (l.drop k) 62 < 0) : StAt l (k + 1) (acc ++ (l.drop k).take 1) := by
  have hm : markF (l.drop k) = ((l.drop k).take 1, 0) := by
    unfold markF
    rw [if_neg]
    rintro ⟨h1, h2⟩
    rcases ho with h3 | h3
    · rw [h1] at h3; cases h3
    · omega
  have h1 : ((l.drop k).take 1).length = 1 := by rw [List.length_take, List.length_drop]; omega
  refine ⟨by omega, ?_, by have := h.len; rw [List.length_append, h1]; omega⟩
  rw [← h.eq, strip_step _ (drop_ne hk), hm, List.drop_drop, List.append_assoc]
theorem StAt.done {l : List UInt8} {k : Nat} {acc : List UInt8} (h : StAt l k acc) (hk : ¬ k < l.length) : acc = stripB l := by
  have := h.eq
  rw [List.drop_eq_nil_of_le (by omega)] at this
  rw [← this]; simp [stripB, walkT]
theorem bt_lit (l : List UInt8) (k : Nat) (hk : k < l.length) : (l.drop k).take 1 = [l.getD k 0] := drop_take1 l k hk

/-- What the last > of a text tells of what stands behind a place. -/
theorem last_ahead (l : List UInt8) (k : Nat) (_hk : k < l.length) (h : (k : Int) < lastB l 62) : k + 2 ≤ l.length ∧ ∃ n : Nat, Lib.indexByte (l.drop k) 62 = n ∧ k + n < l.length := by
  rcases lastB_spec l 62 with ⟨e, _⟩ | ⟨i, h1, e, h3, _⟩
  · omega
  · rw [e] at h
    refine ⟨by omega, ?_⟩
    have hm : 0 ≤ Lib.indexByte (l.drop k) 62 := by
      rcases indexByte_ge0 (l.drop k) 62 with e2 | e2
      · exfalso
        have : (62 : UInt8) ∈ l.drop k := by
          rw [List.mem_iff_getElem]
          refine ⟨i - k, by rw [List.length_drop]; omega, ?_⟩
          rw [List.getElem_drop]
          have h4 : bt l i = ((62 : UInt8).toNat : Int) := h3
          unfold bt at h4
          have h5 : l.getD i 0 = 62 := UInt8.toNat_inj.1 (by omega)
          simp [List.getD, h1] at h5
          rw [← h5]
          congr 1; omega
        have := (indexByte_mem _ _).2 this
        omega
      · exact e2
    have hlt := indexByte_lt (l.drop k) 62
    rw [List.length_drop] at hlt
    exact ⟨(Lib.indexByte (l.drop k) 62).toNat, by omega, by omega⟩
theorem last_behind (l : List UInt8) (k : Nat) (_hk : k < l.length) (h : ¬ (k : Int) < lastB l 62) : opensB (l.drop k) = false ∨ Lib.indexByte (l.drop k) 62 < 0 := by
  cases ho : opensB (l.drop k)
  · exact Or.inl rfl
  · right
    unfold opensB at ho
    simp only [Bool.and_eq_true, beq_iff_eq, bt_drop] at ho
    have hnot : ∀ j, j < l.length → (k : Int) < j → bt l j ≠ 62 := by
      intro j hj hkj
      rcases lastB_spec l 62 with ⟨_, h2⟩ | ⟨i, h1, e, _, h4⟩
      · exact h2 j hj
      · exact h4 j (by omega) hj
    rw [indexByte_not (l.drop k) 62]
    · omega
    · intro j hj
      rw [List.length_drop] at hj
      rw [bt_drop]
      by_cases h0 : j = 0
      · subst h0; rw [ho.2.1]; decide
      · exact hnot _ (by omega) (by omega)

set_option maxHeartbeats 1000000 in
theorem strip_any (l : List UInt8) (w : World) (hl : l.length ≤ 100000) :
    Calls Try.prog 10 #[.string ⟨l.toArray⟩] w (TextPost w (stripB l)) := by
  go_enter Try.func10, Try.ntmps10
  go_wp2_with fail
  refine (lastIndex_any l 62 _ (by omega)).mono ?_; rintro e w' ⟨rfl, rfl⟩
  obtain ⟨last, hlast⟩ : ∃ x, lastB l 62 = x := ⟨_, rfl⟩
  rw [hlast]
  replace hlast := Lib.hid hlast
  go_wp2_with fail
  go_loopw [4, 5] (fun v i wr => ∃ (k : Nat) (acc : List UInt8), i = .int .i64 k ∧ StAt l k acc ∧ Txt wr w.heap.size v acc ∧ Below w.heap.size w wr) (fun _ i _ => l.length - (intOf i).toNat)
  case atStart => exact ⟨0, [], rfl, ⟨Nat.zero_le _, rfl, Nat.zero_le _⟩, txt_nil _ _, Below.refl _ _⟩
  case round =>
    obtain ⟨k, acc, rfl, hc, hown, hbl⟩ := hrel
    have hk := hc.le
    have hlen := hc.len
    have hsz := hbl.size
    replace hbl := Lib.hid hbl
    by_cases hlt : k < l.length
    · by_cases hla : (k : Int) < last
      · obtain ⟨hk2, n, hn, hkn⟩ := last_ahead l k hlt (by rw [hlast.out]; exact hla)
        have hd2 : 2 ≤ (l.drop k).length := by rw [List.length_drop]; omega
        cases ho : opensB (l.drop k)
        · have hst := hc.sign hlt (Or.inl ho)
          have hnm := nums_take1 (l.drop k) (drop_ne hlt)
          rw [bt_drop, Nat.add_zero] at hnm
          generalize (l.drop k).take 1 = x at hst hnm
          replace hst := Lib.hid hst
          replace hnm := Lib.hid hnm
          replace hn := Lib.hid hn
          clear hc
          replace hown := Lib.hid hown
          go_wp2_with fail
          refine (opens_any _ _ hd2).mono ?_; rintro e w' ⟨rfl, rfl⟩; rw [ho]
          replace ho := Lib.hid ho
          go_wp2_with (at_builtin; go_must (refine wpList_append1 rfl _ _ 29 5 rfl Try.underlying29 (.int .u8 0) 1 info_byte rfl (by decide) w.heap.size _ _ _ _ hown.out rfl rfl rfl (by omega) hsz ?_))
          intro v1 w1 hown1 hb1 _
          replace hown1 := Lib.hid hown1
          replace hb1 := Lib.hid hb1
          go_wp2_with fail
          exact ⟨⟨k + 1, acc ++ x, by go_num, hst.out, txt_one hnm.out hown1.out, hbl.out.trans hb1.out⟩, by simp [intOf]; omega⟩
        · have hst := hc.mark hlt ho hn
          have hix : Hid (∀ W, Calls Try.prog 27 #[.string ⟨(l.drop k).toArray⟩, .int .u8 62] W fun e w' => e = .returned (.int .i64 (n : Int)) ∧ W = w') := fun W => by
            rw [← hn]; exact indexByte_any (l.drop k) 62 W
          replace hst := Lib.hid hst
          replace hn := Lib.hid hn
          clear hc
          replace hown := Lib.hid hown
          go_wp2_with fail
          refine (opens_any _ _ hd2).mono ?_; rintro e w' ⟨rfl, rfl⟩; rw [ho]
          replace ho := Lib.hid ho
          go_wp2_with (at_builtin; go_must (refine wpList_append1 rfl _ _ 29 5 rfl Try.underlying29 (.int .u8 0) 1 info_byte rfl (by decide) w.heap.size _ _ _ _ hown.out rfl rfl rfl (by omega) hsz ?_))
          intro v1 w1 hown1 hb1 _
          replace hown1 := Lib.hid hown1
          replace hb1 := Lib.hid hb1
          go_wp2_with fail
          refine (hix.out _).mono ?_; rintro e w' ⟨rfl, rfl⟩
          go_wp2_with fail
          exact ⟨⟨k + n + 1, acc ++ [32], by go_num, hst.out, txt_one (m := [32]) rfl hown1.out, hbl.out.trans hb1.out⟩, by simp [intOf]; omega⟩
      · have hst := hc.sign hlt (last_behind l k hlt (by rw [hlast.out]; exact hla))
        have hnm := nums_take1 (l.drop k) (drop_ne hlt)
        rw [bt_drop, Nat.add_zero] at hnm
        generalize (l.drop k).take 1 = x at hst hnm
        replace hst := Lib.hid hst
        replace hnm := Lib.hid hnm
        clear hc
        replace hown := Lib.hid hown
        go_wp2_with (at_builtin; go_must (refine wpList_append1 rfl _ _ 29 5 rfl Try.underlying29 (.int .u8 0) 1 info_byte rfl (by decide) w.heap.size _ _ _ _ hown.out rfl rfl rfl (by omega) hsz ?_))
        intro v1 w1 hown1 hb1 _
        replace hown1 := Lib.hid hown1
        replace hb1 := Lib.hid hb1
        go_wp2_with fail
        exact ⟨⟨k + 1, acc ++ x, by go_num, hst.out, txt_one hnm.out hown1.out, hbl.out.trans hb1.out⟩, by simp [intOf]; omega⟩
    · have hke : ¬ ((k : Int) < l.length) := by omega
      have hq := Lib.hid (hc.done hlt)
      have hcv := txt_str hown
      replace hc := Lib.hid hc
      replace hown := Lib.hid hown
      go_wp2_with fail
      go_ret
      exact ⟨ret_str hq.out, hbl.out⟩
end Go.Proofs.Ytahjopajnckbaaa
