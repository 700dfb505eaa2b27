/- Layer 10: place, Strip, the program's and the reference's. -/
import Derived.Test.YtfmlgfeldlnlgaaGreatDoorBR23
namespace Go.Proofs.YtfmlgfeldlnlgaaGreatDoor
open Go.RowKit

/-- Where a byte stands first, from a place on; -1: nowhere. -/
def placeT (l : List UInt8) (c : UInt8) (k : Nat) : Int := if 0 ≤ Lib.indexByte (l.drop k) c then k + Lib.indexByte (l.drop k) c else -1
theorem drop_take1 (l : List UInt8) (k : Nat) (h : k < l.length) : (l.drop k).take 1 = [l.getD k 0] := by
  rw [List.drop_eq_getElem_cons h, List.take_succ_cons, List.take_zero]; simp [List.getD, h]
theorem bt_get0 (l : List UInt8) (k : Nat) : bt l k = ((l.getD k 0).toNat : Int) := rfl

set_option maxHeartbeats 1000000 in
theorem place_any (l : List UInt8) (c : UInt8) (k : Nat) (w : World) (hk : k ≤ l.length) (hl : l.length ≤ 10000000) :
    Calls Tryz.prog 98 #[.string ⟨l.toArray⟩, .string ⟨[c].toArray⟩, .int .i64 k] w fun e w' => e = .returned (.int .i64 (placeT l c k)) ∧ w = w' := by
  go_enter Tryz.func98, Tryz.ntmps98
  go_wp2_with fail
  go_loop [7] (fun i => ∃ m : Nat, i = .int .i64 m ∧ k ≤ m ∧ m ≤ l.length ∧ Hid (∀ j, k ≤ j → j < m → bt l j ≠ (c.toNat : Int))) (fun i => l.length - (intOf i).toNat)
  case atStart => exact ⟨k, rfl, Nat.le_refl _, hk, fun j h1 h2 => by omega⟩
  case round =>
    obtain ⟨m, rfl, hkm, hm, hno⟩ := hrel
    by_cases hlt : m < l.length
    · have htd := take_drop1 l m hlt
      rw [drop_take1 l m hlt] at htd
      have hg := bt_get0 l m
      generalize l.getD m 0 = x at htd hg
      by_cases hx : x = c
      · subst hx
        have hpl : placeT l x k = (m : Int) := by
          unfold placeT
          have := indexByte_at (l.drop k) x (m - k) (by rw [List.length_drop]; omega) (by rw [bt_drop, show k + (m - k) = m from by omega]; exact hg) (fun j hj => by rw [bt_drop]; exact hno.out _ (by omega) (by omega))
          rw [this, if_pos (by omega)]; omega
        have heq : ((l.take (m + 1)).drop m == [x]) = true := by rw [htd]; simp
        replace hpl := Lib.hid hpl
        replace hg := Lib.hid hg
        replace htd := Lib.hid htd
        go_wp2_with fail
        go_ret
        exact ⟨ret_int hpl.out.symm, rfl⟩
      · have heq : ((l.take (m + 1)).drop m == [c]) = false := by rw [htd]; simpa using hx
        have hno2 : Hid (∀ j, k ≤ j → j < m + 1 → bt l j ≠ (c.toNat : Int)) := by
          intro j h1 h2
          by_cases hj : j = m
          · subst hj; rw [hg]; intro e; exact hx (UInt8.toNat_inj.1 (by omega))
          · exact hno.out j h1 (by omega)
        replace hg := Lib.hid hg
        replace htd := Lib.hid htd
        replace hx := Lib.hid hx
        go_wp2_with fail
        exact ⟨⟨m + 1, by go_num, by omega, by omega, hno2⟩, by simp [intOf]; omega⟩
    · have hpl : placeT l c k = -1 := by
        unfold placeT
        rw [indexByte_not (l.drop k) c fun j hj => by rw [bt_drop]; rw [List.length_drop] at hj; exact hno.out _ (by omega) (by omega)]
        rfl
      have hke : ¬ ((m : Int) + 1 ≤ l.length) := by omega
      replace hpl := Lib.hid hpl
      go_wp2_with fail
      go_ret
      exact ⟨ret_int hpl.out.symm, rfl⟩

/-- What the loops of Strip keep: acc is made, from place k on is to come. -/
structure StAt (l : List UInt8) (k : Nat) (acc : List UInt8) : Prop where
  le : k ≤ l.length
  eq : acc ++ stripB (l.drop k) = stripB l
  len : acc.length ≤ k
theorem strip_step (d : List UInt8) (h : d ≠ []) : stripB d = (markF d).1 ++ stripB (d.drop ((markF d).2 + 1)) := walkT_step markF d h
theorem StAt.mark {l : List UInt8} {k n : Nat} {acc : List UInt8} (h : StAt l k acc) (hk : k < l.length) (ho : opensB (l.drop k) = true) (hn : Lib.indexByte (l.drop k) 62 = n) : StAt l (k + n + 1) (acc ++ [32]) := by
  have hlt := indexByte_lt (l.drop k) 62
  rw [hn, List.length_drop] at hlt
  have hm : markF (l.drop k) = ([32], n) := by
    unfold markF
    rw [if_pos ⟨ho, by omega⟩, hn]; simp
  refine ⟨by omega, ?_, by have := h.len; rw [List.length_append]; simp; omega⟩
  rw [← h.eq, strip_step _ (drop_ne hk), hm, List.drop_drop, List.append_assoc, Nat.add_assoc]
theorem StAt.sign {l : List UInt8} {k : Nat} {acc : List UInt8} (h : StAt l k acc) (hk : k < l.length) (ho : opensB (l.drop k) = false ∨ Lib.indexByte (l.drop k) 62 < 0) : StAt l (k + 1) (acc ++ (l.drop k).take 1) := by
  have hm : markF (l.drop k) = ((l.drop k).take 1, 0) := by
    unfold markF
    rw [if_neg]
    rintro ⟨h1, h2⟩
    rcases ho with h3 | h3
    · rw [h1] at h3; cases h3
    · omega
  have h1 : ((l.drop k).take 1).length = 1 := by rw [List.length_take, List.length_drop]; omega
  refine ⟨by omega, ?_, by have := h.len; rw [List.length_append, h1]; omega⟩
  rw [← h.eq, strip_step _ (drop_ne hk), hm, List.drop_drop, List.append_assoc]
theorem StAt.done {l : List UInt8} {k : Nat} {acc : List UInt8} (h : StAt l k acc) (hk : ¬ k < l.length) : acc = stripB l := by
  have := h.eq
  rw [List.drop_eq_nil_of_le (by omega)] at this
  rw [← this]; simp [stripB, walkT]
theorem bt_lit (l : List UInt8) (k : Nat) (hk : k < l.length) : (l.drop k).take 1 = [l.getD k 0] := drop_take1 l k hk

/-- What the last > of a text tells of what stands behind a place. -/
theorem last_ahead (l : List UInt8) (k : Nat) (_hk : k < l.length) (h : (k : Int) < lastB l 62) : k + 2 ≤ l.length ∧ ∃ n : Nat, Lib.indexByte (l.drop k) 62 = n ∧ k + n < l.length := by
  rcases lastB_spec l 62 with ⟨e, _⟩ | ⟨i, h1, e, h3, _⟩
  · omega
  · rw [e] at h
    refine ⟨by omega, ?_⟩
    have hm : 0 ≤ Lib.indexByte (l.drop k) 62 := by
      rcases indexByte_ge0 (l.drop k) 62 with e2 | e2
      · exfalso
        have : (62 : UInt8) ∈ l.drop k := by
          rw [List.mem_iff_getElem]
          refine ⟨i - k, by rw [List.length_drop]; omega, ?_⟩
          rw [List.getElem_drop]
          have h4 : bt l i = ((62 : UInt8).toNat : Int) := h3
          unfold bt at h4
          have h5 : l.getD i 0 = 62 := UInt8.toNat_inj.1 (by omega)
          simp [List.getD, h1] at h5
          rw [← h5]
          congr 1; omega
        have := (indexByte_mem _ _).2 this
        omega
      · exact e2
    have hlt := indexByte_lt (l.drop k) 62
    rw [List.length_drop] at hlt
    exact ⟨(Lib.indexByte (l.drop k) 62).toNat, by omega, by omega⟩
theorem last_behind (l : List UInt8) (k : Nat) (_hk : k < l.length) (h : ¬ (k : Int) < lastB l 62) : opensB (l.drop k) = false ∨ Lib.indexByte (l.drop k) 62 < 0 := by
  cases ho : opensB (l.drop k)
  · exact Or.inl rfl
  · right
    unfold opensB at ho
    simp only [Bool.and_eq_true, beq_iff_eq, bt_drop] at ho
    have hnot : ∀ j, j < l.length → (k : Int) < j → bt l j ≠ 62 := by
      intro j hj hkj
      rcases lastB_spec l 62 with ⟨_, h2⟩ | ⟨i, h1, e, _, h4⟩
      · exact h2 j hj
      · exact h4 j (by omega) hj
    rw [indexByte_not (l.drop k) 62]
    · omega
    · intro j hj
      rw [List.length_drop] at hj
      rw [bt_drop]
      by_cases h0 : j = 0
      · subst h0; rw [ho.2.1]; decide
      · exact hnot _ (by omega) (by omega)

set_option maxHeartbeats 1000000 in
theorem strip_any (l : List UInt8) (w : World) (hl : l.length ≤ 10000000) :
    Calls Tryz.prog 55 #[.string ⟨l.toArray⟩] w (TextPost w (stripB l)) := by
  go_enter Tryz.func55, Tryz.ntmps55
  go_wp2_with fail
  refine (lastIndex_any l 62 _ (by omega)).mono ?_; rintro e w' ⟨rfl, rfl⟩
  obtain ⟨last, hlast⟩ : ∃ x, lastB l 62 = x := ⟨_, rfl⟩
  rw [hlast]
  replace hlast := Lib.hid hlast
  go_wp2_with fail
  go_loopw [4, 5] (fun v i wr => ∃ (k : Nat) (acc : List UInt8), i = .int .i64 k ∧ StAt l k acc ∧ Txt wr w.heap.size v acc ∧ Below w.heap.size w wr) (fun _ i _ => l.length - (intOf i).toNat)
  case atStart => exact ⟨0, [], rfl, ⟨Nat.zero_le _, rfl, Nat.zero_le _⟩, txt_nil _ _, Below.refl _ _⟩
  case round =>
    obtain ⟨k, acc, rfl, hc, hown, hbl⟩ := hrel
    have hk := hc.le
    have hlen := hc.len
    have hsz := hbl.size
    replace hbl := Lib.hid hbl
    by_cases hlt : k < l.length
    · by_cases hla : (k : Int) < last
      · obtain ⟨hk2, n, hn, hkn⟩ := last_ahead l k hlt (by rw [hlast.out]; exact hla)
        have hd2 : 2 ≤ (l.drop k).length := by rw [List.length_drop]; omega
        cases ho : opensB (l.drop k)
        · have hst := hc.sign hlt (Or.inl ho)
          have hnm := nums_take1 (l.drop k) (drop_ne hlt)
          rw [bt_drop, Nat.add_zero] at hnm
          generalize (l.drop k).take 1 = x at hst hnm
          replace hst := Lib.hid hst
          replace hnm := Lib.hid hnm
          replace hn := Lib.hid hn
          clear hc
          replace hown := Lib.hid hown
          go_wp2_with fail
          refine (opens_any _ _ hd2).mono ?_; rintro e w' ⟨rfl, rfl⟩; rw [ho]
          replace ho := Lib.hid ho
          go_wp2_with (at_builtin; go_must (refine wpList_append1 rfl _ _ 105 5 rfl Tryz.underlying105 (.int .u8 0) 1 info_byte rfl (by decide) w.heap.size _ _ _ _ hown.out rfl rfl rfl (by omega) hsz ?_))
          intro v1 w1 hown1 hb1 _
          replace hown1 := Lib.hid hown1
          replace hb1 := Lib.hid hb1
          go_wp2_with fail
          exact ⟨⟨k + 1, acc ++ x, by go_num, hst.out, txt_one hnm.out hown1.out, hbl.out.trans hb1.out⟩, by simp [intOf]; omega⟩
        · have hst := hc.mark hlt ho hn
          have hix : Hid (∀ W, Calls Tryz.prog 96 #[.string ⟨(l.drop k).toArray⟩, .int .u8 62] W fun e w' => e = .returned (.int .i64 (n : Int)) ∧ W = w') := fun W => by
            rw [← hn]; exact indexByte_any (l.drop k) 62 W
          replace hst := Lib.hid hst
          replace hn := Lib.hid hn
          clear hc
          replace hown := Lib.hid hown
          go_wp2_with fail
          refine (opens_any _ _ hd2).mono ?_; rintro e w' ⟨rfl, rfl⟩; rw [ho]
          replace ho := Lib.hid ho
          go_wp2_with (at_builtin; go_must (refine wpList_append1 rfl _ _ 105 5 rfl Tryz.underlying105 (.int .u8 0) 1 info_byte rfl (by decide) w.heap.size _ _ _ _ hown.out rfl rfl rfl (by omega) hsz ?_))
          intro v1 w1 hown1 hb1 _
          replace hown1 := Lib.hid hown1
          replace hb1 := Lib.hid hb1
          go_wp2_with fail
          refine (hix.out _).mono ?_; rintro e w' ⟨rfl, rfl⟩
          go_wp2_with fail
          exact ⟨⟨k + n + 1, acc ++ [32], by go_num, hst.out, txt_one (m := [32]) rfl hown1.out, hbl.out.trans hb1.out⟩, by simp [intOf]; omega⟩
      · have hst := hc.sign hlt (last_behind l k hlt (by rw [hlast.out]; exact hla))
        have hnm := nums_take1 (l.drop k) (drop_ne hlt)
        rw [bt_drop, Nat.add_zero] at hnm
        generalize (l.drop k).take 1 = x at hst hnm
        replace hst := Lib.hid hst
        replace hnm := Lib.hid hnm
        clear hc
        replace hown := Lib.hid hown
        go_wp2_with (at_builtin; go_must (refine wpList_append1 rfl _ _ 105 5 rfl Tryz.underlying105 (.int .u8 0) 1 info_byte rfl (by decide) w.heap.size _ _ _ _ hown.out rfl rfl rfl (by omega) hsz ?_))
        intro v1 w1 hown1 hb1 _
        replace hown1 := Lib.hid hown1
        replace hb1 := Lib.hid hb1
        go_wp2_with fail
        exact ⟨⟨k + 1, acc ++ x, by go_num, hst.out, txt_one hnm.out hown1.out, hbl.out.trans hb1.out⟩, by simp [intOf]; omega⟩
    · have hke : ¬ ((k : Int) < l.length) := by omega
      have hq := Lib.hid (hc.done hlt)
      have hcv := txt_str hown
      replace hc := Lib.hid hc
      replace hown := Lib.hid hown
      go_wp2_with fail
      go_ret
      exact ⟨ret_str hq.out, hbl.out⟩
end Go.Proofs.YtfmlgfeldlnlgaaGreatDoor

/- Layer 10: the reference's Strip; Entities, the program's. -/
namespace Go.Proofs.YtfmlgfeldlnlgaaGreatDoor
open Go.RowKit

theorem opensB_at (l : List UInt8) (k : Nat) (hk : k < l.length) : opensB (l.drop k) = (bt l k == 60 && (decide (k + 1 < l.length) && markN (bt l (k + 1)))) := by
  unfold opensB
  rw [bt_drop, bt_drop, Nat.add_zero, List.length_drop]
  rw [Bool.eq_iff_iff]
  simp only [Bool.and_eq_true, decide_eq_true_eq]
  constructor
  · rintro ⟨h1, h2, h3⟩; exact ⟨h2, by omega, h3⟩
  · rintro ⟨h1, h2, h3⟩; exact ⟨by omega, h1, h3⟩
theorem markN_ways (c : Int) : (markN c = true ∧ letN c = true) ∨ (markN c = true ∧ letN c = false ∧ (c = 47 ∨ c = 33 ∨ c = 63)) ∨ (markN c = false ∧ letN c = false ∧ c ≠ 47 ∧ c ≠ 33 ∧ c ≠ 63) := by
  unfold markN letN
  by_cases h1 : 97 ≤ c ∧ c ≤ 122 ∨ 65 ≤ c ∧ c ≤ 90
  · left; exact ⟨decide_eq_true (by omega), decide_eq_true h1⟩
  · by_cases h2 : c = 47 ∨ c = 33 ∨ c = 63
    · right; left; exact ⟨decide_eq_true (by omega), decide_eq_false h1, h2⟩
    · right; right; exact ⟨decide_eq_false (by omega), decide_eq_false h1, by omega, by omega, by omega⟩
theorem placeB_none {l : List UInt8} {c : UInt8} {k : Nat} (h : Lib.indexByte (l.drop k) c < 0) : placeT l c k = -1 := by unfold placeT; rw [if_neg (by omega)]
theorem placeB_some {l : List UInt8} {c : UInt8} {k n : Nat} (h : Lib.indexByte (l.drop k) c = n) : placeT l c k = ((k + n : Nat) : Int) := by unfold placeT; rw [if_pos (by omega), h]; omega

set_option maxRecDepth 100000 in
set_option maxHeartbeats 2000000 in
theorem refstrip_any (l : List UInt8) (w : World) (hl : l.length ≤ 10000000) :
    Calls Tryz.prog 60 #[.string ⟨l.toArray⟩] w fun e w' => e = .returned (.string ⟨(stripB l).toArray⟩) ∧ w = w' := by
  go_enter Tryz.func60, Tryz.ntmps60
  go_wp2_with fail
  go_loop [3, 4] (fun s i => ∃ (k : Nat) (out : List UInt8), i = .int .i64 k ∧ s = .string ⟨out.toArray⟩ ∧ StAt l k out) (fun _ i => l.length - (intOf i).toNat)
  case atStart => exact ⟨0, [], rfl, rfl, ⟨Nat.zero_le _, rfl, Nat.zero_le _⟩⟩
  case round =>
    obtain ⟨k, out, rfl, rfl, hc⟩ := hrel
    have hk := hc.le
    have hlen := hc.len
    by_cases hlt : k < l.length
    · have hat := opensB_at l k hlt
      have htd := take_drop1 l k hlt
      have h1 : ((l.drop k).take 1).length = 1 := by rw [List.length_take, List.length_drop]; omega
      have hsg := fun ho => hc.sign hlt ho
      rw [← htd] at hsg h1
      replace htd := Lib.hid htd
      replace hsg := Lib.hid hsg
      by_cases h60 : bt l k = 60
      · by_cases hk1 : k + 1 < l.length
        · rw [h60, decide_eq_true hk1] at hat
          have hbt1 := bt_lt l (k + 1)
          rcases markN_ways (bt l (k + 1)) with ⟨m1, m2⟩ | ⟨m1, m2, m3⟩ | ⟨m1, m2, m3, m4, m5⟩
          · rw [m1] at hat
            have ho : opensB (l.drop k) = true := hat
            clear hat m1
            by_cases hn : Lib.indexByte (l.drop k) 62 < 0
            · have hp := placeB_none hn
              have hst := Lib.hid (hsg.out (Or.inr hn))
              replace ho := Lib.hid ho
              replace hn := Lib.hid hn
              clear hc hsg
              go_wp2_with fail
              refine (letter_any _ _).mono ?_; rintro e w' ⟨rfl, rfl⟩; rw [m2]
              go_wp2_with fail
              refine (place_any l 62 k _ hk hl).mono ?_; rintro e w' ⟨rfl, rfl⟩; rw [hp]
              go_wp2_with fail
              exact ⟨⟨k + 1, _, by go_num, rfl, hst.out⟩, by simp [intOf]; omega⟩
            · obtain ⟨n, hn2⟩ : ∃ n : Nat, Lib.indexByte (l.drop k) 62 = n := ⟨(Lib.indexByte (l.drop k) 62).toNat, by omega⟩
              have hp := placeB_some hn2
              have hltn := indexByte_lt (l.drop k) 62
              rw [hn2, List.length_drop] at hltn
              have hst := Lib.hid (hc.mark hlt ho hn2)
              replace ho := Lib.hid ho
              replace hn2 := Lib.hid hn2
              clear hc hsg hn
              go_wp2_with fail
              refine (letter_any _ _).mono ?_; rintro e w' ⟨rfl, rfl⟩; rw [m2]
              go_wp2_with fail
              refine (place_any l 62 k _ hk hl).mono ?_; rintro e w' ⟨rfl, rfl⟩; rw [hp]
              go_wp2_with fail
              exact ⟨⟨k + n + 1, out ++ [32], by go_num, rfl, hst.out⟩, by simp [intOf]; omega⟩
          · rw [m1] at hat
            have ho : opensB (l.drop k) = true := hat
            clear hat m1
            rcases m3 with m3 | m3 | m3
            all_goals
              rw [m3] at m2 hbt1
              by_cases hn : Lib.indexByte (l.drop k) 62 < 0
              · have hp := placeB_none hn
                have hst := Lib.hid (hsg.out (Or.inr hn))
                replace ho := Lib.hid ho
                replace hn := Lib.hid hn
                clear hc hsg
                go_wp2_with fail
                refine (letter_any _ _).mono ?_; rintro e w' ⟨rfl, rfl⟩; rw [m2]
                go_wp2_with fail
                refine (place_any l 62 k _ hk hl).mono ?_; rintro e w' ⟨rfl, rfl⟩; rw [hp]
                go_wp2_with fail
                exact ⟨⟨k + 1, _, by go_num, rfl, hst.out⟩, by simp [intOf]; omega⟩
              · obtain ⟨n, hn2⟩ : ∃ n : Nat, Lib.indexByte (l.drop k) 62 = n := ⟨(Lib.indexByte (l.drop k) 62).toNat, by omega⟩
                have hp := placeB_some hn2
                have hltn := indexByte_lt (l.drop k) 62
                rw [hn2, List.length_drop] at hltn
                have hst := Lib.hid (hc.mark hlt ho hn2)
                replace ho := Lib.hid ho
                replace hn2 := Lib.hid hn2
                clear hc hsg hn
                go_wp2_with fail
                refine (letter_any _ _).mono ?_; rintro e w' ⟨rfl, rfl⟩; rw [m2]
                go_wp2_with fail
                refine (place_any l 62 k _ hk hl).mono ?_; rintro e w' ⟨rfl, rfl⟩; rw [hp]
                go_wp2_with fail
                exact ⟨⟨k + n + 1, out ++ [32], by go_num, rfl, hst.out⟩, by simp [intOf]; omega⟩
          · rw [m1] at hat
            have ho : opensB (l.drop k) = false := hat
            have hst := Lib.hid (hsg.out (Or.inl ho))
            have b3 : (bt l (k + 1) == 47) = false := by simpa using m3
            have b4 : (bt l (k + 1) == 33) = false := by simpa using m4
            have b5 : (bt l (k + 1) == 63) = false := by simpa using m5
            clear hat m1 m3 m4 m5 hc hsg
            replace ho := Lib.hid ho
            go_wp2_with fail
            refine (letter_any _ _).mono ?_; rintro e w' ⟨rfl, rfl⟩; rw [m2]
            go_wp2_with fail
            exact ⟨⟨k + 1, _, by go_num, rfl, hst.out⟩, by simp [intOf]; omega⟩
        · have hk1' : ¬ ((k : Int) + 1 < l.length) := by omega
          rw [h60, decide_eq_false hk1] at hat
          have ho : opensB (l.drop k) = false := hat
          have hst := Lib.hid (hsg.out (Or.inl ho))
          clear hat hc hsg
          replace ho := Lib.hid ho
          go_wp2_with fail
          exact ⟨⟨k + 1, _, by go_num, rfl, hst.out⟩, by simp [intOf]; omega⟩
      · have b6 : (bt l k == 60) = false := by simpa using h60
        rw [b6] at hat
        have ho : opensB (l.drop k) = false := hat
        have hst := Lib.hid (hsg.out (Or.inl ho))
        clear hat hc hsg h60
        replace ho := Lib.hid ho
        go_wp2_with fail
        exact ⟨⟨k + 1, _, by go_num, rfl, hst.out⟩, by simp [intOf]; omega⟩
    · have hke : ¬ ((k : Int) < l.length) := by omega
      have hq := Lib.hid (hc.done hlt)
      replace hc := Lib.hid hc
      go_wp2_with fail
      go_ret
      exact ⟨ret_str hq.out, rfl⟩
end Go.Proofs.YtfmlgfeldlnlgaaGreatDoor

/- Layer 10: entity, Entities: the program's. -/
namespace Go.Proofs.YtfmlgfeldlnlgaaGreatDoor
open Go.RowKit

theorem entF_no {d : List UInt8} (h : bt d 0 ≠ 38 ∨ ¬ (0 < Lib.indexByte d 59 ∧ Lib.indexByte d 59 ≤ 12)) : entF d = (d.take 1, 0) := by
  unfold entF
  rw [if_neg]
  rintro ⟨h1, h2⟩
  rcases h with h | h
  · exact h h1
  · exact h h2
theorem entF_at {d : List UInt8} {n : Nat} (h0 : bt d 0 = 38) (h : Lib.indexByte d 59 = (n + 1 : Nat)) (h12 : n + 1 ≤ 12) :
    entF d = match namedS ((d.take (n + 1)).drop 1) with | some x => (x, n + 1) | none => (d.take 1, 0) := by
  unfold entF
  rw [h, if_pos ⟨h0, by omega, by omega⟩]
  rfl
theorem entF_bd (d : List UInt8) (h : d ≠ []) : (entF d).1.length ≤ 4 ∧ (entF d).2 + 1 ≤ d.length := by
  have hl := len_pos h
  have h1 : (d.take 1).length ≤ 4 := by rw [List.length_take]; omega
  unfold entF
  split
  · have hlt := indexByte_lt d 59
    rename_i hc
    cases hn : namedS ((d.take (Lib.indexByte d 59).toNat).drop 1) with
    | none => exact ⟨h1, by show 0 + 1 ≤ _; omega⟩
    | some x =>
      refine ⟨?_, by show (Lib.indexByte d 59).toNat + 1 ≤ _; omega⟩
      show x.length ≤ 4
      unfold namedS at hn
      repeat' split at hn
      all_goals first
        | (injection hn with hn; subst hn; first | decide | exact enc_len _)
        | cases hn
  · exact ⟨h1, by omega⟩

/-- What a text begins with, names told. -/
def EntPost (w : World) (d : List UInt8) (e : Ending) (w' : World) : Prop := e = .returned (.tuple #[.string ⟨(entF d).1.toArray⟩, .int .i64 (((entF d).2 + 1 : Nat) : Int)]) ∧ Below w.heap.size w w'
theorem ent_ret {w w' : World} {d x : List UInt8} {n : Nat} {e : Ending} (h : entF d = (x, n)) (he : e = .returned (.tuple #[.string ⟨x.toArray⟩, .int .i64 ((n + 1 : Nat) : Int)])) (hb : Below w.heap.size w w') : EntPost w d e w' := by
  refine ⟨?_, hb⟩
  rw [he, h]

set_option maxHeartbeats 1000000 in
theorem entity_any (d : List UInt8) (w : World) (h0 : d ≠ []) (hl : d.length ≤ 10000000) :
    Calls Tryz.prog 93 #[.string ⟨d.toArray⟩] w (EntPost w d) := by
  have hlen := len_pos h0
  replace h0 := Lib.hid h0
  by_cases h38 : bt d 0 = 38
  case neg =>
    have hno := Lib.hid (entF_no (Or.inl h38))
    have b1 : (bt d 0 == 38) = false := by simpa using h38
    clear h38
    go_enter Tryz.func93, Tryz.ntmps93
    go_wp2_with fail
    go_ret2
    exact ent_ret hno.out rfl (Below.refl _ _)
  have htk := indexByte_take d 59 13
  obtain ⟨E, hE⟩ : ∃ E, Lib.indexByte (d.take 13) 59 = E := ⟨_, rfl⟩
  rw [hE] at htk
  have hg := Lib.indexByte_ge d 59
  have hix : Hid (∀ W, Calls Tryz.prog 96 #[.string ⟨(d.take 13).toArray⟩, .int .u8 59] W fun e w' => e = .returned (.int .i64 E) ∧ W = w') := fun W => by
    rw [← hE]; exact indexByte_any (d.take 13) 59 W
  have hmin : d.length ≤ 13 ∧ min (d.length : Int) 13 = d.length ∧ d.take 13 = d ∨ 13 < d.length ∧ min (d.length : Int) 13 = 13 := by
    by_cases h : d.length ≤ 13
    · left; exact ⟨h, by omega, List.take_of_length_le h⟩
    · right; exact ⟨by omega, by omega⟩
  replace hE := Lib.hid hE
  by_cases hE0 : 0 < E
  case neg =>
    have hno := Lib.hid (entF_no (d := d) (Or.inr (by intro ⟨h1, h2⟩; rw [if_pos (by omega)] at htk; omega)))
    clear htk
    rcases hmin with ⟨m1, m2, m3⟩ | ⟨m1, m2⟩
    · rw [m3] at hix
      clear m3
      go_enter Tryz.func93, Tryz.ntmps93
      go_wp2_with fail
      refine (hix.out _).mono ?_; rintro e w' ⟨rfl, rfl⟩
      go_wp2_with fail
      go_ret2
      exact ent_ret hno.out rfl (Below.refl _ _)
    · go_enter Tryz.func93, Tryz.ntmps93
      go_wp2_with fail
      refine (hix.out _).mono ?_; rintro e w' ⟨rfl, rfl⟩
      go_wp2_with fail
      go_ret2
      exact ent_ret hno.out rfl (Below.refl _ _)
  obtain ⟨n, hn, hix2, hn12⟩ : ∃ n : Nat, E = (n + 1 : Nat) ∧ Lib.indexByte d 59 = (n + 1 : Nat) ∧ n + 1 ≤ 12 := by
    by_cases hc : Lib.indexByte d 59 < 13
    · rw [if_pos (by omega)] at htk
      exact ⟨(E - 1).toNat, by omega, by omega, by omega⟩
    · rw [if_neg (by omega)] at htk; omega
  have hlt := indexByte_lt d 59
  rw [hix2] at hlt
  have hat := entF_at h38 hix2 hn12
  subst hn
  clear htk hE0 hE hg
  replace hix2 := Lib.hid hix2
  have hnl : ((d.take (n + 1)).drop 1).length ≤ 100000000 := by rw [List.length_drop, List.length_take]; omega
  have hnm := fun W : World => named_any ((d.take (n + 1)).drop 1) W hnl
  clear hnl
  obtain ⟨o, ho⟩ : ∃ o, namedS ((d.take (n + 1)).drop 1) = o := ⟨_, rfl⟩
  rw [ho] at hat hnm
  rw [List.drop_one] at hnm
  replace hnm := Lib.hid hnm
  replace ho := Lib.hid ho
  replace hat := Lib.hid hat
  rcases hmin with ⟨m1, m2, m3⟩ | ⟨m1, m2⟩
  · rw [m3] at hix
    clear m3
    cases o with
    | none =>
      go_enter Tryz.func93, Tryz.ntmps93
      go_wp2_with fail
      refine (hix.out _).mono ?_; rintro e w' ⟨rfl, rfl⟩
      go_wp2_with fail
      refine (hnm.out _).mono ?_; rintro e w' ⟨t, rfl, ht, hb, -⟩
      clear ht
      replace hb := Lib.hid hb
      go_wp2_with fail
      go_ret2
      exact ent_ret hat.out rfl hb.out
    | some x =>
      go_enter Tryz.func93, Tryz.ntmps93
      go_wp2_with fail
      refine (hix.out _).mono ?_; rintro e w' ⟨rfl, rfl⟩
      go_wp2_with fail
      refine (hnm.out _).mono ?_; rintro e w' ⟨t, rfl, ht, hb, -⟩
      obtain rfl := ht x rfl
      replace hb := Lib.hid hb
      go_wp2_with fail
      go_ret2
      exact ent_ret hat.out (by simp) hb.out
  · have hlt2 : (n : Int) + 1 < d.length := by omega
    cases o with
    | none =>
      go_enter Tryz.func93, Tryz.ntmps93
      go_wp2_with fail
      refine (hix.out _).mono ?_; rintro e w' ⟨rfl, rfl⟩
      go_wp2_with fail
      refine (hnm.out _).mono ?_; rintro e w' ⟨t, rfl, ht, hb, -⟩
      clear ht
      replace hb := Lib.hid hb
      go_wp2_with fail
      go_ret2
      exact ent_ret hat.out rfl hb.out
    | some x =>
      go_enter Tryz.func93, Tryz.ntmps93
      go_wp2_with fail
      refine (hix.out _).mono ?_; rintro e w' ⟨rfl, rfl⟩
      go_wp2_with fail
      refine (hnm.out _).mono ?_; rintro e w' ⟨t, rfl, ht, hb, -⟩
      obtain rfl := ht x rfl
      replace hb := Lib.hid hb
      go_wp2_with fail
      go_ret2
      exact ent_ret hat.out (by simp) hb.out

/-- What the loop of Entities keeps. -/
structure EnAt (l : List UInt8) (w : World) (d acc : List UInt8) (wr : World) (v : Value) : Prop where
  own : Txt wr w.heap.size v acc
  below : Below w.heap.size w wr
  eq : acc ++ entB d = entB l
  len : acc.length + 4 * d.length ≤ 4 * l.length
theorem ent_step (d : List UInt8) (h : d ≠ []) : entB d = (entF d).1 ++ entB (d.drop ((entF d).2 + 1)) := walkT_step entF d h

set_option maxHeartbeats 1000000 in
theorem entities_any (l : List UInt8) (w : World) (hl : l.length ≤ 10000000) :
    Calls Tryz.prog 54 #[.string ⟨l.toArray⟩] w (TextPost w (entB l)) := by
  go_enter Tryz.func54, Tryz.ntmps54
  go_wp2_with fail
  go_loopw [0, 3] (fun s v wr => ∃ d acc, s = .string ⟨d.toArray⟩ ∧ EnAt l w d acc wr v) (fun s _ _ => strLen s)
  case atStart => exact ⟨l, [], rfl, txt_nil _ _, Below.refl _ _, rfl, by simp⟩
  case round =>
    obtain ⟨d, acc, rfl, hc⟩ := hrel
    have hlen := hc.len
    have hsz := hc.below.size
    by_cases hd : d = []
    · subst hd
      have hcv := txt_str hc.own
      have hq := hc.eq
      rw [show entB [] = [] from rfl, List.append_nil] at hq
      replace hq := Lib.hid hq
      replace hc := Lib.hid hc
      go_wp2_with fail
      go_ret
      exact ⟨ret_str hq.out, hc.out.below⟩
    have he : d.isEmpty = false := by cases d <;> simp_all
    have hdl := len_pos hd
    have hst := ent_step d hd
    have hbd := entF_bd d hd
    have hcall := fun W : World => entity_any d W hd (by omega)
    unfold EntPost at hcall
    generalize (entF d).1 = x at hst hbd hcall
    generalize (entF d).2 = n at hst hbd hcall
    replace hst := Lib.hid hst
    replace hcall := Lib.hid hcall
    replace hd := Lib.hid hd
    replace hc := Lib.hid hc
    go_wp2_with fail
    refine (hcall.out _).mono ?_; rintro e w1 ⟨rfl, hb1⟩
    have hs1 := hb1.size
    have hown1 := Lib.hid (ownsRow_below hc.out.own hb1)
    have hbl1 := Lib.hid (hc.out.below.trans (hb1.mono hsz))
    clear hb1
    go_wp2_with (at_builtin; go_must (refine wpList_append1s rfl _ _ 105 9 5 rfl Tryz.underlying105 Tryz.underlying9 info_byte w.heap.size _ acc x hown1.out rfl rfl (by omega) (by omega) ?_))
    intro v2 w2 hown2 hb2
    replace hown2 := Lib.hid hown2
    replace hb2 := Lib.hid hb2
    go_wp2_with fail
    refine ⟨⟨d.drop (n + 1), acc ++ x, by simp, ⟨by unfold Txt; rw [List.length_append]; exact hown2.out, hbl1.out.trans hb2.out, ?_, by rw [List.length_append, List.length_drop]; omega⟩⟩, by simp [strLen_mk]; omega⟩
    rw [← hc.out.eq, hst.out, List.append_assoc]
end Go.Proofs.YtfmlgfeldlnlgaaGreatDoor
