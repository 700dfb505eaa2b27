/- Layer 10: entity, Entities: the program's. -/
import Derived.Test.YtahjopajnckbaaaD10h
namespace Go.Proofs.Ytahjopajnckbaaa
open Go.RowKit

theorem entF_no {d : List UInt8} (h : bt d 0 ≠ 38 ∨ ¬ (0 < Lib.indexByte d 59 ∧ Lib.indexByte d 59 ≤ 12)) : entF d = (d.take 1, 0) := by
  unfold entF
  rw [if_neg]
  rintro ⟨h1, h2⟩
  rcases h with h | h
  · exact h h1
  · exact h h2
theorem entF_at {d : List UInt8} {n : Nat} (h0 : bt d 0 = 38) (h : Lib.indexByte d 59 = (n + 1 : Nat)) (h12 : n + 1 ≤ 12) :
    entF d = match namedS ((d.take (n + 1)).drop 1) with | some x => (x, n + 1) | none => (d.take 1, 0) := by
  unfold entF
  rw [h, if_pos ⟨h0, by omega, by omega⟩]
  rfl
theorem entF_bd (d : List UInt8) (h : d ≠ []) : (entF d).1.length ≤ 4 ∧ (entF d).2 + 1 ≤ d.length := by
  have hl := len_pos h
  have h1 : (d.take 1).length ≤ 4 := by rw [List.length_take]; omega
  unfold entF
  split
  · have hlt := indexByte_lt d 59
    rename_i hc
    cases hn : namedS ((d.take (Lib.indexByte d 59).toNat).drop 1) with
    | none => exact ⟨h1, by show 0 + 1 ≤ _; omega⟩
    | some x =>
      refine ⟨?_, by show (Lib.indexByte d 59).toNat + 1 ≤ _; omega⟩
      show x.length ≤ 4
      unfold namedS at hn
      repeat' split at hn
      all_goals first
        | (injection hn with hn; subst hn; first | decide | exact enc_len _)
        | cases hn
  · exact ⟨h1, by omega⟩

/-- What a text begins with, names told. -/
def EntPost (w : World) (d : List UInt8) (e : Ending) (w' : World) : Prop := e = .returned (.tuple #[.string ⟨(entF d).1.toArray⟩, .int .i64 (((entF d).2 + 1 : Nat) : Int)]) ∧ Below w.heap.size w w'
theorem ent_ret {w w' : World} {d x : List UInt8} {n : Nat} {e : Ending} (h : entF d = (x, n)) (he : e = .returned (.tuple #[.string ⟨x.toArray⟩, .int .i64 ((n + 1 : Nat) : Int)])) (hb : Below w.heap.size w w') : EntPost w d e w' := by
  refine ⟨?_, hb⟩
  rw [he, h]

set_option maxHeartbeats 1000000 in
theorem entity_any (d : List UInt8) (w : World) (h0 : d ≠ []) (hl : d.length ≤ 100000) :
    Calls Try.prog 30 #[.string ⟨d.toArray⟩] w (EntPost w d) := by
  have hlen := len_pos h0
  replace h0 := Lib.hid h0
  by_cases h38 : bt d 0 = 38
  case neg =>
    have hno := Lib.hid (entF_no (Or.inl h38))
    have b1 : (bt d 0 == 38) = false := by simpa using h38
    clear h38
    go_enter Try.func30, Try.ntmps30
    go_wp2_with fail
    go_ret2
    exact ent_ret hno.out rfl (Below.refl _ _)
  have htk := indexByte_take d 59 13
  obtain ⟨E, hE⟩ : ∃ E, Lib.indexByte (d.take 13) 59 = E := ⟨_, rfl⟩
  rw [hE] at htk
  have hg := Lib.indexByte_ge d 59
  have hix : Hid (∀ W, Calls Try.prog 27 #[.string ⟨(d.take 13).toArray⟩, .int .u8 59] W fun e w' => e = .returned (.int .i64 E) ∧ W = w') := fun W => by
    rw [← hE]; exact indexByte_any (d.take 13) 59 W
  have hmin : d.length ≤ 13 ∧ min (d.length : Int) 13 = d.length ∧ d.take 13 = d ∨ 13 < d.length ∧ min (d.length : Int) 13 = 13 := by
    by_cases h : d.length ≤ 13
    · left; exact ⟨h, by omega, List.take_of_length_le h⟩
    · right; exact ⟨by omega, by omega⟩
  replace hE := Lib.hid hE
  by_cases hE0 : 0 < E
  case neg =>
    have hno := Lib.hid (entF_no (d := d) (Or.inr (by intro ⟨h1, h2⟩; rw [if_pos (by omega)] at htk; omega)))
    clear htk
    rcases hmin with ⟨m1, m2, m3⟩ | ⟨m1, m2⟩
    · rw [m3] at hix
      clear m3
      go_enter Try.func30, Try.ntmps30
      go_wp2_with fail
      refine (hix.out _).mono ?_; rintro e w' ⟨rfl, rfl⟩
      go_wp2_with fail
      go_ret2
      exact ent_ret hno.out rfl (Below.refl _ _)
    · go_enter Try.func30, Try.ntmps30
      go_wp2_with fail
      refine (hix.out _).mono ?_; rintro e w' ⟨rfl, rfl⟩
      go_wp2_with fail
      go_ret2
      exact ent_ret hno.out rfl (Below.refl _ _)
  obtain ⟨n, hn, hix2, hn12⟩ : ∃ n : Nat, E = (n + 1 : Nat) ∧ Lib.indexByte d 59 = (n + 1 : Nat) ∧ n + 1 ≤ 12 := by
    by_cases hc : Lib.indexByte d 59 < 13
    · rw [if_pos (by omega)] at htk
      exact ⟨(E - 1).toNat, by omega, by omega, by omega⟩
    · rw [if_neg (by omega)] at htk; omega
  have hlt := indexByte_lt d 59
  rw [hix2] at hlt
  have hat := entF_at h38 hix2 hn12
  subst hn
  clear htk hE0 hE hg
  replace hix2 := Lib.hid hix2
  have hnl : ((d.take (n + 1)).drop 1).length ≤ 1000000 := by rw [List.length_drop, List.length_take]; omega
  have hnm := fun W : World => named_any ((d.take (n + 1)).drop 1) W hnl
  clear hnl
  obtain ⟨o, ho⟩ : ∃ o, namedS ((d.take (n + 1)).drop 1) = o := ⟨_, rfl⟩
  rw [ho] at hat hnm
  rw [List.drop_one] at hnm
  replace hnm := Lib.hid hnm
  replace ho := Lib.hid ho
  replace hat := Lib.hid hat
  rcases hmin with ⟨m1, m2, m3⟩ | ⟨m1, m2⟩
  · rw [m3] at hix
    clear m3
    cases o with
    | none =>
      go_enter Try.func30, Try.ntmps30
      go_wp2_with fail
      refine (hix.out _).mono ?_; rintro e w' ⟨rfl, rfl⟩
      go_wp2_with fail
      refine (hnm.out _).mono ?_; rintro e w' ⟨t, rfl, ht, hb⟩
      clear ht
      replace hb := Lib.hid hb
      go_wp2_with fail
      go_ret2
      exact ent_ret hat.out rfl hb.out
    | some x =>
      go_enter Try.func30, Try.ntmps30
      go_wp2_with fail
      refine (hix.out _).mono ?_; rintro e w' ⟨rfl, rfl⟩
      go_wp2_with fail
      refine (hnm.out _).mono ?_; rintro e w' ⟨t, rfl, ht, hb⟩
      obtain rfl := ht x rfl
      replace hb := Lib.hid hb
      go_wp2_with fail
      go_ret2
      exact ent_ret hat.out (by simp) hb.out
  · have hlt2 : (n : Int) + 1 < d.length := by omega
    cases o with
    | none =>
      go_enter Try.func30, Try.ntmps30
      go_wp2_with fail
      refine (hix.out _).mono ?_; rintro e w' ⟨rfl, rfl⟩
      go_wp2_with fail
      refine (hnm.out _).mono ?_; rintro e w' ⟨t, rfl, ht, hb⟩
      clear ht
      replace hb := Lib.hid hb
      go_wp2_with fail
      go_ret2
      exact ent_ret hat.out rfl hb.out
    | some x =>
      go_enter Try.func30, Try.ntmps30
      go_wp2_with fail
      refine (hix.out _).mono ?_; rintro e w' ⟨rfl, rfl⟩
      go_wp2_with fail
      refine (hnm.out _).mono ?_; rintro e w' ⟨t, rfl, ht, hb⟩
      obtain rfl := ht x rfl
      replace hb := Lib.hid hb
      go_wp2_with fail
      go_ret2
      exact ent_ret hat.out (by simp) hb.out

/-- What the loop of Entities keeps. -/
structure EnAt (l : List UInt8) (w : World) (d acc : List UInt8) (wr : World) (v : Value) : Prop where
  own : Txt wr w.heap.size v acc
  below : Below w.heap.size w wr
  eq : acc ++ entB d = entB l
  len : acc.length + 4 * d.length ≤ 4 * l.length
theorem ent_step (d : List UInt8) (h : d ≠ []) : entB d = (entF d).1 ++ entB (d.drop ((entF d).2 + 1)) := walkT_step entF d h

set_option maxHeartbeats 1000000 in
theorem entities_any (l : List UInt8) (w : World) (hl : l.length ≤ 100000) :
    Calls Try.prog 12 #[.string ⟨l.toArray⟩] w (TextPost w (entB l)) := by
  go_enter Try.func12, Try.ntmps12
  go_wp2_with fail
  go_loopw [0, 3] (fun s v wr => ∃ d acc, s = .string ⟨d.toArray⟩ ∧ EnAt l w d acc wr v) (fun s _ _ => strLen s)
  case atStart => exact ⟨l, [], rfl, txt_nil _ _, Below.refl _ _, rfl, by simp⟩
  case round =>
    obtain ⟨d, acc, rfl, hc⟩ := hrel
    have hlen := hc.len
    have hsz := hc.below.size
    by_cases hd : d = []
    · subst hd
      have hcv := txt_str hc.own
      have hq := hc.eq
      rw [show entB [] = [] from rfl, List.append_nil] at hq
      replace hq := Lib.hid hq
      replace hc := Lib.hid hc
      go_wp2_with fail
      go_ret
      exact ⟨ret_str hq.out, hc.out.below⟩
    have he : d.isEmpty = false := by cases d <;> simp_all
    have hdl := len_pos hd
    have hst := ent_step d hd
    have hbd := entF_bd d hd
    have hcall := fun W : World => entity_any d W hd (by omega)
    unfold EntPost at hcall
    generalize (entF d).1 = x at hst hbd hcall
    generalize (entF d).2 = n at hst hbd hcall
    replace hst := Lib.hid hst
    replace hcall := Lib.hid hcall
    replace hd := Lib.hid hd
    replace hc := Lib.hid hc
    go_wp2_with fail
    refine (hcall.out _).mono ?_; rintro e w1 ⟨rfl, hb1⟩
    have hs1 := hb1.size
    have hown1 := Lib.hid (ownsRow_below hc.out.own hb1)
    have hbl1 := Lib.hid (hc.out.below.trans (hb1.mono hsz))
    clear hb1
    go_wp2_with (at_builtin; go_must (refine wpList_append1s rfl _ _ 29 9 5 rfl Try.underlying29 Try.underlying9 info_byte w.heap.size _ acc x hown1.out rfl rfl (by omega) (by omega) ?_))
    intro v2 w2 hown2 hb2
    replace hown2 := Lib.hid hown2
    replace hb2 := Lib.hid hb2
    go_wp2_with fail
    refine ⟨⟨d.drop (n + 1), acc ++ x, by simp, ⟨by unfold Txt; rw [List.length_append]; exact hown2.out, hbl1.out.trans hb2.out, ?_, by rw [List.length_append, List.length_drop]; omega⟩⟩, by simp [strLen_mk]; omega⟩
    rw [← hc.out.eq, hst.out, List.append_assoc]
end Go.Proofs.Ytahjopajnckbaaa
