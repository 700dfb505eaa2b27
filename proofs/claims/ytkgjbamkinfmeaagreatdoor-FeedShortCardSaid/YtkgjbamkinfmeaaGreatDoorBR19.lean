/- Layer 10: entity, Entities: the program's. -/
import Derived.Test.YtkgjbamkinfmeaaGreatDoorBR18
import Derived.Test.YtkgjbamkinfmeaaGreatDoorBR17
import Derived.Test.YtkgjbamkinfmeaaGreatDoorBR04
namespace Go.Proofs.YtkgjbamkinfmeaaGreatDoor
open Go.RowKit

theorem entF_no {d : List UInt8} (h : bt d 0 ≠ 38 ∨ ¬ (0 < Lib.indexByte d 59 ∧ Lib.indexByte d 59 ≤ 12)) : entF d = (d.take 1, 0) := by
  unfold entF
  rw [if_neg]
  rintro ⟨h1, h2⟩
  rcases h with h | h
  · exact h h1
  · exact h h2
theorem entF_at {d : List UInt8} {n : Nat} (h0 : bt d 0 = 38) (h : Lib.indexByte d 59 = (n + 1 : Nat)) (h12 : n + 1 ≤ 12) :
    entF d = match namedS ((d.take (n + 1)).drop 1) with | some x => (x, n + 1) | none => (d.take 1, 0) := by
  unfold entF
  rw [h, if_pos ⟨h0, by omega, by omega⟩]
  rfl
theorem entF_bd (d : List UInt8) (h : d ≠ []) : (entF d).1.length ≤ 4 ∧ (entF d).2 + 1 ≤ d.length := by
  have hl := len_pos h
  have h1 : (d.take 1).length ≤ 4 := by rw [List.length_take]; omega
  unfold entF
  split
  · have hlt := indexByte_lt d 59
    rename_i hc
    cases hn : namedS ((d.take (Lib.indexByte d 59).toNat).drop 1) with
    | none => exact ⟨h1, by show 0 + 1 ≤ _; omega⟩
    | some x =>
      refine ⟨?_, by show (Lib.indexByte d 59).toNat + 1 ≤ _; omega⟩
      show x.length ≤ 4
      unfold namedS at hn
      repeat' split at hn
      all_goals first
        | (injection hn with hn; subst hn; first | decide | exact enc_len _)
        | cases hn
  · exact ⟨h1, by omega⟩

/-- What a text begins with, names told. -/
def EntPost (w : World) (d : List UInt8) (e : Ending) (w' : World) : Prop := e = .returned (.tuple #[.string ⟨(entF d).1.toArray⟩, .int .i64 (((entF d).2 + 1 : Nat) : Int)]) ∧ Below w.heap.size w w'
theorem ent_ret {w w' : World} {d x : List UInt8} {n : Nat} {e : Ending} (h : entF d = (x, n)) (he : e = .returned (.tuple #[.string ⟨x.toArray⟩, .int .i64 ((n + 1 : Nat) : Int)])) (hb : Below w.heap.size w w') : EntPost w d e w' := by
  refine ⟨?_, hb⟩
  rw [he, h]

set_option maxHeartbeats 1000000 in
theorem entity_any (d : List UInt8) (w : World) (h0 : d ≠ []) (hl : d.length ≤ 10000000) :
    Calls Tryz.prog 190 #[.string ⟨d.toArray⟩] w (EntPost w d) := by
  have hlen := len_pos h0
  replace h0 := Lib.hid h0
  by_cases h38 : bt d 0 = 38
  case neg =>
    have hno := Lib.hid (entF_no (Or.inl h38))
    have b1 : (bt d 0 == 38) = false := by simpa using h38
    clear h38
    go_enter Tryz.func190, Tryz.ntmps190
    go_wp2_with fail
    go_ret2
    exact ent_ret hno.out rfl (Below.refl _ _)
  have htk := indexByte_take d 59 13
  obtain ⟨E, hE⟩ : ∃ E, Lib.indexByte (d.take 13) 59 = E := ⟨_, rfl⟩
  rw [hE] at htk
  have hg := Lib.indexByte_ge d 59
  have hix : Hid (∀ W, Calls Tryz.prog 160 #[.string ⟨(d.take 13).toArray⟩, .int .u8 59] W fun e w' => e = .returned (.int .i64 E) ∧ W = w') := fun W => by
    rw [← hE]; exact indexByte_any (d.take 13) 59 W
  have hmin : d.length ≤ 13 ∧ min (d.length : Int) 13 = d.length ∧ d.take 13 = d ∨ 13 < d.length ∧ min (d.length : Int) 13 = 13 := by
    by_cases h : d.length ≤ 13
    · left; exact ⟨h, by omega, List.take_of_length_le h⟩
    · right; exact ⟨by omega, by omega⟩
  replace hE := Lib.hid hE
  by_cases hE0 : 0 < E
  case neg =>
    have hno := Lib.hid (entF_no (d := d) (Or.inr (by intro ⟨h1, h2⟩; rw [if_pos (by omega)] at htk; omega)))
    clear htk
    rcases hmin with ⟨m1, m2, m3⟩ | ⟨m1, m2⟩
    · rw [m3] at hix
      clear m3
      go_enter Tryz.func190, Tryz.ntmps190
      go_wp2_with fail
      refine (hix.out _).mono ?_; rintro e w' ⟨rfl, rfl⟩
      go_wp2_with fail
      go_ret2
      exact ent_ret hno.out rfl (Below.refl _ _)
    · go_enter Tryz.func190, Tryz.ntmps190
      go_wp2_with fail
      refine (hix.out _).mono ?_; rintro e w' ⟨rfl, rfl⟩
      go_wp2_with fail
      go_ret2
      exact ent_ret hno.out rfl (Below.refl _ _)
  obtain ⟨n, hn, hix2, hn12⟩ : ∃ n : Nat, E = (n + 1 : Nat) ∧ Lib.indexByte d 59 = (n + 1 : Nat) ∧ n + 1 ≤ 12 := by
    by_cases hc : Lib.indexByte d 59 < 13
    · rw [if_pos (by omega)] at htk
      exact ⟨(E - 1).toNat, by omega, by omega, by omega⟩
    · rw [if_neg (by omega)] at htk; omega
  have hlt := indexByte_lt d 59
  rw [hix2] at hlt
  have hat := entF_at h38 hix2 hn12
  subst hn
  clear htk hE0 hE hg
  replace hix2 := Lib.hid hix2
  have hnl : ((d.take (n + 1)).drop 1).length ≤ 100000000 := by rw [List.length_drop, List.length_take]; omega
  have hnm := fun W : World => named_any ((d.take (n + 1)).drop 1) W hnl
  clear hnl
  obtain ⟨o, ho⟩ : ∃ o, namedS ((d.take (n + 1)).drop 1) = o := ⟨_, rfl⟩
  rw [ho] at hat hnm
  rw [List.drop_one] at hnm
  replace hnm := Lib.hid hnm
  replace ho := Lib.hid ho
  replace hat := Lib.hid hat
  rcases hmin with ⟨m1, m2, m3⟩ | ⟨m1, m2⟩
  · rw [m3] at hix
    clear m3
    cases o with
    | none =>
      go_enter Tryz.func190, Tryz.ntmps190
      go_wp2_with fail
      refine (hix.out _).mono ?_; rintro e w' ⟨rfl, rfl⟩
      go_wp2_with fail
      refine (hnm.out _).mono ?_; rintro e w' ⟨t, rfl, ht, hb, -⟩
      clear ht
      replace hb := Lib.hid hb
      go_wp2_with fail
      go_ret2
      exact ent_ret hat.out rfl hb.out
    | some x =>
      go_enter Tryz.func190, Tryz.ntmps190
      go_wp2_with fail
      refine (hix.out _).mono ?_; rintro e w' ⟨rfl, rfl⟩
      go_wp2_with fail
      refine (hnm.out _).mono ?_; rintro e w' ⟨t, rfl, ht, hb, -⟩
      obtain rfl := ht x rfl
      replace hb := Lib.hid hb
      go_wp2_with fail
      go_ret2
      exact ent_ret hat.out (by simp) hb.out
  · have hlt2 : (n : Int) + 1 < d.length := by omega
    cases o with
    | none =>
      go_enter Tryz.func190, Tryz.ntmps190
      go_wp2_with fail
      refine (hix.out _).mono ?_; rintro e w' ⟨rfl, rfl⟩
      go_wp2_with fail
      refine (hnm.out _).mono ?_; rintro e w' ⟨t, rfl, ht, hb, -⟩
      clear ht
      replace hb := Lib.hid hb
      go_wp2_with fail
      go_ret2
      exact ent_ret hat.out rfl hb.out
    | some x =>
      go_enter Tryz.func190, Tryz.ntmps190
      go_wp2_with fail
      refine (hix.out _).mono ?_; rintro e w' ⟨rfl, rfl⟩
      go_wp2_with fail
      refine (hnm.out _).mono ?_; rintro e w' ⟨t, rfl, ht, hb, -⟩
      obtain rfl := ht x rfl
      replace hb := Lib.hid hb
      go_wp2_with fail
      go_ret2
      exact ent_ret hat.out (by simp) hb.out

/-- What the loop of Entities keeps. -/
structure EnAt (l : List UInt8) (w : World) (d acc : List UInt8) (wr : World) (v : Value) : Prop where
  own : Txt wr w.heap.size v acc
  below : Below w.heap.size w wr
  eq : acc ++ entB d = entB l
  len : acc.length + 4 * d.length ≤ 4 * l.length
theorem ent_step (d : List UInt8) (h : d ≠ []) : entB d = (entF d).1 ++ entB (d.drop ((entF d).2 + 1)) := walkT_step entF d h

set_option maxHeartbeats 1000000 in
theorem entities_any (l : List UInt8) (w : World) (hl : l.length ≤ 10000000) :
    Calls Tryz.prog 166 #[.string ⟨l.toArray⟩] w (TextPost w (entB l)) := by
  go_enter Tryz.func166, Tryz.ntmps166
  go_wp2_with fail
  go_loopw [0, 3] (fun s v wr => ∃ d acc, s = .string ⟨d.toArray⟩ ∧ EnAt l w d acc wr v) (fun s _ _ => strLen s)
  case atStart => exact ⟨l, [], rfl, txt_nil _ _, Below.refl _ _, rfl, by simp⟩
  case round =>
    obtain ⟨d, acc, rfl, hc⟩ := hrel
    have hlen := hc.len
    have hsz := hc.below.size
    by_cases hd : d = []
    · subst hd
      have hcv := txt_str hc.own
      have hq := hc.eq
      rw [show entB [] = [] from rfl, List.append_nil] at hq
      replace hq := Lib.hid hq
      replace hc := Lib.hid hc
      go_wp2_with fail
      go_ret
      exact ⟨ret_str hq.out, hc.out.below⟩
    have he : d.isEmpty = false := by cases d <;> simp_all
    have hdl := len_pos hd
    have hst := ent_step d hd
    have hbd := entF_bd d hd
    have hcall := fun W : World => entity_any d W hd (by omega)
    unfold EntPost at hcall
    generalize (entF d).1 = x at hst hbd hcall
    generalize (entF d).2 = n at hst hbd hcall
    replace hst := Lib.hid hst
    replace hcall := Lib.hid hcall
    replace hd := Lib.hid hd
    replace hc := Lib.hid hc
    go_wp2_with fail
    refine (hcall.out _).mono ?_; rintro e w1 ⟨rfl, hb1⟩
    have hs1 := hb1.size
    have hown1 := Lib.hid (ownsRow_below hc.out.own hb1)
    have hbl1 := Lib.hid (hc.out.below.trans (hb1.mono hsz))
    clear hb1
    go_wp2_with (at_builtin; go_must (refine wpList_append1s rfl _ _ 117 9 5 rfl Tryz.underlying117 Tryz.underlying9 info_byte w.heap.size _ acc x hown1.out rfl rfl (by omega) (by omega) ?_))
    intro v2 w2 hown2 hb2
    replace hown2 := Lib.hid hown2
    replace hb2 := Lib.hid hb2
    go_wp2_with fail
    refine ⟨⟨d.drop (n + 1), acc ++ x, by simp, ⟨by unfold Txt; rw [List.length_append]; exact hown2.out, hbl1.out.trans hb2.out, ?_, by rw [List.length_append, List.length_drop]; omega⟩⟩, by simp [strLen_mk]; omega⟩
    rw [← hc.out.eq, hst.out, List.append_assoc]
end Go.Proofs.YtkgjbamkinfmeaaGreatDoor

/- Layer 10: the reference's Entities; Clean and Plain, the program's and the reference's. -/
namespace Go.Proofs.YtkgjbamkinfmeaaGreatDoor
open Go.RowKit

/-- What the reference's loop keeps. -/
structure ErAt (l : List UInt8) (k : Nat) (out : List UInt8) : Prop where
  le : k ≤ l.length
  eq : out ++ entB (l.drop k) = entB l
  len : out.length ≤ 4 * k
theorem ErAt.name {l : List UInt8} {k n : Nat} {out x : List UInt8} (h : ErAt l k out) (hk : k < l.length) (hx : entF (l.drop k) = (x, n)) : ErAt l (k + n + 1) (out ++ x) := by
  have hbd := entF_bd (l.drop k) (drop_ne hk)
  rw [hx, List.length_drop] at hbd
  have hbd1 : x.length ≤ 4 := hbd.1
  have hbd2 : n + 1 ≤ l.length - k := hbd.2
  refine ⟨by omega, ?_, by have := h.len; rw [List.length_append]; omega⟩
  rw [← h.eq, ent_step _ (drop_ne hk), hx, List.drop_drop, List.append_assoc, Nat.add_assoc]
theorem ErAt.sign {l : List UInt8} {k : Nat} {out : List UInt8} (h : ErAt l k out) (hk : k < l.length) (hx : entF (l.drop k) = ((l.drop k).take 1, 0)) : ErAt l (k + 1) (out ++ (l.take (k + 1)).drop k) := by
  rw [take_drop1 l k hk]
  exact h.name hk hx
theorem ErAt.done {l : List UInt8} {k : Nat} {out : List UInt8} (h : ErAt l k out) (hk : ¬ k < l.length) : out = entB l := by
  have := h.eq
  rw [List.drop_eq_nil_of_le (by omega)] at this
  rw [← this]; simp [entB, walkT]
theorem take_drop_more (l : List UInt8) (k n : Nat) : (l.take (k + n)).drop (k + 1) = ((l.drop k).take n).drop 1 := by
  rw [List.drop_take, List.drop_take, List.drop_drop]
  congr 1; omega

set_option maxRecDepth 100000 in
set_option maxHeartbeats 2000000 in
theorem refentities_any (l : List UInt8) (w : World) (hl : l.length ≤ 10000000) :
    Calls Tryz.prog 145 #[.string ⟨l.toArray⟩] w (TextPost w (entB l)) := by
  go_enter Tryz.func145, Tryz.ntmps145
  go_wp2_with fail
  go_loopw [3, 4] (fun s i wr => ∃ (k : Nat) (out : List UInt8), i = .int .i64 k ∧ s = .string ⟨out.toArray⟩ ∧ ErAt l k out ∧ Below w.heap.size w wr) (fun _ i _ => l.length - (intOf i).toNat)
  case atStart => exact ⟨0, [], rfl, rfl, ⟨Nat.zero_le _, rfl, Nat.zero_le _⟩, Below.refl _ _⟩
  case round =>
    obtain ⟨k, out, rfl, rfl, hc, hbl⟩ := hrel
    have hk := hc.le
    have hlen := hc.len
    have hsz := hbl.size
    replace hbl := Lib.hid hbl
    by_cases hlt : k < l.length
    · have htd := take_drop1 l k hlt
      have h1 : ((l.take (k + 1)).drop k).length = 1 := by rw [htd, List.length_take, List.length_drop]; omega
      replace htd := Lib.hid htd
      have hb0 : bt (l.drop k) 0 = bt l k := bt_drop l k 0
      by_cases h38 : bt l k = 38
      case neg =>
        have hst := Lib.hid (hc.sign hlt (entF_no (Or.inl (by rw [hb0]; exact h38))))
        have b1 : (bt l k == 38) = false := by simpa using h38
        clear h38 hc hb0
        go_wp2_with fail
        exact ⟨⟨k + 1, _, by go_num, rfl, hst.out, hbl.out⟩, by simp [intOf]; omega⟩
      rw [h38] at hb0
      have hg := Lib.indexByte_ge (l.drop k) 59
      by_cases hn : 0 < Lib.indexByte (l.drop k) 59 ∧ Lib.indexByte (l.drop k) 59 ≤ 12
      case neg =>
        have hst := Lib.hid (hc.sign hlt (entF_no (Or.inr hn)))
        have hne0 : Lib.indexByte (l.drop k) 59 ≠ 0 := by
          intro e
          rw [List.drop_eq_getElem_cons hlt] at e hb0
          have hq := (bt_u8 _ 38 _).1 hb0
          rw [hq] at e
          unfold Lib.indexByte at e
          rw [if_neg (by decide)] at e
          split at e
          · cases e
          · have := Lib.indexByte_ge (l.drop (k + 1)) 59
            rename_i h; simp only [beq_iff_eq] at h; omega
        obtain ⟨p, hp, hpp⟩ : ∃ p, placeT l 59 k = p ∧ (p = -1 ∨ ∃ q : Nat, p = q ∧ q ≤ l.length ∧ k + 12 < q) := by
          refine ⟨_, rfl, ?_⟩
          have hlt2 := indexByte_lt (l.drop k) 59
          rw [List.length_drop] at hlt2
          unfold placeT
          split
          · right; exact ⟨k + (Lib.indexByte (l.drop k) 59).toNat, by omega, by omega, by omega⟩
          · left; rfl
        clear hc hn hg hne0
        replace hb0 := Lib.hid hb0
        replace hp := Lib.hid hp
        rcases hpp with rfl | ⟨q, rfl, p1, p2⟩
        · go_wp2_with fail
          refine (place_any l 59 k _ hk hl).mono ?_; rintro e w' ⟨rfl, rfl⟩; rw [hp.out]
          go_wp2_with fail
          exact ⟨⟨k + 1, _, by go_num, rfl, hst.out, hbl.out⟩, by simp [intOf]; omega⟩
        · have p3 : ¬ ((q : Int) - (k : Int) ≤ 12) := by omega
          go_wp2_with fail
          refine (place_any l 59 k _ hk hl).mono ?_; rintro e w' ⟨rfl, rfl⟩; rw [hp.out]
          go_wp2_with fail
          exact ⟨⟨k + 1, _, by go_num, rfl, hst.out, hbl.out⟩, by simp [intOf]; omega⟩
      obtain ⟨n, hn2⟩ : ∃ n : Nat, Lib.indexByte (l.drop k) 59 = (n + 1 : Nat) := ⟨(Lib.indexByte (l.drop k) 59 - 1).toNat, by omega⟩
      rw [hn2] at hn
      have hltn := indexByte_lt (l.drop k) 59
      rw [hn2, List.length_drop] at hltn
      have hat := entF_at hb0 hn2 (by omega)
      have hp := placeB_some hn2
      have hsl := take_drop_more l k (n + 1)
      obtain ⟨q, hq⟩ : ∃ q, k + (n + 1) = q := ⟨_, rfl⟩
      rw [hq] at hp hsl
      have hq1 : k + 1 ≤ q ∧ q < l.length ∧ q ≤ 10000000 := by omega
      have hq2 : (q : Int) - (k : Int) ≤ 12 := by omega
      have hnl : ((l.take q).drop (k + 1)).length ≤ 100000000 := by rw [List.length_drop, List.length_take]; omega
      have hnm := fun W : World => refnamed_any ((l.take q).drop (k + 1)) W hnl
      rw [← hsl] at hat
      clear hnl hsl
      obtain ⟨o, ho⟩ : ∃ o, namedS ((l.take q).drop (k + 1)) = o := ⟨_, rfl⟩
      rw [ho] at hat hnm
      replace hnm := Lib.hid hnm
      replace ho := Lib.hid ho
      replace hp := Lib.hid hp
      replace hn2 := Lib.hid hn2
      replace hb0 := Lib.hid hb0
      cases o with
      | none =>
        have hst := Lib.hid (hc.sign hlt hat)
        clear hc hat hg
        replace hq := Lib.hid hq
        go_wp2_with fail
        refine (place_any l 59 k _ hk hl).mono ?_; rintro e w' ⟨rfl, rfl⟩; rw [hp.out]
        go_wp2_with fail
        refine (hnm.out _).mono ?_; rintro e w1 ⟨t, rfl, ht, hb1, -⟩
        clear ht
        replace hb1 := Lib.hid hb1
        go_wp2_with fail
        exact ⟨⟨k + 1, _, by go_num, rfl, hst.out, hbl.out.trans (hb1.out.mono hsz)⟩, by simp [intOf]; omega⟩
      | some x =>
        have hst := hc.name hlt hat
        have hxl := (entF_bd (l.drop k) (drop_ne hlt)).1
        rw [hat] at hxl
        have hxl2 : x.length ≤ 4 := hxl
        rw [hq] at hst
        replace hst := Lib.hid hst
        clear hc hat hg hxl
        replace hq := Lib.hid hq
        go_wp2_with fail
        refine (place_any l 59 k _ hk hl).mono ?_; rintro e w' ⟨rfl, rfl⟩; rw [hp.out]
        go_wp2_with fail
        refine (hnm.out _).mono ?_; rintro e w1 ⟨t, rfl, ht, hb1, -⟩
        obtain rfl := ht x rfl
        replace hb1 := Lib.hid hb1
        go_wp2_with fail
        exact ⟨⟨q + 1, out ++ t, by go_num, rfl, hst.out, hbl.out.trans (hb1.out.mono hsz)⟩, by simp [intOf]; omega⟩
    · have hke : ¬ ((k : Int) < l.length) := by omega
      have hq := Lib.hid (hc.done hlt)
      replace hc := Lib.hid hc
      go_wp2_with fail
      go_ret
      exact ⟨ret_str hq.out, hbl.out⟩

theorem strip_len (l : List UInt8) : (stripB l).length ≤ l.length := by
  have : ∀ (n : Nat) (l : List UInt8), l.length ≤ n → (stripB l).length ≤ l.length := by
    intro n
    induction n with
    | zero => intro l h; cases l with
      | nil => simp [stripB, walkT]
      | cons c t => simp at h
    | succ n ih =>
      intro l h
      by_cases h0 : l = []
      · subst h0; simp [stripB, walkT]
      have hl := len_pos h0
      rw [strip_step l h0, List.length_append]
      have := ih (l.drop ((markF l).2 + 1)) (by rw [List.length_drop]; omega)
      have h1 : (markF l).1.length ≤ 1 := by
        unfold markF; split
        · simp
        · show (l.take 1).length ≤ 1; rw [List.length_take]; omega
      rw [List.length_drop] at this
      have h2 : (markF l).2 + 1 ≤ l.length ∨ l.length < (markF l).2 + 1 := by omega
      have h3 : (markF l).2 + 1 ≤ l.length := by
        unfold markF; split
        · have := indexByte_lt l 62
          show (Lib.indexByte l 62).toNat + 1 ≤ _; omega
        · show 0 + 1 ≤ _; omega
      omega
  exact this _ l (Nat.le_refl _)
theorem ent_len (l : List UInt8) : (entB l).length ≤ 4 * l.length := by
  have : ∀ (n : Nat) (l : List UInt8), l.length ≤ n → (entB l).length ≤ 4 * l.length := by
    intro n
    induction n with
    | zero => intro l h; cases l with
      | nil => simp [entB, walkT]
      | cons c t => simp at h
    | succ n ih =>
      intro l h
      by_cases h0 : l = []
      · subst h0; simp [entB, walkT]
      have hl := len_pos h0
      have hbd := entF_bd l h0
      rw [ent_step l h0, List.length_append]
      have := ih (l.drop ((entF l).2 + 1)) (by rw [List.length_drop]; omega)
      rw [List.length_drop] at this
      omega
  exact this _ l (Nat.le_refl _)

set_option maxHeartbeats 400000 in
theorem clean_any (l : List UInt8) (w : World) (hl : l.length ≤ 2000000) :
    Calls Tryz.prog 129 #[.string ⟨l.toArray⟩] w (TextPost w (cleanB l)) := by
  have h1 := strip_len l
  have h2 := ent_len (stripB l)
  unfold cleanB
  go_enter Tryz.func129, Tryz.ntmps129
  go_wp2_with fail
  refine (strip_any l _ (by omega)).mono ?_; rintro e w1 ⟨rfl, hb1⟩
  replace hb1 := Lib.hid hb1
  go_wp2_with fail
  refine (entities_any _ _ (by omega)).mono ?_; rintro e w2 ⟨rfl, hb2⟩
  replace hb2 := Lib.hid hb2
  go_wp2_with fail
  refine (space_any _ _ (by omega)).mono ?_; rintro e w3 ⟨rfl, hb3⟩
  replace hb3 := Lib.hid hb3
  go_wp2_with fail
  go_ret
  exact ⟨rfl, (hb1.out.andThen hb2.out).andThen hb3.out⟩
set_option maxHeartbeats 400000 in
theorem refclean_any (l : List UInt8) (w : World) (hl : l.length ≤ 2000000) :
    Calls Tryz.prog 97 #[.string ⟨l.toArray⟩] w (TextPost w (cleanB l)) := by
  have h1 := strip_len l
  have h2 := ent_len (stripB l)
  unfold cleanB
  go_enter Tryz.func97, Tryz.ntmps97
  go_wp2_with fail
  refine (refstrip_any l _ (by omega)).mono ?_; rintro e w1 ⟨rfl, rfl⟩
  go_wp2_with fail
  refine (refentities_any _ _ (by omega)).mono ?_; rintro e w2 ⟨rfl, hb2⟩
  replace hb2 := Lib.hid hb2
  go_wp2_with fail
  refine (refspace_any _ _ (by omega)).mono ?_; rintro e w3 ⟨rfl, rfl⟩
  go_wp2_with fail
  go_ret
  exact ⟨rfl, hb2.out⟩

end Go.Proofs.YtkgjbamkinfmeaaGreatDoor

/- Layer 14, plain: a field; which item each node stands within; the part of a list that tells of one item. -/
namespace Go.Proofs.YtkgjbamkinfmeaaGreatDoor

/-- A field: the first kid's text of a name, cleaned. -/
def fieldB (l : List Nd) (i : Int) (nm : List UInt8) : Option (List UInt8) :=
  match namedB l i nm with
  | [] => none
  | j :: _ => some (cleanB (textB l j))
def linkL : List UInt8 := [108, 105, 110, 107]
/-- The attributes of the kids link. -/
def linksB (l : List Nd) (i : Int) : List (List At) := (namedB l i linkL).map fun j => (atN l j).attrs
/-- The nearest place of S at j or above. -/
inductive Near (l : List Nd) (S : List Int) : Int → Int → Prop where
  | here {j : Int} : placeB l j = true → j ∈ S → Near l S j j
  | up {j p : Int} : placeB l j = true → j ∉ S → Near l S (upN l j) p → Near l S j p
section
variable {l : List Nd} {S : List Int} {c p q x : Int}
theorem Near.place (h : Near l S x p) : placeB l x = true := by cases h <;> assumption
theorem Near.mem (h : Near l S x p) : p ∈ S := by induction h with
  | here _ h => exact h
  | up _ _ _ ih => exact ih
theorem Near.top (h : Near l S x p) : placeB l p = true := by induction h with
  | here h _ => exact h
  | up _ _ _ ih => exact ih
theorem near_uniq (h : Near l S x p) : Near l S x q → p = q := by
  induction h with
  | here hp hm =>
    intro k
    cases k with
    | here => rfl
    | up _ hn _ => exact absurd hm hn
  | up hp hn _ ih =>
    intro k
    cases k with
    | here _ hm => exact absurd hm hn
    | up _ _ k => exact ih k
theorem near_up (hS : ∀ s ∈ S, upN l s = c) (hc : Near l S c q) (h : Near l S x q) : Near l S (upN l x) q := by
  cases h with
  | here _ hm => rw [hS _ hm]; exact hc
  | up _ _ h => exact h
theorem near_of_within (hp : p ∈ S) (h : Within l p x) : ∃ q, Near l S x q := by
  induction h with
  | here h => exact ⟨_, .here h hp⟩
  | @up k h _ ih =>
    by_cases hk : k ∈ S
    · exact ⟨_, .here h hk⟩
    · obtain ⟨q, hq⟩ := ih
      exact ⟨q, .up h hk hq⟩
theorem near_keep (hS : ∀ s ∈ S, upN l s = c) (hc : Near l S c q) (h : Within l p x) : Near l S x q → Near l S p q := by
  induction h with
  | here _ => exact id
  | up _ _ ih => exact fun k => ih (near_up hS hc k)
/-- What the channel doesn't stand within, of that nothing is above it. -/
theorem not_within (hS : ∀ s ∈ S, upN l s = c) (hp : p ∈ S) (hno : ¬ Near l S c p) : ¬ Within l p c := fun h => by
  obtain ⟨q, hq⟩ := near_of_within hp h
  have h2 := near_keep hS hq h hq
  have h3 := near_uniq (Near.here h2.place hp) h2
  subst h3
  exact hno hq
end
/-- The list of owners: each node's nearest item's number. -/
structure Own (l : List Nd) (S : List Int) (O : List Int) : Prop where
  len : O.length = l.length
  ok : ∀ j, j < l.length → (O.getD j (-2) = -1 ∧ ∀ p, ¬ Near l S (j : Int) p) ∨ ∃ i, i < S.length ∧ O.getD j (-2) = (i : Int) ∧ Near l S (j : Int) (S.getD i 0)
theorem nodup_inj {α : Type} {S : List α} (hn : S.Nodup) {i j : Nat} (hi : i < S.length) (hj : j < S.length) (h : S[i] = S[j]) : i = j := by
  have hp := List.pairwise_iff_getElem.1 hn
  rcases Nat.lt_trichotomy i j with e | e | e
  · exact absurd h (hp i j hi hj e)
  · exact e
  · exact absurd h.symm (hp j i hj hi e)
theorem getD_inj {S : List Int} (hn : S.Nodup) {i j : Nat} (hi : i < S.length) (hj : j < S.length) (h : S.getD i 0 = S.getD j 0) : i = j := by
  have e1 : S.getD i 0 = S[i] := by simp [List.getD, hi]
  have e2 : S.getD j 0 = S[j] := by simp [List.getD, hj]
  rw [e1, e2] at h
  exact nodup_inj hn hi hj h
theorem Own.iff {l : List Nd} {S O : List Int} (h : Own l S O) (hn : S.Nodup) {i j : Nat} (hi : i < S.length) (hj : j < l.length) : O.getD j (-2) = (i : Int) ↔ Near l S (j : Int) (S.getD i 0) := by
  rcases h.ok j hj with ⟨e, hno⟩ | ⟨i', hi', e, hnr⟩
  · exact ⟨fun e2 => by omega, fun k => absurd k (hno _)⟩
  · refine ⟨fun e2 => ?_, fun k => ?_⟩
    · have : i' = i := by omega
      subst this; exact hnr
    · have := getD_inj hn hi' hi (near_uniq hnr k)
      rw [e, this]
/-- The places of one owner, among the first t. -/
def ownL (O : List Int) (k : Int) (t : Nat) : List Nat := (List.range t).filter fun j => decide (O.getD j (-2) = k)
/-- A node's place among those of its owner. -/
def plN (O : List Int) (j : Nat) : Nat := (ownL O (O.getD j (-2)) j).length
theorem ownL_succ (O : List Int) (k : Int) (t : Nat) : ownL O k (t + 1) = ownL O k t ++ if O.getD t (-2) = k then [t] else [] := by
  unfold ownL
  rw [List.range_succ, List.filter_append]
  congr 1
  by_cases h : O.getD t (-2) = k
  · rw [if_pos h, List.filter_cons, if_pos (by rw [decide_eq_true_eq]; exact h)]; rfl
  · rw [if_neg h, List.filter_cons, if_neg (by rw [decide_eq_true_eq]; exact h)]; rfl
theorem ownL_app (O : List Int) (k : Int) (t d : Nat) : ∃ r, ownL O k (t + d) = ownL O k t ++ r := by
  induction d with
  | zero => exact ⟨[], by simp⟩
  | succ d ih =>
    obtain ⟨r, hr⟩ := ih
    rw [← Nat.add_assoc, ownL_succ, hr, List.append_assoc]
    exact ⟨_, rfl⟩
theorem ownL_mem {O : List Int} {k : Int} {t j : Nat} : j ∈ ownL O k t ↔ j < t ∧ O.getD j (-2) = k := by unfold ownL; simp
theorem own_at {O : List Int} {k : Int} {n j : Nat} (hj : j < n) (ho : O.getD j (-2) = k) : (ownL O k n)[plN O j]? = some j ∧ plN O j < (ownL O k n).length := by
  obtain ⟨r, hr⟩ := ownL_app O k (j + 1) (n - (j + 1))
  rw [show j + 1 + (n - (j + 1)) = n by omega, ownL_succ, if_pos ho] at hr
  have hp : plN O j = (ownL O k j).length := by unfold plN; rw [ho]
  rw [hr, hp]
  refine ⟨by simp [List.append_assoc], by simp⟩
theorem ownL_nodup (O : List Int) (k : Int) (t : Nat) : (ownL O k t).Nodup := List.Pairwise.filter _ List.nodup_range
theorem own_back {O : List Int} {k : Int} {n t : Nat} (ht : t < (ownL O k n).length) : plN O ((ownL O k n)[t]'ht) = t := by
  have hm := ownL_mem.1 (List.getElem_mem ht)
  obtain ⟨h1, h2⟩ := own_at hm.1 hm.2
  rw [List.getElem?_eq_getElem h2] at h1
  injection h1 with h1
  exact nodup_inj (ownL_nodup O k n) h2 ht h1
theorem plN_inj {O : List Int} {k : Int} {n i j : Nat} (hi : i < n) (hj : j < n) (h1 : O.getD i (-2) = k) (h2 : O.getD j (-2) = k) (h : plN O i = plN O j) : i = j := by
  have a := (own_at hi h1).1
  have b := (own_at hj h2).1
  rw [h, b] at a
  injection a with a
  exact a.symm
/-- A node within the part of s. -/
def pcNd (l : List Nd) (O : List Int) (s : Nat) (j : Nat) : Nd := { atN l (j : Int) with up := if j = s then -1 else (plN O (upN l (j : Int)).toNat : Int) }
/-- The part of l that tells of the item s, whose number is k. -/
def pieceB (l : List Nd) (O : List Int) (k : Int) (s t : Nat) : List Nd := (ownL O k t).map (pcNd l O s)

theorem flat_filter {α β : Type} (p : α → Bool) (f : α → List β) : ∀ l : List α, (∀ x ∈ l, p x = false → f x = []) → l.flatMap f = (l.filter p).flatMap f
  | [], _ => rfl
  | x :: t, h => by
    have ih := flat_filter p f t (fun y hy => h y (List.mem_cons_of_mem _ hy))
    cases hp : p x
    · rw [List.flatMap_cons, h x (List.mem_cons_self ..) hp, List.filter_cons, hp]; simpa using ih
    · rw [List.flatMap_cons, List.filter_cons, hp]; simp [ih]
theorem range_map (J : List Nat) : (List.range J.length).map (fun t => J.getD t 0) = J := by
  refine List.ext_getElem (by simp) fun i h1 h2 => ?_
  simp [List.getD, h2]
theorem range_flat {β : Type} (J : List Nat) (g : Nat → List β) : (List.range J.length).flatMap (fun t => g (J.getD t 0)) = J.flatMap g := by
  have := congrArg (fun L => List.flatMap g L) (range_map J)
  simpa [List.flatMap_map] using this
theorem filter_map' {α β : Type} (p : β → Bool) (f : α → β) (l : List α) : (l.map f).filter p = (l.filter fun x => p (f x)).map f := by
  rw [List.filter_map]; rfl

/-- What a part of a list keeps: the item s stands at S's number i, its channel at c. -/
structure PcOk (l : List Nd) (S O : List Int) (c : Int) (i s : Nat) : Prop where
  own : Own l S O
  nodup : S.Nodup
  lt : i < S.length
  at_ : S.getD i 0 = (s : Int)
  kids : ∀ x ∈ S, placeB l x = true ∧ upN l x = c ∧ x ≠ c
  no : ¬ Near l S c (s : Int)
section
variable {l : List Nd} {S O : List Int} {c : Int} {i s : Nat}
theorem PcOk.mem (h : PcOk l S O c i s) : (s : Int) ∈ S := by
  rw [← h.at_]
  have : S.getD i 0 = S[i]'h.lt := by simp [List.getD, h.lt]
  rw [this]
  exact List.getElem_mem _
theorem PcOk.sl (h : PcOk l S O c i s) : s < l.length := by have := place_iff.1 (h.kids _ h.mem).1; omega
theorem PcOk.iff (h : PcOk l S O c i s) {j : Nat} (hj : j < l.length) : O.getD j (-2) = (i : Int) ↔ Near l S (j : Int) (s : Int) := by
  have := h.own.iff h.nodup h.lt hj
  rw [h.at_] at this
  exact this
theorem PcOk.item (h : PcOk l S O c i s) : O.getD s (-2) = (i : Int) := (h.iff h.sl).2 (.here (h.kids _ h.mem).1 h.mem)
/-- One step up, within the part. -/
theorem PcOk.step (_h : PcOk l S O c i s) {x : Int} (hn : Near l S x (s : Int)) (hne : x ≠ (s : Int)) : x ∉ S ∧ Near l S (upN l x) (s : Int) := by
  cases hn with
  | here => exact absurd rfl hne
  | up _ h1 h2 => exact ⟨h1, h2⟩
/-- A kid of the item. -/
structure KidOf (l : List Nd) (S : List Int) (s a : Nat) : Prop where
  up : upN l (a : Int) = (s : Int)
  ne : (a : Int) ≠ (s : Int)
  lt : a < l.length
theorem PcOk.kid (h : PcOk l S O c i s) {a : Nat} (k : KidOf l S s a) : (a : Int) ∉ S := fun hm => by
  have h1 := (h.kids _ hm).2.1
  rw [k.up] at h1
  have h2 := (h.kids _ h.mem).2.2
  exact h2 h1
theorem PcOk.near (h : PcOk l S O c i s) {a : Nat} (k : KidOf l S s a) {x : Int} (hw : Within l (a : Int) x) : Near l S x (s : Int) := by
  induction hw with
  | here hp => exact .up hp (h.kid k) (by rw [k.up]; exact .here (h.kids _ h.mem).1 h.mem)
  | @up y hp _ ih =>
    by_cases hy : y ∈ S
    · have e := (h.kids _ hy).2.1
      rw [e] at ih
      exact absurd ih h.no
    · exact .up hp hy ih
theorem PcOk.not_item (h : PcOk l S O c i s) {a : Nat} (k : KidOf l S s a) {y : Int} (hw : Within l (a : Int) (upN l y)) : y ∉ S := fun hy => by
  have e := (h.kids _ hy).2.1
  have := h.near k hw
  rw [e] at this
  exact h.no this
theorem pc_len (t : Nat) : (pieceB l O (i : Int) s t).length = (ownL O (i : Int) t).length := by unfold pieceB; simp
theorem PcOk.atP (_h : PcOk l S O c i s) {j : Nat} (hj : j < l.length) (ho : O.getD j (-2) = (i : Int)) : atN (pieceB l O (i : Int) s l.length) (plN O j : Int) = pcNd l O s j ∧ placeB (pieceB l O (i : Int) s l.length) (plN O j : Int) = true := by
  obtain ⟨h1, h2⟩ := own_at hj ho
  refine ⟨?_, place_nat (by rw [pc_len]; exact h2)⟩
  unfold atN pieceB
  rw [Int.toNat_natCast, List.getD, List.getElem?_map, h1]
  rfl
theorem PcOk.upP (h : PcOk l S O c i s) {j : Nat} (hj : j < l.length) (ho : O.getD j (-2) = (i : Int)) : upN (pieceB l O (i : Int) s l.length) (plN O j : Int) = if j = s then -1 else (plN O (upN l (j : Int)).toNat : Int) := by
  unfold upN
  rw [(h.atP hj ho).1]
  rfl
theorem PcOk.within (h : PcOk l S O c i s) {a : Nat} (k : KidOf l S s a) : ∀ x, Within l (a : Int) x → ∀ j : Nat, x = (j : Int) → Within (pieceB l O (i : Int) s l.length) (plN O a : Int) (plN O j : Int) := by
  intro x hw
  have hak := (h.iff k.lt).2 (h.near k (.here (place_nat k.lt)))
  induction hw with
  | here hp =>
    intro j e
    have : a = j := by omega
    subst this
    exact .here (h.atP k.lt hak).2
  | @up y hp hw ih =>
    intro j e
    subst e
    have hj : j < l.length := by have := place_iff.1 hp; omega
    have hnr := h.near k (.up hp hw)
    have ho := (h.iff hj).2 hnr
    have hys := h.not_item k hw
    have hne : j ≠ s := fun e => hys (by rw [e]; exact h.mem)
    refine .up (h.atP hj ho).2 ?_
    rw [h.upP hj ho, if_neg hne]
    have hpl := place_iff.1 hw.place
    exact ih (upN l (j : Int)).toNat (by omega)
theorem PcOk.back (h : PcOk l S O c i s) {a : Nat} (k : KidOf l S s a) : ∀ x, Within (pieceB l O (i : Int) s l.length) (plN O a : Int) x → ∀ j : Nat, j < l.length → O.getD j (-2) = (i : Int) → x = (plN O j : Int) → Within l (a : Int) (j : Int) := by
  intro x hw
  have hak := (h.iff k.lt).2 (h.near k (.here (place_nat k.lt)))
  induction hw with
  | here _ =>
    intro j hj ho e
    have : a = j := plN_inj k.lt hj hak ho (by omega)
    subst this
    exact .here (place_nat hj)
  | up _ hw ih =>
    intro j hj ho e
    subst e
    rw [h.upP hj ho] at hw ih
    by_cases hne : j = s
    · rw [if_pos hne] at hw
      have := place_iff.1 hw.place
      omega
    · rw [if_neg hne] at ih
      have hst := h.step ((h.iff hj).1 ho) (by omega)
      have hpl := place_iff.1 hst.2.place
      have e3 : ((upN l (j : Int)).toNat : Int) = upN l (j : Int) := by omega
      have := ih (upN l (j : Int)).toNat (by omega) ((h.iff (by omega)).2 (by rw [e3]; exact hst.2)) rfl
      rw [e3] at this
      exact .up (place_nat hj) this
theorem PcOk.win (h : PcOk l S O c i s) {a : Nat} (k : KidOf l S s a) {j : Nat} (hj : j < l.length) (ho : O.getD j (-2) = (i : Int)) : winB (pieceB l O (i : Int) s l.length) (plN O a : Int) (plN O j : Int) = winB l (a : Int) (j : Int) := by
  rw [Bool.eq_iff_iff, winB_iff, winB_iff]
  exact ⟨fun w => h.back k _ w j hj ho rfl, fun w => h.within k _ w j rfl⟩
/-- The text of a kid is the same. -/
theorem PcOk.text (h : PcOk l S O c i s) {a : Nat} (k : KidOf l S s a) : textB (pieceB l O (i : Int) s l.length) (plN O a : Int) = textB l (a : Int) := by
  have hak := (h.iff k.lt).2 (h.near k (.here (place_nat k.lt)))
  unfold textB
  rw [if_pos (h.atP k.lt hak).2, if_pos (place_nat k.lt)]
  unfold textTo
  rw [flat_filter (fun j => decide (O.getD j (-2) = (i : Int))) (bitB l (a : Int)) (List.range l.length) (fun j hj ho => by
    rw [List.mem_range] at hj
    rw [decide_eq_false_iff_not] at ho
    unfold bitB
    rw [if_neg]
    rintro ⟨_, hw⟩
    exact ho ((h.iff hj).2 (h.near k (winB_iff.1 hw))))]
  show _ = (ownL O (i : Int) l.length).flatMap _
  rw [pc_len, ← range_flat (ownL O (i : Int) l.length) (bitB l (a : Int))]
  unfold List.flatMap
  congr 1
  refine List.map_congr_left fun t ht => ?_
  rw [List.mem_range] at ht
  have hg : (ownL O (i : Int) l.length).getD t 0 = (ownL O (i : Int) l.length)[t] := by simp [List.getD, ht]
  obtain ⟨j1, j2⟩ := ownL_mem.1 (List.getElem_mem ht)
  have hb := own_back ht
  rw [hg]
  generalize (ownL O (i : Int) l.length)[t] = j at j1 j2 hb
  have e := (h.atP j1 j2).1
  have w := h.win k j1 j2
  rw [hb] at e w
  unfold bitB
  rw [e, w]
  rfl
/-- Its kids, too. -/
theorem PcOk.named (h : PcOk l S O c i s) (nm : List UInt8) (hnm : nm ≠ []) : namedB l (s : Int) nm = (namedB (pieceB l O (i : Int) s l.length) (plN O s : Int) nm).map fun t => (((ownL O (i : Int) l.length).getD t.toNat 0 : Nat) : Int) := by
  have hsi := h.item
  unfold namedB kidsB
  rw [if_neg hnm, if_neg hnm, if_pos (place_nat h.sl), if_pos (h.atP h.sl hsi).2]
  unfold kidsTo
  rw [filter_map', filter_map', List.filter_filter, List.filter_filter, List.map_map]
  have hJ : (List.range l.length).filter (fun j : Nat => ((atN l (j : Int)).name == nm) && (decide (upN l (j : Int) = (s : Int)) && decide ((j : Int) ≠ (s : Int)))) = (ownL O (i : Int) l.length).filter (fun j : Nat => ((atN l (j : Int)).name == nm) && (decide (upN l (j : Int) = (s : Int)) && decide ((j : Int) ≠ (s : Int)))) := by
    unfold ownL
    rw [List.filter_filter]
    refine List.filter_congr fun j hj => ?_
    rw [List.mem_range] at hj
    cases hq : ((atN l (j : Int)).name == nm) && (decide (upN l (j : Int) = (s : Int)) && decide ((j : Int) ≠ (s : Int)))
    · rfl
    · simp only [Bool.and_eq_true, decide_eq_true_eq] at hq
      have k : KidOf l S s j := ⟨hq.2.1, hq.2.2, hj⟩
      rw [decide_eq_true ((h.iff hj).2 (h.near k (.here (place_nat hj))))]
      rfl
  rw [hJ, ← range_map (ownL O (i : Int) l.length), filter_map', List.map_map, range_map, pc_len]
  have hf : (List.range (ownL O (i : Int) l.length).length).filter (fun t => ((atN l (((ownL O (i : Int) l.length).getD t 0 : Nat) : Int)).name == nm) && (decide (upN l (((ownL O (i : Int) l.length).getD t 0 : Nat) : Int) = (s : Int)) && decide ((((ownL O (i : Int) l.length).getD t 0 : Nat) : Int) ≠ (s : Int)))) =
      (List.range (ownL O (i : Int) l.length).length).filter (fun t : Nat => ((atN (pieceB l O (i : Int) s l.length) (t : Int)).name == nm) && (decide (upN (pieceB l O (i : Int) s l.length) (t : Int) = (plN O s : Int)) && decide ((t : Int) ≠ (plN O s : Int)))) := by
    refine List.filter_congr fun t ht => ?_
    rw [List.mem_range] at ht
    have hg : (ownL O (i : Int) l.length).getD t 0 = (ownL O (i : Int) l.length)[t] := by simp [List.getD, ht]
    obtain ⟨j1, j2⟩ := ownL_mem.1 (List.getElem_mem ht)
    have hb := own_back ht
    rw [hg]
    generalize (ownL O (i : Int) l.length)[t] = j at j1 j2 hb
    have e := (h.atP j1 j2).1
    have u := h.upP j1 j2
    rw [hb] at e u
    rw [e, u]
    have e1 : (pcNd l O s j).name = (atN l (j : Int)).name := rfl
    rw [e1]
    congr 1
    rw [Bool.eq_iff_iff]
    simp only [Bool.and_eq_true, decide_eq_true_eq]
    by_cases hjs : j = s
    · subst hjs
      rw [if_pos rfl, hb]
      exact ⟨fun h => absurd rfl h.2, fun h => absurd rfl h.2⟩
    · rw [if_neg hjs]
      have hst := h.step ((h.iff j1).1 j2) (by omega)
      have hpl := place_iff.1 hst.2.place
      have e3 : ((upN l (j : Int)).toNat : Int) = upN l (j : Int) := by omega
      have ho := (h.iff (j := (upN l (j : Int)).toNat) (by omega)).2 (by rw [e3]; exact hst.2)
      refine ⟨fun ⟨a, b⟩ => ⟨by rw [a]; simp, fun e => hjs (plN_inj j1 h.sl j2 hsi (by omega))⟩, fun ⟨a, b⟩ => ⟨?_, by omega⟩⟩
      have := plN_inj (by omega) h.sl ho hsi (by omega)
      omega
  rw [hf]
  refine List.map_congr_left fun t ht => ?_
  simp
theorem PcOk.field (h : PcOk l S O c i s) (nm : List UInt8) : fieldB (pieceB l O (i : Int) s l.length) (plN O s : Int) nm = fieldB l (s : Int) nm := by
  by_cases hnm : nm = []
  · subst hnm
    unfold fieldB namedB
    simp
  have hn := h.named nm hnm
  unfold fieldB
  rw [hn]
  cases e : namedB (pieceB l O (i : Int) s l.length) (plN O s : Int) nm with
  | nil => rfl
  | cons t r =>
    have ht : t ∈ namedB (pieceB l O (i : Int) s l.length) (plN O s : Int) nm := by rw [e]; exact List.mem_cons_self ..
    have ht2 : t ∈ kidsB (pieceB l O (i : Int) s l.length) (plN O s : Int) := by unfold namedB at ht; rw [if_neg hnm] at ht; exact (List.mem_filter.1 ht).1
    have hp := place_iff.1 (kidsB_bd ht2).1
    rw [pc_len] at hp
    have htl : t.toNat < (ownL O (i : Int) l.length).length := by omega
    have hg : (ownL O (i : Int) l.length).getD t.toNat 0 = (ownL O (i : Int) l.length)[t.toNat] := by simp [List.getD, htl]
    have ha : (((ownL O (i : Int) l.length).getD t.toNat 0 : Nat) : Int) ∈ namedB l (s : Int) nm := by rw [hn, e]; exact List.mem_cons_self ..
    have ha2 : (((ownL O (i : Int) l.length).getD t.toNat 0 : Nat) : Int) ∈ kidsB l (s : Int) := by unfold namedB at ha; rw [if_neg hnm] at ha; exact (List.mem_filter.1 ha).1
    obtain ⟨k1, k2, k3, _⟩ := kidsB_bd ha2
    have hb := own_back htl
    rw [← hg] at hb
    have k : KidOf l S s ((ownL O (i : Int) l.length).getD t.toNat 0) := ⟨k2, k3, by have := place_iff.1 k1; omega⟩
    have htx := h.text k
    rw [hb] at htx
    rw [show ((t.toNat : Nat) : Int) = t by omega] at htx
    show some (cleanB (textB _ t)) = some (cleanB (textB l _))
    rw [htx]
/-- What a link's attributes are looked for in. -/
theorem PcOk.links (h : PcOk l S O c i s) : linksB (pieceB l O (i : Int) s l.length) (plN O s : Int) = linksB l (s : Int) := by
  have hn := h.named linkL (by decide)
  unfold linksB
  rw [hn, List.map_map]
  refine List.map_congr_left fun t ht => ?_
  have ht2 : t ∈ kidsB (pieceB l O (i : Int) s l.length) (plN O s : Int) := by unfold namedB at ht; rw [if_neg (by decide)] at ht; exact (List.mem_filter.1 ht).1
  have hp := place_iff.1 (kidsB_bd ht2).1
  rw [pc_len] at hp
  have htl : t.toNat < (ownL O (i : Int) l.length).length := by omega
  have hg : (ownL O (i : Int) l.length).getD t.toNat 0 = (ownL O (i : Int) l.length)[t.toNat] := by simp [List.getD, htl]
  obtain ⟨j1, j2⟩ := ownL_mem.1 (List.getElem_mem htl)
  have hb := own_back htl
  have e := (h.atP j1 j2).1
  rw [hb, show ((t.toNat : Nat) : Int) = t by omega] at e
  show (atN _ t).attrs = (atN l ((((ownL O (i : Int) l.length).getD t.toNat 0 : Nat) : Int))).attrs
  rw [e, hg]
  rfl
end
/-- A part tells of an item what the list does. -/
structure Told (q : List Nd) (j : Int) (l : List Nd) (i : Int) : Prop where
  field : ∀ nm, fieldB q j nm = fieldB l i nm
  links : linksB q j = linksB l i
  from_ : ∀ x ∈ q, ∃ y ∈ l, x.attrs = y.attrs
theorem Told.same (l : List Nd) (i : Int) : Told l i l i := ⟨fun _ => rfl, rfl, fun x hx => ⟨x, hx, rfl⟩⟩
theorem PcOk.told {l : List Nd} {S O : List Int} {c : Int} {i s : Nat} (h : PcOk l S O c i s) : Told (pieceB l O (i : Int) s l.length) (plN O s : Int) l (s : Int) := by
  refine ⟨h.field, h.links, fun x hx => ?_⟩
  unfold pieceB at hx
  obtain ⟨j, hj, rfl⟩ := List.mem_map.1 hx
  have hlt := (ownL_mem.1 hj).1
  refine ⟨l[j], List.getElem_mem hlt, ?_⟩
  unfold pcNd atN
  simp [List.getD, hlt]
end Go.Proofs.YtkgjbamkinfmeaaGreatDoor
