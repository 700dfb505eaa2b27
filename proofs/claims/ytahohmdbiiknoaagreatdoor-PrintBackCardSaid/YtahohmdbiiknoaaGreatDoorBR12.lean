/- Layer 10: the reference's Strip; Entities, the program's. -/
import Derived.Test.YtahohmdbiiknoaaGreatDoorBR11
import Derived.Test.YtahohmdbiiknoaaGreatDoorBR01
import Derived.LaidEql
import Derived.LaidEqlPtr
import Derived.Stop.Asserts
import Derived.RowKitTokens
import Derived.Outline
namespace Go.Proofs.YtahohmdbiiknoaaGreatDoor
open Go.RowKit

theorem opensB_at (l : List UInt8) (k : Nat) (hk : k < l.length) : opensB (l.drop k) = (bt l k == 60 && (decide (k + 1 < l.length) && markN (bt l (k + 1)))) := by
  unfold opensB
  rw [bt_drop, bt_drop, Nat.add_zero, List.length_drop]
  rw [Bool.eq_iff_iff]
  simp only [Bool.and_eq_true, decide_eq_true_eq]
  constructor
  · rintro ⟨h1, h2, h3⟩; exact ⟨h2, by omega, h3⟩
  · rintro ⟨h1, h2, h3⟩; exact ⟨by omega, h1, h3⟩
theorem markN_ways (c : Int) : (markN c = true ∧ letN c = true) ∨ (markN c = true ∧ letN c = false ∧ (c = 47 ∨ c = 33 ∨ c = 63)) ∨ (markN c = false ∧ letN c = false ∧ c ≠ 47 ∧ c ≠ 33 ∧ c ≠ 63) := by
  unfold markN letN
  by_cases h1 : 97 ≤ c ∧ c ≤ 122 ∨ 65 ≤ c ∧ c ≤ 90
  · left; exact ⟨decide_eq_true (by omega), decide_eq_true h1⟩
  · by_cases h2 : c = 47 ∨ c = 33 ∨ c = 63
    · right; left; exact ⟨decide_eq_true (by omega), decide_eq_false h1, h2⟩
    · right; right; exact ⟨decide_eq_false (by omega), decide_eq_false h1, by omega, by omega, by omega⟩
theorem placeB_none {l : List UInt8} {c : UInt8} {k : Nat} (h : Lib.indexByte (l.drop k) c < 0) : placeT l c k = -1 := by unfold placeT; rw [if_neg (by omega)]
theorem placeB_some {l : List UInt8} {c : UInt8} {k n : Nat} (h : Lib.indexByte (l.drop k) c = n) : placeT l c k = ((k + n : Nat) : Int) := by unfold placeT; rw [if_pos (by omega), h]; omega

set_option maxRecDepth 100000 in
set_option maxHeartbeats 2000000 in
theorem refstrip_any (l : List UInt8) (w : World) (hl : l.length ≤ 10000000) :
    Calls Tryz.prog 18 #[.string ⟨l.toArray⟩] w fun e w' => e = .returned (.string ⟨(stripB l).toArray⟩) ∧ w = w' := by
  go_enter Tryz.func18, Tryz.ntmps18
  go_wp2_with fail
  go_loop [3, 4] (fun s i => ∃ (k : Nat) (out : List UInt8), i = .int .i64 k ∧ s = .string ⟨out.toArray⟩ ∧ StAt l k out) (fun _ i => l.length - (intOf i).toNat)
  case atStart => exact ⟨0, [], rfl, rfl, ⟨Nat.zero_le _, rfl, Nat.zero_le _⟩⟩
  case round =>
    obtain ⟨k, out, rfl, rfl, hc⟩ := hrel
    have hk := hc.le
    have hlen := hc.len
    by_cases hlt : k < l.length
    · have hat := opensB_at l k hlt
      have htd := take_drop1 l k hlt
      have h1 : ((l.drop k).take 1).length = 1 := by rw [List.length_take, List.length_drop]; omega
      have hsg := fun ho => hc.sign hlt ho
      rw [← htd] at hsg h1
      replace htd := Lib.hid htd
      replace hsg := Lib.hid hsg
      by_cases h60 : bt l k = 60
      · by_cases hk1 : k + 1 < l.length
        · rw [h60, decide_eq_true hk1] at hat
          have hbt1 := bt_lt l (k + 1)
          rcases markN_ways (bt l (k + 1)) with ⟨m1, m2⟩ | ⟨m1, m2, m3⟩ | ⟨m1, m2, m3, m4, m5⟩
          · rw [m1] at hat
            have ho : opensB (l.drop k) = true := hat
            clear hat m1
            by_cases hn : Lib.indexByte (l.drop k) 62 < 0
            · have hp := placeB_none hn
              have hst := Lib.hid (hsg.out (Or.inr hn))
              replace ho := Lib.hid ho
              replace hn := Lib.hid hn
              clear hc hsg
              go_wp2_with fail
              refine (letter_any _ _).mono ?_; rintro e w' ⟨rfl, rfl⟩; rw [m2]
              go_wp2_with fail
              refine (place_any l 62 k _ hk hl).mono ?_; rintro e w' ⟨rfl, rfl⟩; rw [hp]
              go_wp2_with fail
              exact ⟨⟨k + 1, _, by go_num, rfl, hst.out⟩, by simp [intOf]; omega⟩
            · obtain ⟨n, hn2⟩ : ∃ n : Nat, Lib.indexByte (l.drop k) 62 = n := ⟨(Lib.indexByte (l.drop k) 62).toNat, by omega⟩
              have hp := placeB_some hn2
              have hltn := indexByte_lt (l.drop k) 62
              rw [hn2, List.length_drop] at hltn
              have hst := Lib.hid (hc.mark hlt ho hn2)
              replace ho := Lib.hid ho
              replace hn2 := Lib.hid hn2
              clear hc hsg hn
              go_wp2_with fail
              refine (letter_any _ _).mono ?_; rintro e w' ⟨rfl, rfl⟩; rw [m2]
              go_wp2_with fail
              refine (place_any l 62 k _ hk hl).mono ?_; rintro e w' ⟨rfl, rfl⟩; rw [hp]
              go_wp2_with fail
              exact ⟨⟨k + n + 1, out ++ [32], by go_num, rfl, hst.out⟩, by simp [intOf]; omega⟩
          · rw [m1] at hat
            have ho : opensB (l.drop k) = true := hat
            clear hat m1
            rcases m3 with m3 | m3 | m3
            all_goals
              rw [m3] at m2 hbt1
              by_cases hn : Lib.indexByte (l.drop k) 62 < 0
              · have hp := placeB_none hn
                have hst := Lib.hid (hsg.out (Or.inr hn))
                replace ho := Lib.hid ho
                replace hn := Lib.hid hn
                clear hc hsg
                go_wp2_with fail
                refine (letter_any _ _).mono ?_; rintro e w' ⟨rfl, rfl⟩; rw [m2]
                go_wp2_with fail
                refine (place_any l 62 k _ hk hl).mono ?_; rintro e w' ⟨rfl, rfl⟩; rw [hp]
                go_wp2_with fail
                exact ⟨⟨k + 1, _, by go_num, rfl, hst.out⟩, by simp [intOf]; omega⟩
              · obtain ⟨n, hn2⟩ : ∃ n : Nat, Lib.indexByte (l.drop k) 62 = n := ⟨(Lib.indexByte (l.drop k) 62).toNat, by omega⟩
                have hp := placeB_some hn2
                have hltn := indexByte_lt (l.drop k) 62
                rw [hn2, List.length_drop] at hltn
                have hst := Lib.hid (hc.mark hlt ho hn2)
                replace ho := Lib.hid ho
                replace hn2 := Lib.hid hn2
                clear hc hsg hn
                go_wp2_with fail
                refine (letter_any _ _).mono ?_; rintro e w' ⟨rfl, rfl⟩; rw [m2]
                go_wp2_with fail
                refine (place_any l 62 k _ hk hl).mono ?_; rintro e w' ⟨rfl, rfl⟩; rw [hp]
                go_wp2_with fail
                exact ⟨⟨k + n + 1, out ++ [32], by go_num, rfl, hst.out⟩, by simp [intOf]; omega⟩
          · rw [m1] at hat
            have ho : opensB (l.drop k) = false := hat
            have hst := Lib.hid (hsg.out (Or.inl ho))
            have b3 : (bt l (k + 1) == 47) = false := by simpa using m3
            have b4 : (bt l (k + 1) == 33) = false := by simpa using m4
            have b5 : (bt l (k + 1) == 63) = false := by simpa using m5
            clear hat m1 m3 m4 m5 hc hsg
            replace ho := Lib.hid ho
            go_wp2_with fail
            refine (letter_any _ _).mono ?_; rintro e w' ⟨rfl, rfl⟩; rw [m2]
            go_wp2_with fail
            exact ⟨⟨k + 1, _, by go_num, rfl, hst.out⟩, by simp [intOf]; omega⟩
        · have hk1' : ¬ ((k : Int) + 1 < l.length) := by omega
          rw [h60, decide_eq_false hk1] at hat
          have ho : opensB (l.drop k) = false := hat
          have hst := Lib.hid (hsg.out (Or.inl ho))
          clear hat hc hsg
          replace ho := Lib.hid ho
          go_wp2_with fail
          exact ⟨⟨k + 1, _, by go_num, rfl, hst.out⟩, by simp [intOf]; omega⟩
      · have b6 : (bt l k == 60) = false := by simpa using h60
        rw [b6] at hat
        have ho : opensB (l.drop k) = false := hat
        have hst := Lib.hid (hsg.out (Or.inl ho))
        clear hat hc hsg h60
        replace ho := Lib.hid ho
        go_wp2_with fail
        exact ⟨⟨k + 1, _, by go_num, rfl, hst.out⟩, by simp [intOf]; omega⟩
    · have hke : ¬ ((k : Int) < l.length) := by omega
      have hq := Lib.hid (hc.done hlt)
      replace hc := Lib.hid hc
      go_wp2_with fail
      go_ret
      exact ⟨ret_str hq.out, rfl⟩
end Go.Proofs.YtahohmdbiiknoaaGreatDoor

/- Layer 10: entity, Entities: the program's. -/
namespace Go.Proofs.YtahohmdbiiknoaaGreatDoor
open Go.RowKit

theorem entF_no {d : List UInt8} (h : bt d 0 ≠ 38 ∨ ¬ (0 < Lib.indexByte d 59 ∧ Lib.indexByte d 59 ≤ 12)) : entF d = (d.take 1, 0) := by
  unfold entF
  rw [if_neg]
  rintro ⟨h1, h2⟩
  rcases h with h | h
  · exact h h1
  · exact h h2
theorem entF_at {d : List UInt8} {n : Nat} (h0 : bt d 0 = 38) (h : Lib.indexByte d 59 = (n + 1 : Nat)) (h12 : n + 1 ≤ 12) :
    entF d = match namedS ((d.take (n + 1)).drop 1) with | some x => (x, n + 1) | none => (d.take 1, 0) := by
  unfold entF
  rw [h, if_pos ⟨h0, by omega, by omega⟩]
  rfl
theorem entF_bd (d : List UInt8) (h : d ≠ []) : (entF d).1.length ≤ 4 ∧ (entF d).2 + 1 ≤ d.length := by
  have hl := len_pos h
  have h1 : (d.take 1).length ≤ 4 := by rw [List.length_take]; omega
  unfold entF
  split
  · have hlt := indexByte_lt d 59
    rename_i hc
    cases hn : namedS ((d.take (Lib.indexByte d 59).toNat).drop 1) with
    | none => exact ⟨h1, by show 0 + 1 ≤ _; omega⟩
    | some x =>
      refine ⟨?_, by show (Lib.indexByte d 59).toNat + 1 ≤ _; omega⟩
      show x.length ≤ 4
      unfold namedS at hn
      repeat' split at hn
      all_goals first
        | (injection hn with hn; subst hn; first | decide | exact enc_len _)
        | cases hn
  · exact ⟨h1, by omega⟩

/-- What a text begins with, names told. -/
def EntPost (w : World) (d : List UInt8) (e : Ending) (w' : World) : Prop := e = .returned (.tuple #[.string ⟨(entF d).1.toArray⟩, .int .i64 (((entF d).2 + 1 : Nat) : Int)]) ∧ Below w.heap.size w w'
theorem ent_ret {w w' : World} {d x : List UInt8} {n : Nat} {e : Ending} (h : entF d = (x, n)) (he : e = .returned (.tuple #[.string ⟨x.toArray⟩, .int .i64 ((n + 1 : Nat) : Int)])) (hb : Below w.heap.size w w') : EntPost w d e w' := by
  refine ⟨?_, hb⟩
  rw [he, h]

/-- What the loop of Entities keeps. -/
structure EnAt (l : List UInt8) (w : World) (d acc : List UInt8) (wr : World) (v : Value) : Prop where
  own : Txt wr w.heap.size v acc
  below : Below w.heap.size w wr
  eq : acc ++ entB d = entB l
  len : acc.length + 4 * d.length ≤ 4 * l.length
theorem ent_step (d : List UInt8) (h : d ≠ []) : entB d = (entF d).1 ++ entB (d.drop ((entF d).2 + 1)) := walkT_step entF d h

end Go.Proofs.YtahohmdbiiknoaaGreatDoor

/- Layer 10: the reference's Entities; Clean and Plain, the program's and the reference's. -/
namespace Go.Proofs.YtahohmdbiiknoaaGreatDoor
open Go.RowKit

/-- What the reference's loop keeps. -/
structure ErAt (l : List UInt8) (k : Nat) (out : List UInt8) : Prop where
  le : k ≤ l.length
  eq : out ++ entB (l.drop k) = entB l
  len : out.length ≤ 4 * k
theorem ErAt.name {l : List UInt8} {k n : Nat} {out x : List UInt8} (h : ErAt l k out) (hk : k < l.length) (hx : entF (l.drop k) = (x, n)) : ErAt l (k + n + 1) (out ++ x) := by
  have hbd := entF_bd (l.drop k) (drop_ne hk)
  rw [hx, List.length_drop] at hbd
  have hbd1 : x.length ≤ 4 := hbd.1
  have hbd2 : n + 1 ≤ l.length - k := hbd.2
  refine ⟨by omega, ?_, by have := h.len; rw [List.length_append]; omega⟩
  rw [← h.eq, ent_step _ (drop_ne hk), hx, List.drop_drop, List.append_assoc, Nat.add_assoc]
theorem ErAt.sign {l : List UInt8} {k : Nat} {out : List UInt8} (h : ErAt l k out) (hk : k < l.length) (hx : entF (l.drop k) = ((l.drop k).take 1, 0)) : ErAt l (k + 1) (out ++ (l.take (k + 1)).drop k) := by
  rw [take_drop1 l k hk]
  exact h.name hk hx
theorem ErAt.done {l : List UInt8} {k : Nat} {out : List UInt8} (h : ErAt l k out) (hk : ¬ k < l.length) : out = entB l := by
  have := h.eq
  rw [List.drop_eq_nil_of_le (by omega)] at this
  rw [← this]; simp [entB, walkT]
theorem take_drop_more (l : List UInt8) (k n : Nat) : (l.take (k + n)).drop (k + 1) = ((l.drop k).take n).drop 1 := by
  rw [List.drop_take, List.drop_take, List.drop_drop]
  congr 1; omega

set_option maxRecDepth 100000 in
set_option maxHeartbeats 2000000 in
theorem refentities_any (l : List UInt8) (w : World) (hl : l.length ≤ 10000000) :
    Calls Tryz.prog 17 #[.string ⟨l.toArray⟩] w (TextPost w (entB l)) := by
  go_enter Tryz.func17, Tryz.ntmps17
  go_wp2_with fail
  go_loopw [3, 4] (fun s i wr => ∃ (k : Nat) (out : List UInt8), i = .int .i64 k ∧ s = .string ⟨out.toArray⟩ ∧ ErAt l k out ∧ Below w.heap.size w wr) (fun _ i _ => l.length - (intOf i).toNat)
  case atStart => exact ⟨0, [], rfl, rfl, ⟨Nat.zero_le _, rfl, Nat.zero_le _⟩, Below.refl _ _⟩
  case round =>
    obtain ⟨k, out, rfl, rfl, hc, hbl⟩ := hrel
    have hk := hc.le
    have hlen := hc.len
    have hsz := hbl.size
    replace hbl := Lib.hid hbl
    by_cases hlt : k < l.length
    · have htd := take_drop1 l k hlt
      have h1 : ((l.take (k + 1)).drop k).length = 1 := by rw [htd, List.length_take, List.length_drop]; omega
      replace htd := Lib.hid htd
      have hb0 : bt (l.drop k) 0 = bt l k := bt_drop l k 0
      by_cases h38 : bt l k = 38
      case neg =>
        have hst := Lib.hid (hc.sign hlt (entF_no (Or.inl (by rw [hb0]; exact h38))))
        have b1 : (bt l k == 38) = false := by simpa using h38
        clear h38 hc hb0
        go_wp2_with fail
        exact ⟨⟨k + 1, _, by go_num, rfl, hst.out, hbl.out⟩, by simp [intOf]; omega⟩
      rw [h38] at hb0
      have hg := Lib.indexByte_ge (l.drop k) 59
      by_cases hn : 0 < Lib.indexByte (l.drop k) 59 ∧ Lib.indexByte (l.drop k) 59 ≤ 12
      case neg =>
        have hst := Lib.hid (hc.sign hlt (entF_no (Or.inr hn)))
        have hne0 : Lib.indexByte (l.drop k) 59 ≠ 0 := by
          intro e
          rw [List.drop_eq_getElem_cons hlt] at e hb0
          have hq := (bt_u8 _ 38 _).1 hb0
          rw [hq] at e
          unfold Lib.indexByte at e
          rw [if_neg (by decide)] at e
          split at e
          · cases e
          · have := Lib.indexByte_ge (l.drop (k + 1)) 59
            rename_i h; simp only [beq_iff_eq] at h; omega
        obtain ⟨p, hp, hpp⟩ : ∃ p, placeT l 59 k = p ∧ (p = -1 ∨ ∃ q : Nat, p = q ∧ q ≤ l.length ∧ k + 12 < q) := by
          refine ⟨_, rfl, ?_⟩
          have hlt2 := indexByte_lt (l.drop k) 59
          rw [List.length_drop] at hlt2
          unfold placeT
          split
          · right; exact ⟨k + (Lib.indexByte (l.drop k) 59).toNat, by omega, by omega, by omega⟩
          · left; rfl
        clear hc hn hg hne0
        replace hb0 := Lib.hid hb0
        replace hp := Lib.hid hp
        rcases hpp with rfl | ⟨q, rfl, p1, p2⟩
        · go_wp2_with fail
          refine (place_any l 59 k _ hk hl).mono ?_; rintro e w' ⟨rfl, rfl⟩; rw [hp.out]
          go_wp2_with fail
          exact ⟨⟨k + 1, _, by go_num, rfl, hst.out, hbl.out⟩, by simp [intOf]; omega⟩
        · have p3 : ¬ ((q : Int) - (k : Int) ≤ 12) := by omega
          go_wp2_with fail
          refine (place_any l 59 k _ hk hl).mono ?_; rintro e w' ⟨rfl, rfl⟩; rw [hp.out]
          go_wp2_with fail
          exact ⟨⟨k + 1, _, by go_num, rfl, hst.out, hbl.out⟩, by simp [intOf]; omega⟩
      obtain ⟨n, hn2⟩ : ∃ n : Nat, Lib.indexByte (l.drop k) 59 = (n + 1 : Nat) := ⟨(Lib.indexByte (l.drop k) 59 - 1).toNat, by omega⟩
      rw [hn2] at hn
      have hltn := indexByte_lt (l.drop k) 59
      rw [hn2, List.length_drop] at hltn
      have hat := entF_at hb0 hn2 (by omega)
      have hp := placeB_some hn2
      have hsl := take_drop_more l k (n + 1)
      obtain ⟨q, hq⟩ : ∃ q, k + (n + 1) = q := ⟨_, rfl⟩
      rw [hq] at hp hsl
      have hq1 : k + 1 ≤ q ∧ q < l.length ∧ q ≤ 10000000 := by omega
      have hq2 : (q : Int) - (k : Int) ≤ 12 := by omega
      have hnl : ((l.take q).drop (k + 1)).length ≤ 100000000 := by rw [List.length_drop, List.length_take]; omega
      have hnm := fun W : World => refnamed_any ((l.take q).drop (k + 1)) W hnl
      rw [← hsl] at hat
      clear hnl hsl
      obtain ⟨o, ho⟩ : ∃ o, namedS ((l.take q).drop (k + 1)) = o := ⟨_, rfl⟩
      rw [ho] at hat hnm
      replace hnm := Lib.hid hnm
      replace ho := Lib.hid ho
      replace hp := Lib.hid hp
      replace hn2 := Lib.hid hn2
      replace hb0 := Lib.hid hb0
      cases o with
      | none =>
        have hst := Lib.hid (hc.sign hlt hat)
        clear hc hat hg
        replace hq := Lib.hid hq
        go_wp2_with fail
        refine (place_any l 59 k _ hk hl).mono ?_; rintro e w' ⟨rfl, rfl⟩; rw [hp.out]
        go_wp2_with fail
        refine (hnm.out _).mono ?_; rintro e w1 ⟨t, rfl, ht, hb1, -⟩
        clear ht
        replace hb1 := Lib.hid hb1
        go_wp2_with fail
        exact ⟨⟨k + 1, _, by go_num, rfl, hst.out, hbl.out.trans (hb1.out.mono hsz)⟩, by simp [intOf]; omega⟩
      | some x =>
        have hst := hc.name hlt hat
        have hxl := (entF_bd (l.drop k) (drop_ne hlt)).1
        rw [hat] at hxl
        have hxl2 : x.length ≤ 4 := hxl
        rw [hq] at hst
        replace hst := Lib.hid hst
        clear hc hat hg hxl
        replace hq := Lib.hid hq
        go_wp2_with fail
        refine (place_any l 59 k _ hk hl).mono ?_; rintro e w' ⟨rfl, rfl⟩; rw [hp.out]
        go_wp2_with fail
        refine (hnm.out _).mono ?_; rintro e w1 ⟨t, rfl, ht, hb1, -⟩
        obtain rfl := ht x rfl
        replace hb1 := Lib.hid hb1
        go_wp2_with fail
        exact ⟨⟨q + 1, out ++ t, by go_num, rfl, hst.out, hbl.out.trans (hb1.out.mono hsz)⟩, by simp [intOf]; omega⟩
    · have hke : ¬ ((k : Int) < l.length) := by omega
      have hq := Lib.hid (hc.done hlt)
      replace hc := Lib.hid hc
      go_wp2_with fail
      go_ret
      exact ⟨ret_str hq.out, hbl.out⟩

theorem strip_len (l : List UInt8) : (stripB l).length ≤ l.length := by
  have : ∀ (n : Nat) (l : List UInt8), l.length ≤ n → (stripB l).length ≤ l.length := by
    intro n
    induction n with
    | zero => intro l h; cases l with
      | nil => simp [stripB, walkT]
      | cons c t => simp at h
    | succ n ih =>
      intro l h
      by_cases h0 : l = []
      · subst h0; simp [stripB, walkT]
      have hl := len_pos h0
      rw [strip_step l h0, List.length_append]
      have := ih (l.drop ((markF l).2 + 1)) (by rw [List.length_drop]; omega)
      have h1 : (markF l).1.length ≤ 1 := by
        unfold markF; split
        · simp
        · show (l.take 1).length ≤ 1; rw [List.length_take]; omega
      rw [List.length_drop] at this
      have h2 : (markF l).2 + 1 ≤ l.length ∨ l.length < (markF l).2 + 1 := by omega
      have h3 : (markF l).2 + 1 ≤ l.length := by
        unfold markF; split
        · have := indexByte_lt l 62
          show (Lib.indexByte l 62).toNat + 1 ≤ _; omega
        · show 0 + 1 ≤ _; omega
      omega
  exact this _ l (Nat.le_refl _)
theorem ent_len (l : List UInt8) : (entB l).length ≤ 4 * l.length := by
  have : ∀ (n : Nat) (l : List UInt8), l.length ≤ n → (entB l).length ≤ 4 * l.length := by
    intro n
    induction n with
    | zero => intro l h; cases l with
      | nil => simp [entB, walkT]
      | cons c t => simp at h
    | succ n ih =>
      intro l h
      by_cases h0 : l = []
      · subst h0; simp [entB, walkT]
      have hl := len_pos h0
      have hbd := entF_bd l h0
      rw [ent_step l h0, List.length_append]
      have := ih (l.drop ((entF l).2 + 1)) (by rw [List.length_drop]; omega)
      rw [List.length_drop] at this
      omega
  exact this _ l (Nat.le_refl _)

set_option maxHeartbeats 400000 in
theorem refclean_any (l : List UInt8) (w : World) (hl : l.length ≤ 2000000) :
    Calls Tryz.prog 7 #[.string ⟨l.toArray⟩] w (TextPost w (cleanB l)) := by
  have h1 := strip_len l
  have h2 := ent_len (stripB l)
  unfold cleanB
  go_enter Tryz.func7, Tryz.ntmps7
  go_wp2_with fail
  refine (refstrip_any l _ (by omega)).mono ?_; rintro e w1 ⟨rfl, rfl⟩
  go_wp2_with fail
  refine (refentities_any _ _ (by omega)).mono ?_; rintro e w2 ⟨rfl, hb2⟩
  replace hb2 := Lib.hid hb2
  go_wp2_with fail
  refine (refspace_any _ _ (by omega)).mono ?_; rintro e w3 ⟨rfl, rfl⟩
  go_wp2_with fail
  go_ret
  exact ⟨rfl, hb2.out⟩

end Go.Proofs.YtahohmdbiiknoaaGreatDoor

/- errors.Is: of a number of package api, of a fault that wraps one, of the program's own error. -/
namespace Go.Proofs.YtahohmdbiiknoaaGreatDoor
open Go.RowKit Go.Extern.Stop Go.Stop Go.Extern

def rowComp : Array Value → Sem Value := Extern.ReflectliteType.method fun t => do Go.Extern.Rtype.noPackHeld "Comparable" t; pure (.bool (← typeInfo t).comparable)
theorem er_comp_c (w : World) : (rowComp #[.agg #[.pointer (some ⟨5, 32, none⟩)]]).run Tryz.prog w = .ok (.bool true) w := by kernel_rfl
end Go.Proofs.YtahohmdbiiknoaaGreatDoor
