/- Layer 10: the reference's Strip; Entities, the program's. -/
import Derived.Test.YtahjopajnckbaaaD10h
namespace Go.Proofs.Ytahjopajnckbaaa
open Go.RowKit

theorem opensB_at (l : List UInt8) (k : Nat) (hk : k < l.length) : opensB (l.drop k) = (bt l k == 60 && (decide (k + 1 < l.length) && markN (bt l (k + 1)))) := by
  unfold opensB
  rw [bt_drop, bt_drop, Nat.add_zero, List.length_drop]
  rw [Bool.eq_iff_iff]
  simp only [Bool.and_eq_true, decide_eq_true_eq]
  constructor
  · rintro ⟨h1, h2, h3⟩; exact ⟨h2, by omega, h3⟩
  · rintro ⟨h1, h2, h3⟩; exact ⟨by omega, h1, h3⟩
theorem markN_ways (c : Int) : (markN c = true ∧ letN c = true) ∨ (markN c = true ∧ letN c = false ∧ (c = 47 ∨ c = 33 ∨ c = 63)) ∨ (markN c = false ∧ letN c = false ∧ c ≠ 47 ∧ c ≠ 33 ∧ c ≠ 63) := by
  unfold markN letN
  by_cases h1 : 97 ≤ c ∧ c ≤ 122 ∨ 65 ≤ c ∧ c ≤ 90
  · left; exact ⟨decide_eq_true (by omega), decide_eq_true h1⟩
  · by_cases h2 : c = 47 ∨ c = 33 ∨ c = 63
    · right; left; exact ⟨decide_eq_true (by omega), decide_eq_false h1, h2⟩
    · right; right; exact ⟨decide_eq_false (by omega), decide_eq_false h1, by omega, by omega, by omega⟩
theorem placeB_none {l : List UInt8} {c : UInt8} {k : Nat} (h : Lib.indexByte (l.drop k) c < 0) : placeB l c k = -1 := by unfold placeB; rw [if_neg (by omega)]
theorem placeB_some {l : List UInt8} {c : UInt8} {k n : Nat} (h : Lib.indexByte (l.drop k) c = n) : placeB l c k = ((k + n : Nat) : Int) := by unfold placeB; rw [if_pos (by omega), h]; omega

set_option maxRecDepth 100000 in
set_option maxHeartbeats 2000000 in
theorem refstrip_any (l : List UInt8) (w : World) (hl : l.length ≤ 100000) :
    Calls Try.prog 11 #[.string ⟨l.toArray⟩] w fun e w' => e = .returned (.string ⟨(stripB l).toArray⟩) ∧ w = w' := by
  go_enter Try.func11, Try.ntmps11
  go_wp2_with fail
  go_loop [3, 4] (fun s i => ∃ (k : Nat) (out : List UInt8), i = .int .i64 k ∧ s = .string ⟨out.toArray⟩ ∧ StAt l k out) (fun _ i => l.length - (intOf i).toNat)
  case atStart => exact ⟨0, [], rfl, rfl, ⟨Nat.zero_le _, rfl, Nat.zero_le _⟩⟩
  case round =>
    obtain ⟨k, out, rfl, rfl, hc⟩ := hrel
    have hk := hc.le
    have hlen := hc.len
    by_cases hlt : k < l.length
    · have hat := opensB_at l k hlt
      have htd := take_drop1 l k hlt
      have h1 : ((l.drop k).take 1).length = 1 := by rw [List.length_take, List.length_drop]; omega
      have hsg := fun ho => hc.sign hlt ho
      rw [← htd] at hsg h1
      replace htd := Lib.hid htd
      replace hsg := Lib.hid hsg
      by_cases h60 : bt l k = 60
      · by_cases hk1 : k + 1 < l.length
        · rw [h60, decide_eq_true hk1] at hat
          have hbt1 := bt_lt l (k + 1)
          rcases markN_ways (bt l (k + 1)) with ⟨m1, m2⟩ | ⟨m1, m2, m3⟩ | ⟨m1, m2, m3, m4, m5⟩
          · rw [m1] at hat
            have ho : opensB (l.drop k) = true := hat
            clear hat m1
            by_cases hn : Lib.indexByte (l.drop k) 62 < 0
            · have hp := placeB_none hn
              have hst := Lib.hid (hsg.out (Or.inr hn))
              replace ho := Lib.hid ho
              replace hn := Lib.hid hn
              clear hc hsg
              go_wp2_with fail
              refine (letter_any _ _).mono ?_; rintro e w' ⟨rfl, rfl⟩; rw [m2]
              go_wp2_with fail
              refine (place_any l 62 k _ hk hl).mono ?_; rintro e w' ⟨rfl, rfl⟩; rw [hp]
              go_wp2_with fail
              exact ⟨⟨k + 1, _, by go_num, rfl, hst.out⟩, by simp [intOf]; omega⟩
            · obtain ⟨n, hn2⟩ : ∃ n : Nat, Lib.indexByte (l.drop k) 62 = n := ⟨(Lib.indexByte (l.drop k) 62).toNat, by omega⟩
              have hp := placeB_some hn2
              have hltn := indexByte_lt (l.drop k) 62
              rw [hn2, List.length_drop] at hltn
              have hst := Lib.hid (hc.mark hlt ho hn2)
              replace ho := Lib.hid ho
              replace hn2 := Lib.hid hn2
              clear hc hsg hn
              go_wp2_with fail
              refine (letter_any _ _).mono ?_; rintro e w' ⟨rfl, rfl⟩; rw [m2]
              go_wp2_with fail
              refine (place_any l 62 k _ hk hl).mono ?_; rintro e w' ⟨rfl, rfl⟩; rw [hp]
              go_wp2_with fail
              exact ⟨⟨k + n + 1, out ++ [32], by go_num, rfl, hst.out⟩, by simp [intOf]; omega⟩
          · rw [m1] at hat
            have ho : opensB (l.drop k) = true := hat
            clear hat m1
            rcases m3 with m3 | m3 | m3
            all_goals
              rw [m3] at m2 hbt1
              by_cases hn : Lib.indexByte (l.drop k) 62 < 0
              · have hp := placeB_none hn
                have hst := Lib.hid (hsg.out (Or.inr hn))
                replace ho := Lib.hid ho
                replace hn := Lib.hid hn
                clear hc hsg
                go_wp2_with fail
                refine (letter_any _ _).mono ?_; rintro e w' ⟨rfl, rfl⟩; rw [m2]
                go_wp2_with fail
                refine (place_any l 62 k _ hk hl).mono ?_; rintro e w' ⟨rfl, rfl⟩; rw [hp]
                go_wp2_with fail
                exact ⟨⟨k + 1, _, by go_num, rfl, hst.out⟩, by simp [intOf]; omega⟩
              · obtain ⟨n, hn2⟩ : ∃ n : Nat, Lib.indexByte (l.drop k) 62 = n := ⟨(Lib.indexByte (l.drop k) 62).toNat, by omega⟩
                have hp := placeB_some hn2
                have hltn := indexByte_lt (l.drop k) 62
                rw [hn2, List.length_drop] at hltn
                have hst := Lib.hid (hc.mark hlt ho hn2)
                replace ho := Lib.hid ho
                replace hn2 := Lib.hid hn2
                clear hc hsg hn
                go_wp2_with fail
                refine (letter_any _ _).mono ?_; rintro e w' ⟨rfl, rfl⟩; rw [m2]
                go_wp2_with fail
                refine (place_any l 62 k _ hk hl).mono ?_; rintro e w' ⟨rfl, rfl⟩; rw [hp]
                go_wp2_with fail
                exact ⟨⟨k + n + 1, out ++ [32], by go_num, rfl, hst.out⟩, by simp [intOf]; omega⟩
          · rw [m1] at hat
            have ho : opensB (l.drop k) = false := hat
            have hst := Lib.hid (hsg.out (Or.inl ho))
            have b3 : (bt l (k + 1) == 47) = false := by simpa using m3
            have b4 : (bt l (k + 1) == 33) = false := by simpa using m4
            have b5 : (bt l (k + 1) == 63) = false := by simpa using m5
            clear hat m1 m3 m4 m5 hc hsg
            replace ho := Lib.hid ho
            go_wp2_with fail
            refine (letter_any _ _).mono ?_; rintro e w' ⟨rfl, rfl⟩; rw [m2]
            go_wp2_with fail
            exact ⟨⟨k + 1, _, by go_num, rfl, hst.out⟩, by simp [intOf]; omega⟩
        · have hk1' : ¬ ((k : Int) + 1 < l.length) := by omega
          rw [h60, decide_eq_false hk1] at hat
          have ho : opensB (l.drop k) = false := hat
          have hst := Lib.hid (hsg.out (Or.inl ho))
          clear hat hc hsg
          replace ho := Lib.hid ho
          go_wp2_with fail
          exact ⟨⟨k + 1, _, by go_num, rfl, hst.out⟩, by simp [intOf]; omega⟩
      · have b6 : (bt l k == 60) = false := by simpa using h60
        rw [b6] at hat
        have ho : opensB (l.drop k) = false := hat
        have hst := Lib.hid (hsg.out (Or.inl ho))
        clear hat hc hsg h60
        replace ho := Lib.hid ho
        go_wp2_with fail
        exact ⟨⟨k + 1, _, by go_num, rfl, hst.out⟩, by simp [intOf]; omega⟩
    · have hke : ¬ ((k : Int) < l.length) := by omega
      have hq := Lib.hid (hc.done hlt)
      replace hc := Lib.hid hc
      go_wp2_with fail
      go_ret
      exact ⟨ret_str hq.out, rfl⟩
end Go.Proofs.Ytahjopajnckbaaa
