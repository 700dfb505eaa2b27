/- The walks of put at what is no rune, Bytes, Encode: the program's and the reference's. -/
import Derived.Test.YtahohmdbiiknoaaGreatDoorBR09
import Derived.Test.YtahohmdbiiknoaaGreatDoorBR01
import Derived.Test.YtahohmdbiiknoaaGreatDoorBR02
import Derived.Shelf.Small.Wraps
import Derived.Shelf.Strings.Prefix
import Derived.Shelf.Small.Strs
import Derived.Shelf.Strings.LastIndex
namespace Go.Proofs.YtahohmdbiiknoaaGreatDoor
open Go.RowKit

/-- What a loop that encodes keeps. -/
structure EncAt (l : List Int) (w : World) (k : Nat) (wr : World) (v : Value) : Prop where
  le : k ≤ l.length
  own : Byts wr w.heap.size v ((l.take k).flatMap encI)
  below : Below w.heap.size w wr

theorem encI_len (r : Int) : (encI r).length ≤ 4 := by
  unfold encI encR; split <;> (repeat' split) <;> simp
theorem flat_len (l : List Int) : (l.flatMap encI).length ≤ 4 * l.length := by
  induction l with
  | nil => simp
  | cons a l ih => have := encI_len a; rw [List.flatMap_cons, List.length_append, List.length_cons]; omega
theorem flat_take (l : List Int) (k : Nat) (h : k < l.length) : (l.take (k + 1)).flatMap encI = (l.take k).flatMap encI ++ encI l[k] := by
  rw [List.take_succ_eq_append_getElem h, List.flatMap_append]; simp

theorem enc_len (r : Int) : (enc r).length ≤ 4 := by unfold enc; rw [List.length_map]; exact encI_len r
theorem encAll_len (l : List Int) : (encAll l).length ≤ 4 * l.length := by unfold encAll; rw [List.length_map]; exact flat_len l
theorem encAll_take {l : List Int} {k : Nat} (h : k < l.length) : encAll (l.take k) ++ enc l[k] = encAll (l.take (k + 1)) := by
  unfold encAll enc; rw [flat_take l k h, List.map_append]

theorem i32_and63 {x : Int} (h0 : 0 ≤ x) (h1 : x < 2147483648) : bits .and .i32 x 63 = x % 64 := bits_mask .i32 31 (by decide) wraps_i32 6 (by decide) _ h0 h1
theorem i32_or128 {x : Int} (h0 : 0 ≤ x) (h1 : x < 64) : bits .or .i32 128 x = 128 + x := i32_or6 128 x (by decide) (by decide) (by decide) h0 h1
theorem i32_or224 {x : Int} (h0 : 0 ≤ x) (h1 : x < 16) : bits .or .i32 224 x = 224 + x := bits_join .i32 31 (by decide) wraps_i32 4 224 x (by decide) (by decide) (by decide) h0 h1 (by omega)
theorem i32_or240 {x : Int} (h0 : 0 ≤ x) (h1 : x < 8) : bits .or .i32 240 x = 240 + x := bits_join .i32 31 (by decide) wraps_i32 3 240 x (by decide) (by decide) (by decide) h0 h1 (by omega)
theorem i32_or192 {x : Int} (h0 : 0 ≤ x) (h1 : x < 32) : bits .or .i32 192 x = 192 + x := bits_join .i32 31 (by decide) wraps_i32 5 192 x (by decide) (by decide) (by decide) h0 h1 (by omega)

theorem encR_cases (r : Int) : (r < 128 ∧ encR r = [r] ∧ folN r = 0) ∨ (128 ≤ r ∧ r < 2048 ∧ encR r = [192 + r / 64, 128 + r % 64] ∧ folN r = 1) ∨
      (2048 ≤ r ∧ r < 65536 ∧ encR r = [224 + r / 4096, 128 + r / 64 % 64, 128 + r % 64] ∧ folN r = 2) ∨
      (65536 ≤ r ∧ encR r = [240 + r / 262144, 128 + r / 4096 % 64, 128 + r / 64 % 64, 128 + r % 64] ∧ folN r = 3) := by
  unfold encR folN
  by_cases h1 : r < 128
  · rw [if_pos h1, if_pos h1]; exact Or.inl ⟨h1, rfl, rfl⟩
  · by_cases h2 : r < 2048
    · rw [if_neg h1, if_pos h2, if_neg h1, if_pos h2]; exact Or.inr (Or.inl ⟨by omega, h2, rfl, rfl⟩)
    · by_cases h3 : r < 65536
      · rw [if_neg h1, if_neg h2, if_pos h3, if_neg h1, if_neg h2, if_pos h3]; exact Or.inr (Or.inr (Or.inl ⟨by omega, h3, rfl, rfl⟩))
      · rw [if_neg h1, if_neg h2, if_neg h3, if_neg h1, if_neg h2, if_neg h3]; exact Or.inr (Or.inr (Or.inr ⟨by omega, rfl, rfl⟩))


set_option maxHeartbeats 400000 in
theorem refbytesR_any (r : Int) (w : World) (hr : isR r = true) :
    Calls Tryz.prog 46 #[.int .i32 r] w fun e w' => e = .returned (.string ⟨((encR r).map u8).toArray⟩) ∧ Below w.heap.size w w' := by
  have hb := isR_bd hr
  have hc1 := fun (w : World) (a : Int) => run_str_new (P := Tryz.prog) w 51 9 5 5 Tryz.underlying51 Tryz.underlying5 Tryz.underlying9 [a] 1 1 rfl
  have hc2 := fun (w : World) (a b : Int) => run_str_new (P := Tryz.prog) w 51 9 5 5 Tryz.underlying51 Tryz.underlying5 Tryz.underlying9 [a, b] 2 2 rfl
  have hc3 := fun (w : World) (a b c : Int) => run_str_new (P := Tryz.prog) w 51 9 5 5 Tryz.underlying51 Tryz.underlying5 Tryz.underlying9 [a, b, c] 3 3 rfl
  have hc4 := fun (w : World) (a b c d : Int) => run_str_new (P := Tryz.prog) w 51 9 5 5 Tryz.underlying51 Tryz.underlying5 Tryz.underlying9 [a, b, c, d] 4 4 rfl
  simp only [List.map_cons, List.map_nil] at hc1 hc2 hc3 hc4
  have a0 : bits .and .i32 r 63 = r % 64 := i32_and63 (by omega) (by omega)
  have a1 : bits .and .i32 (r / 64) 63 = r / 64 % 64 := i32_and63 (by omega) (by omega)
  have a2 : bits .and .i32 (r / 4096) 63 = r / 4096 % 64 := i32_and63 (by omega) (by omega)
  have o0 : bits .or .i32 128 (r % 64) = 128 + r % 64 := i32_or128 (by omega) (by omega)
  have o1 : bits .or .i32 128 (r / 64 % 64) = 128 + r / 64 % 64 := i32_or128 (by omega) (by omega)
  have o2 : bits .or .i32 128 (r / 4096 % 64) = 128 + r / 4096 % 64 := i32_or128 (by omega) (by omega)
  rcases encR_cases r with ⟨c1, ce, cf⟩ | ⟨c1, c2, ce, cf⟩ | ⟨c1, c2, ce, cf⟩ | ⟨c1, ce, cf⟩
  · rw [ce]
    clear cf ce
    go_enter Tryz.func46, Tryz.ntmps46
    go_wp2_with fail
    refine (refis_any r _).mono ?_; rintro e w' ⟨rfl, rfl⟩
    go_wp2_with fail
    go_ret
    exact ⟨rfl, (Below.refl _ _).alloc (Nat.le_refl _) _⟩
  · rw [ce]
    clear cf ce
    have o3 : bits .or .i32 192 (r / 64) = 192 + r / 64 := i32_or192 (by omega) (by omega)
    go_enter Tryz.func46, Tryz.ntmps46
    go_wp2_with fail
    refine (refis_any r _).mono ?_; rintro e w' ⟨rfl, rfl⟩
    go_wp2_with fail
    go_ret
    exact ⟨rfl, (Below.refl _ _).alloc (Nat.le_refl _) _⟩
  · rw [ce]
    clear cf ce
    have o3 : bits .or .i32 224 (r / 4096) = 224 + r / 4096 := i32_or224 (by omega) (by omega)
    go_enter Tryz.func46, Tryz.ntmps46
    go_wp2_with fail
    refine (refis_any r _).mono ?_; rintro e w' ⟨rfl, rfl⟩
    go_wp2_with fail
    go_ret
    exact ⟨rfl, (Below.refl _ _).alloc (Nat.le_refl _) _⟩
  · rw [ce]
    clear cf ce
    have o3 : bits .or .i32 240 (r / 262144) = 240 + r / 262144 := i32_or240 (by omega) (by omega)
    go_enter Tryz.func46, Tryz.ntmps46
    go_wp2_with fail
    refine (refis_any r _).mono ?_; rintro e w' ⟨rfl, rfl⟩
    go_wp2_with fail
    go_ret
    exact ⟨rfl, (Below.refl _ _).alloc (Nat.le_refl _) _⟩

set_option maxHeartbeats 400000 in
theorem refbytes_any (r : Int) (w : World) :
    Calls Tryz.prog 46 #[.int .i32 r] w fun e w' => e = .returned (.string ⟨(enc r).toArray⟩) ∧ Below w.heap.size w w' := by
  cases hr : isR r
  · rw [show enc r = [239, 191, 189].map u8 from by unfold enc encI; rw [hr]; rfl]
    have hc3 := fun (w : World) (a b c : Int) => run_str_new (P := Tryz.prog) w 51 9 5 5 Tryz.underlying51 Tryz.underlying5 Tryz.underlying9 [a, b, c] 3 3 rfl
    simp only [List.map_cons, List.map_nil] at hc3
    have e1 : bits .and .i32 1023 63 = 63 := i32_and63 (by decide) (by decide)
    have e2 : bits .and .i32 65533 63 = 61 := i32_and63 (by decide) (by decide)
    have e3 : bits .or .i32 128 63 = 191 := i32_or128 (by decide) (by decide)
    have e4 : bits .or .i32 128 61 = 189 := i32_or128 (by decide) (by decide)
    have e5 : bits .or .i32 224 15 = 239 := i32_or224 (by decide) (by decide)
    go_enter Tryz.func46, Tryz.ntmps46
    go_wp2_with fail
    refine (refis_any r _).mono ?_; rintro e w' ⟨rfl, rfl⟩
    go_wp2_with fail
    go_ret
    exact ⟨rfl, (Below.refl _ _).alloc (Nat.le_refl _) _⟩
  · have : enc r = (encR r).map u8 := by unfold enc encI; rw [hr]; rfl
    rw [this]
    exact refbytesR_any r w hr

end Go.Proofs.YtahohmdbiiknoaaGreatDoor

/- Layer 10's small walks: Char, digit, letter; the program's and the reference's. -/
namespace Go.Proofs.YtahohmdbiiknoaaGreatDoor
open Go.RowKit

theorem char_ret {r : Int} {b : Bool} (h : (r = 9 ∨ r = 10 ∨ r = 13 ∨ 32 ≤ r ∧ r ≤ 55295 ∨ 57344 ≤ r ∧ r ≤ 65533 ∨ 65536 ≤ r ∧ r ≤ 1114111) ↔ b = true) : Ending.returned (.bool b) = .returned (.bool (charB r)) := by
  rw [show charB r = b from by unfold charB; cases b <;> simp at h ⊢ <;> omega]

set_option maxHeartbeats 400000 in
theorem refchar_any (r : Int) (w : World) :
    Calls Tryz.prog 15 #[.int .i32 r] w fun e w' => e = .returned (.bool (charB r)) ∧ w = w' := by
  go_enter Tryz.func15, Tryz.ntmps15
  go_wp2
  all_goals go_ret
  all_goals refine ⟨char_ret ?_, rfl⟩
  all_goals simp only [Bool.or_eq_true, decide_eq_true_eq, beq_iff_eq, iff_true]
  all_goals omega

theorem dig_ret {k : IntKind} {c x : Int} (h : x = digN c) : Ending.returned (.int k x) = .returned (.int k (digN c)) := by rw [h]

def digB (c b : Int) : Int := if b ≤ digN c then -1 else digN c
theorem digB_ret {k : IntKind} {c b x : Int} (h : x = digB c b) : Ending.returned (.int k x) = .returned (.int k (digB c b)) := by rw [h]

set_option maxHeartbeats 400000 in
theorem refdigit_any (c b : Int) (w : World) (h0 : 0 ≤ c) (h1 : c ≤ 255) (hb : 0 < b) :
    Calls Tryz.prog 64 #[.int .u8 c, .int .i64 b] w fun e w' => e = .returned (.int .i64 (digB c b)) ∧ w = w' := by
  go_enter Tryz.func64, Tryz.ntmps64
  go_wp2
  all_goals go_ret
  all_goals refine ⟨digB_ret ?_, rfl⟩
  all_goals (unfold digB digN; repeat (first | rw [if_pos (by omega)] | rw [if_neg (by omega)]))
  all_goals omega

def letN (c : Int) : Bool := decide (97 ≤ c ∧ c ≤ 122 ∨ 65 ≤ c ∧ c ≤ 90)
theorem letter_ret {c : Int} {b : Bool} (h : (97 ≤ c ∧ c ≤ 122 ∨ 65 ≤ c ∧ c ≤ 90) ↔ b = true) : Ending.returned (.bool b) = .returned (.bool (letN c)) := by
  rw [show letN c = b from by unfold letN; cases b <;> simp at h ⊢ <;> omega]

set_option maxHeartbeats 400000 in
theorem letter_any (c : Int) (w : World) :
    Calls Tryz.prog 30 #[.int .u8 c] w fun e w' => e = .returned (.bool (letN c)) ∧ w = w' := by
  go_enter Tryz.func30, Tryz.ntmps30
  go_wp2
  all_goals go_ret
  all_goals refine ⟨letter_ret ?_, rfl⟩
  all_goals simp only [Bool.or_eq_true, decide_eq_true_eq, iff_true, Bool.false_eq_true, iff_false]
  all_goals omega

end Go.Proofs.YtahohmdbiiknoaaGreatDoor

/- Layer 10's small walks: opens, blank. -/
namespace Go.Proofs.YtahohmdbiiknoaaGreatDoor
open Go.RowKit

theorem opens_ret {l : List UInt8} {b : Bool} (hl : 2 ≤ l.length) (h : (bt l 0 = 60 ∧ (97 ≤ bt l 1 ∧ bt l 1 ≤ 122 ∨ 65 ≤ bt l 1 ∧ bt l 1 ≤ 90 ∨ bt l 1 = 47 ∨ bt l 1 = 33 ∨ bt l 1 = 63)) ↔ b = true) :
    Ending.returned (.bool b) = .returned (.bool (opensB l)) := by
  rw [show opensB l = b from by
    unfold opensB markN
    rw [Bool.eq_iff_iff, ← h]
    simp only [Bool.and_eq_true, decide_eq_true_eq, beq_iff_eq]
    omega]

theorem blankN_ret {l : List UInt8} {n : Int} (h : n = (if bt l 0 = 32 ∨ 9 ≤ bt l 0 ∧ bt l 0 ≤ 13 then 1 else if 2 ≤ l.length ∧ bt l 0 = 194 ∧ bt l 1 = 160 then 2 else 0)) : Ending.returned (.int .i64 n) = .returned (.int .i64 (blankN l)) := by
  rw [h]; unfold blankN
  split
  · rfl
  · split <;> rfl

set_option maxHeartbeats 400000 in
theorem refblank_any (l : List UInt8) (k : Nat) (w : World) (hk : k < l.length) (hl : l.length ≤ 10000000) :
    Calls Tryz.prog 19 #[.string ⟨l.toArray⟩, .int .i64 k] w fun e w' => e = .returned (.int .i64 (blankN (l.drop k))) ∧ w = w' := by
  have hb := bt_lt l k
  have hc := bt_lt l (k + 1)
  go_enter Tryz.func19, Tryz.ntmps19
  go_wp2
  all_goals go_ret
  all_goals refine ⟨blankN_ret ?_, rfl⟩
  all_goals rw [bt_drop, bt_drop, List.length_drop, Nat.add_zero]
  all_goals try simp only [beq_iff_eq, beq_eq_false_iff_ne, ne_eq] at *
  all_goals (repeat (first | rw [if_pos (by omega)] | rw [if_neg (by omega)]))
end Go.Proofs.YtahohmdbiiknoaaGreatDoor

/- strings.CutPrefix at this program, by the library's contract (made by wip/tools/shelf2tpl.py), over texts as lists of bytes. -/
namespace Go.Proofs.YtahohmdbiiknoaaGreatDoor
open Go.RowKit Go.Shelf Go.Lib
end Go.Proofs.YtahohmdbiiknoaaGreatDoor

/- strings.IndexByte, LastIndexByte, HasPrefix (CutPrefix: XCp) at this program, by the library's contracts (made by wip/tools/shelf2tpl.py), over texts as lists of bytes. -/
namespace Go.Proofs.YtahohmdbiiknoaaGreatDoor
open Go.RowKit Go.Shelf Go.Lib
/-- The last place of a byte, or -1. -/
def lastB (l : List UInt8) (c : Int) : Int := Lib.lastIndexByte ⟨l.toArray⟩ c
theorem lastB_spec (l : List UInt8) (c : Int) : (lastB l c = -1 ∧ ∀ j, j < l.length → bt l j ≠ c) ∨ ∃ i : Nat, i < l.length ∧ lastB l c = i ∧ bt l i = c ∧ ∀ j, i < j → j < l.length → bt l j ≠ c := by
  have hb : ∀ j, (((⟨l.toArray⟩ : ByteArray).data[j]!).toNat : Int) = bt l j := by
    intro j
    unfold bt
    simp [List.getD, List.getElem!_eq_getElem?_getD]
    rfl
  rcases Lib.lastIndexByte_spec ⟨l.toArray⟩ c with ⟨h1, h2⟩ | ⟨i, h1, h2, h3, h4⟩
  · exact Or.inl ⟨h1, fun j hj => by rw [← hb]; exact h2 j hj⟩
  · exact Or.inr ⟨i, h1, h2, by rw [← hb]; exact h3, fun j h5 h6 => by rw [← hb]; exact h4 j h5 h6⟩
end Go.Proofs.YtahohmdbiiknoaaGreatDoor

/- Layer 10's walks of numbers and names: number, numbered, Named; the program's and the reference's. -/
namespace Go.Proofs.YtahohmdbiiknoaaGreatDoor
open Go.RowKit

theorem numC_step (b r : Int) (l : List UInt8) (k : Nat) (h : k < l.length) : numC b r (l.drop k) = if digN (bt l k) < 0 ∨ b ≤ digN (bt l k) then -1 else numC b (min (r * b + digN (bt l k)) 1114112) (l.drop (k + 1)) := by
  rw [List.drop_eq_getElem_cons h]
  conv => lhs; unfold numC
  have : ((l[k].toNat : Nat) : Int) = bt l k := by unfold bt; simp [List.getD, h]
  rw [this]
theorem numC_end (b r : Int) (l : List UInt8) : numC b r (l.drop l.length) = r := by simp [numC]

theorem numR_step (b n : Int) (l : List UInt8) (k : Nat) (h : k < l.length) : numR b n (l.drop k) = if digN (bt l k) < 0 ∨ b ≤ digN (bt l k) ∨ 1114111 < n then none else numR b (n * b + digN (bt l k)) (l.drop (k + 1)) := by
  rw [List.drop_eq_getElem_cons h]
  conv => lhs; unfold numR
  have : ((l[k].toNat : Nat) : Int) = bt l k := by unfold bt; simp [List.getD, h]
  rw [this]
theorem numR_end (b n : Int) (l : List UInt8) : numR b n (l.drop l.length) = some n := by simp [numR]
def numV (b : Int) (l : List UInt8) : Int := (numR b 0 l).getD 0
def numK (b : Int) (l : List UInt8) : Bool := numOk (numR b 0 l)
theorem num_ret {b x : Int} {l : List UInt8} {ok : Bool} (h1 : x = numV b l) (h2 : ok = numK b l) : Ending.returned (.tuple #[.int .i32 x, .bool ok]) = .returned (.tuple #[.int .i32 (numV b l), .bool (numK b l)]) := by rw [h1, h2]

set_option maxHeartbeats 1000000 in
theorem refnumber_any (b : Int) (hb : b = 10 ∨ b = 16) (l : List UInt8) (w : World) (hl : l.length ≤ 100000000) :
    Calls Tryz.prog 45 #[.string ⟨l.toArray⟩, .int .i64 b] w fun e w' => e = .returned (.tuple #[.int .i32 (numV b l), .bool (numK b l)]) ∧ w = w' := by
  by_cases h0 : l = []
  · subst h0
    go_enter Tryz.func45, Tryz.ntmps45
    go_wp2_with fail
    refine wp_loop_rounds 1 ?_; rw [rounds_succ]
    go_wp2_with fail
    go_ret2
    exact ⟨rfl, rfl⟩
  have he : l.isEmpty = false := by cases l <;> simp_all
  have hb0 : 0 < b ∧ b ≤ 16 := by omega
  have hbm : ∀ r : Int, 0 ≤ r → r ≤ 1114111 → 0 ≤ r * b ∧ r * b ≤ 17825776 := by
    intro r h0 h1
    rcases hb with rfl | rfl <;> omega
  replace hb := Lib.hid hb
  replace hbm := Lib.hid hbm
  replace h0 := Lib.hid h0
  go_enter Tryz.func45, Tryz.ntmps45
  go_wp2_with fail
  go_loop [6, 7] (fun r i => ∃ (k : Nat) (x : Int), i = .int .i64 k ∧ r = .int .i64 x ∧ k ≤ l.length ∧ 0 ≤ x ∧ x ≤ 17825791 ∧ Hid (numR b x (l.drop k) = numR b 0 l)) (fun _ i => l.length - (intOf i).toNat)
  case atStart => exact ⟨0, 0, rfl, rfl, Nat.zero_le _, by omega, by omega, show numR b 0 (l.drop 0) = numR b 0 l by rw [List.drop_zero]⟩
  case round =>
    obtain ⟨k, x, rfl, rfl, hk, hx0, hx1, hn⟩ := hrel
    by_cases hlt : k < l.length
    · have hbk := bt_lt l k
      have hd := digN_bd (bt l k)
      have hst := numR_step b x l k hlt
      rw [hn.out] at hst
      obtain ⟨d, hde⟩ : ∃ d, digB (bt l k) b = d := ⟨_, rfl⟩
      have hdd : (d < 0 ∧ (digN (bt l k) < 0 ∨ b ≤ digN (bt l k))) ∨ (0 ≤ d ∧ d < b ∧ digN (bt l k) = d) := by
        rw [← hde]; unfold digB
        split <;> omega
      replace hde := Lib.hid hde
      clear hn
      by_cases h1 : d < 0
      · rw [if_pos (by omega)] at hst
        replace hst := Lib.hid hst
        clear hdd hd
        go_wp2_with fail
        refine (refdigit_any _ b _ hbk.1 hbk.2 hb0.1).mono ?_; rintro e w' ⟨rfl, rfl⟩; rw [hde.out]
        go_wp2_with fail
        go_ret2
        exact ⟨num_ret (by unfold numV; rw [hst.out]; rfl) (by unfold numK; rw [hst.out]; rfl), rfl⟩
      by_cases h2 : 1114111 < x
      · rw [if_pos (by omega)] at hst
        replace hst := Lib.hid hst
        clear hdd hd
        go_wp2_with fail
        refine (refdigit_any _ b _ hbk.1 hbk.2 hb0.1).mono ?_; rintro e w' ⟨rfl, rfl⟩; rw [hde.out]
        go_wp2_with fail
        go_ret2
        exact ⟨num_ret (by unfold numV; rw [hst.out]; rfl) (by unfold numK; rw [hst.out]; rfl), rfl⟩
      have hdq : digN (bt l k) = d := by omega
      rw [if_neg (by omega), hdq] at hst
      have hd2 : 0 ≤ d ∧ d ≤ 15 := by omega
      clear hdd hd hdq
      replace hst := Lib.hid hst
      obtain ⟨hm0, hm1⟩ := hbm.out x hx0 (by omega)
      go_wp2_with fail
      refine (refdigit_any _ b _ hbk.1 hbk.2 hb0.1).mono ?_; rintro e w' ⟨rfl, rfl⟩; rw [hde.out]
      go_wp2_with fail
      exact ⟨⟨k + 1, x * b + d, by go_num, rfl, by omega, by omega, by omega, hst.out.symm⟩, by simp [intOf]; omega⟩
    · have hke : ¬ ((k : Int) < l.length) := by omega
      have hkl : k = l.length := by omega
      have hq := hn.out
      rw [hkl, numR_end] at hq
      replace hq := Lib.hid hq
      replace hkl := Lib.hid hkl
      clear hn
      by_cases h3 : x ≤ 1114111
      · go_wp2_with fail
        refine (refchar_any _ _).mono ?_; rintro e w' ⟨rfl, rfl⟩
        go_wp2_with fail
        go_ret2
        refine ⟨num_ret ?_ ?_, rfl⟩
        · unfold numV; rw [← hq.out]; rfl
        · unfold numK; rw [← hq.out]; unfold numOk; simp [h3]
      · go_wp2_with fail
        go_ret2
        refine ⟨num_ret ?_ ?_, rfl⟩
        · unfold numV; rw [← hq.out]; rfl
        · unfold numK; rw [← hq.out]; unfold numOk; simp; intro h; omega
end Go.Proofs.YtahohmdbiiknoaaGreatDoor
