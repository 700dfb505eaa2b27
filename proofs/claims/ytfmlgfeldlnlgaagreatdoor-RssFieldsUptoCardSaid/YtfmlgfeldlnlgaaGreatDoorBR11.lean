/- strings.IndexByte, LastIndexByte, HasPrefix (CutPrefix: XCp) at this program, by the library's contracts (made by wip/tools/shelf2tpl.py), over texts as lists of bytes. -/
import Derived.Shelf.Small.Strs
import Derived.Shelf.Strings.LastIndex
import Derived.Shelf.Strings.Prefix
import Derived.Test.YtfmlgfeldlnlgaaGreatDoorBR10
import Derived.Test.YtfmlgfeldlnlgaaGreatDoorBR07
namespace Go.Proofs.YtfmlgfeldlnlgaaGreatDoor
open Go.RowKit Go.Shelf Go.Lib
def Laid.lays137_ren : Go.Shelf.Ren := ⟨fun | 137 => 96 | 217 => 118 | 266 => 135 | n => n, fun | 9 => 9 | 5 => 5 | 3 => 3 | n => n, fun | n => n⟩
theorem Laid.lays137 : Go.Proofs.Lays.n137 Tryz.prog Laid.lays137_ren := {
  mixed := by kernel_rfl
  f137 := Tryz.func96.trans (congrArg some (by kernel_rfl))
  f217 := Tryz.func118.trans (congrArg some (by kernel_rfl))
  f266 := Tryz.func135.trans (congrArg some (by kernel_rfl))
  t3 := Tryz.underlying3
  a3 := Tryz.isAgg3
  z3 := Tryz.sizeOf3
  v3 := Tryz.zeroValue3
  t5 := Tryz.underlying5
  a5 := Tryz.isAgg5
  z5 := Tryz.sizeOf5
  v5 := Tryz.zeroValue5
  t9 := Tryz.underlying9
  a9 := Tryz.isAgg9
  z9 := Tryz.sizeOf9
  v9 := Tryz.zeroValue9 }
open Go.RowKit in
theorem Laid.strings_IndexByte (s : ByteArray) (c : Int) (w : World) :
    Calls Tryz.prog 96 #[.string s, .int .u8 c] w fun e w' => e = .returned (.int .i64 (Lib.indexByte s.data.toList c.toNat.toUInt8)) ∧ w' = w := Any.strings_IndexByte Laid.lays137 s c w
def Laid.lays149_ren : Go.Shelf.Ren := ⟨fun | 149 => 94 | 222 => 117 | n => n, fun | 9 => 9 | 5 => 5 | 3 => 3 | 4 => 4 | n => n, fun | n => n⟩
theorem Laid.lays149 : Go.Proofs.Lays.n149 Tryz.prog Laid.lays149_ren := {
  mixed := by kernel_rfl
  f149 := Tryz.func94.trans (congrArg some (by kernel_rfl))
  f222 := Tryz.func117.trans (congrArg some (by kernel_rfl))
  t3 := Tryz.underlying3
  a3 := Tryz.isAgg3
  z3 := Tryz.sizeOf3
  v3 := Tryz.zeroValue3
  t4 := Tryz.underlying4
  a4 := Tryz.isAgg4
  z4 := Tryz.sizeOf4
  v4 := Tryz.zeroValue4
  t5 := Tryz.underlying5
  a5 := Tryz.isAgg5
  z5 := Tryz.sizeOf5
  v5 := Tryz.zeroValue5
  t9 := Tryz.underlying9
  a9 := Tryz.isAgg9
  z9 := Tryz.sizeOf9
  v9 := Tryz.zeroValue9 }
open Go.RowKit Go.Lib in
theorem Laid.strings_LastIndexByte (s : ByteArray) (c : Int) (hs : s.size < 4611686018427387904) (w : World) :
    Calls Tryz.prog 94 #[.string s, .int .u8 c] w fun e w' => e = .returned (.int .i64 (Lib.lastIndexByte s c)) ∧ w' = w := Any.strings_LastIndexByte Laid.lays149 s c hs w
def Laid.lays99_ren : Go.Shelf.Ren := ⟨fun | 99 => 115 | 206 => 131 | n => n, fun | 9 => 9 | 4 => 4 | 3 => 3 | n => n, fun | n => n⟩
theorem Laid.lays99 : Go.Proofs.Lays.n99 Tryz.prog Laid.lays99_ren := {
  mixed := by kernel_rfl
  f99 := Tryz.func115.trans (congrArg some (by kernel_rfl))
  f206 := Tryz.func131.trans (congrArg some (by kernel_rfl))
  t3 := Tryz.underlying3
  a3 := Tryz.isAgg3
  z3 := Tryz.sizeOf3
  v3 := Tryz.zeroValue3
  t4 := Tryz.underlying4
  a4 := Tryz.isAgg4
  z4 := Tryz.sizeOf4
  v4 := Tryz.zeroValue4
  t9 := Tryz.underlying9
  a9 := Tryz.isAgg9
  z9 := Tryz.sizeOf9
  v9 := Tryz.zeroValue9 }
open Go.RowKit Go.Lib in
theorem Laid.strings_HasPrefix (s p : ByteArray) (w : World) :
    Calls Tryz.prog 115 #[.string s, .string p] w fun e w' => e = .returned (.bool (Lib.hasPrefix s.data.toList p.data.toList)) ∧ w' = w := Any.strings_HasPrefix Laid.lays99 s p w

theorem indexByte_any (l : List UInt8) (c : Int) (w : World) :
    Calls Tryz.prog 96 #[.string ⟨l.toArray⟩, .int .u8 c] w fun e w' => e = .returned (.int .i64 (Lib.indexByte l c.toNat.toUInt8)) ∧ w = w' :=
  (Laid.strings_IndexByte ⟨l.toArray⟩ c w).mono fun _ _ h => ⟨h.1, h.2.symm⟩
theorem hasPrefix_any (l p : List UInt8) (w : World) :
    Calls Tryz.prog 115 #[.string ⟨l.toArray⟩, .string ⟨p.toArray⟩] w fun e w' => e = .returned (.bool (Lib.hasPrefix l p)) ∧ w = w' :=
  (Laid.strings_HasPrefix ⟨l.toArray⟩ ⟨p.toArray⟩ w).mono fun _ _ h => ⟨h.1, h.2.symm⟩
/-- The last place of a byte, or -1. -/
def lastB (l : List UInt8) (c : Int) : Int := Lib.lastIndexByte ⟨l.toArray⟩ c
theorem lastIndex_any (l : List UInt8) (c : Int) (w : World) (hl : l.length ≤ 100000000) :
    Calls Tryz.prog 94 #[.string ⟨l.toArray⟩, .int .u8 c] w fun e w' => e = .returned (.int .i64 (lastB l c)) ∧ w = w' :=
  (Laid.strings_LastIndexByte ⟨l.toArray⟩ c (by show l.length < _; omega) w).mono fun _ _ h => ⟨h.1, h.2.symm⟩
theorem lastB_spec (l : List UInt8) (c : Int) : (lastB l c = -1 ∧ ∀ j, j < l.length → bt l j ≠ c) ∨ ∃ i : Nat, i < l.length ∧ lastB l c = i ∧ bt l i = c ∧ ∀ j, i < j → j < l.length → bt l j ≠ c := by
  have hb : ∀ j, (((⟨l.toArray⟩ : ByteArray).data[j]!).toNat : Int) = bt l j := by
    intro j
    unfold bt
    simp [List.getD, List.getElem!_eq_getElem?_getD]
    rfl
  rcases Lib.lastIndexByte_spec ⟨l.toArray⟩ c with ⟨h1, h2⟩ | ⟨i, h1, h2, h3, h4⟩
  · exact Or.inl ⟨h1, fun j hj => by rw [← hb]; exact h2 j hj⟩
  · exact Or.inr ⟨i, h1, h2, by rw [← hb]; exact h3, fun j h5 h6 => by rw [← hb]; exact h4 j h5 h6⟩
end Go.Proofs.YtfmlgfeldlnlgaaGreatDoor

/- Layer 10's walks of numbers and names: number, numbered, Named; the program's and the reference's. -/
namespace Go.Proofs.YtfmlgfeldlnlgaaGreatDoor
open Go.RowKit

theorem numC_step (b r : Int) (l : List UInt8) (k : Nat) (h : k < l.length) : numC b r (l.drop k) = if digN (bt l k) < 0 ∨ b ≤ digN (bt l k) then -1 else numC b (min (r * b + digN (bt l k)) 1114112) (l.drop (k + 1)) := by
  rw [List.drop_eq_getElem_cons h]
  conv => lhs; unfold numC
  have : ((l[k].toNat : Nat) : Int) = bt l k := by unfold bt; simp [List.getD, h]
  rw [this]
theorem numC_end (b r : Int) (l : List UInt8) : numC b r (l.drop l.length) = r := by simp [numC]

set_option maxHeartbeats 1000000 in
theorem number_any (b : Int) (hb : b = 10 ∨ b = 16) (l : List UInt8) (w : World) (hl : l.length ≤ 100000000) :
    Calls Tryz.prog 141 #[.string ⟨l.toArray⟩, .int .i32 b] w fun e w' => e = .returned (.int .i32 (numC b 0 l)) ∧ w = w' := by
  go_enter Tryz.func141, Tryz.ntmps141
  have hb0 : 0 < b ∧ b ≤ 16 := by omega
  have hbm : ∀ r : Int, 0 ≤ r → r ≤ 1114112 → 0 ≤ r * b ∧ r * b ≤ 17825792 := by
    intro r h0 h1
    rcases hb with rfl | rfl <;> omega
  replace hb := Lib.hid hb
  replace hbm := Lib.hid hbm
  go_wp2_with fail
  go_loop [5, 10] (fun r i => ∃ (k : Nat) (x : Int), i = .int .i64 k ∧ r = .int .i32 x ∧ k ≤ l.length ∧ 0 ≤ x ∧ x ≤ 1114112 ∧ Hid (numC b x (l.drop k) = numC b 0 l)) (fun _ i => l.length - (intOf i).toNat)
  case atStart => exact ⟨0, 0, rfl, rfl, Nat.zero_le _, by omega, by omega, show numC b 0 (l.drop 0) = numC b 0 l by rw [List.drop_zero]⟩
  case round =>
    obtain ⟨k, x, rfl, rfl, hk, hx0, hx1, hn⟩ := hrel
    by_cases hlt : k < l.length
    · have hbk := bt_lt l k
      have hd := digN_bd (bt l k)
      have hst := numC_step b x l k hlt
      rw [hn.out] at hst
      obtain ⟨hm0, hm1⟩ := hbm.out x hx0 hx1
      obtain ⟨d, hde⟩ : ∃ d, digN (bt l k) = d := ⟨_, rfl⟩
      rw [hde] at hd hst
      replace hde := Lib.hid hde
      by_cases h1 : d < 0
      · rw [if_pos (Or.inl h1)] at hst
        replace hst := Lib.hid hst
        clear hn
        go_wp2_with fail
        refine (digit_any _ _ hbk.1 hbk.2).mono ?_; rintro e w' ⟨rfl, rfl⟩; rw [hde.out]
        go_wp2_with fail
        go_ret
        exact ⟨ret_i32 hst.out.symm, rfl⟩
      by_cases h2 : b ≤ d
      · rw [if_pos (Or.inr h2)] at hst
        replace hst := Lib.hid hst
        clear hn
        go_wp2_with fail
        refine (digit_any _ _ hbk.1 hbk.2).mono ?_; rintro e w' ⟨rfl, rfl⟩; rw [hde.out]
        go_wp2_with fail
        go_ret
        exact ⟨ret_i32 hst.out.symm, rfl⟩
      rw [if_neg (by omega)] at hst
      clear hn
      replace hst := Lib.hid hst
      go_wp2_with fail
      refine (digit_any _ _ hbk.1 hbk.2).mono ?_; rintro e w' ⟨rfl, rfl⟩; rw [hde.out]
      go_wp2_with fail
      exact ⟨⟨k + 1, min (x * b + d) 1114112, by go_num, rfl, by omega, by omega, by omega, hst.out.symm⟩, by simp [intOf]; omega⟩
    · have hke : ¬ ((k : Int) < l.length) := by omega
      have hkl : k = l.length := by omega
      replace hkl := Lib.hid hkl
      go_wp2_with fail
      go_ret
      refine ⟨ret_i32 ?_, rfl⟩
      have := hn.out
      rw [hkl.out, numC_end] at this
      exact this

theorem numR_step (b n : Int) (l : List UInt8) (k : Nat) (h : k < l.length) : numR b n (l.drop k) = if digN (bt l k) < 0 ∨ b ≤ digN (bt l k) ∨ 1114111 < n then none else numR b (n * b + digN (bt l k)) (l.drop (k + 1)) := by
  rw [List.drop_eq_getElem_cons h]
  conv => lhs; unfold numR
  have : ((l[k].toNat : Nat) : Int) = bt l k := by unfold bt; simp [List.getD, h]
  rw [this]
theorem numR_end (b n : Int) (l : List UInt8) : numR b n (l.drop l.length) = some n := by simp [numR]
def numV (b : Int) (l : List UInt8) : Int := (numR b 0 l).getD 0
def numK (b : Int) (l : List UInt8) : Bool := numOk (numR b 0 l)
theorem num_ret {b x : Int} {l : List UInt8} {ok : Bool} (h1 : x = numV b l) (h2 : ok = numK b l) : Ending.returned (.tuple #[.int .i32 x, .bool ok]) = .returned (.tuple #[.int .i32 (numV b l), .bool (numK b l)]) := by rw [h1, h2]

set_option maxHeartbeats 1000000 in
theorem refnumber_any (b : Int) (hb : b = 10 ∨ b = 16) (l : List UInt8) (w : World) (hl : l.length ≤ 100000000) :
    Calls Tryz.prog 119 #[.string ⟨l.toArray⟩, .int .i64 b] w fun e w' => e = .returned (.tuple #[.int .i32 (numV b l), .bool (numK b l)]) ∧ w = w' := by
  by_cases h0 : l = []
  · subst h0
    go_enter Tryz.func119, Tryz.ntmps119
    go_wp2_with fail
    refine wp_loop_rounds 1 ?_; rw [rounds_succ]
    go_wp2_with fail
    go_ret2
    exact ⟨rfl, rfl⟩
  have he : l.isEmpty = false := by cases l <;> simp_all
  have hb0 : 0 < b ∧ b ≤ 16 := by omega
  have hbm : ∀ r : Int, 0 ≤ r → r ≤ 1114111 → 0 ≤ r * b ∧ r * b ≤ 17825776 := by
    intro r h0 h1
    rcases hb with rfl | rfl <;> omega
  replace hb := Lib.hid hb
  replace hbm := Lib.hid hbm
  replace h0 := Lib.hid h0
  go_enter Tryz.func119, Tryz.ntmps119
  go_wp2_with fail
  go_loop [6, 7] (fun r i => ∃ (k : Nat) (x : Int), i = .int .i64 k ∧ r = .int .i64 x ∧ k ≤ l.length ∧ 0 ≤ x ∧ x ≤ 17825791 ∧ Hid (numR b x (l.drop k) = numR b 0 l)) (fun _ i => l.length - (intOf i).toNat)
  case atStart => exact ⟨0, 0, rfl, rfl, Nat.zero_le _, by omega, by omega, show numR b 0 (l.drop 0) = numR b 0 l by rw [List.drop_zero]⟩
  case round =>
    obtain ⟨k, x, rfl, rfl, hk, hx0, hx1, hn⟩ := hrel
    by_cases hlt : k < l.length
    · have hbk := bt_lt l k
      have hd := digN_bd (bt l k)
      have hst := numR_step b x l k hlt
      rw [hn.out] at hst
      obtain ⟨d, hde⟩ : ∃ d, digB (bt l k) b = d := ⟨_, rfl⟩
      have hdd : (d < 0 ∧ (digN (bt l k) < 0 ∨ b ≤ digN (bt l k))) ∨ (0 ≤ d ∧ d < b ∧ digN (bt l k) = d) := by
        rw [← hde]; unfold digB
        split <;> omega
      replace hde := Lib.hid hde
      clear hn
      by_cases h1 : d < 0
      · rw [if_pos (by omega)] at hst
        replace hst := Lib.hid hst
        clear hdd hd
        go_wp2_with fail
        refine (refdigit_any _ b _ hbk.1 hbk.2 hb0.1).mono ?_; rintro e w' ⟨rfl, rfl⟩; rw [hde.out]
        go_wp2_with fail
        go_ret2
        exact ⟨num_ret (by unfold numV; rw [hst.out]; rfl) (by unfold numK; rw [hst.out]; rfl), rfl⟩
      by_cases h2 : 1114111 < x
      · rw [if_pos (by omega)] at hst
        replace hst := Lib.hid hst
        clear hdd hd
        go_wp2_with fail
        refine (refdigit_any _ b _ hbk.1 hbk.2 hb0.1).mono ?_; rintro e w' ⟨rfl, rfl⟩; rw [hde.out]
        go_wp2_with fail
        go_ret2
        exact ⟨num_ret (by unfold numV; rw [hst.out]; rfl) (by unfold numK; rw [hst.out]; rfl), rfl⟩
      have hdq : digN (bt l k) = d := by omega
      rw [if_neg (by omega), hdq] at hst
      have hd2 : 0 ≤ d ∧ d ≤ 15 := by omega
      clear hdd hd hdq
      replace hst := Lib.hid hst
      obtain ⟨hm0, hm1⟩ := hbm.out x hx0 (by omega)
      go_wp2_with fail
      refine (refdigit_any _ b _ hbk.1 hbk.2 hb0.1).mono ?_; rintro e w' ⟨rfl, rfl⟩; rw [hde.out]
      go_wp2_with fail
      exact ⟨⟨k + 1, x * b + d, by go_num, rfl, by omega, by omega, by omega, hst.out.symm⟩, by simp [intOf]; omega⟩
    · have hke : ¬ ((k : Int) < l.length) := by omega
      have hkl : k = l.length := by omega
      have hq := hn.out
      rw [hkl, numR_end] at hq
      replace hq := Lib.hid hq
      replace hkl := Lib.hid hkl
      clear hn
      by_cases h3 : x ≤ 1114111
      · go_wp2_with fail
        refine (refchar_any _ _).mono ?_; rintro e w' ⟨rfl, rfl⟩
        go_wp2_with fail
        go_ret2
        refine ⟨num_ret ?_ ?_, rfl⟩
        · unfold numV; rw [← hq.out]; rfl
        · unfold numK; rw [← hq.out]; unfold numOk; simp [h3]
      · go_wp2_with fail
        go_ret2
        refine ⟨num_ret ?_ ?_, rfl⟩
        · unfold numV; rw [← hq.out]; rfl
        · unfold numK; rw [← hq.out]; unfold numOk; simp; intro h; omega
end Go.Proofs.YtfmlgfeldlnlgaaGreatDoor

/- Layer 10's walks of names: numbered, Named; the program's and the reference's. -/
namespace Go.Proofs.YtfmlgfeldlnlgaaGreatDoor
open Go.RowKit

set_option maxHeartbeats 1000000 in
theorem numbered_any (l : List UInt8) (w : World) (hl : l.length ≤ 100000000) :
    Calls Tryz.prog 132 #[.string ⟨l.toArray⟩] w fun e w' => e = .returned (.int .i32 (numI l)) ∧ w = w' := by
  have c1 := fun W : World => cutPrefix_any l [35, 120] W
  have c2 := fun W : World => cutPrefix_any l [35] W
  unfold Lib.trimPrefix at c1 c2
  unfold numI
  cases h1 : Lib.hasPrefix l [35, 120]
  · rw [h1] at c1
    cases h2 : Lib.hasPrefix l [35]
    · rw [h2] at c2
      simp only [Bool.false_eq_true, if_false] at c1 c2 ⊢
      replace c1 := Lib.hid c1
      replace c2 := Lib.hid c2
      replace h1 := Lib.hid h1
      replace h2 := Lib.hid h2
      go_enter Tryz.func132, Tryz.ntmps132
      go_wp2_with fail
      refine (c1.out _).mono ?_; rintro e w' ⟨rfl, rfl⟩
      go_wp2_with fail
      refine (c2.out _).mono ?_; rintro e w' ⟨rfl, rfl⟩
      go_wp2_with fail
      go_ret
      exact ⟨rfl, rfl⟩
    · rw [h2] at c2
      simp only [Bool.false_eq_true, if_false, if_true, List.length_cons, List.length_nil, Nat.zero_add] at c1 c2 ⊢
      obtain ⟨m, hm⟩ : ∃ m, l.drop 1 = m := ⟨_, rfl⟩
      have hml : m.length ≤ 100000000 := by rw [← hm, List.length_drop]; omega
      rw [hm] at c2 ⊢
      clear hm
      replace c1 := Lib.hid c1
      replace c2 := Lib.hid c2
      replace h1 := Lib.hid h1
      replace h2 := Lib.hid h2
      go_enter Tryz.func132, Tryz.ntmps132
      go_wp2_with fail
      refine (c1.out _).mono ?_; rintro e w' ⟨rfl, rfl⟩
      go_wp2_with fail
      refine (c2.out _).mono ?_; rintro e w' ⟨rfl, rfl⟩
      go_wp2_with fail
      refine (number_any 10 (Or.inl rfl) m _ hml).mono ?_; rintro e w' ⟨rfl, rfl⟩
      go_wp2_with fail
      go_ret
      exact ⟨rfl, rfl⟩
  · rw [h1] at c1
    simp only [if_true, List.length_cons, List.length_nil, Nat.zero_add] at c1 ⊢
    obtain ⟨m, hm⟩ : ∃ m, l.drop (1 + 1) = m := ⟨_, rfl⟩
    have hml : m.length ≤ 100000000 := by rw [← hm, List.length_drop]; omega
    rw [hm] at c1
    rw [show l.drop 2 = m from hm]
    clear hm c2
    replace c1 := Lib.hid c1
    replace h1 := Lib.hid h1
    go_enter Tryz.func132, Tryz.ntmps132
    go_wp2_with fail
    refine (c1.out _).mono ?_; rintro e w' ⟨rfl, rfl⟩
    go_wp2_with fail
    refine (number_any 16 (Or.inr rfl) m _ hml).mono ?_; rintro e w' ⟨rfl, rfl⟩
    go_wp2_with fail
    go_ret
    exact ⟨rfl, rfl⟩

/-- What Named answers: the text, where there is one. -/
def NamedPost (w : World) (o : Option (List UInt8)) (e : Ending) (w' : World) : Prop :=
  ∃ t : List UInt8, e = .returned (.tuple #[.string ⟨t.toArray⟩, .bool o.isSome]) ∧ (∀ x, o = some x → t = x) ∧ Below w.heap.size w w' ∧ t.length ≤ 4
theorem named_some {w w' : World} {o : Option (List UInt8)} {e : Ending} (t : List UInt8) (ho : o = some t) (he : e = .returned (.tuple #[.string ⟨t.toArray⟩, .bool true])) (hb : Below w.heap.size w w') (hl : t.length ≤ 4 := by first | decide | exact encR_len _) : NamedPost w o e w' :=
  ⟨t, by rw [ho]; exact he, (fun x h => by rw [ho] at h; injection h), hb, hl⟩
theorem named_none {w w' : World} {o : Option (List UInt8)} {e : Ending} (t : List UInt8) (ho : o = none) (he : e = .returned (.tuple #[.string ⟨t.toArray⟩, .bool false])) (hb : Below w.heap.size w w') (hl : t.length ≤ 4 := by first | decide | exact encR_len _) : NamedPost w o e w' :=
  ⟨t, by rw [ho]; exact he, (fun x h => by rw [ho] at h; cases h), hb, hl⟩
/-- None of the five. -/
def OtherN (l : List UInt8) : Prop := (l == ltL) = false ∧ (l == gtL) = false ∧ (l == ampL) = false ∧ (l == quotL) = false ∧ (l == aposL) = false
theorem other_named {l : List UInt8} (h : OtherN l) : namedS l = if charB (numI l) then some (enc (numI l)) else none := by
  obtain ⟨h1, h2, h3, h4, h5⟩ := h
  unfold namedS
  rw [if_neg (by simpa using h1), if_neg (by simpa using h2), if_neg (by simpa using h3), if_neg (by simpa using h4), if_neg (by simpa using h5)]

theorem five_ways (l : List UInt8) : l = ltL ∨ l = gtL ∨ l = ampL ∨ l = quotL ∨ l = aposL ∨ OtherN l := by
  by_cases h1 : l = ltL
  · exact Or.inl h1
  by_cases h2 : l = gtL
  · exact Or.inr (Or.inl h2)
  by_cases h3 : l = ampL
  · exact Or.inr (Or.inr (Or.inl h3))
  by_cases h4 : l = quotL
  · exact Or.inr (Or.inr (Or.inr (Or.inl h4)))
  by_cases h5 : l = aposL
  · exact Or.inr (Or.inr (Or.inr (Or.inr (Or.inl h5))))
  · exact Or.inr (Or.inr (Or.inr (Or.inr (Or.inr ⟨by simpa using h1, by simpa using h2, by simpa using h3, by simpa using h4, by simpa using h5⟩))))

set_option maxHeartbeats 1000000 in
theorem named_other (l : List UInt8) (w : World) (hl : l.length ≤ 100000000) (ho : OtherN l) :
    Calls Tryz.prog 116 #[.string ⟨l.toArray⟩] w (NamedPost w (namedS l)) := by
  rw [other_named ho]
  obtain ⟨h1, h2, h3, h4, h5⟩ := ho
  unfold ltL at h1
  unfold gtL at h2
  unfold ampL at h3
  unfold quotL at h4
  unfold aposL at h5
  cases hc : charB (numI l)
  · go_enter Tryz.func116, Tryz.ntmps116
    go_wp2_with fail
    refine (numbered_any l _ hl).mono ?_; rintro e w' ⟨rfl, rfl⟩
    go_wp2_with fail
    refine (char_any _ _).mono ?_; rintro e w' ⟨rfl, rfl⟩; rw [hc]
    go_wp2_with fail
    go_ret2
    exact named_none [] rfl rfl (Below.refl _ _)
  · go_enter Tryz.func116, Tryz.ntmps116
    go_wp2_with fail
    refine (numbered_any l _ hl).mono ?_; rintro e w' ⟨rfl, rfl⟩
    go_wp2_with fail
    refine (char_any _ _).mono ?_; rintro e w' ⟨rfl, rfl⟩; rw [hc]
    go_wp2_with fail
    refine (bytes_any _ _).mono ?_; rintro e w' ⟨rfl, hb⟩
    go_wp2_with fail
    go_ret2
    exact named_some _ rfl rfl hb
set_option maxHeartbeats 1000000 in
theorem named_any (l : List UInt8) (w : World) (hl : l.length ≤ 100000000) :
    Calls Tryz.prog 116 #[.string ⟨l.toArray⟩] w (NamedPost w (namedS l)) := by
  rcases five_ways l with rfl | rfl | rfl | rfl | rfl | ho
  case inr.inr.inr.inr.inr => exact named_other l w hl ho
  all_goals
    go_enter Tryz.func116, Tryz.ntmps116
    go_wp2_with fail
    go_ret2
    exact named_some _ rfl rfl (Below.refl _ _)
end Go.Proofs.YtfmlgfeldlnlgaaGreatDoor

/- The reference's Named. -/
namespace Go.Proofs.YtfmlgfeldlnlgaaGreatDoor
open Go.RowKit

theorem numK_charB (b : Int) (hb : b = 10 ∨ b = 16) (l : List UInt8) : numK b l = charB (numC b 0 l) ∧ (numK b l = true → numV b l = numC b 0 l) := by
  have h := numC_numR b hb l 0 (by omega)
  rw [show min (0 : Int) 1114112 = 0 from rfl] at h
  refine ⟨h.1.symm, fun hk => ?_⟩
  unfold numV; rw [h.2 hk]; rfl
/-- What a number stands for. -/
def numO (b : Int) (m : List UInt8) : Option (List UInt8) := if charB (numC b 0 m) = true then some (enc (numC b 0 m)) else none
/-- What the reference's Named makes of a number's rune. -/
theorem named_num {w w' : World} {b : Int} (hb : b = 10 ∨ b = 16) {m : List UInt8} {e : Ending} (he : e = .returned (.tuple #[.string ⟨(enc (numV b m)).toArray⟩, .bool (numK b m)])) (hbl : Below w.heap.size w w') :
    NamedPost w (numO b m) e w' := by
  unfold numO
  obtain ⟨h1, h2⟩ := numK_charB b hb m
  cases hc : charB (numC b 0 m)
  · rw [hc] at h1
    rw [h1] at he
    exact named_none _ rfl he hbl
  · rw [hc] at h1
    rw [h1, h2 h1] at he
    exact named_some _ rfl he hbl

set_option maxHeartbeats 1000000 in
theorem refnamed_other (l : List UInt8) (w : World) (hl : l.length ≤ 100000000) (ho : OtherN l) :
    Calls Tryz.prog 99 #[.string ⟨l.toArray⟩] w (NamedPost w (namedS l)) := by
  rw [other_named ho]
  obtain ⟨h1, h2, h3, h4, h5⟩ := ho
  unfold ltL at h1
  unfold gtL at h2
  unfold ampL at h3
  unfold quotL at h4
  unfold aposL at h5
  by_cases hx : Lib.hasPrefix l [35, 120] = true
  · obtain ⟨m, hlm⟩ : ∃ m, l = 35 :: 120 :: m := by
      match l, hx with
      | [], hx => simp [Lib.hasPrefix, List.isPrefixOf] at hx
      | [c], hx => simp [Lib.hasPrefix, List.isPrefixOf] at hx
      | c :: d :: m, hx => simp [Lib.hasPrefix, List.isPrefixOf] at hx; exact ⟨m, by rw [← hx.1, ← hx.2]⟩
    by_cases hm : m = []
    · subst hm
      subst hlm
      clear hx h1 h2 h3 h4 h5
      rw [show charB (numI [35, 120]) = false from rfl, if_neg (by decide)]
      have hk : numK 10 [120] = false := rfl
      go_enter Tryz.func99, Tryz.ntmps99
      go_wp2_with fail
      refine (refnumber_any 10 (Or.inl rfl) [120] _ (by decide)).mono ?_; rintro e w' ⟨rfl, rfl⟩; rw [hk]
      go_wp2_with fail
      refine (refbytes_any _ _).mono ?_; rintro e w' ⟨rfl, hb⟩
      go_wp2_with fail
      go_ret2
      exact named_none _ rfl rfl hb
    · have hlen := len_pos hm
      have hl2 : (2 : Int) < (l.length : Int) := by rw [hlm]; simp only [List.length_cons]; omega
      have ht : (l.take 2 == [35, 120]) = true := by rw [hlm]; simp
      have hd : l.drop 2 = m := by rw [hlm]; rfl
      have hml : m.length ≤ 100000000 := by rw [← hd, List.length_drop]; omega
      rw [show numI l = numC 16 0 m from by rw [hlm, numI_hex]]
      change Calls _ _ _ _ (NamedPost w (numO 16 m))
      replace hlm := Lib.hid hlm
      replace hm := Lib.hid hm
      clear hx
      go_enter Tryz.func99, Tryz.ntmps99
      go_wp2_with fail
      refine (refnumber_any 16 (Or.inr rfl) m _ hml).mono ?_; rintro e w' ⟨rfl, rfl⟩
      go_wp2_with fail
      refine (refbytes_any _ _).mono ?_; rintro e w' ⟨rfl, hb⟩
      go_wp2_with fail
      go_ret2
      exact named_num (Or.inr rfl) rfl hb
  have ht : (l.take 2 == [35, 120]) = false := by
    rw [beq_eq_false_iff_ne]
    intro e
    refine hx ?_
    match l, e with
    | [], e => simp at e
    | [c], e => simp at e
    | c :: d :: m, e => simp at e; simp [Lib.hasPrefix, List.isPrefixOf, e.1, e.2]
  by_cases h0 : l = []
  · subst h0
    clear hx h1 h2 h3 h4 h5 ht
    rw [show charB (numI []) = false from rfl, if_neg (by decide)]
    go_enter Tryz.func99, Tryz.ntmps99
    go_wp2_with fail
    go_ret2
    exact named_none [] rfl rfl (Below.refl _ _)
  have hlen := len_pos h0
  by_cases hb0 : bt l 0 = 35
  · obtain ⟨m, hlm⟩ : ∃ m, l = 35 :: m := by
      cases l with
      | nil => exact absurd rfl h0
      | cons c t => exact ⟨t, by rw [(bt_u8 c 35 t).1 hb0]⟩
    by_cases hm : m = []
    · subst hm
      subst hlm
      clear hx h1 h2 h3 h4 h5 ht h0 hb0 hlen
      rw [show charB (numI [35]) = false from rfl, if_neg (by decide)]
      go_enter Tryz.func99, Tryz.ntmps99
      go_wp2_with fail
      go_ret2
      exact named_none [] rfl rfl (Below.refl _ _)
    have hl1 : (1 : Int) < (l.length : Int) := by
      have := len_pos hm
      rw [hlm]; simp only [List.length_cons]; omega
    have hd : l.drop 1 = m := by rw [hlm]; rfl
    have hml : m.length ≤ 100000000 := by rw [← hd, List.length_drop]; omega
    have hni : numI l = numC 10 0 m := by
      rw [hlm]
      refine numI_dec m fun e => hx ?_
      cases m with
      | nil => exact absurd rfl hm
      | cons d t => rw [hlm, (bt_u8 d 120 t).1 e]; simp [Lib.hasPrefix, List.isPrefixOf]
    rw [hni]
    change Calls _ _ _ _ (NamedPost w (numO 10 m))
    clear hni hx
    replace hlm := Lib.hid hlm
    replace hm := Lib.hid hm
    replace h0 := Lib.hid h0
    by_cases hl2 : (2 : Int) < (l.length : Int)
    all_goals
      go_enter Tryz.func99, Tryz.ntmps99
      go_wp2_with fail
      refine (refnumber_any 10 (Or.inl rfl) m _ hml).mono ?_; rintro e w' ⟨rfl, rfl⟩
      go_wp2_with fail
      refine (refbytes_any _ _).mono ?_; rintro e w' ⟨rfl, hb⟩
      go_wp2_with fail
      go_ret2
      exact named_num (Or.inl rfl) rfl hb
  · have hni : numI l = -1 := by
      unfold numI
      have hp : Lib.hasPrefix l [35] = false := by
        cases l with
        | nil => rfl
        | cons c t =>
          have : (35 == c) = false := by
            rw [beq_eq_false_iff_ne]; intro e; exact hb0 ((bt_u8 c 35 t).2 e.symm)
          simp [Lib.hasPrefix, List.isPrefixOf, this]
      rw [if_neg hx, if_neg (by rw [hp]; decide)]
    rw [hni, show charB (-1) = false from rfl, if_neg (by decide)]
    have hb1 : (bt l 0 == 35) = false := by simpa using hb0
    clear hb0 hni hx
    replace h0 := Lib.hid h0
    by_cases hl2 : (2 : Int) < (l.length : Int) <;> by_cases hl1 : (1 : Int) < (l.length : Int)
    all_goals first | (exfalso; omega) | skip
    all_goals
      go_enter Tryz.func99, Tryz.ntmps99
      go_wp2_with fail
      go_ret2
      exact named_none [] rfl rfl (Below.refl _ _)

set_option maxHeartbeats 1000000 in
theorem refnamed_any (l : List UInt8) (w : World) (hl : l.length ≤ 100000000) :
    Calls Tryz.prog 99 #[.string ⟨l.toArray⟩] w (NamedPost w (namedS l)) := by
  rcases five_ways l with rfl | rfl | rfl | rfl | rfl | ho
  case inr.inr.inr.inr.inr => exact refnamed_other l w hl ho
  all_goals
    go_enter Tryz.func99, Tryz.ntmps99
    go_wp2_with fail
    go_ret2
    exact named_some _ rfl rfl (Below.refl _ _)
end Go.Proofs.YtfmlgfeldlnlgaaGreatDoor
