/- The walks of Is, lead, follower, put, Bytes, Encode: the program's and the reference's. -/
import Derived.Test.YtldnigkaagcciaaDoorUq
import Derived.Test.YtldnigkaagcciaaDoorApp
namespace Go.Proofs.YtldnigkaagcciaaDoor
open Go.RowKit


set_option maxHeartbeats 400000 in
theorem follower_any (r : Int) (w : World) (_h0 : 0 ≤ r) (_h1 : r ≤ 1114111) :
    Calls Tryd.prog 80 #[.int .i32 r] w fun e w' => e = .returned (.int .u8 (128 + r % 64)) ∧ w = w' := by
  go_enter Tryd.func80, Tryd.ntmps80
  go_wp2
  go_ret
  exact ⟨ret_int (by omega), rfl⟩

set_option maxHeartbeats 400000 in
theorem lead_any (r : Int) (w : World) (h0 : 0 ≤ r) (h1 : r ≤ 1114111) :
    Calls Tryd.prog 79 #[.int .i32 r] w fun e w' => e = .returned (.tuple #[.int .u8 ((encR r).headD 0), .int .i64 (folN r)]) ∧ w = w' := by
  go_enter Tryd.func79, Tryd.ntmps79
  go_wp2
  all_goals go_ret2
  all_goals refine ⟨ret_int2 ?_ ?_, rfl⟩
  all_goals first | (unfold encR) | (unfold folN)
  all_goals (repeat (first | rw [if_pos (by omega)] | rw [if_neg (by omega)]))
  all_goals rfl

theorem isR_eq {r : Int} {b : Bool} (h : (0 ≤ r ∧ r ≤ 1114111 ∧ ¬ (55296 ≤ r ∧ r ≤ 57343)) ↔ b = true) : Ending.returned (.bool b) = .returned (.bool (isR r)) := by
  rw [show isR r = b from by unfold isR; cases b <;> simp at h ⊢ <;> omega]

set_option maxHeartbeats 400000 in
theorem is_any (r : Int) (w : World) :
    Calls Tryd.prog 78 #[.int .i32 r] w fun e w' => e = .returned (.bool (isR r)) ∧ w = w' := by
  by_cases h1 : 0 ≤ r <;> by_cases h2 : r ≤ 1114111 <;> by_cases h3 : 55296 ≤ r <;> by_cases h4 : r ≤ 57343
  all_goals first | (exfalso; omega) | skip
  all_goals
    go_enter Tryd.func78, Tryd.ntmps78
    go_wp2
    go_ret
    exact ⟨isR_eq (by simp; omega), rfl⟩

theorem info_byte : (Tryd.prog.info? 5).map (fun i => (i.zero, i.size, i.bytes)) = some (some (.int .u8 0), 1, 1) := by kernel_rfl

/-- A slice of bytes that the call itself made. -/
def Byts (w : World) (B : Nat) (v : Value) (xs : List Int) : Prop := w.ownsRow B 5 1 v xs.length (xs.map (Value.int .u8))

def PutPost (B : Nat) (w : World) (xs : List Int) (e : Ending) (w' : World) : Prop := ∃ v, e = .returned v ∧ Byts w' B v xs ∧ Below B w w'

theorem isR_bd {r : Int} (h : isR r = true) : 0 ≤ r ∧ r ≤ 1114111 := by unfold isR at h; simp at h; omega

theorem byts_mk {w : World} {B : Nat} {v : Value} {xs : List Int} (ys : List Int) {n : Nat} (h : w.ownsRow B 5 1 v n (xs.map (Value.int .u8) ++ ys.map (Value.int .u8))) (hn : n = xs.length + ys.length) : Byts w B v (xs ++ ys) := by
  subst hn; unfold Byts; rw [List.length_append, List.map_append]; exact h

set_option maxHeartbeats 400000 in
theorem putR_any (B : Nat) (v : Value) (xs : List Int) (r : Int) (w : World) (hr : isR r = true) (hown : Byts w B v xs) (hB : B ≤ w.heap.size) (hn : xs.length ≤ 1000000) :
    Calls Tryd.prog 74 #[v, .int .i32 r] w (PutPost B w (xs ++ encR r)) := by
  have hb := isR_bd hr
  replace hown := Lib.hid hown
  have hc : (r < 128 ∧ encR r = [r] ∧ folN r = 0) ∨ (128 ≤ r ∧ r < 2048 ∧ encR r = [192 + r / 64, 128 + r % 64] ∧ folN r = 1) ∨
      (2048 ≤ r ∧ r < 65536 ∧ encR r = [224 + r / 4096, 128 + r / 64 % 64, 128 + r % 64] ∧ folN r = 2) ∨
      (65536 ≤ r ∧ encR r = [240 + r / 262144, 128 + r / 4096 % 64, 128 + r / 64 % 64, 128 + r % 64] ∧ folN r = 3) := by
    unfold encR folN
    by_cases h1 : r < 128
    · rw [if_pos h1, if_pos h1]; exact Or.inl ⟨h1, rfl, rfl⟩
    · by_cases h2 : r < 2048
      · rw [if_neg h1, if_pos h2, if_neg h1, if_pos h2]; exact Or.inr (Or.inl ⟨by omega, h2, rfl, rfl⟩)
      · by_cases h3 : r < 65536
        · rw [if_neg h1, if_neg h2, if_pos h3, if_neg h1, if_neg h2, if_pos h3]; exact Or.inr (Or.inr (Or.inl ⟨by omega, h3, rfl, rfl⟩))
        · rw [if_neg h1, if_neg h2, if_neg h3, if_neg h1, if_neg h2, if_neg h3]; exact Or.inr (Or.inr (Or.inr ⟨by omega, rfl, rfl⟩))
  rcases hc with ⟨c1, ce, cf⟩ | ⟨c1, c2, ce, cf⟩ | ⟨c1, c2, ce, cf⟩ | ⟨c1, ce, cf⟩
  all_goals
    rw [ce]
    go_enter Tryd.func74, Tryd.ntmps74
    go_wp2_with fail
    refine (is_any r _).mono ?_; rintro e w' ⟨rfl, rfl⟩
    go_wp2_with fail
    refine (lead_any r _ (by omega) (by omega)).mono ?_; rintro e w' ⟨rfl, rfl⟩
    rw [ce, cf]
    clear ce cf
    go_wp2_with (at_builtin; go_must (refine wpList_append1 rfl _ _ 43 5 rfl Tryd.underlying43 (.int .u8 0) 1 info_byte rfl (by decide) B _ _ _ _ hown.out rfl rfl rfl (by omega) (by omega) ?_))
    intro v1 w1 hown1 hb1 _
    replace hown1 := Lib.hid hown1
    have hs1 := hb1.size
    replace hb1 := Lib.hid hb1
    go_wp2_with fail
  · go_ret
    exact ⟨_, rfl, byts_mk _ hown1.out rfl, hb1.out⟩
  · refine (follower_any r _ (by omega) (by omega)).mono ?_; rintro e w' ⟨rfl, rfl⟩
    go_wp2_with (at_builtin; go_must (refine wpList_append1 rfl _ _ 43 5 rfl Tryd.underlying43 (.int .u8 0) 1 info_byte rfl (by decide) B _ _ _ _ hown1.out rfl rfl rfl (by omega) (by omega) ?_))
    intro v2 w2 hown2 hb2 _
    replace hown2 := Lib.hid hown2
    replace hb2 := Lib.hid hb2
    go_wp2_with fail
    go_ret
    exact ⟨_, rfl, byts_mk _ hown2.out rfl, hb1.out.trans hb2.out⟩
  · refine (follower_any (r / 64) _ (by omega) (by omega)).mono ?_; rintro e w' ⟨rfl, rfl⟩
    go_wp2_with (at_builtin; go_must (refine wpList_append1 rfl _ _ 43 5 rfl Tryd.underlying43 (.int .u8 0) 1 info_byte rfl (by decide) B _ _ _ _ hown1.out rfl rfl rfl (by omega) (by omega) ?_))
    intro v2 w2 hown2 hb2 _
    replace hown2 := Lib.hid hown2
    have hs2 := hb2.size
    replace hb2 := Lib.hid hb2
    go_wp2_with fail
    refine (follower_any r _ (by omega) (by omega)).mono ?_; rintro e w' ⟨rfl, rfl⟩
    go_wp2_with (at_builtin; go_must (refine wpList_append1 rfl _ _ 43 5 rfl Tryd.underlying43 (.int .u8 0) 1 info_byte rfl (by decide) B _ _ _ _ hown2.out rfl rfl rfl (by omega) (by omega) ?_))
    intro v3 w3 hown3 hb3 _
    replace hown3 := Lib.hid hown3
    replace hb3 := Lib.hid hb3
    go_wp2_with fail
    go_ret
    exact ⟨_, rfl, byts_mk _ hown3.out rfl, (hb1.out.trans hb2.out).trans hb3.out⟩
  · refine (follower_any (r / 4096) _ (by omega) (by omega)).mono ?_; rintro e w' ⟨rfl, rfl⟩
    go_wp2_with (at_builtin; go_must (refine wpList_append1 rfl _ _ 43 5 rfl Tryd.underlying43 (.int .u8 0) 1 info_byte rfl (by decide) B _ _ _ _ hown1.out rfl rfl rfl (by omega) (by omega) ?_))
    intro v2 w2 hown2 hb2 _
    replace hown2 := Lib.hid hown2
    have hs2 := hb2.size
    replace hb2 := Lib.hid hb2
    go_wp2_with fail
    refine (follower_any (r / 64) _ (by omega) (by omega)).mono ?_; rintro e w' ⟨rfl, rfl⟩
    go_wp2_with (at_builtin; go_must (refine wpList_append1 rfl _ _ 43 5 rfl Tryd.underlying43 (.int .u8 0) 1 info_byte rfl (by decide) B _ _ _ _ hown2.out rfl rfl rfl (by omega) (by omega) ?_))
    intro v3 w3 hown3 hb3 _
    replace hown3 := Lib.hid hown3
    have hs3 := hb3.size
    replace hb3 := Lib.hid hb3
    go_wp2_with fail
    refine (follower_any r _ (by omega) (by omega)).mono ?_; rintro e w' ⟨rfl, rfl⟩
    go_wp2_with (at_builtin; go_must (refine wpList_append1 rfl _ _ 43 5 rfl Tryd.underlying43 (.int .u8 0) 1 info_byte rfl (by decide) B _ _ _ _ hown3.out rfl rfl rfl (by omega) (by omega) ?_))
    intro v4 w4 hown4 hb4 _
    replace hown4 := Lib.hid hown4
    replace hb4 := Lib.hid hb4
    go_wp2_with fail
    go_ret
    exact ⟨_, rfl, byts_mk _ hown4.out rfl, ((hb1.out.trans hb2.out).trans hb3.out).trans hb4.out⟩
end Go.Proofs.YtldnigkaagcciaaDoor
