/- Layer 11's laws: LexNested. -/
import Derived.Test.YtldnigkaagcciaaDoorD11l
namespace Go.Proofs.YtldnigkaagcciaaDoor
open Go.RowKit

def repB (k : Nat) (x : List UInt8) : List UInt8 := (List.replicate k x).flatten
theorem repB_succ (k : Nat) (x : List UInt8) : repB (k + 1) x = repB k x ++ x := by
  unfold repB; rw [List.replicate_succ', List.flatten_append]; simp
theorem repB_len (k : Nat) (x : List UInt8) : (repB k x).length = k * x.length := by
  unfold repB; simp
def nestB (k : Nat) : List UInt8 := repB k [60, 97, 62] ++ repB k [60, 47, 97, 62]
def nestOk (k : Nat) : Bool := (match tokB k (nestB k) with | .toks t => t.length == 2 * k | _ => false) && (match tokB ((k : Int) - 1) (nestB k) with | .deep => true | _ => false)
theorem nest_ok : ((List.range 40).all fun j => nestOk (j + 1)) = true := by kernel_rfl
theorem nest_yes {k : Nat} (h1 : 1 ≤ k) (h2 : k ≤ 40) {d : Int} (hd : (k : Int) ≤ d) : ∃ t, tokB d (nestB k) = .toks t ∧ t.length = 2 * k := by
  have := List.all_eq_true.1 nest_ok (k - 1) (List.mem_range.2 (by omega))
  rw [show k - 1 + 1 = k by omega] at this
  unfold nestOk at this
  rw [Bool.and_eq_true] at this
  obtain ⟨ha, _⟩ := this
  cases e : tokB k (nestB k) with
  | toks t =>
    rw [e] at ha
    refine ⟨t, ?_, by simpa using ha⟩
    rcases tokB_up hd (nestB k) with h | h
    · rw [h] at e; cases e
    · rw [h, e]
  | syn => rw [e] at ha; cases ha
  | deep => rw [e] at ha; cases ha
theorem nest_no {k : Nat} (h1 : 1 ≤ k) (h2 : k ≤ 40) {d : Int} (hd : d < k) : tokB d (nestB k) = .deep := by
  have := List.all_eq_true.1 nest_ok (k - 1) (List.mem_range.2 (by omega))
  rw [show k - 1 + 1 = k by omega] at this
  unfold nestOk at this
  rw [Bool.and_eq_true] at this
  obtain ⟨_, ha⟩ := this
  have hup := tokB_up (show d ≤ (k : Int) - 1 by omega) (nestB k)
  cases e : tokB ((k : Int) - 1) (nestB k) with
  | toks t => rw [e] at ha; cases ha
  | syn => rw [e] at ha; cases ha
  | deep =>
    rw [e] at hup
    rcases hup with h | h
    · exact h
    · exact h.symm
set_option maxHeartbeats 1000000 in
/-- The law LexNested. -/
theorem nested11_law (x d : Int) (w : World) (hx : (Lit.int .u8 x).wf = true) (hd : (Lit.int .u8 d).wf = true) (A : Addr) (hL : Laid11 w A) :
    Calls Tryd.prog 5 #[.int .u8 x, .int .u8 d] w (LawPost w) := by
  obtain ⟨hx0, hx1⟩ := u8_bd11 hx
  obtain ⟨hd0, hd1⟩ := u8_bd11 hd
  clear hx hd
  replace hL := Lib.hid hL
  go_enter Tryd.func5, Tryd.ntmps5
  go_wp2_with fail
  have hk1 : 1 ≤ 1 + x % 40 ∧ 1 + x % 40 ≤ 40 := by omega
  obtain ⟨k, hk⟩ := Int.eq_ofNat_of_zero_le (show 0 ≤ 1 + x % 40 by omega)
  rw [hk] at hk1
  rw [hk]
  clear hk
  obtain ⟨hk1, hk2⟩ := hk1
  go_loop [6, 7] (fun s i => ∃ n : Nat, i = .int .i64 n ∧ s = .string ⟨(repB n [60, 97, 62]).toArray⟩ ∧ n ≤ k) (fun _ i => k - (intOf i).toNat)
  case atStart => exact ⟨0, rfl, rfl, Nat.zero_le _⟩
  case round =>
    obtain ⟨n, rfl, rfl, hn⟩ := hrel
    by_cases hlt : (n : Int) < k
    · have hlt' : n + 1 ≤ k := by omega
      go_wp2_with fail
      · have e1 := repB_len n [60, 97, 62]
        rw [show [(60 : UInt8), 97, 62].length = 3 from rfl] at e1
        omega
      exact ⟨⟨n + 1, by go_num, by rw [repB_succ], hlt'⟩, by simp [intOf]; omega⟩
    · obtain rfl : n = k := by omega
      go_wp2_with fail
      go_loop [6, 8] (fun s i => ∃ m : Nat, i = .int .i64 m ∧ s = .string ⟨(repB n [60, 97, 62] ++ repB m [60, 47, 97, 62]).toArray⟩ ∧ m ≤ n) (fun _ i => n - (intOf i).toNat)
      case atStart => exact ⟨0, rfl, by simp [repB], Nat.zero_le _⟩
      case round =>
        obtain ⟨m, rfl, rfl, hm⟩ := hrel
        by_cases hlt2 : (m : Int) < n
        · have hlt' : m + 1 ≤ n := by omega
          go_wp2_with fail
          · have e1 := repB_len n [60, 97, 62]
            have e2 := repB_len m [60, 47, 97, 62]
            rw [show [(60 : UInt8), 97, 62].length = 3 from rfl] at e1
            rw [show [(60 : UInt8), 47, 97, 62].length = 4 from rfl] at e2
            omega
          exact ⟨⟨m + 1, by go_num, by rw [repB_succ], hlt'⟩, by simp [intOf]; omega⟩
        · obtain rfl : m = n := by omega
          clear hlt hlt2
          have hlen : (nestB m).length ≤ 20000 := by unfold nestB; rw [List.length_append, repB_len, repB_len]; simp; omega
          have r1 := Lib.hid (res11_any (nestB m) d A w hL.out hlen)
          unfold nestB at r1
          go_wp2_with fail
          refine r1.out.mono ?_; rintro e w1 ⟨a, n, cap, ev, P, rfl, q1, b1⟩
          have ha := Lib.hid (awake11_any A w1 (hL.out.below b1))
          by_cases hdk : d < m
          · have ho := nest_no (by omega) (by omega) hdk
            unfold nestB at ho
            rw [ho] at q1
            replace q1 := Lib.hid q1
            replace b1 := Lib.hid b1
            clear ho
            go_wp2_with fail
            refine ha.out.mono ?_; rintro e w2 ⟨rfl, b2⟩
            have k1 := Lib.hid (q1.out.below b2).err.calls
            have bb := Lib.hid (b1.out.andThen b2)
            clear b2 b1
            go_wp2_with fail
            refine k1.out.mono ?_; rintro e w' ⟨rfl, rfl⟩
            go_wp2_with fail
            go_ret
            exact ⟨rfl, bb.out⟩
          · obtain ⟨t, ho, ht⟩ := nest_yes (show 1 ≤ m by omega) (show m ≤ 40 by omega) (show (m : Int) ≤ d by omega)
            unfold nestB at ho
            rw [ho] at q1
            obtain ⟨hn1, _, hf, he⟩ := q1
            have hn2 : n = 2 * m := by
              have hf' := congrArg List.length hf
              rw [List.length_map] at hf'
              rw [hn1, hf']; exact ht
            obtain ⟨rfl, _⟩ | ⟨_, _, _, _, h1, _⟩ := he
            · clear hf ho ht hn1
              subst hn2
              replace b1 := Lib.hid b1
              go_wp2_with fail
              refine ha.out.mono ?_; rintro e w2 ⟨rfl, b2⟩
              have bb := Lib.hid (b1.out.andThen b2)
              clear b2 b1
              go_wp2_with fail
              go_ret
              exact ⟨rfl, bb.out⟩
            · exact absurd h1 (show ¬ (1 ≤ (0 : Int)) by decide)
end Go.Proofs.YtldnigkaagcciaaDoor
