/- Layer 21: the reader in memory: fail, ended, piece, number, text, feed, key. -/
import Derived.Test.YtpfcamebkcengaaD21r
import Derived.Test.YtpfcamebkcengaaD21c
import Derived.Test.YtpfcamebkcengaaCo
namespace Go.Proofs.Ytpfcamebkcengaa
open Go.RowKit

/-- A reader in its block: what is left; none: it is bad. -/
def RdO (w : World) (R : Nat) (o : Option (List UInt8)) : Prop := ArrAt w R 64 [.string ⟨(o.getD []).toArray⟩, .bool o.isNone]
/-- Behind a method: what it told, the reader behind it, and nothing else has turned. -/
def RdPost (w : World) (R : Nat) (r : Option (List UInt8)) (v : Value) (e : Ending) (w' : World) : Prop := e = .returned v ∧ RdO w' R r ∧ Turned (fun b => b = R) w w'
theorem RdO.c0 {w : World} {R : Nat} {o : Option (List UInt8)} (h : RdO w R o) : w.cell? ⟨R, 0, none⟩ = some (.string ⟨(o.getD []).toArray⟩) := by rw [ArrAt.cell h 0]; rfl
theorem RdO.c1 {w : World} {R : Nat} {o : Option (List UInt8)} (h : RdO w R o) : w.cell? ⟨R, 1, none⟩ = some (.bool o.isNone) := by rw [ArrAt.cell h 1]; rfl
theorem RdO.fz {w : World} {R : Nat} {o : Option (List UInt8)} (h : RdO w R o) (k : Nat) : w.frozen? ⟨R, k, none⟩ = false := ArrAt.soft h k
theorem RdO.next {w w' : World} {R : Nat} {o : Option (List UInt8)} (h : RdO w R o) (hb : Below w.heap.size w w') : RdO w' R o := ArrAt.next h hb
theorem RdO.set {w : World} {R : Nat} {l : List UInt8} (h : RdO w R (some l)) (t : List UInt8) : RdO (w.setCell ⟨R, 0, none⟩ (.string ⟨t.toArray⟩)) R (some t) := ArrAt.set h 0 _
theorem RdO.stay {w : World} {R : Nat} (h : RdO w R none) : RdO (w.setCell ⟨R, 0, none⟩ (.string ⟨([] : List UInt8).toArray⟩)) R none := ArrAt.set h 0 _
theorem RdO.fail {w : World} {R : Nat} {o : Option (List UInt8)} (h : RdO w R o) : RdO ((w.setCell ⟨R, 0, none⟩ (.string ⟨([] : List UInt8).toArray⟩)).setCell ⟨R, 1, none⟩ (.bool true)) R none := (ArrAt.set h 0 _).set 1 _
theorem turn_one (w : World) (R k : Nat) (v : Value) : Turned (fun b => b = R) w (w.setCell ⟨R, k, none⟩ v) := turned_setCell w ⟨R, k, none⟩ v
theorem turn_on {a b c : World} {R : Nat} (h : Turned (fun x => x = R) a b) (k : Turned (fun x => x = R) b c) : Turned (fun x => x = R) a c := h.trans k fun _ _ e => e
theorem turn_more {a b c : World} {R : Nat} (h : Turned (fun x => x = R) a b) (k : Below b.heap.size b c) : Turned (fun x => x = R) a c := h.trans (Turned.of_below (S := fun _ => False) k) fun _ _ e => e.elim

theorem rd_fail {w : World} {R : Nat} {o : Option (List UInt8)} (h : RdO w R o) :
    Calls Try.prog 51 #[.pointer (some ⟨R, 0, none⟩)] w (RdPost w R none (.tuple #[])) := by
  have c0 := h.c0
  have f0 := h.fz 0
  have f1 := h.fz 1
  have c1 := h.c1
  have hf := Lib.hid h.fail
  replace h := Lib.hid h
  go_enter Try.func51, Try.ntmps51
  go_wp2_with fail
  go_end0
  exact ⟨rfl, hf.out, turn_on (turn_one _ _ _ _) (turn_one _ _ _ _)⟩
theorem rd_ended {w : World} {R : Nat} {o : Option (List UInt8)} (h : RdO w R o) :
    Calls Try.prog 39 #[.pointer (some ⟨R, 0, none⟩)] w fun e w' => e = .returned (.bool (o == some [])) ∧ w = w' := by
  have c0 := h.c0
  have c1 := h.c1
  replace h := Lib.hid h
  cases o with
  | none =>
    simp only [Option.isNone_none] at c1
    go_enter Try.func39, Try.ntmps39
    go_wp2_with fail
    go_ret
    exact ⟨rfl, rfl⟩
  | some l =>
    simp only [Option.isNone_some, Option.getD_some] at c0 c1
    obtain ⟨x, hx⟩ : ∃ x, (l == []) = x := ⟨_, rfl⟩
    have hv := Lib.hid (show ((some l : Option (List UInt8)) == some []) = x by rw [← hx]; rfl)
    go_enter Try.func39, Try.ntmps39
    go_wp2_with fail
    go_ret
    exact ⟨ret_bool hv.out.symm, rfl⟩

/-- So many bytes cut off. -/
def pieceO (n : Int) (s : List UInt8) : Option (List UInt8 × List UInt8) := if n < 0 ∨ (s.length : Int) < n then none else some (s.take n.toNat, s.drop n.toNat)
theorem rd_piece {w : World} {R : Nat} {o : Option (List UInt8)} (h : RdO w R o) (n : Int) :
    Calls Try.prog 53 #[.pointer (some ⟨R, 0, none⟩), .int .i64 n] w (RdPost w R (resO (o.bind (pieceO n))) (.string ⟨(valO [] (o.bind (pieceO n))).toArray⟩)) := by
  have c0 := h.c0
  have f0 := h.fz 0
  have hfl := Lib.hid (rd_fail h)
  by_cases h0 : n < 0
  · have e : o.bind (pieceO n) = none := by cases o with | none => rfl | some l => simp [pieceO, h0]
    rw [e]
    replace h := Lib.hid h
    clear e
    go_enter Try.func53, Try.ntmps53
    go_wp2_with fail
    refine hfl.out.mono ?_
    rintro e w1 ⟨rfl, k1, k2⟩
    replace k1 := Lib.hid k1
    replace k2 := Lib.hid k2
    go_wp2_with fail
    go_ret
    exact ⟨rfl, k1.out, k2.out⟩
  · by_cases h1 : ((o.getD []).length : Int) < n
    · have e : o.bind (pieceO n) = none := by cases o with | none => rfl | some l => exact if_pos (Or.inr h1)
      rw [e]
      replace h := Lib.hid h
      clear e
      generalize o.getD [] = l at *
      go_enter Try.func53, Try.ntmps53
      go_wp2_with fail
      refine hfl.out.mono ?_
      rintro e w1 ⟨rfl, k1, k2⟩
      replace k1 := Lib.hid k1
      replace k2 := Lib.hid k2
      go_wp2_with fail
      go_ret
      exact ⟨rfl, k1.out, k2.out⟩
    · obtain ⟨m, rfl⟩ := Int.eq_ofNat_of_zero_le (show 0 ≤ n by omega)
      have hm : m ≤ (o.getD []).length := by omega
      have hnn : (0 : Int) ≤ (m : Int) := by omega
      have hset : Hid (RdO (w.setCell ⟨R, 0, none⟩ (.string ⟨((o.getD []).drop m).toArray⟩)) R (resO (o.bind (pieceO m)))) := by
        cases o with
        | none =>
          have e : (([] : List UInt8).drop m) = [] := by simp
          simp only [Option.getD_none, e]
          exact Lib.hid h.stay
        | some l =>
          simp only [Option.bind_some, pieceO]
          rw [if_neg (by simp only [Option.getD_some] at hm; omega)]
          simp only [Int.toNat_natCast]
          exact Lib.hid (h.set _)
      have hval := Lib.hid (show (o.getD []).take m = valO [] (o.bind (pieceO m)) by
        cases o with
        | none => simp [valO]
        | some l =>
          simp only [Option.bind_some, pieceO]
          rw [if_neg (by simp only [Option.getD_some] at hm; omega)]
          simp [valO])
      replace h := Lib.hid h
      clear h0 hfl
      obtain ⟨ro, hro⟩ : ∃ ro, resO (o.bind (pieceO m)) = ro := ⟨_, rfl⟩
      obtain ⟨vo, hvo⟩ : ∃ vo, valO [] (o.bind (pieceO m)) = vo := ⟨_, rfl⟩
      rw [hro] at hset ⊢
      rw [hvo] at hval ⊢
      clear hro hvo
      generalize o.getD [] = l at *
      go_enter Try.func53, Try.ntmps53
      go_wp2_with fail
      go_ret
      exact ⟨ret_str hval.out, hset.out, turn_one _ _ _ _⟩
theorem halved_any (u : Nat) (w : World) (hu : u < 18446744073709551616) :
    Calls Try.prog 50 #[.int .u64 u] w fun e w' => e = .returned (.int .i64 (zag21 u)) ∧ w = w' := by
  by_cases h0 : u % 2 = 1
  · have hb := bits_opp ((u / 2 : Nat) : Int) (by omega) (by omega)
    have hz := Lib.hid (show -((u / 2 : Nat) : Int) - 1 = zag21 u by unfold zag21; rw [if_pos h0])
    have q : ((u : Int) % 2 == 1) = true := by rw [beq_iff_eq]; omega
    have e : ((u / 2 : Nat) : Int) = (u : Int) / 2 := by omega
    rw [e] at hb hz
    clear h0 e
    go_enter Try.func50, Try.ntmps50
    go_wp2_with fail
    go_ret
    exact ⟨ret_int hz.out, rfl⟩
  · have hz := Lib.hid (show (u : Int) / 2 = zag21 u by unfold zag21; rw [if_neg h0]; omega)
    have q : ((u : Int) % 2 == 1) = false := by rw [beq_eq_false_iff_ne]; omega
    clear h0
    go_enter Try.func50, Try.ntmps50
    go_wp2_with fail
    go_ret
    exact ⟨ret_int hz.out, rfl⟩

theorem readI_nil : readI21 [] = none := by rfl
theorem bindI (o : Option (List UInt8)) : o.bind readI21 = readI21 (o.getD []) := by
  cases o with
  | none => exact readI_nil.symm
  | some l => rfl
/-- Seven bits shifted to their place. -/
theorem shl_put (k c : Nat) (z : Int) (hz : ((7 * k : Nat) : Int) = z) : Op.shift .shl .u64 (c : Int) .i64 z = pure (.int .u64 ((put21 k c : Nat) : Int)) := by
  unfold put21
  by_cases h : k ≤ 9
  · rw [if_pos h]
    exact shl_u64 c (7 * k) _ z hz (by omega)
  · rw [if_neg h]
    subst hz
    rw [shift_shl_any .u64 _ _ _ (by omega), Int.toNat_natCast, show min (7 * k) IntKind.u64.bits = 64 from Nat.min_eq_right (by show 64 ≤ 7 * k; omega)]
    have h3 : ∀ x, IntKind.wrap .u64 x = x % 18446744073709551616 := fun x => by simp [IntKind.wrap, IntKind.bits, IntKind.signed]
    rw [h3]
    congr 2
    have : ((c : Int) * 2 ^ 64) % 18446744073709551616 = 0 := by
      show ((c : Int) * 18446744073709551616) % 18446744073709551616 = 0
      exact Int.mul_emod_left _ _
    rw [this]; rfl
theorem shr_get (k n : Nat) (z : Int) (hz : ((7 * k : Nat) : Int) = z) : Op.shift .shr .u64 (n : Int) .i64 z = pure (.int .u64 ((n / 2 ^ min (7 * k) 64 : Nat) : Int)) := by
  subst hz
  rw [shift_shr_any .u64 _ _ _ (by omega), Int.toNat_natCast, show min (7 * k) IntKind.u64.bits = min (7 * k) 64 from rfl]
  congr 2
theorem or_nat (a b : Nat) (ha : a < 18446744073709551616) (hb : b < 18446744073709551616) : bits .or .u64 (a : Int) (b : Int) = ((a ||| b : Nat) : Int) := (bits_nat .u64 64 (by decide) wraps_u64 a b ha hb).2

set_option maxHeartbeats 4000000 in
set_option maxRecDepth 100000 in
theorem rd_number {w : World} {R : Nat} {o : Option (List UInt8)} (h : RdO w R o) (hl : (o.getD []).length ≤ 281474976710656) :
    Calls Try.prog 32 #[.pointer (some ⟨R, 0, none⟩)] w (RdPost w R (resO (o.bind readI21)) (.int .i64 (valO 0 (o.bind readI21)))) := by
  have c0 := h.c0
  have f0 := h.fz 0
  have hfl := Lib.hid (rd_fail h)
  have hgood : Hid (∀ n t, readI21 (o.getD []) = some (n, t) → RdO (w.setCell ⟨R, 0, none⟩ (.string ⟨t.toArray⟩)) R (some t)) := Lib.hid (by
    intro n t e
    cases o with
    | none => rw [Option.getD_none, readI_nil] at e; cases e
    | some l => exact h.set t)
  rw [bindI]
  replace h := Lib.hid h
  obtain ⟨ro, hro⟩ : ∃ ro, readI21 (o.getD []) = ro := ⟨_, rfl⟩
  rw [hro]
  generalize o.getD [] = l at *
  replace hro := Lib.hid hro
  have hst := Lib.hid (loop_begin l)
  go_enter Try.func32, Try.ntmps32
  go_wp2_with fail
  go_loop [3, 11] (fun a i => ∃ n k : Nat, a = .int .u64 (n : Int) ∧ i = .int .i64 (k : Int) ∧ k ≤ l.length ∧ Hid (LoopOk l k n)) (fun _ i => l.length - (intOf i).toNat)
  case atStart => exact ⟨0, 0, rfl, rfl, Nat.zero_le _, hst⟩
  case round =>
    obtain ⟨n, k, rfl, rfl, hk, hOk⟩ := hrel
    clear hst
    have hn64 := loop_lt hOk.out
    by_cases hlt : k < l.length
    · have hkl : (k : Int) < (l.length : Int) := by omega
      have hk0 : (0 : Int) ≤ (k : Int) := by omega
      have hb := bt_lt l k
      have hbt := Lib.hid (show bt l k = ((l[k]'hlt).toNat : Int) by unfold bt; simp [List.getD, List.getElem?_eq_getElem hlt])
      obtain ⟨c, hc⟩ : ∃ c : Nat, (l[k]'hlt).toNat = c := ⟨_, rfl⟩
      have hbc : bt l k = (c : Int) := by rw [hbt.out, hc]
      obtain ⟨z, hz⟩ : ∃ z : Int, ((7 * k : Nat) : Int) = z := ⟨_, rfl⟩
      have hw7 : IntKind.i64.wrap (7 * (k : Int)) = z := by rw [show 7 * (k : Int) = z by omega]; exact IntWalk.i64_in _ (by omega)
      have hs1 := shl_put k (c % 128) z hz
      have hcm : ((c % 128 : Nat) : Int) = (c : Int) % 128 := by omega
      rw [hcm] at hs1
      have hor := or_nat n (put21 k (c % 128)) hn64 (put_lt _ _)
      have hm64 := or_lt hn64 (put_lt k (c % 128))
      have hs2 := shr_get k (n ||| put21 k (c % 128)) z hz
      have hN := Lib.hid (fun e => loop_next hOk.out hlt e)
      have hB := Lib.hid (fun e e2 => loop_bad hOk.out hlt e e2)
      have hG := Lib.hid (fun e e2 e3 => loop_good hOk.out hlt e e2 e3)
      rw [hc] at hN hB hG
      obtain ⟨Y, hY⟩ : ∃ Y, put21 k (c % 128) = Y := ⟨_, rfl⟩
      rw [hY] at hs1 hor hm64 hs2 hN hB hG
      obtain ⟨M, hM⟩ : ∃ M, n ||| Y = M := ⟨_, rfl⟩
      rw [hM] at hor hm64 hs2 hN hB hG
      obtain ⟨Q, hQ⟩ : ∃ Q, M / 2 ^ min (7 * k) 64 = Q := ⟨_, rfl⟩
      rw [hQ] at hs2 hB hG
      rw [hbc] at hb
      obtain ⟨ci, hci⟩ : ∃ ci : Int, (c : Int) = ci := ⟨_, rfl⟩
      obtain ⟨qi, hqi⟩ : ∃ qi : Int, (Q : Int) = qi := ⟨_, rfl⟩
      rw [hci] at hs1 hbc hb
      rw [hqi] at hs2
      replace hc := Lib.hid hc
      clear hcm hY hM hQ hz hbt
      by_cases h128 : c < 128
      · have hcc : ¬ (128 : Int) ≤ ci := by omega
        by_cases hz0 : c = 0 ∧ 0 < k
        · have hno := Lib.hid (hro.out.symm.trans (readI_none (hB.out h128 (Or.inl hz0))))
          have q1 : (ci == 0) = true := by rw [beq_iff_eq]; omega
          have hk2 : decide ((0 : Int) < (k : Int)) = true := decide_eq_true (by omega)
          have hk3 : decide (0 < k) = true := decide_eq_true (by omega)
          clear hN hB hG h128 hz0 hci hqi
          go_wp2_with fail
          refine hfl.out.mono ?_
          rintro e w1 ⟨rfl, k1, k2⟩
          replace k1 := Lib.hid k1
          replace k2 := Lib.hid k2
          go_wp2_with fail
          go_ret
          rw [hno.out]
          exact ⟨rfl, k1.out, k2.out⟩
        · by_cases hQc : Q = c
          · have hgo := Lib.hid (hro.out.symm.trans (readI_some (hG.out h128 hz0 hQc)))
            have hset := Lib.hid (hgood.out _ _ (readI_some (hG.out h128 hz0 hQc)))
            have hhv := Lib.hid (fun W => halved_any M W hm64)
            have q3 : (qi == ci) = true := by rw [beq_iff_eq]; omega
            have q4 : (qi != ci) = false := by rw [bne_eq_false_iff_eq]; omega
            by_cases hc0 : c = 0
            · have q1 : (ci == 0) = true := by rw [beq_iff_eq]; omega
              have hk2 : decide ((0 : Int) < (k : Int)) = false := decide_eq_false (by omega)
              have hk3 : decide (0 < k) = false := decide_eq_false (by omega)
              clear hN hB hG h128 hz0 hc0 hQc hci hqi
              go_wp2_with fail
              refine (hhv.out _).mono ?_
              rintro e w1 ⟨rfl, rfl⟩
              go_wp2_with fail
              go_ret
              rw [hgo.out]
              exact ⟨rfl, hset.out, turn_one _ _ _ _⟩
            · have q1 : (ci == 0) = false := by rw [beq_eq_false_iff_ne]; omega
              clear hN hB hG h128 hz0 hc0 hQc hci hqi
              go_wp2_with fail
              refine (hhv.out _).mono ?_
              rintro e w1 ⟨rfl, rfl⟩
              go_wp2_with fail
              go_ret
              rw [hgo.out]
              exact ⟨rfl, hset.out, turn_one _ _ _ _⟩
          · have hno := Lib.hid (hro.out.symm.trans (readI_none (hB.out h128 (Or.inr hQc))))
            have q3 : (qi == ci) = false := by rw [beq_eq_false_iff_ne]; omega
            have q4 : (qi != ci) = true := by rw [bne_iff_ne]; omega
            by_cases hc0 : c = 0
            · have q1 : (ci == 0) = true := by rw [beq_iff_eq]; omega
              have hk2 : decide ((0 : Int) < (k : Int)) = false := decide_eq_false (by omega)
              have hk3 : decide (0 < k) = false := decide_eq_false (by omega)
              clear hN hB hG h128 hz0 hc0 hQc hci hqi
              go_wp2_with fail
              refine hfl.out.mono ?_
              rintro e w1 ⟨rfl, k1, k2⟩
              replace k1 := Lib.hid k1
              replace k2 := Lib.hid k2
              go_wp2_with fail
              go_ret
              rw [hno.out]
              exact ⟨rfl, k1.out, k2.out⟩
            · have q1 : (ci == 0) = false := by rw [beq_eq_false_iff_ne]; omega
              clear hN hB hG h128 hz0 hc0 hQc hci hqi
              go_wp2_with fail
              refine hfl.out.mono ?_
              rintro e w1 ⟨rfl, k1, k2⟩
              replace k1 := Lib.hid k1
              replace k2 := Lib.hid k2
              go_wp2_with fail
              go_ret
              rw [hno.out]
              exact ⟨rfl, k1.out, k2.out⟩
      · have hcc : (128 : Int) ≤ ci := by omega
        have hN2 := Lib.hid (hN.out (by omega))
        clear hN hB hG h128 hci hqi
        go_wp2_with fail
        go_round
        case rel => exact ⟨M, k + 1, rfl, by go_num, by omega, hN2⟩
        case measure => simp [intOf]; omega
    · have hno := Lib.hid (hro.out.symm.trans (readI_none (loop_end hOk.out (by omega))))
      have hkl : ¬ (k : Int) < (l.length : Int) := by omega
      go_wp2_with fail
      refine hfl.out.mono ?_
      rintro e w1 ⟨rfl, k1, k2⟩
      replace k1 := Lib.hid k1
      replace k2 := Lib.hid k2
      go_wp2_with fail
      go_ret
      rw [hno.out]
      exact ⟨rfl, k1.out, k2.out⟩
end Go.Proofs.Ytpfcamebkcengaa
