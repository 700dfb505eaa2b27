/- Layer 16: the law FeedCodes. -/
import Derived.Test.YtkgjbamkinfmeaaGreatDoorD16d
namespace Go.Proofs.YtkgjbamkinfmeaaGreatDoor
open Go.RowKit

theorem codeL16_nil (w : World) : Calls Tryz.prog 11 #[.nilIface] w fun e w' => e = .returned (.int .i64 0) ∧ w = w' := by
  go_enter Tryz.func11, Tryz.ntmps11
  go_wp2_with fail
  go_ret
  exact ⟨rfl, rfl⟩
set_option maxHeartbeats 1000000 in
theorem codeL16_any (n : Nat) (T : TypeId) (y : Value) (x : Int) (w : World) (h : Chain w x n (.iface T y)) (h1 : 1 ≤ x) (h2 : x ≤ 15) : Calls Tryz.prog 11 #[.iface T y] w fun e w' => e = .returned (.int .i64 x) ∧ w = w' := by
  have hnil := eq_nil16
  replace h := Lib.hid h
  go_enter Tryz.func11, Tryz.ntmps11
  go_wp2_with fail
  go_loopw [3] (fun i wr => ∃ c : Int, i = .int .i64 c ∧ 1 ≤ c ∧ c ≤ x ∧ wr = w) (fun i _ => (15 - intOf i).toNat)
  case atStart => exact ⟨1, rfl, by omega, h1, rfl⟩
  case round =>
    obtain ⟨c, rfl, hc1, hcx, rfl⟩ := hrel
    have hle : c ≤ 15 := by omega
    have hI := is16_any n _ x c _ h.out
    unfold cdV at hI
    by_cases e : x = c
    · subst e
      rw [show (x == x) = true from beq_self_eq_true x] at hI
      replace hI := Lib.hid hI
      go_wp2_with fail
      refine hI.out.mono ?_; rintro e w' ⟨rfl, rfl⟩
      go_wp2_with fail
      go_ret
      exact ⟨rfl, rfl⟩
    · rw [show (x == c) = false from by rw [beq_eq_false_iff_ne]; exact e] at hI
      have hlt : c < x := by omega
      replace hI := Lib.hid hI
      replace e := Lib.hid e
      go_wp2_with fail
      refine hI.out.mono ?_; rintro e w' ⟨rfl, rfl⟩
      go_wp2_with fail
      exact ⟨⟨c + 1, by go_num, by omega, by omega, trivial⟩, by simp [intOf]; omega⟩

theorem num16 (c : Int) : 1 ≤ wrap64 (IntKind.u64.wrap (1 + (IntKind.u64.wrap c).tmod 15)) ∧ wrap64 (IntKind.u64.wrap (1 + (IntKind.u64.wrap c).tmod 15)) ≤ 15 := by
  have h0 := wrap_u64_nonneg c
  generalize IntKind.u64.wrap c = r at h0 ⊢
  have h1 : r.tmod 15 = r % 15 := Int.tmod_eq_emod_of_nonneg h0
  rw [h1, IntWalk.u64_in _ (by omega), IntWalk.wrap64_in _ (by omega)]
  omega
/-- What the loop that wraps keeps. -/
structure CodeAt (w : World) (m : Int) (k : Nat) (v : Value) (wr : World) : Prop where
  chain : Chain wr m k v
  below : Below w.heap.size w wr
theorem CodeAt.more {w wr : World} {m : Int} {k : Nat} {v : Value} (h : CodeAt w m k v wr) : CodeAt w m (k + 1) (.iface 38 (.pointer (some ⟨wr.heap.size, 0, none⟩))) (wr.alloc (.cells #[.int .i64 k, v] 40)) := by
  have hb : Below wr.heap.size wr (wr.alloc (.cells #[.int .i64 k, v] 40)) := (Below.refl _ _).alloc (Nat.le_refl _) _
  exact ⟨⟨wr.heap.size, k, v, rfl, arrAt_new wr _ [.int .i64 k, v], h.chain.below hb⟩, h.below.andThen hb⟩

set_option maxRecDepth 100000 in
set_option maxHeartbeats 8000000 in
/-- The law FeedCodes. -/
theorem codes16_law (c t : Int) (s : List UInt8) (A B : Addr) (w : World) (ht : 0 ≤ t ∧ t ≤ 255) (hL : Laid16 w A B) :
    Calls Tryz.prog 4 #[.int .i64 c, .int .u8 t, .string ⟨s.toArray⟩] w (LawPost w) := by
  have haw := Lib.hid (fun W (hb : Below w.heap.size w W) => awake16_any A B W (hL.below hb))
  by_cases hlen : 3000 < s.length
  · have hl1 : (3000 : Int) < s.length := by omega
    clear hL
    go_enter Tryz.func4, Tryz.ntmps4
    go_wp2_with fail
    refine (haw.out _ (Below.refl _ _)).mono ?_
    rintro e w1 ⟨rfl, b1⟩
    go_wp2_with fail
    go_ret
    exact ⟨rfl, b1⟩
  have hl1 : ¬ ((3000 : Int) < s.length) := by omega
  obtain ⟨ht0, ht1⟩ := ht
  obtain ⟨tn, rfl⟩ : ∃ tn : Nat, t = tn := ⟨t.toNat, by omega⟩
  have ht2 : tn ≤ 255 := by omega
  have e1 := IntWalk.i64_in (tn : Int) (by omega)
  have s1 := Lib.hid some16_any
  unfold prmV prmC someP at s1
  have hLn := Lib.hid (fun W (hb : Below w.heap.size w W) => hL.below hb)
  clear hL
  go_enter Tryz.func4, Tryz.ntmps4
  go_wp2_with fail
  have hn := num16 c
  generalize wrap64 (IntKind.u64.wrap (1 + (IntKind.u64.wrap c).tmod 15)) = m at hn ⊢
  generalize IntKind.u64.wrap (1 + (IntKind.u64.wrap c).tmod 15) = m2
  generalize (IntKind.u64.wrap c).tmod 15 = m3
  generalize IntKind.u64.wrap c = m4
  obtain ⟨hm1, hm2⟩ := hn
  go_loopw [8, 9] (fun ev iv wr => ∃ k : Nat, iv = .int .i64 k ∧ k ≤ tn ∧ Hid (CodeAt w m k ev wr)) (fun _ iv _ => tn - (intOf iv).toNat)
  case atStart => exact ⟨0, rfl, Nat.zero_le _, Lib.hid ⟨rfl, Below.refl _ _⟩⟩
  case round =>
    obtain ⟨k, rfl, hk, hC⟩ := hrel
    obtain ⟨T, y, rfl⟩ := hC.out.chain.form
    by_cases hlt : k < tn
    · have hlt1 : (k : Int) < tn := by omega
      have hkm : (k : Int) + 1 ≤ 9223372036854775807 := by omega
      have hC1 := Lib.hid hC.out.more
      clear hC
      go_wp2_with fail
      exact ⟨⟨k + 1, by go_num, by omega, hC1⟩, by simp [intOf]; omega⟩
    obtain rfl : k = tn := by omega
    have hke : ¬ ((k : Int) < k) := by omega
    clear hlt
    go_wp2_with fail
    have hbe := hC.out.below
    refine (s1.out _).mono ?_
    rintro e w1 ⟨rfl, hb1⟩
    have hb2 := hbe.andThen hb1
    have hP := parse16_any s someP A B w1 (hLn.out w1 hb2) (by omega)
    obtain ⟨o, ho⟩ : ∃ o, parseB someP.doc someP.dep someP.many someP.most s = o := ⟨_, rfl⟩
    rw [ho] at hP
    unfold prmV prmC someP at hP
    replace hP := Lib.hid hP
    replace hC := Lib.hid (hC.out.chain.below hb1)
    replace hb2 := Lib.hid hb2
    replace ho := Lib.hid ho
    clear hb1 hbe s1
    go_wp2_with fail
    refine hP.out.mono ?_
    rintro e w2 hh
    clear hP
    cases o with
    | its l =>
      obtain ⟨v, rfl, hv, hb3⟩ := hh
      obtain ⟨va, vc, rfl⟩ := own_form hv
      replace hC := Lib.hid (hC.out.below hb3)
      replace hb2 := Lib.hid (hb2.out.andThen hb3)
      clear hv hb3 ho
      go_wp2_with fail
      go_loopw [12, 13] (fun kv xv wr => ∃ X : Int, xv = .int .i64 X ∧ 1 ≤ X ∧ X ≤ 16 ∧ kv = .int .i64 0 ∧ wr = w2) (fun _ xv _ => (16 - intOf xv).toNat)
      case atStart => exact ⟨1, rfl, by omega, by omega, rfl, rfl⟩
      case round =>
        obtain ⟨X, rfl, hX1, hX2, rfl, rfl⟩ := hrel
        by_cases hX : X ≤ 15
        · have hI := is14_nil X wr
          unfold codeV at hI
          replace hI := Lib.hid hI
          go_wp2_with fail
          refine hI.out.mono ?_
          rintro e w' ⟨rfl, rfl⟩
          go_wp2_with fail
          exact ⟨⟨X + 1, by go_num, by omega, by omega, rfl, trivial⟩, by simp [intOf]; omega⟩
        · go_wp2_with fail
          refine (haw.out wr hb2.out).mono ?_
          rintro e w3 ⟨rfl, hb4⟩
          have hb5 := hb2.out.andThen hb4
          have hC3 := hC.out.below hb4
          have k1 := Lib.hid (code16_any k _ m w3 hC3 (by omega) (hLn.out w3 hb5).ty)
          have hmm : (m == m) = true := beq_self_eq_true m
          replace hb5 := Lib.hid hb5
          replace hC3 := Lib.hid hC3
          clear hb4 hC hb2 haw
          go_wp2_with fail
          refine k1.out.mono ?_
          rintro e w4 ⟨rfl, hb6⟩
          have k2 := is16_any k _ m m w4 (hC3.out.below hb6)
          rw [hmm] at k2
          unfold cdV at k2
          replace k2 := Lib.hid k2
          replace hb5 := Lib.hid (hb5.out.andThen hb6)
          clear hb6 k1 hC3
          go_wp2_with fail
          refine k2.out.mono ?_
          rintro e w' ⟨rfl, rfl⟩
          go_wp2_with fail
          refine (code16_nil _).mono ?_
          rintro e w5 ⟨rfl, hb7⟩
          replace hb5 := Lib.hid (hb5.out.andThen hb7)
          clear hb7
          go_wp2_with fail
          refine (code16_nil _).mono ?_
          rintro e w6 ⟨rfl, hb8⟩
          replace hb5 := Lib.hid (hb5.out.andThen hb8)
          clear hb8
          go_wp2_with fail
          refine (codeL16_nil _).mono ?_
          rintro e w' ⟨rfl, rfl⟩
          go_wp2_with fail
          go_ret
          exact ⟨rfl, hb5.out⟩
    | bad q =>
      obtain ⟨hq1, hq2⟩ := parseB_codes ho.out
      obtain ⟨nf, v, hnf, rfl, hF, hb3⟩ := hh
      obtain ⟨T2, y2, rfl⟩ := hF.form
      have hnil := eq_nil16
      replace hC := Lib.hid (hC.out.below hb3)
      replace hb2 := Lib.hid (hb2.out.andThen hb3)
      replace hF := Lib.hid hF
      clear hb3 ho
      go_wp2_with fail
      go_loopw [12, 13] (fun kv xv wr => ∃ X kk : Int, xv = .int .i64 X ∧ 1 ≤ X ∧ X ≤ 16 ∧ kv = .int .i64 kk ∧ Hid ((q < X ∧ kk = 1) ∨ (X ≤ q ∧ kk = 0)) ∧ wr = w2) (fun _ xv _ => (16 - intOf xv).toNat)
      case atStart => exact ⟨1, 0, rfl, by omega, by omega, rfl, Lib.hid (Or.inr ⟨hq1, rfl⟩), rfl⟩
      case round =>
        obtain ⟨X, kk, rfl, hX1, hX2, rfl, hkk, rfl⟩ := hrel
        by_cases hX : X ≤ 15
        · have hI := is16_any nf _ q X wr hF.out
          unfold cdV at hI
          by_cases e : q = X
          · subst e
            obtain rfl : kk = 0 := by have := hkk.out; omega
            rw [show (q == q) = true from beq_self_eq_true q] at hI
            replace hI := Lib.hid hI
            clear hkk
            go_wp2_with fail
            refine hI.out.mono ?_
            rintro e w' ⟨rfl, rfl⟩
            go_wp2_with fail
            exact ⟨⟨q + 1, 1, by go_num, by omega, by omega, rfl, Lib.hid (Or.inl ⟨by omega, rfl⟩), trivial⟩, by simp [intOf]; omega⟩
          · rw [show (q == X) = false from by rw [beq_eq_false_iff_ne]; exact e] at hI
            have hk2 : Hid ((q < X + 1 ∧ kk = 1) ∨ (X + 1 ≤ q ∧ kk = 0)) := Lib.hid (by have := hkk.out; omega)
            replace hI := Lib.hid hI
            replace e := Lib.hid e
            clear hkk
            go_wp2_with fail
            refine hI.out.mono ?_
            rintro e w' ⟨rfl, rfl⟩
            go_wp2_with fail
            exact ⟨⟨X + 1, kk, by go_num, by omega, by omega, rfl, hk2, trivial⟩, by simp [intOf]; omega⟩
        · obtain rfl : kk = 1 := by have := hkk.out; omega
          clear hkk
          go_wp2_with fail
          refine (haw.out wr hb2.out).mono ?_
          rintro e w3 ⟨rfl, hb4⟩
          have hb5 := hb2.out.andThen hb4
          have hC3 := hC.out.below hb4
          have hF3 := hF.out.below hb4
          have k1 := Lib.hid (code16_any k _ m w3 hC3 (by omega) (hLn.out w3 hb5).ty)
          have hmm : (m == m) = true := beq_self_eq_true m
          have hqq : (q == q) = true := beq_self_eq_true q
          replace hb5 := Lib.hid hb5
          replace hC3 := Lib.hid hC3
          replace hF3 := Lib.hid hF3
          clear hb4 hC hF hb2 haw
          go_wp2_with fail
          refine k1.out.mono ?_
          rintro e w4 ⟨rfl, hb6⟩
          have k2 := is16_any k _ m m w4 (hC3.out.below hb6)
          rw [hmm] at k2
          unfold cdV at k2
          replace k2 := Lib.hid k2
          replace hb5 := Lib.hid (hb5.out.andThen hb6)
          replace hF3 := Lib.hid (hF3.out.below hb6)
          clear hb6 k1 hC3
          go_wp2_with fail
          refine k2.out.mono ?_
          rintro e w' ⟨rfl, rfl⟩
          go_wp2_with fail
          refine (code16_nil _).mono ?_
          rintro e w5 ⟨rfl, hb7⟩
          have hb8 := hb5.out.andThen hb7
          have hF5 := hF3.out.below hb7
          have k3 := Lib.hid (code16_any nf _ q w5 hF5 (by omega) (hLn.out w5 hb8).ty)
          replace hb8 := Lib.hid hb8
          replace hF5 := Lib.hid hF5
          clear hb7 hb5 hF3
          go_wp2_with fail
          refine k3.out.mono ?_
          rintro e w6 ⟨rfl, hb9⟩
          have k4 := Lib.hid (codeL16_any nf _ _ q w6 (hF5.out.below hb9) hq1 hq2)
          replace hb8 := Lib.hid (hb8.out.andThen hb9)
          clear hb9 hF5
          go_wp2_with fail
          refine k4.out.mono ?_
          rintro e w' ⟨rfl, rfl⟩
          go_wp2_with fail
          go_ret
          exact ⟨rfl, hb8.out⟩
end Go.Proofs.YtkgjbamkinfmeaaGreatDoor
