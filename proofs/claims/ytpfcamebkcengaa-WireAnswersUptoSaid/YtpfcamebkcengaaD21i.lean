/- Layer 21: the reader in memory: sig, entry. -/
import Derived.Test.YtpfcamebkcengaaD21h
namespace Go.Proofs.Ytpfcamebkcengaa
open Go.RowKit

/-- Eight bytes as a number. -/
def sigO (s : List UInt8) : Option (Nat × List UInt8) := if s.length < 8 then none else some (rdLe (s.take 8), s.drop 8)
theorem rd_snoc : ∀ (l : List UInt8) (c : UInt8), rdLe (l ++ [c]) = rdLe l + c.toNat * 2 ^ (8 * l.length)
  | [], c => by simp [rdLe]
  | x :: r, c => by
    rw [List.cons_append, rdLe, rd_snoc r c, rdLe, List.length_cons, show 8 * (r.length + 1) = 8 + 8 * r.length by omega, Nat.pow_add, show (2 : Nat) ^ 8 = 256 from rfl, Nat.mul_add, ← Nat.mul_assoc, ← Nat.mul_assoc, Nat.mul_comm 256 c.toNat]
    omega
theorem rd_lt2 (l : List UInt8) : rdLe l < 2 ^ (8 * l.length) := by
  have := rd_lt l
  rwa [show (256 : Nat) = 2 ^ 8 from rfl, ← Nat.pow_mul] at this
theorem sig_or {n c j : Nat} (hn : n < 2 ^ (8 * j)) (hc : c < 256) (hj : j ≤ 7) : c * 2 ^ (8 * j) % 18446744073709551616 = c * 2 ^ (8 * j) ∧ n ||| c * 2 ^ (8 * j) = n + c * 2 ^ (8 * j) ∧ n + c * 2 ^ (8 * j) < 18446744073709551616 := by
  have h1 : 2 ^ (8 * j) ≤ 72057594037927936 := Nat.pow_le_pow_right (show 0 < 2 by decide) (show 8 * j ≤ 56 by omega)
  have h2 : c * 2 ^ (8 * j) ≤ 255 * 2 ^ (8 * j) := Nat.mul_le_mul_right _ (by omega)
  refine ⟨Nat.mod_eq_of_lt (by omega), ?_, by omega⟩
  rw [Nat.or_comm, Nat.mul_comm, ← Nat.two_pow_add_eq_or_of_lt hn, Nat.add_comm]
theorem sig_piece (o : Option (List UInt8)) : resO (o.bind sigO) = resO (o.bind (pieceO 8)) ∧ (∀ n t, o.bind sigO = some (n, t) → rdLe (valO [] (o.bind (pieceO 8))) = n) ∧ (valO [] (o.bind (pieceO 8))).length ≤ 8 := by
  cases o with
  | none => exact ⟨rfl, (fun n t h => by cases h), by simp [valO]⟩
  | some l =>
    simp only [Option.bind_some]
    unfold sigO pieceO
    by_cases h : l.length < 8
    · rw [if_pos h, if_pos (by omega)]
      exact ⟨rfl, (fun n t h => by cases h), by simp [valO]⟩
    · rw [if_neg h, if_neg (by omega)]
      refine ⟨rfl, (fun n t h => ?_), by simp [valO]; omega⟩
      simp only [Option.some.injEq, Prod.mk.injEq] at h
      rw [← h.1]
      rfl

set_option maxHeartbeats 2000000 in
set_option maxRecDepth 100000 in
theorem rd_sig {w : World} {R : Nat} {o : Option (List UInt8)} (h : RdO w R o) :
    Calls Try.prog 72 #[.pointer (some ⟨R, 0, none⟩)] w (RdGot w R (fun n : Nat => .int .u64 n) (o.bind sigO)) := by
  obtain ⟨hs1, hs2, hs3⟩ := sig_piece o
  have hp := Lib.hid (rd_piece h 8)
  generalize o.bind (pieceO 8) = P at *
  generalize o.bind sigO = G at *
  obtain ⟨S, hS⟩ : ∃ S, valO [] P = S := ⟨_, rfl⟩
  rw [hS] at hs2 hs3 hp
  replace hs1 := Lib.hid hs1
  replace hs2 := Lib.hid hs2
  replace h := Lib.hid h
  have hst : Hid (0 = rdLe (S.take 0)) := Lib.hid (by simp [rdLe])
  clear hS
  go_enter Try.func72, Try.ntmps72
  go_wp2_with fail
  refine hp.out.mono ?_
  rintro e w1 ⟨rfl, k1, k2⟩
  replace k1 := Lib.hid k1
  replace k2 := Lib.hid k2
  clear hp
  go_wp2_with fail
  go_loop [4, 10] (fun a i => ∃ n j : Nat, a = .int .u64 (n : Int) ∧ i = .int .i64 (j : Int) ∧ j ≤ S.length ∧ Hid (n = rdLe (S.take j))) (fun _ i => S.length - (intOf i).toNat)
  case atStart => exact ⟨0, 0, rfl, rfl, Nat.zero_le _, hst⟩
  case round =>
    obtain ⟨n, j, rfl, rfl, hj, hn⟩ := hrel
    clear hst
    by_cases hlt : j < S.length
    · have hjl : (j : Int) < (S.length : Int) := by omega
      have hj0 : (0 : Int) ≤ (j : Int) := by omega
      have hb := bt_lt S j
      have hbt := Lib.hid (show bt S j = ((S[j]'hlt).toNat : Int) by unfold bt; simp [List.getD, List.getElem?_eq_getElem hlt])
      have hsn := rd_snoc (S.take j) (S[j]'hlt)
      rw [← List.take_succ_eq_append_getElem hlt, List.length_take, show min j S.length = j by omega, ← hn.out] at hsn
      have hnl : n < 2 ^ (8 * j) := by
        have := rd_lt2 (S.take j)
        rwa [List.length_take, show min j S.length = j by omega, ← hn.out] at this
      have hcl := (S[j]'hlt).toNat_lt
      obtain ⟨c, hc⟩ : ∃ c : Nat, (S[j]'hlt).toNat = c := ⟨_, rfl⟩
      rw [hc] at hsn hcl hbt
      have hbc := hbt.out
      obtain ⟨z, hz⟩ : ∃ z : Int, ((8 * j : Nat) : Int) = z := ⟨_, rfl⟩
      have hw8 : IntKind.i64.wrap (8 * (j : Int)) = z := by rw [show 8 * (j : Int) = z by omega]; exact IntWalk.i64_in _ (by omega)
      obtain ⟨o1, o2, o3⟩ := sig_or hnl hcl (by omega)
      have hs := shl_u64 c (8 * j) .i64 z hz (by omega)
      rw [o1] at hs
      have hor := or_nat n (c * 2 ^ (8 * j)) (by omega) (by omega)
      rw [o2] at hor
      obtain ⟨Y, hY⟩ : ∃ Y, c * 2 ^ (8 * j) = Y := ⟨_, rfl⟩
      rw [hY] at hs hor hsn o3
      obtain ⟨M, hM⟩ : ∃ M, n + Y = M := ⟨_, rfl⟩
      rw [hM] at hor hsn o3
      rw [hbc] at hb
      obtain ⟨ci, hci⟩ : ∃ ci : Int, (c : Int) = ci := ⟨_, rfl⟩
      rw [hci] at hs hbc hb
      replace hsn := Lib.hid hsn.symm
      clear hnl hcl hc hz o1 o2 hY hM hci hbt hn
      go_wp2_with fail
      go_round
      case rel => exact ⟨M, j + 1, rfl, by go_num, by omega, hsn⟩
      case measure => simp [intOf]; omega
    · have hjl : ¬ (j : Int) < (S.length : Int) := by omega
      have he := Lib.hid (show rdLe S = n by rw [hn.out, List.take_of_length_le (by omega)])
      clear hn
      go_wp2_with fail
      go_ret
      exact ⟨n, rfl, fun y t e => he.out.symm.trans (hs2.out y t e), by rw [hs1.out]; exact k1.out, k2.out⟩

/-- An entry is its parts. -/
theorem entO (o : Option (List UInt8)) (K : Option (Ky21 × List UInt8)) (T1 T2 T3 : Option (List UInt8 × List UInt8)) (N : Option (Int × List UInt8)) (S : Option (Nat × List UInt8)) (hK : o.bind readK21 = K) (h1 : (resO K).bind (readT21 · 262144) = T1) (h2 : (resO T1).bind (readT21 · 262144) = T2) (h3 : (resO T2).bind (readT21 · 262144) = T3) (hN : (resO T3).bind readI21 = N) (hS : (resO N).bind sigO = S) :
    resO (o.bind readE21) = resO S ∧ ∀ k sg, (∀ y t, K = some (y, t) → k = y) → (∀ y t, S = some (y, t) → sg = y) → ∀ y t, o.bind readE21 = some (y, t) → (⟨k, valO [] T1, valO [] T2, valO [] T3, valO 0 N, sg⟩ : En21) = y := by
  cases o with
  | none => subst hK h1 h2 h3 hN hS; exact ⟨rfl, fun _ _ _ _ y t h => by cases h⟩
  | some l =>
    simp only [Option.bind_some] at hK ⊢
    unfold readE21
    rw [hK]
    cases K with
    | none => subst h1 h2 h3 hN hS; exact ⟨rfl, fun _ _ _ _ y t h => by cases h⟩
    | some p =>
      obtain ⟨k0, s1⟩ := p
      simp only [resO, Option.map_some, Option.bind_some] at h1 ⊢
      rw [h1]
      cases T1 with
      | none => subst h2 h3 hN hS; exact ⟨rfl, fun _ _ _ _ y t h => by cases h⟩
      | some p =>
        obtain ⟨a, s2⟩ := p
        simp only [resO, Option.map_some, Option.bind_some] at h2 ⊢
        rw [h2]
        cases T2 with
        | none => subst h3 hN hS; exact ⟨rfl, fun _ _ _ _ y t h => by cases h⟩
        | some p =>
          obtain ⟨b, s3⟩ := p
          simp only [resO, Option.map_some, Option.bind_some] at h3 ⊢
          rw [h3]
          cases T3 with
          | none => subst hN hS; exact ⟨rfl, fun _ _ _ _ y t h => by cases h⟩
          | some p =>
            obtain ⟨c, s4⟩ := p
            simp only [resO, Option.map_some, Option.bind_some] at hN ⊢
            rw [hN]
            cases N with
            | none => subst hS; exact ⟨rfl, fun _ _ _ _ y t h => by cases h⟩
            | some p =>
              obtain ⟨n, s5⟩ := p
              simp only [resO, Option.map_some, Option.bind_some] at hS ⊢
              unfold sigO at hS
              by_cases h8 : s5.length < 8
              · rw [if_pos h8] at hS
                rw [if_pos h8, ← hS]
                exact ⟨rfl, fun _ _ _ _ y t h => by cases h⟩
              · rw [if_neg h8] at hS
                rw [if_neg h8, ← hS]
                refine ⟨rfl, fun k sg hk hs y t h => ?_⟩
                simp only [Option.some.injEq, Prod.mk.injEq] at h
                rw [← h.1, hk _ _ rfl, hs _ _ rfl]
                rfl
theorem resK_len (o : Option (List UInt8)) : ((resO (o.bind readK21)).getD []).length ≤ (o.getD []).length := by
  rw [(keyO o).1]
  exact Nat.le_trans (resT_len _ _) (resT_len _ _)

set_option maxHeartbeats 4000000 in
set_option maxRecDepth 100000 in
theorem rd_entry {w : World} {R : Nat} {o : Option (List UInt8)} (h : RdO w R o) (hl : (o.getD []).length ≤ 1000000000) :
    Calls Try.prog 60 #[.pointer (some ⟨R, 0, none⟩)] w (RdGot w R enV (o.bind readE21)) := by
  have hb := (Below.refl w.heap.size w).alloc (Nat.le_refl _) (.cells #[.string ⟨#[]⟩, .string ⟨#[]⟩, .string ⟨#[]⟩, .string ⟨#[]⟩, .string ⟨#[]⟩, .int .i64 0, .int .u64 0] 53)
  have hRw := ArrAt.lt h
  have hx0 := Lib.hid (arrAt_new w 53 [Value.string ⟨#[]⟩, .string ⟨#[]⟩, .string ⟨#[]⟩, .string ⟨#[]⟩, .string ⟨#[]⟩, .int .i64 0, .int .u64 0])
  have hn0 := Lib.hid (rd_key (h.next hb) hl)
  have l1 := resK_len o
  obtain ⟨K, hK⟩ : ∃ K, o.bind readK21 = K := ⟨_, rfl⟩
  have l2 := resT_len (resO K) 262144
  obtain ⟨T1, h1⟩ : ∃ T, (resO K).bind (readT21 · 262144) = T := ⟨_, rfl⟩
  have l3 := resT_len (resO T1) 262144
  obtain ⟨T2, h2⟩ : ∃ T, (resO T1).bind (readT21 · 262144) = T := ⟨_, rfl⟩
  have l4 := resT_len (resO T2) 262144
  obtain ⟨T3, h3⟩ : ∃ T, (resO T2).bind (readT21 · 262144) = T := ⟨_, rfl⟩
  have l5 := resI_len (resO T3)
  obtain ⟨N, hN⟩ : ∃ T, (resO T3).bind readI21 = T := ⟨_, rfl⟩
  obtain ⟨S, hS⟩ : ∃ T, (resO N).bind sigO = T := ⟨_, rfl⟩
  obtain ⟨e1, e2⟩ := entO o K T1 T2 T3 N S hK h1 h2 h3 hN hS
  rw [hK] at hn0 l1
  rw [h1] at l2
  rw [h2] at l3
  rw [h3] at l4
  rw [hN] at l5
  replace e1 := Lib.hid e1
  replace e2 := Lib.hid e2
  replace h := Lib.hid h
  replace hb := Lib.hid hb
  replace hS := Lib.hid hS
  replace hN := Lib.hid hN
  replace h3 := Lib.hid h3
  replace h2 := Lib.hid h2
  replace h1 := Lib.hid h1
  clear hK
  go_enter Try.func60, Try.ntmps60
  go_wp2_with fail
  refine hn0.out.mono ?_
  rintro e w1 ⟨k, rfl, hk, k1, k2⟩
  obtain ⟨kf, kg⟩ := k
  unfold kyV kyC
  simp only
  have hn1 := rd_text k1 (by omega) 262144
  rw [h1.out] at hn1
  replace hn1 := Lib.hid hn1
  have hx1 := Lib.hid (ArrAt.turned hx0.out k2 (by show ¬ w.heap.size = R; omega))
  have t1 := Lib.hid (turn_ahead hb.out k2)
  clear k1 k2 hn0 hx0
  replace hk := Lib.hid hk
  go_wp2_with fail
  refine hn1.out.mono ?_
  rintro e w2 ⟨rfl, k1, k2⟩
  have hn2 := rd_text k1 (by omega) 262144
  rw [h2.out] at hn2
  replace hn2 := Lib.hid hn2
  have hx2 := Lib.hid (ArrAt.turned hx1.out k2 (by show ¬ w.heap.size = R; omega))
  have t2 := Lib.hid (turn_on t1.out k2)
  clear k1 k2 hn1 hx1 t1
  go_wp2_with fail
  refine hn2.out.mono ?_
  rintro e w3 ⟨rfl, k1, k2⟩
  have hn3 := rd_text k1 (by omega) 262144
  rw [h3.out] at hn3
  replace hn3 := Lib.hid hn3
  have hx3 := Lib.hid (ArrAt.turned hx2.out k2 (by show ¬ w.heap.size = R; omega))
  have t3 := Lib.hid (turn_on t2.out k2)
  clear k1 k2 hn2 hx2 t2
  go_wp2_with fail
  refine hn3.out.mono ?_
  rintro e w4 ⟨rfl, k1, k2⟩
  have hn4 := rd_number k1 (by omega)
  rw [hN.out] at hn4
  replace hn4 := Lib.hid hn4
  have hx4 := Lib.hid (ArrAt.turned hx3.out k2 (by show ¬ w.heap.size = R; omega))
  have t4 := Lib.hid (turn_on t3.out k2)
  clear k1 k2 hn3 hx3 t3
  go_wp2_with fail
  refine hn4.out.mono ?_
  rintro e w5 ⟨rfl, k1, k2⟩
  have hn5 := rd_sig k1
  rw [hS.out] at hn5
  replace hn5 := Lib.hid hn5
  have hx5 := Lib.hid (ArrAt.turned hx4.out k2 (by show ¬ w.heap.size = R; omega))
  have t5 := Lib.hid (turn_on t4.out k2)
  clear k1 k2 hn4 hx4 t4
  go_wp2_with fail
  refine hn5.out.mono ?_
  rintro e w6 ⟨sg, rfl, hsg, k1, k2⟩
  have hx6 := ArrAt.turned hx5.out k2 (by show ¬ w.heap.size = R; omega)
  have hcell := fun i => hx6.cell i
  have hsoft := fun i => hx6.soft i
  have z0 := hcell 0
  have s0 := hsoft 0
  have z1 := hcell 1
  have s1 := hsoft 1
  have z2 := hcell 2
  have s2 := hsoft 2
  have z3 := hcell 3
  have s3 := hsoft 3
  have z4 := hcell 4
  have s4 := hsoft 4
  have z5 := hcell 5
  have s5 := hsoft 5
  have z6 := hcell 6
  have s6 := hsoft 6
  simp only [List.getElem?_cons_zero, List.getElem?_cons_succ] at z0 z1 z2 z3 z4 z5 z6
  replace k1 := Lib.hid k1
  have t6 := Lib.hid (turn_on t5.out k2)
  replace hsg := Lib.hid hsg
  replace hk := hk.out
  replace hk := Lib.hid hk
  clear hcell hsoft k2 hx6 hx5 hn5 t5
  go_wp2_with fail
  refine bodyPost_ret (v := enV ⟨⟨kf, kg⟩, valO [] T1, valO [] T2, valO [] T3, valO 0 N, sg⟩) (by simp [results, Try.results60, enV, enC, go_sem, z0, z1, z2, z3, z4, z5, z6]) rfl ?_
  refine RdGot.mk _ (e2.out _ _ hk.out hsg.out) ?_ ?_
  · rw [e1.out]
    refine ArrAt.far (ArrAt.far (ArrAt.far (ArrAt.far (ArrAt.far (ArrAt.far (ArrAt.far k1.out 0 _ ?_) 1 _ ?_) 2 _ ?_) 3 _ ?_) 4 _ ?_) 5 _ ?_) 6 _ ?_
    all_goals exact Nat.ne_of_lt hRw
  · exact turn_own (turn_own (turn_own (turn_own (turn_own (turn_own (turn_own t6.out (Nat.le_refl _) 0 _) (Nat.le_refl _) 1 _) (Nat.le_refl _) 2 _) (Nat.le_refl _) 3 _) (Nat.le_refl _) 4 _) (Nat.le_refl _) 5 _) (Nat.le_refl _) 6 _
end Go.Proofs.Ytpfcamebkcengaa
