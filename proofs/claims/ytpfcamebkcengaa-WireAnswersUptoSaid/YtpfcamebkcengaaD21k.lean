/- Layer 21: states read; ReadInt, ReadText, ReadState. -/
import Derived.Test.YtpfcamebkcengaaD21j
import Derived.Test.YtpfcamebkcengaaD21d
namespace Go.Proofs.Ytpfcamebkcengaa
open Go.RowKit

/-- A state, and what stands behind it. -/
def stN (s : List UInt8) : Option (St21 × List UInt8) :=
  match readI21 s with
  | none => none
  | some (a, s1) => match readI21 s1 with
    | none => none
    | some (b, s2) => match readI21 s2 with
      | none => none
      | some (c, s3) => match lstN (fun s => readT21 s 24) s3 with
        | none => none
        | some (fs, s4) => match lstN readE21 s4 with
          | none => none
          | some (es, s5) => match lstN readK21 s5 with
            | none => none
            | some (ks, s6) => some (⟨a, b, c, fs, es, ks⟩, s6)
theorem readS_stN (s : List UInt8) : readS21 s = match stN s with | some (x, []) => some x | _ => none := by
  unfold readS21 stN lstN
  cases readI21 s with
  | none => rfl
  | some p =>
    obtain ⟨a, s1⟩ := p
    simp only
    cases readI21 s1 with
    | none => rfl
    | some p =>
      obtain ⟨b, s2⟩ := p
      simp only
      cases readI21 s2 with
      | none => rfl
      | some p =>
        obtain ⟨c, s3⟩ := p
        simp only
        cases readI21 s3 with
        | none => rfl
        | some p =>
          obtain ⟨n, s4⟩ := p
          simp only
          by_cases hn : n < 0
          · rw [if_pos hn, show n.toNat = 0 by omega, readN21]
            simp only
            cases readI21 s4 with
            | none => rfl
            | some p =>
              obtain ⟨k, s6⟩ := p
              simp only
              rw [if_pos (Or.inl hn)]
          · rw [if_neg hn]
            cases readN21 (fun s => readT21 s 24) n.toNat s4 with
            | none => rfl
            | some p =>
              obtain ⟨fs, s5⟩ := p
              simp only
              cases readI21 s5 with
              | none => rfl
              | some p =>
                obtain ⟨k, s6⟩ := p
                simp only
                by_cases hk : k < 0
                · rw [if_pos (Or.inr hk), if_pos hk]
                · rw [if_neg (by omega), if_neg hk]
                  cases readN21 readE21 k.toNat s6 with
                  | none => rfl
                  | some p =>
                    obtain ⟨es, s7⟩ := p
                    simp only
                    cases readI21 s7 with
                    | none => rfl
                    | some p =>
                      obtain ⟨m, s8⟩ := p
                      simp only
                      by_cases hm : m < 0
                      · rw [if_pos hm, if_pos hm]
                      · rw [if_neg hm, if_neg hm]
                        cases readN21 readK21 m.toNat s8 with
                        | none => rfl
                        | some p =>
                          obtain ⟨ks, s9⟩ := p
                          simp only
                          cases s9 with
                          | nil => rfl
                          | cons _ _ => rfl
theorem stO (o : Option (List UInt8)) (A B C : Option (Int × List UInt8)) (F : Option (List (List UInt8) × List UInt8)) (E : Option (List En21 × List UInt8)) (K : Option (List Ky21 × List UInt8)) (hA : o.bind readI21 = A) (hB : (resO A).bind readI21 = B) (hC : (resO B).bind readI21 = C) (hF : (resO C).bind (lstN (fun s => readT21 s 24)) = F) (hE : (resO F).bind (lstN readE21) = E) (hK : (resO E).bind (lstN readK21) = K) :
    resO (o.bind stN) = resO K ∧ ∀ fs es ks, (∀ y t, F = some (y, t) → fs = y) → (∀ y t, E = some (y, t) → es = y) → (∀ y t, K = some (y, t) → ks = y) → ∀ y t, o.bind stN = some (y, t) → (⟨valO 0 A, valO 0 B, valO 0 C, fs, es, ks⟩ : St21) = y := by
  cases o with
  | none => subst hA hB hC hF hE hK; exact ⟨rfl, fun _ _ _ _ _ _ y t h => by cases h⟩
  | some l =>
    simp only [Option.bind_some] at hA ⊢
    unfold stN
    rw [hA]
    cases A with
    | none => subst hB hC hF hE hK; exact ⟨rfl, fun _ _ _ _ _ _ y t h => by cases h⟩
    | some p =>
      obtain ⟨a, s1⟩ := p
      simp only [resO, Option.map_some, Option.bind_some] at hB ⊢
      rw [hB]
      cases B with
      | none => subst hC hF hE hK; exact ⟨rfl, fun _ _ _ _ _ _ y t h => by cases h⟩
      | some p =>
        obtain ⟨b, s2⟩ := p
        simp only [resO, Option.map_some, Option.bind_some] at hC ⊢
        rw [hC]
        cases C with
        | none => subst hF hE hK; exact ⟨rfl, fun _ _ _ _ _ _ y t h => by cases h⟩
        | some p =>
          obtain ⟨c, s3⟩ := p
          simp only [resO, Option.map_some, Option.bind_some] at hF ⊢
          rw [hF]
          cases F with
          | none => subst hE hK; exact ⟨rfl, fun _ _ _ _ _ _ y t h => by cases h⟩
          | some p =>
            obtain ⟨f0, s4⟩ := p
            simp only [resO, Option.map_some, Option.bind_some] at hE ⊢
            rw [hE]
            cases E with
            | none => subst hK; exact ⟨rfl, fun _ _ _ _ _ _ y t h => by cases h⟩
            | some p =>
              obtain ⟨e0, s5⟩ := p
              simp only [resO, Option.map_some, Option.bind_some] at hK ⊢
              rw [hK]
              cases K with
              | none => exact ⟨rfl, fun _ _ _ _ _ _ y t h => by cases h⟩
              | some p =>
                obtain ⟨k0, s6⟩ := p
                refine ⟨rfl, fun fs es ks h1 h2 h3 y t h => ?_⟩
                simp only [Option.some.injEq, Prod.mk.injEq] at h
                rw [← h.1, h1 _ _ rfl, h2 _ _ rfl, h3 _ _ rfl]
                rfl
theorem resL_len {α : Type} (f : List UInt8 → Option (α × List UInt8)) (hf : ∀ s x t, f s = some (x, t) → t.length < s.length) (o : Option (List UInt8)) : ((resO (o.bind (lstN f))).getD []).length ≤ (o.getD []).length := by
  have hN : ∀ k s l t, readN21 f k s = some (l, t) → t.length ≤ s.length := by
    intro k
    induction k with
    | zero => intro s l t h; simp only [readN21, Option.some.injEq, Prod.mk.injEq] at h; rw [h.2]; exact Nat.le_refl _
    | succ k ih =>
      intro s l t h
      rw [readN21] at h
      cases e : f s with
      | none => rw [e] at h; cases h
      | some p =>
        obtain ⟨x, u⟩ := p
        rw [e] at h
        simp only at h
        cases e2 : readN21 f k u with
        | none => rw [e2] at h; cases h
        | some q =>
          obtain ⟨l', t'⟩ := q
          rw [e2] at h
          simp only [Option.some.injEq, Prod.mk.injEq] at h
          have h1 := hf _ _ _ e
          have h2 := ih _ _ _ e2
          rw [← h.2]
          omega
  cases o with
  | none => simp [resO]
  | some l =>
    simp only [Option.bind_some, Option.getD_some]
    unfold lstN
    cases h : readI21 l with
    | none => simp [resO]
    | some p =>
      obtain ⟨n, t⟩ := p
      have h1 := readI_len h
      simp only
      by_cases hn : n < 0
      · rw [if_pos hn]; simp [resO]
      · rw [if_neg hn]
        cases h2 : readN21 f n.toNat t with
        | none => simp [resO]
        | some q =>
          obtain ⟨xs, u⟩ := q
          have := hN _ _ _ _ h2
          simp only [resO, Option.map_some, Option.getD_some]
          omega

/-- A state whose lists the call itself made. -/
structure SvOwn (w : World) (B : Nat) (x : Sv21) : Prop where
  fs : w.ownsRow B 9 1 (.slice x.fa x.st.feeds.length x.fc) x.st.feeds.length (x.st.feeds.flatMap stC)
  es : w.ownsRow B 53 7 (.slice x.ea x.st.entries.length x.ec) x.st.entries.length (x.st.entries.flatMap enC)
  rs : w.ownsRow B 51 2 (.slice x.ra x.st.read.length x.rc) x.st.read.length (x.st.read.flatMap kyC)
theorem SvOwn.next {w w' : World} {B : Nat} {x : Sv21} (h : SvOwn w B x) (hb : Below w.heap.size w w') : SvOwn w' B x := ⟨ownsRow_below h.fs hb, ownsRow_below h.es hb, ownsRow_below h.rs hb⟩
theorem SvOwn.far {w : World} {B K k : Nat} {x : Sv21} {T : TypeId} {c : List Value} (h : SvOwn w B x) (hK : ArrAt w K T c) (h1 : T ≠ 9) (h2 : T ≠ 53) (h3 : T ≠ 51) (v : Value) : SvOwn (w.setCell ⟨K, k, none⟩ v) B x :=
  ⟨ownsRow_turned h.fs (turned_setCell w ⟨K, k, none⟩ v) fun _g hg e => own_ne_arr h.fs hK h1.symm (hg.trans (congrArg some e)), ownsRow_turned h.es (turned_setCell w ⟨K, k, none⟩ v) fun _g hg e => own_ne_arr h.es hK h2.symm (hg.trans (congrArg some e)), ownsRow_turned h.rs (turned_setCell w ⟨K, k, none⟩ v) fun _g hg e => own_ne_arr h.rs hK h3.symm (hg.trans (congrArg some e))⟩
def StPost (w : World) (R : Nat) (r : Option (St21 × List UInt8)) (e : Ending) (w' : World) : Prop :=
  ∃ x : Sv21, e = .returned (svV x) ∧ (∀ y t, r = some (y, t) → x.st = y) ∧ SvOwn w' w.heap.size x ∧ RdO w' R (resO r) ∧ Turned (fun b => b = R) w w'

set_option maxHeartbeats 4000000 in
set_option maxRecDepth 100000 in
theorem rd_state {w : World} {R : Nat} {o : Option (List UInt8)} (h : RdO w R o) (hl : (o.getD []).length ≤ 1000000000) :
    Calls Try.prog 42 #[.pointer (some ⟨R, 0, none⟩)] w (StPost w R (o.bind stN)) := by
  have hb := (Below.refl w.heap.size w).alloc (Nat.le_refl _) (.cells #[.slice none 0 0, .slice none 0 0, .slice none 0 0, .int .i64 0, .int .i64 0, .int .i64 0] 43)
  have hRw := ArrAt.lt h
  have hx0 := Lib.hid (arrAt_new w 43 [Value.slice none 0 0, .slice none 0 0, .slice none 0 0, .int .i64 0, .int .i64 0, .int .i64 0])
  have hn0 := rd_number (h.next hb) (by omega)
  have l1 := resI_len o
  obtain ⟨A, hA⟩ : ∃ T, o.bind readI21 = T := ⟨_, rfl⟩
  have l2 := resI_len (resO A)
  obtain ⟨B, hB⟩ : ∃ T, (resO A).bind readI21 = T := ⟨_, rfl⟩
  have l3 := resI_len (resO B)
  obtain ⟨C, hC⟩ : ∃ T, (resO B).bind readI21 = T := ⟨_, rfl⟩
  have l4 := resL_len (fun s => readT21 s 24) (fun _ _ _ e => (readT_len e).1) (resO C)
  obtain ⟨F, hF⟩ : ∃ T, (resO C).bind (lstN (fun s => readT21 s 24)) = T := ⟨_, rfl⟩
  have l5 := resL_len readE21 (fun _ _ _ e => readE_len e) (resO F)
  obtain ⟨E, hE⟩ : ∃ T, (resO F).bind (lstN readE21) = T := ⟨_, rfl⟩
  obtain ⟨K, hK⟩ : ∃ T, (resO E).bind (lstN readK21) = T := ⟨_, rfl⟩
  obtain ⟨e1, e2⟩ := stO o A B C F E K hA hB hC hF hE hK
  rw [hA] at l1 hn0
  rw [hB] at l2
  rw [hC] at l3
  rw [hF] at l4
  rw [hE] at l5
  replace e1 := Lib.hid e1
  replace e2 := Lib.hid e2
  replace h := Lib.hid h
  replace hb := Lib.hid hb
  replace hB := Lib.hid hB
  replace hC := Lib.hid hC
  replace hF := Lib.hid hF
  replace hE := Lib.hid hE
  replace hK := Lib.hid hK
  replace hn0 := Lib.hid hn0
  clear hA
  go_enter Try.func42, Try.ntmps42
  go_wp2_with fail
  refine hn0.out.mono ?_
  rintro e w1 ⟨rfl, k1, k2⟩
  have hn1 := rd_number k1 (by omega)
  rw [hB.out] at hn1
  replace hn1 := Lib.hid hn1
  have hx1 := Lib.hid (ArrAt.turned hx0.out k2 (by show ¬ w.heap.size = R; omega))
  have t1 := Lib.hid (k2)
  clear k1 k2 hn0 hx0
  go_wp2_with fail
  refine hn1.out.mono ?_
  rintro e w2 ⟨rfl, k1, k2⟩
  have hn2 := rd_number k1 (by omega)
  rw [hC.out] at hn2
  replace hn2 := Lib.hid hn2
  have hx2 := Lib.hid (ArrAt.turned hx1.out k2 (by show ¬ w.heap.size = R; omega))
  have t2 := Lib.hid (turn_on t1.out k2)
  clear k1 k2 hn1 hx1 t1
  go_wp2_with fail
  refine hn2.out.mono ?_
  rintro e w3 ⟨rfl, k1, k2⟩
  have hn3 := rd_texts k1 (by omega)
  rw [hF.out] at hn3
  replace hn3 := Lib.hid hn3
  have hx3 := Lib.hid (ArrAt.turned hx2.out k2 (by show ¬ w.heap.size = R; omega))
  have t3 := Lib.hid (turn_on t2.out k2)
  clear k1 k2 hn2 hx2 t2
  go_wp2_with fail
  refine hn3.out.mono ?_
  rintro e w4 ⟨fv, fl, rfl, fx, fo, ff, k1, k2⟩
  obtain ⟨fa, fc, rfl⟩ := own_form fo
  have fq := Lib.hid (ownsRow_mono fo (show w.heap.size ≤ _ from Nat.le_trans hb.out.size t3.out.size))
  replace fx := Lib.hid fx
  clear fo
  have hn4 := rd_entries k1 (by omega)
  rw [hE.out] at hn4
  replace hn4 := Lib.hid hn4
  have hx4 := Lib.hid (ArrAt.turned hx3.out k2 (by show ¬ w.heap.size = R; omega))
  have t4 := Lib.hid (turn_on t3.out k2)
  clear k1 k2 hn3 hx3 t3
  go_wp2_with fail
  refine hn4.out.mono ?_
  rintro e w5 ⟨ev, el, rfl, ex, eo, ef, k1, k2⟩
  obtain ⟨ea, ec, rfl⟩ := own_form eo
  have eq_ := Lib.hid (ownsRow_mono eo (show w.heap.size ≤ _ from Nat.le_trans hb.out.size t4.out.size))
  replace ex := Lib.hid ex
  clear eo
  have hn5 := rd_keys k1 (by omega)
  rw [hK.out] at hn5
  replace hn5 := Lib.hid hn5
  have hx5 := Lib.hid (ArrAt.turned hx4.out k2 (by show ¬ w.heap.size = R; omega))
  replace fq := Lib.hid (own_turn fq.out hRw k2)
  have t5 := Lib.hid (turn_on t4.out k2)
  clear k1 k2 hn4 hx4 t4
  go_wp2_with fail
  refine hn5.out.mono ?_
  rintro e w6 ⟨kv, kl, rfl, kx, ko, kf, k1, k2⟩
  obtain ⟨ka, kc, rfl⟩ := own_form ko
  have kq := Lib.hid (ownsRow_mono ko (show w.heap.size ≤ _ from Nat.le_trans hb.out.size t5.out.size))
  replace kx := Lib.hid kx
  replace fq := Lib.hid (own_turn fq.out hRw k2)
  replace eq_ := Lib.hid (own_turn eq_.out hRw k2)
  have hx6 := ArrAt.turned hx5.out k2 (by show ¬ w.heap.size = R; omega)
  have hcell := fun i => hx6.cell i
  have hsoft := fun i => hx6.soft i
  have z0 := hcell 0
  have s0 := hsoft 0
  have z1 := hcell 1
  have s1 := hsoft 1
  have z2 := hcell 2
  have s2 := hsoft 2
  have z3 := hcell 3
  have s3 := hsoft 3
  have z4 := hcell 4
  have s4 := hsoft 4
  have z5 := hcell 5
  have s5 := hsoft 5
  simp only [List.getElem?_cons_zero, List.getElem?_cons_succ] at z0 z1 z2 z3 z4 z5
  replace k1 := Lib.hid k1
  have t6 := Lib.hid (turn_ahead hb.out (turn_on t5.out k2))
  replace hx6 := Lib.hid hx6
  clear hcell hsoft k2 ko hx5 hn5 t5
  go_wp2_with fail
  refine bodyPost_ret (v := svV ⟨⟨valO 0 A, valO 0 B, valO 0 C, fl, el, kl⟩, fa, fc, ea, ec, ka, kc⟩) (by simp [results, Try.results42, svV, svC, go_sem, z0, z1, z2, z3, z4, z5]) rfl ?_
  refine ⟨_, rfl, e2.out _ _ _ fx.out ex.out kx.out, ?_, ?_, ?_⟩
  · have g0 : SvOwn w6 w.heap.size ⟨⟨valO 0 A, valO 0 B, valO 0 C, fl, el, kl⟩, fa, fc, ea, ec, ka, kc⟩ := ⟨fq.out, eq_.out, kq.out⟩
    have a0 := hx6.out
    have g1 := g0.far (k := 0) a0 (by decide) (by decide) (by decide) (.slice fa fl.length fc)
    have a1 := a0.set 0 (.slice fa fl.length fc)
    have g2 := g1.far (k := 1) a1 (by decide) (by decide) (by decide) (.slice ea el.length ec)
    have a2 := a1.set 1 (.slice ea el.length ec)
    have g3 := g2.far (k := 2) a2 (by decide) (by decide) (by decide) (.slice ka kl.length kc)
    have a3 := a2.set 2 (.slice ka kl.length kc)
    have g4 := g3.far (k := 3) a3 (by decide) (by decide) (by decide) (.int .i64 (valO 0 A))
    have a4 := a3.set 3 (.int .i64 (valO 0 A))
    have g5 := g4.far (k := 4) a4 (by decide) (by decide) (by decide) (.int .i64 (valO 0 B))
    have a5 := a4.set 4 (.int .i64 (valO 0 B))
    have g6 := g5.far (k := 5) a5 (by decide) (by decide) (by decide) (.int .i64 (valO 0 C))
    have a6 := a5.set 5 (.int .i64 (valO 0 C))
    exact g6
  · rw [e1.out]
    refine ArrAt.far (ArrAt.far (ArrAt.far (ArrAt.far (ArrAt.far (ArrAt.far k1.out _ _ ?_) _ _ ?_) _ _ ?_) _ _ ?_) _ _ ?_) _ _ ?_
    all_goals exact Nat.ne_of_lt hRw
  · exact turn_own (turn_own (turn_own (turn_own (turn_own (turn_own t6.out (Nat.le_refl _) _ _) (Nat.le_refl _) _ _) (Nat.le_refl _) _ _) (Nat.le_refl _) _ _) (Nat.le_refl _) _ _) (Nat.le_refl _) _ _
end Go.Proofs.Ytpfcamebkcengaa
