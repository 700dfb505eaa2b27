/- Layer 21: the reader in memory: text, feed, key, sig. -/
import Derived.Test.YtpfcamebkcengaaD21g
namespace Go.Proofs.Ytpfcamebkcengaa
open Go.RowKit

theorem readI_len {s t : List UInt8} {n : Int} (h : readI21 s = some (n, t)) : t.length < s.length := by
  have h1 := (int_read h).1
  have h2 := var_len_pos (zig21 n)
  rw [h1, List.length_append]
  unfold int21
  omega
theorem readT_len {s t x : List UInt8} {m : Int} (h : readT21 s m = some (x, t)) : t.length < s.length ∧ x.length ≤ s.length := by
  have h1 := (text_read h).1
  have h2 := var_len_pos (zig21 x.length)
  rw [h1]
  unfold text21 int21
  simp only [List.length_append]
  omega
theorem resI_len (o : Option (List UInt8)) : ((resO (o.bind readI21)).getD []).length ≤ (o.getD []).length := by
  cases o with
  | none => simp [resO]
  | some l =>
    simp only [Option.bind_some, Option.getD_some]
    cases h : readI21 l with
    | none => simp [resO]
    | some p => obtain ⟨n, t⟩ := p; have := readI_len h; simp only [resO, Option.map_some, Option.getD_some]; omega
theorem resT_len (o : Option (List UInt8)) (m : Int) : ((resO (o.bind (readT21 · m))).getD []).length ≤ (o.getD []).length := by
  cases o with
  | none => simp [resO]
  | some l =>
    simp only [Option.bind_some, Option.getD_some]
    cases h : readT21 l m with
    | none => simp [resO]
    | some p => obtain ⟨n, t⟩ := p; have := (readT_len h).1; simp only [resO, Option.map_some, Option.getD_some]; omega
theorem valT_len (o : Option (List UInt8)) (m : Int) : (valO [] (o.bind (readT21 · m))).length ≤ (o.getD []).length := by
  cases o with
  | none => simp [valO]
  | some l =>
    simp only [Option.bind_some, Option.getD_some]
    cases h : readT21 l m with
    | none => simp [valO]
    | some p => obtain ⟨n, t⟩ := p; have := (readT_len h).2; simp only [valO]; omega
/-- A text is a number, and as many bytes. -/
theorem textO (o : Option (List UInt8)) (m : Int) : o.bind (readT21 · m) = if m < valO 0 (o.bind readI21) then none else (resO (o.bind readI21)).bind (pieceO (valO 0 (o.bind readI21))) := by
  cases o with
  | none => simp [resO]
  | some l =>
    simp only [Option.bind_some]
    unfold readT21
    cases h : readI21 l with
    | none => simp [resO]
    | some p =>
      obtain ⟨n, t⟩ := p
      show (if n < 0 ∨ m < n ∨ (t.length : Int) < n then none else some (t.take n.toNat, t.drop n.toNat)) = if m < n then none else if n < 0 ∨ (t.length : Int) < n then none else some (t.take n.toNat, t.drop n.toNat)
      by_cases h1 : m < n
      · rw [if_pos h1, if_pos (Or.inr (Or.inl h1))]
      · rw [if_neg h1]
        by_cases h2 : n < 0 ∨ (t.length : Int) < n
        · rw [if_pos h2, if_pos (by omega)]
        · rw [if_neg h2, if_neg (by omega)]

set_option maxHeartbeats 1000000 in
theorem rd_text {w : World} {R : Nat} {o : Option (List UInt8)} (h : RdO w R o) (hl : (o.getD []).length ≤ 1000000000) (m : Int) :
    Calls Try.prog 34 #[.pointer (some ⟨R, 0, none⟩), .int .i64 m] w (RdPost w R (resO (o.bind (readT21 · m))) (.string ⟨(valO [] (o.bind (readT21 · m))).toArray⟩)) := by
  have hn := Lib.hid (rd_number h (by omega))
  have hvl := valT_len o m
  have hT := textO o m
  obtain ⟨T, hTT⟩ : ∃ T, o.bind (readT21 · m) = T := ⟨_, rfl⟩
  rw [hTT] at hT hvl ⊢
  have hrl := resI_len o
  generalize o.bind readI21 = r at *
  obtain ⟨n, hnn⟩ : ∃ n, valO 0 r = n := ⟨_, rfl⟩
  rw [hnn] at hn hT
  clear hTT hnn
  by_cases hm : m < n
  · rw [if_pos hm] at hT
    subst hT
    replace h := Lib.hid h
    go_enter Try.func34, Try.ntmps34
    go_wp2_with fail
    refine hn.out.mono ?_
    rintro e w1 ⟨rfl, k1, k2⟩
    have hfl := Lib.hid (rd_fail k1)
    replace k2 := Lib.hid k2
    clear k1 hn
    go_wp2_with fail
    refine hfl.out.mono ?_
    rintro e w2 ⟨rfl, j1, j2⟩
    replace j1 := Lib.hid j1
    replace j2 := Lib.hid j2
    go_wp2_with fail
    go_ret
    exact ⟨rfl, j1.out, turn_on k2.out j2.out⟩
  · rw [if_neg hm] at hT
    replace h := Lib.hid h
    replace hT := Lib.hid hT
    go_enter Try.func34, Try.ntmps34
    go_wp2_with fail
    refine hn.out.mono ?_
    rintro e w1 ⟨rfl, k1, k2⟩
    have hpc := rd_piece k1 n
    rw [← hT.out] at hpc
    replace hpc := Lib.hid hpc
    replace k2 := Lib.hid k2
    clear k1 hn
    go_wp2_with fail
    refine hpc.out.mono ?_
    rintro e w2 ⟨rfl, j1, j2⟩
    replace j1 := Lib.hid j1
    replace j2 := Lib.hid j2
    clear hpc
    go_wp2_with fail
    refine (clone_any _ _ (by omega)).mono ?_
    rintro e w3 ⟨rfl, hb⟩
    replace hb := Lib.hid hb
    go_wp2_with fail
    go_ret
    exact ⟨rfl, j1.out.next hb.out, turn_more (turn_on k2.out j2.out) hb.out⟩
theorem rd_feed {w : World} {R : Nat} {o : Option (List UInt8)} (h : RdO w R o) (hl : (o.getD []).length ≤ 1000000000) :
    Calls Try.prog 58 #[.pointer (some ⟨R, 0, none⟩)] w (RdPost w R (resO (o.bind (readT21 · 24))) (.string ⟨(valO [] (o.bind (readT21 · 24))).toArray⟩)) := by
  have hn := Lib.hid (rd_text h hl 24)
  generalize o.bind (readT21 · 24) = T at *
  replace h := Lib.hid h
  go_enter Try.func58, Try.ntmps58
  go_wp2_with fail
  refine hn.out.mono ?_
  rintro e w1 ⟨rfl, k1, k2⟩
  replace k1 := Lib.hid k1
  replace k2 := Lib.hid k2
  go_wp2_with fail
  go_ret
  exact ⟨rfl, k1.out, k2.out⟩

/-- Behind a method that tells of something: what was told is it, if all was there. -/
def RdGot {α : Type} (w : World) (R : Nat) (enc : α → Value) (r : Option (α × List UInt8)) (e : Ending) (w' : World) : Prop := ∃ x, e = .returned (enc x) ∧ (∀ y t, r = some (y, t) → x = y) ∧ RdO w' R (resO r) ∧ Turned (fun b => b = R) w w'
theorem RdGot.mk {α : Type} {w w' : World} {R : Nat} {enc : α → Value} {r : Option (α × List UInt8)} (x : α) (hx : ∀ y t, r = some (y, t) → x = y) (h : RdO w' R (resO r)) (ht : Turned (fun b => b = R) w w') : RdGot w R enc r (.returned (enc x)) w' := ⟨x, rfl, hx, h, ht⟩
theorem valO_of {α : Type} {d : α} {r : Option (α × List UInt8)} : ∀ y t, r = some (y, t) → valO d r = y := fun y t h => by rw [h]; rfl

/-- A key is two texts. -/
theorem keyO (o : Option (List UInt8)) : resO (o.bind readK21) = resO ((resO (o.bind (readT21 · 24))).bind (readT21 · 256)) ∧ ∀ k t, o.bind readK21 = some (k, t) → (⟨valO [] (o.bind (readT21 · 24)), valO [] ((resO (o.bind (readT21 · 24))).bind (readT21 · 256))⟩ : Ky21) = k := by
  cases o with
  | none => exact ⟨rfl, fun k t h => by cases h⟩
  | some l =>
    simp only [Option.bind_some]
    unfold readK21
    cases h : readT21 l 24 with
    | none => exact ⟨rfl, fun k t h => by cases h⟩
    | some p =>
      obtain ⟨f, t⟩ := p
      simp only [resO, Option.map_some, Option.bind_some]
      cases h2 : readT21 t 256 with
      | none => exact ⟨rfl, fun k t h => by cases h⟩
      | some q =>
        obtain ⟨g, u⟩ := q
        refine ⟨rfl, fun k t h => ?_⟩
        simp only [Option.some.injEq, Prod.mk.injEq] at h
        rw [← h.1]
        rfl
/-- What is laid into a block of the method's own turns nothing else. -/
theorem turn_own {a b : World} {R K : Nat} (h : Turned (fun x => x = R) a b) (hK : a.heap.size ≤ K) (k : Nat) (v : Value) : Turned (fun x => x = R) a (b.setCell ⟨K, k, none⟩ v) :=
  h.trans (turned_setCell b ⟨K, k, none⟩ v) fun i hi e => by simp only at e; omega
theorem turn_ahead {a b c : World} {R : Nat} (h : Below a.heap.size a b) (k : Turned (fun x => x = R) b c) : Turned (fun x => x = R) a c := (Turned.of_below (S := fun x => x = R) h).trans k fun _ _ e => e

set_option maxHeartbeats 1000000 in
theorem rd_key {w : World} {R : Nat} {o : Option (List UInt8)} (h : RdO w R o) (hl : (o.getD []).length ≤ 1000000000) :
    Calls Try.prog 62 #[.pointer (some ⟨R, 0, none⟩)] w (RdGot w R kyV (o.bind readK21)) := by
  obtain ⟨hk1, hk2⟩ := keyO o
  have hlt := resT_len o 24
  have hb := (Below.refl w.heap.size w).alloc (Nat.le_refl _) (.cells #[.string ⟨#[]⟩, .string ⟨#[]⟩] 51)
  have hf := Lib.hid (rd_feed (h.next hb) hl)
  have hRw := ArrAt.lt h
  have hkc := arrAt_new w 51 [Value.string ⟨#[]⟩, .string ⟨#[]⟩]
  generalize o.bind (readT21 · 24) = T1 at *
  replace h := Lib.hid h
  replace hk1 := Lib.hid hk1
  replace hk2 := Lib.hid hk2
  replace hb := Lib.hid hb
  replace hkc := Lib.hid hkc
  go_enter Try.func62, Try.ntmps62
  go_wp2_with fail
  refine hf.out.mono ?_
  rintro e w1 ⟨rfl, k1, k2⟩
  have hg := Lib.hid (rd_text k1 (by omega) 256)
  have hkc1 := Lib.hid (ArrAt.turned hkc.out k2 (by show ¬ w.heap.size = R; omega))
  replace k2 := Lib.hid k2
  clear k1 hf hkc
  go_wp2_with fail
  refine hg.out.mono ?_
  rintro e w2 ⟨rfl, j1, j2⟩
  have hkc2 := ArrAt.turned hkc1.out j2 (by show ¬ w.heap.size = R; omega)
  have s0 := hkc2.soft 0
  have s1 := hkc2.soft 1
  have z0 := hkc2.cell 0
  have z1 := hkc2.cell 1
  simp only [List.getElem?_cons_zero, List.getElem?_cons_succ] at z0 z1
  replace j1 := Lib.hid j1
  replace j2 := Lib.hid j2
  clear hg hkc1
  replace hkc2 := Lib.hid hkc2
  go_wp2_with fail
  refine bodyPost_ret (v := kyV ⟨valO [] T1, valO [] ((resO T1).bind fun x => readT21 x 256)⟩) (by simp [results, Try.results62, kyV, kyC, go_sem, z0, z1]) rfl ?_
  exact RdGot.mk _ hk2.out (by rw [hk1.out]; exact (ArrAt.far j1.out 0 _ (Nat.ne_of_lt hRw)).far 1 _ (Nat.ne_of_lt hRw)) (turn_own (turn_own (turn_ahead hb.out (turn_on k2.out j2.out)) (Nat.le_refl _) 0 _) (Nat.le_refl _) 1 _)
end Go.Proofs.Ytpfcamebkcengaa
