/- Layer 21: the reader in memory: lists. -/
import Derived.Test.YtpfcamebkcengaaD21i
import Derived.Test.YtpfcamebkcengaaAs
import Derived.Deep.Cut
namespace Go.Proofs.Ytpfcamebkcengaa
open Go.RowKit

/-- How many there are, and they. -/
def lstN {α : Type} (f : List UInt8 → Option (α × List UInt8)) (s : List UInt8) : Option (List α × List UInt8) := match readI21 s with | none => none | some (n, t) => if n < 0 then none else readN21 f n.toNat t
/-- How far the reading of a list is: of cnt in t0, j are read, xs, and t is left. -/
def LsOk {α : Type} (f : List UInt8 → Option (α × List UInt8)) (t0 : List UInt8) (cnt j : Nat) (xs : List α) (t : List UInt8) : Prop :=
  xs.length = j ∧ j + t.length ≤ t0.length ∧ readN21 f cnt t0 = (readN21 f (cnt - j) t).map (fun p => (xs ++ p.1, p.2))
section
variable {α : Type} {f : List UInt8 → Option (α × List UInt8)} {t0 t t' : List UInt8} {cnt j : Nat} {xs : List α} {x : α}
theorem ls_begin (f : List UInt8 → Option (α × List UInt8)) (t0 : List UInt8) (cnt : Nat) : LsOk f t0 cnt 0 [] t0 := by
  refine ⟨rfl, by omega, ?_⟩
  rw [Nat.sub_zero]
  cases readN21 f cnt t0 with
  | none => rfl
  | some p => rfl
theorem ls_next (h : LsOk f t0 cnt j xs t) (hj : j < cnt) (hf : f t = some (x, t')) (hlt : t'.length < t.length) : LsOk f t0 cnt (j + 1) (xs ++ [x]) t' := by
  obtain ⟨h1, h2, h3⟩ := h
  refine ⟨by rw [List.length_append, h1]; rfl, by omega, ?_⟩
  rw [h3, show cnt - j = (cnt - (j + 1)) + 1 by omega, readN21, hf]
  simp only
  cases readN21 f (cnt - (j + 1)) t' with
  | none => rfl
  | some p => obtain ⟨l, u⟩ := p; simp
theorem ls_bad (h : LsOk f t0 cnt j xs t) (hj : j < cnt) (hf : f t = none) : readN21 f cnt t0 = none := by
  rw [h.2.2, show cnt - j = (cnt - (j + 1)) + 1 by omega, readN21, hf]
  rfl
theorem ls_end (h : LsOk f t0 cnt j xs t) (hj : cnt ≤ j) : readN21 f cnt t0 = some (xs, t) := by
  rw [h.2.2, show cnt - j = 0 by omega, readN21]
  simp
theorem lst_none (o : Option (List UInt8)) (h : o.bind readI21 = none) : o.bind (lstN f) = none := by
  cases o with
  | none => rfl
  | some l =>
    simp only [Option.bind_some] at h ⊢
    unfold lstN
    rw [h]
theorem lst_some (o : Option (List UInt8)) {n : Int} {t : List UInt8} (h : o.bind readI21 = some (n, t)) : o.bind (lstN f) = if n < 0 then none else readN21 f n.toNat t := by
  cases o with
  | none => cases h
  | some l =>
    simp only [Option.bind_some] at h ⊢
    unfold lstN
    rw [h]
end
/-- Behind a list: what was told, of the call's own, is it, if all was there. -/
def LsPost {α : Type} (w : World) (R : Nat) (E : TypeId) (k : Nat) (c : α → List Value) (r : Option (List α × List UInt8)) (e : Ending) (w' : World) : Prop :=
  ∃ v l, e = .returned v ∧ (∀ y t, r = some (y, t) → l = y) ∧ w'.ownsRow w.heap.size E k v l.length (l.flatMap c) ∧ l.length ≤ 1000000000 ∧ RdO w' R (resO r) ∧ Turned (fun b => b = R) w w'
theorem LsPost.nil {α : Type} {w w' : World} {R : Nat} {E : TypeId} {k : Nat} {c : α → List Value} {r : Option (List α × List UInt8)} (hr : r = none) (h : RdO w' R none) (ht : Turned (fun b => b = R) w w') : LsPost w R E k c r (.returned (.slice none 0 0)) w' := by
  subst hr
  exact ⟨_, [], rfl, (fun _ _ h => by cases h), World.ownsRow_nil _ _ _ _, Nat.zero_le _, h, ht⟩
/-- What the call itself made is no reader. -/
theorem own_turn {w0 w w' : World} {R : Nat} {E : TypeId} {z n : Nat} {v : Value} {xs : List Value} (h : w.ownsRow w0.heap.size E z v n xs) (hR : R < w0.heap.size) (ht : Turned (fun b => b = R) w w') : w'.ownsRow w0.heap.size E z v n xs :=
  ownsRow_turned h ht fun k hk e => by have := (h.lt k hk).1; have e : k = R := e; omega
theorem turn_grown {w0 w w' : World} {R : Nat} {E : TypeId} {z n : Nat} {v : Value} {xs : List Value} (h : w.ownsRow w0.heap.size E z v n xs) (ht : Turned (fun b => b = R) w0 w) (hg : w.grownBy w' v.ownBlock) : Turned (fun b => b = R) w0 w' :=
  ht.trans (Turned.of_grown (S := fun k => v.ownBlock = some k) hg fun _ hk => hk) fun i hi e => by have := (h.lt i e).1; omega
theorem rd_grown {w0 w w' : World} {R : Nat} {E : TypeId} {z n : Nat} {v : Value} {xs : List Value} {o : Option (List UInt8)} (h : w.ownsRow w0.heap.size E z v n xs) (hR : R < w0.heap.size) (hr : RdO w R o) (hg : w.grownBy w' v.ownBlock) : RdO w' R o :=
  ArrAt.grown hr hg fun e => by have := (h.lt R e.symm).1; omega
theorem readK_len {s t : List UInt8} {k : Ky21} (h : readK21 s = some (k, t)) : t.length < s.length := by
  have h1 := key_read h
  have h2 := var_len_pos (zig21 k.feed.length)
  rw [h1]
  unfold key21 text21 int21
  simp only [List.length_append]
  omega
theorem readE_len {s t : List UInt8} {x : En21} (h : readE21 s = some (x, t)) : t.length < s.length := by
  have h1 := ent_read h
  have h2 := var_len_pos (zig21 x.key.feed.length)
  rw [h1]
  unfold ent21 key21 text21 int21
  simp only [List.length_append]
  omega
theorem info_st : (Try.prog.info? 9).map (fun i => (i.zero, i.size, i.bytes)) = some (some (.string ⟨#[]⟩), 1, 16) := by kernel_rfl
theorem info_ky : (Try.prog.info? 51).map (fun i => (i.zero, i.size, i.bytes)) = some (some (.agg #[.string ⟨#[]⟩, .string ⟨#[]⟩]), 2, 32) := by kernel_rfl
theorem info_en : (Try.prog.info? 53).map (fun i => (i.zero, i.size, i.bytes)) = some (some (.agg #[.string ⟨#[]⟩, .string ⟨#[]⟩, .string ⟨#[]⟩, .string ⟨#[]⟩, .string ⟨#[]⟩, .int .i64 0, .int .u64 0]), 7, 96) := by kernel_rfl

set_option maxHeartbeats 4000000 in
set_option maxRecDepth 100000 in
theorem rd_texts {w : World} {R : Nat} {o : Option (List UInt8)} (h : RdO w R o) (hl : (o.getD []).length ≤ 1000000000) :
    Calls Try.prog 57 #[.pointer (some ⟨R, 0, none⟩), .func (.func 58) #[.pointer (some ⟨R, 0, none⟩)] #[]] w (LsPost w R 9 1 stC (o.bind (lstN (fun s => readT21 s 24)))) := by
  have hRw := ArrAt.lt h
  have hn0 := Lib.hid (rd_number h (by omega))
  have hrl := resI_len o
  obtain ⟨L, hL⟩ : ∃ L, o.bind (lstN (fun s => readT21 s 24)) = L := ⟨_, rfl⟩
  rw [hL]
  cases hr : o.bind readI21 with
  | none =>
    have hL2 := Lib.hid (hL.symm.trans (lst_none o hr))
    rw [hr] at hn0
    replace h := Lib.hid h
    replace hr := Lib.hid hr
    unfold valO resO at hn0
    simp only [Option.map_none] at hn0
    clear hL hrl
    go_enter Try.func57, Try.ntmps57
    go_wp2_with fail
    refine hn0.out.mono ?_
    rintro e w1 ⟨rfl, k1, k2⟩
    replace k1 := Lib.hid k1
    replace k2 := Lib.hid k2
    go_wp2_with fail
    go_loop [6, 15] (fun v i => v = .slice none 0 0 ∧ i = .int .i64 0) (fun _ _ => 0)
    case atStart => exact ⟨rfl, rfl⟩
    case round =>
      obtain ⟨rfl, rfl⟩ := hrel
      go_wp2_with fail
      go_ret
      exact LsPost.nil hL2.out k1.out k2.out
  | some p =>
    obtain ⟨n, t0⟩ := p
    have hL2 := hL.symm.trans (lst_some o hr)
    rw [hr] at hn0 hrl
    simp only [resO, Option.map_some, Option.getD_some] at hrl
    have hnb := (int_read (show readI21 (o.getD []) = some (n, t0) by rw [← bindI]; exact hr)).2
    replace h := Lib.hid h
    unfold valO resO at hn0
    simp only [Option.map_some] at hn0
    by_cases h0 : n < 0
    · rw [if_pos h0] at hL2
      replace hL2 := Lib.hid hL2
      replace hr := Lib.hid hr
      clear hL
      go_enter Try.func57, Try.ntmps57
      go_wp2_with fail
      refine hn0.out.mono ?_
      rintro e w1 ⟨rfl, k1, k2⟩
      have hfl := Lib.hid (rd_fail k1)
      replace k2 := Lib.hid k2
      clear k1 hn0
      go_wp2_with fail
      refine hfl.out.mono ?_
      rintro e w2 ⟨rfl, j1, j2⟩
      replace j1 := Lib.hid j1
      replace j2 := Lib.hid j2
      go_wp2_with fail
      go_loop [6, 15] (fun v i => v = .slice none 0 0 ∧ i = .int .i64 0) (fun _ _ => 0)
      case atStart => exact ⟨rfl, rfl⟩
      case round =>
        obtain ⟨rfl, rfl⟩ := hrel
        go_wp2_with fail
        go_ret
        exact LsPost.nil hL2.out j1.out (turn_on k2.out j2.out)
    · rw [if_neg h0] at hL2
      obtain ⟨cnt, rfl⟩ := Int.eq_ofNat_of_zero_le (show 0 ≤ n by omega)
      rw [Int.toNat_natCast] at hL2
      have hst := Lib.hid (ls_begin (fun s => readT21 s 24) t0 cnt)
      replace hL2 := Lib.hid hL2
      replace hr := Lib.hid hr
      clear hL h0
      go_enter Try.func57, Try.ntmps57
      go_wp2_with fail
      refine hn0.out.mono ?_
      rintro e w1 ⟨rfl, k1, k2⟩
      replace k1 := Lib.hid k1
      replace k2 := Lib.hid k2
      clear hn0
      go_wp2_with fail
      go_loopw [6, 15] (fun v i wr => ∃ (xs : List (List UInt8)) (t : List UInt8) (j : Nat) (a : Option Addr) (m c : Nat), v = .slice a m c ∧ i = .int .i64 (j : Int) ∧ j ≤ cnt ∧ Hid (m = xs.length) ∧ Hid (LsOk (fun s => readT21 s 24) t0 cnt j xs t) ∧ Hid (wr.ownsRow w.heap.size 9 1 (.slice a m c) xs.length (xs.flatMap stC)) ∧ Hid (RdO wr R (some t)) ∧ Hid (Turned (fun b => b = R) w wr)) (fun _ i _ => cnt - (intOf i).toNat)
      case atStart => exact ⟨[], t0, 0, none, 0, 0, rfl, rfl, Nat.zero_le _, Lib.hid rfl, hst, Lib.hid (World.ownsRow_nil _ _ _ _), k1, k2⟩
      case round =>
        obtain ⟨xs, t, j, a, m, c, rfl, rfl, hj, hm, hok, hown, hrd, htn⟩ := hrel
        clear hst k1 k2
        have hok1 : xs.length ≤ j := Nat.le_of_eq hok.out.1
        have hok3 : j ≤ xs.length := Nat.le_of_eq hok.out.1.symm
        have hok2 := hok.out.2.1
        by_cases hlt : j < cnt
        · have hjc : (j : Int) < (cnt : Int) := by omega
          have hr0 := hrd.out
          have hc1 := Lib.hid (rd_feed hr0 (by simp only [Option.getD_some]; omega))
          have htl : t.length ≤ 1000000000 := by omega
          clear hr0
          go_wp2_with fail
          refine hc1.out.mono ?_
          rintro e w2 ⟨rfl, j1, j2⟩
          obtain ⟨x, hx⟩ : ∃ x, valO [] ((some t).bind (readT21 · 24)) = x := ⟨_, rfl⟩
          have hgx := Lib.hid (show ∀ y u, readT21 t 24 = some (y, u) → x = y from fun y u e => hx.symm.trans (valO_of y u e))
          rw [hx]
          clear hx
          simp only [Option.bind_some] at j1
          have c1 := j1.c1
          have htn2 := Lib.hid (turn_on htn.out j2)
          have hown2 := Lib.hid (own_turn hown.out hRw j2)
          replace j1 := Lib.hid j1
          replace j2 := Lib.hid j2
          clear hown hrd hc1
          cases hft : readT21 t 24 with
          | none =>
            have hbad := Lib.hid (hL2.out.trans (ls_bad hok.out hlt hft))
            rw [hft] at j1 c1
            simp only [resO, Option.map_none, Option.isNone_none] at j1 c1
            replace hft := Lib.hid hft
            go_wp2_with fail
            go_ret
            exact LsPost.nil hbad.out j1.out htn2.out
          | some q =>
            obtain ⟨y, u⟩ := q
            have hxy := hgx.out y u hft
            subst hxy
            have hnx := Lib.hid (ls_next hok.out hlt hft (by have e := hft; exact (readT_len e).1))
            rw [hft] at j1 c1
            simp only [resO, Option.map_some, Option.isNone_some] at j1 c1
            replace hft := Lib.hid hft
            have hmx := hm.out
            subst hmx
            have hown3 := hown2
            have hrd3 := j1
            have htn3 := htn2
            have hsz : w.heap.size ≤ w2.heap.size := htn2.out.size
            clear hown2 hgx j1 htn2 hm
            go_wp2_with (at_builtin; go_must (refine wpList_appendk rfl _ _ 39 9 rfl Try.underlying39 (.string ⟨#[]⟩) 1 16 info_st rfl (by decide) (by decide) w.heap.size _ xs.length (xs.flatMap stC) [.string ⟨x.toArray⟩] rfl hown3.out rfl rfl (by intro u hu; simp at hu; rcases hu with rfl <;> rfl) (by omega) hsz ?_))
            intro v' w4 hown4 hgr _
            obtain ⟨a4, c4, rfl⟩ := own_form hown4.out
            have hrd4 := Lib.hid (rd_grown hown3.out hRw hrd3.out hgr.out)
            have htn4 := Lib.hid (turn_grown hown3.out htn3.out hgr.out)
            have hown5 : Hid (w4.ownsRow w.heap.size 9 1 (.slice a4 (xs.length + 1) c4) (xs ++ [x]).length ((xs ++ [x]).flatMap stC)) := Lib.hid (by rw [List.length_append, List.flatMap_append]; exact hown4.out)
            clear hown4 hown3 hrd3 htn3 hgr
            go_wp2_with fail
            exact ⟨⟨xs ++ [x], u, j + 1, a4, xs.length + 1, c4, rfl, by go_num, by omega, Lib.hid (by rw [List.length_append]; rfl), hnx, hown5, hrd4, htn4⟩, by simp [intOf]; omega⟩
        · have hjc : ¬ (j : Int) < (cnt : Int) := by omega
          have hgood := Lib.hid (hL2.out.trans (ls_end hok.out (by omega)))
          have hmx := hm.out
          subst hmx
          go_wp2_with fail
          go_ret
          exact ⟨_, xs, rfl, (fun y u e => by rw [hgood.out] at e; injection e with e; injection e with e _), hown.out, by omega, by rw [hgood.out]; exact hrd.out, htn.out⟩

set_option maxHeartbeats 4000000 in
set_option maxRecDepth 100000 in
theorem rd_keys {w : World} {R : Nat} {o : Option (List UInt8)} (h : RdO w R o) (hl : (o.getD []).length ≤ 1000000000) :
    Calls Try.prog 61 #[.pointer (some ⟨R, 0, none⟩), .func (.func 62) #[.pointer (some ⟨R, 0, none⟩)] #[]] w (LsPost w R 51 2 kyC (o.bind (lstN readK21))) := by
  have hRw := ArrAt.lt h
  have hn0 := Lib.hid (rd_number h (by omega))
  have hrl := resI_len o
  obtain ⟨L, hL⟩ : ∃ L, o.bind (lstN readK21) = L := ⟨_, rfl⟩
  rw [hL]
  cases hr : o.bind readI21 with
  | none =>
    have hL2 := Lib.hid (hL.symm.trans (lst_none o hr))
    rw [hr] at hn0
    replace h := Lib.hid h
    replace hr := Lib.hid hr
    unfold valO resO at hn0
    simp only [Option.map_none] at hn0
    clear hL hrl
    go_enter Try.func61, Try.ntmps61
    go_wp2_with fail
    refine hn0.out.mono ?_
    rintro e w1 ⟨rfl, k1, k2⟩
    replace k1 := Lib.hid k1
    replace k2 := Lib.hid k2
    go_wp2_with fail
    go_loop [6, 15] (fun v i => v = .slice none 0 0 ∧ i = .int .i64 0) (fun _ _ => 0)
    case atStart => exact ⟨rfl, rfl⟩
    case round =>
      obtain ⟨rfl, rfl⟩ := hrel
      go_wp2_with fail
      go_ret
      exact LsPost.nil hL2.out k1.out k2.out
  | some p =>
    obtain ⟨n, t0⟩ := p
    have hL2 := hL.symm.trans (lst_some o hr)
    rw [hr] at hn0 hrl
    simp only [resO, Option.map_some, Option.getD_some] at hrl
    have hnb := (int_read (show readI21 (o.getD []) = some (n, t0) by rw [← bindI]; exact hr)).2
    replace h := Lib.hid h
    unfold valO resO at hn0
    simp only [Option.map_some] at hn0
    by_cases h0 : n < 0
    · rw [if_pos h0] at hL2
      replace hL2 := Lib.hid hL2
      replace hr := Lib.hid hr
      clear hL
      go_enter Try.func61, Try.ntmps61
      go_wp2_with fail
      refine hn0.out.mono ?_
      rintro e w1 ⟨rfl, k1, k2⟩
      have hfl := Lib.hid (rd_fail k1)
      replace k2 := Lib.hid k2
      clear k1 hn0
      go_wp2_with fail
      refine hfl.out.mono ?_
      rintro e w2 ⟨rfl, j1, j2⟩
      replace j1 := Lib.hid j1
      replace j2 := Lib.hid j2
      go_wp2_with fail
      go_loop [6, 15] (fun v i => v = .slice none 0 0 ∧ i = .int .i64 0) (fun _ _ => 0)
      case atStart => exact ⟨rfl, rfl⟩
      case round =>
        obtain ⟨rfl, rfl⟩ := hrel
        go_wp2_with fail
        go_ret
        exact LsPost.nil hL2.out j1.out (turn_on k2.out j2.out)
    · rw [if_neg h0] at hL2
      obtain ⟨cnt, rfl⟩ := Int.eq_ofNat_of_zero_le (show 0 ≤ n by omega)
      rw [Int.toNat_natCast] at hL2
      have hst := Lib.hid (ls_begin readK21 t0 cnt)
      replace hL2 := Lib.hid hL2
      replace hr := Lib.hid hr
      clear hL h0
      go_enter Try.func61, Try.ntmps61
      go_wp2_with fail
      refine hn0.out.mono ?_
      rintro e w1 ⟨rfl, k1, k2⟩
      replace k1 := Lib.hid k1
      replace k2 := Lib.hid k2
      clear hn0
      go_wp2_with fail
      go_loopw [6, 15] (fun v i wr => ∃ (xs : List (Ky21)) (t : List UInt8) (j : Nat) (a : Option Addr) (m c : Nat), v = .slice a m c ∧ i = .int .i64 (j : Int) ∧ j ≤ cnt ∧ Hid (m = xs.length) ∧ Hid (LsOk readK21 t0 cnt j xs t) ∧ Hid (wr.ownsRow w.heap.size 51 2 (.slice a m c) xs.length (xs.flatMap kyC)) ∧ Hid (RdO wr R (some t)) ∧ Hid (Turned (fun b => b = R) w wr)) (fun _ i _ => cnt - (intOf i).toNat)
      case atStart => exact ⟨[], t0, 0, none, 0, 0, rfl, rfl, Nat.zero_le _, Lib.hid rfl, hst, Lib.hid (World.ownsRow_nil _ _ _ _), k1, k2⟩
      case round =>
        obtain ⟨xs, t, j, a, m, c, rfl, rfl, hj, hm, hok, hown, hrd, htn⟩ := hrel
        clear hst k1 k2
        have hok1 : xs.length ≤ j := Nat.le_of_eq hok.out.1
        have hok3 : j ≤ xs.length := Nat.le_of_eq hok.out.1.symm
        have hok2 := hok.out.2.1
        by_cases hlt : j < cnt
        · have hjc : (j : Int) < (cnt : Int) := by omega
          have hr0 := hrd.out
          have hc1 := Lib.hid (rd_key hr0 (by simp only [Option.getD_some]; omega))
          have htl : t.length ≤ 1000000000 := by omega
          clear hr0
          go_wp2_with fail
          refine hc1.out.mono ?_
          rintro e w2 ⟨x, rfl, hgx, j1, j2⟩
          replace hgx := Lib.hid hgx
          simp only [Option.bind_some] at j1
          have c1 := j1.c1
          have htn2 := Lib.hid (turn_on htn.out j2)
          have hown2 := Lib.hid (own_turn hown.out hRw j2)
          replace j1 := Lib.hid j1
          replace j2 := Lib.hid j2
          clear hown hrd hc1
          cases hft : readK21 t with
          | none =>
            have hbad := Lib.hid (hL2.out.trans (ls_bad hok.out hlt hft))
            rw [hft] at j1 c1
            simp only [resO, Option.map_none, Option.isNone_none] at j1 c1
            replace hft := Lib.hid hft
            obtain ⟨xf, xg⟩ := x
            have c1b : (w2.alloc (.cells [.string ⟨xf.toArray⟩, .string ⟨xg.toArray⟩].toArray 51)).cell? ⟨R, 1, none⟩ = some (.bool true) := (((Below.refl w2.heap.size w2).alloc (Nat.le_refl _) (.cells [.string ⟨xf.toArray⟩, .string ⟨xg.toArray⟩].toArray 51)).cell (p := ⟨R, 1, none⟩) (ArrAt.lt j1.out)).trans c1
            have hbx := Lib.hid ((Below.refl w2.heap.size w2).alloc (Nat.le_refl _) (.cells [.string ⟨xf.toArray⟩, .string ⟨xg.toArray⟩].toArray 51))
            unfold kyV kyC
            go_wp2_with fail
            go_ret
            exact LsPost.nil hbad.out (j1.out.next hbx.out) (turn_more htn2.out hbx.out)
          | some q =>
            obtain ⟨y, u⟩ := q
            have hxy := hgx.out y u hft
            subst hxy
            have hnx := Lib.hid (ls_next hok.out hlt hft (by have e := hft; exact readK_len e))
            rw [hft] at j1 c1
            simp only [resO, Option.map_some, Option.isNone_some] at j1 c1
            replace hft := Lib.hid hft
            have hmx := hm.out
            subst hmx
            obtain ⟨xf, xg⟩ := x
            have hbx := Lib.hid ((Below.refl w2.heap.size w2).alloc (Nat.le_refl _) (.cells [.string ⟨xf.toArray⟩, .string ⟨xg.toArray⟩].toArray 51))
            unfold kyV kyC
            go_upto_region 8 with fail
            refine hide_world (K := fun a w' => Code.wp _ _ _ a w') (R := fun W => ArrAt W w2.heap.size 51 [.string ⟨xf.toArray⟩, .string ⟨xg.toArray⟩] ∧ RdO W R (some u) ∧ W.ownsRow w.heap.size 51 2 (.slice a xs.length c) xs.length (xs.flatMap kyC) ∧ Turned (fun b => b = R) w W) ⟨arrAt_new w2 51 [.string ⟨xf.toArray⟩, .string ⟨xg.toArray⟩], j1.out.next hbx.out, ownsRow_below hown2.out hbx.out, turn_more htn2.out hbx.out⟩ ?_
            intro W4 hW4
            obtain ⟨hx4, hrd4, hown4, htn4⟩ := hW4.out
            have c1b := hrd4.c1
            simp only [Option.isNone_some] at c1b
            have hcell := fun i => hx4.cell i
            have z0 := hcell 0
            have z1 := hcell 1
            simp only [List.getElem?_cons_zero, List.getElem?_cons_succ] at z0 z1
            have hown3 := Lib.hid hown4
            have hrd3 := Lib.hid hrd4
            have htn3 := Lib.hid htn4
            have hsz : w.heap.size ≤ W4.heap.size := htn4.size
            clear hcell hx4 hrd4 hown4 htn4 hW4 hbx c1
            clear hown2 hgx j1 htn2 hm
            go_wp2_with (at_builtin; go_must (refine wpList_appendk rfl _ _ 41 51 rfl Try.underlying41 (.agg #[.string ⟨#[]⟩, .string ⟨#[]⟩]) 2 32 info_ky rfl (by decide) (by decide) w.heap.size _ xs.length (xs.flatMap kyC) [.string ⟨xf.toArray⟩, .string ⟨xg.toArray⟩] rfl hown3.out rfl rfl (by intro u hu; simp at hu; rcases hu with rfl | rfl <;> rfl) (by omega) hsz ?_))
            intro v' w4 hown4 hgr _
            obtain ⟨a4, c4, rfl⟩ := own_form hown4.out
            have hrd4 := Lib.hid (rd_grown hown3.out hRw hrd3.out hgr.out)
            have htn4 := Lib.hid (turn_grown hown3.out htn3.out hgr.out)
            have hown5 : Hid (w4.ownsRow w.heap.size 51 2 (.slice a4 (xs.length + 1) c4) (xs ++ [(⟨xf, xg⟩ : Ky21)]).length ((xs ++ [(⟨xf, xg⟩ : Ky21)]).flatMap kyC)) := Lib.hid (by rw [List.length_append, List.flatMap_append]; exact hown4.out)
            clear hown4 hown3 hrd3 htn3 hgr
            go_wp2_with fail
            exact ⟨⟨xs ++ [(⟨xf, xg⟩ : Ky21)], u, j + 1, a4, xs.length + 1, c4, rfl, by go_num, by omega, Lib.hid (by rw [List.length_append]; rfl), hnx, hown5, hrd4, htn4⟩, by simp [intOf]; omega⟩
        · have hjc : ¬ (j : Int) < (cnt : Int) := by omega
          have hgood := Lib.hid (hL2.out.trans (ls_end hok.out (by omega)))
          have hmx := hm.out
          subst hmx
          go_wp2_with fail
          go_ret
          exact ⟨_, xs, rfl, (fun y u e => by rw [hgood.out] at e; injection e with e; injection e with e _), hown.out, by omega, by rw [hgood.out]; exact hrd.out, htn.out⟩

set_option maxHeartbeats 4000000 in
set_option maxRecDepth 100000 in
theorem rd_entries {w : World} {R : Nat} {o : Option (List UInt8)} (h : RdO w R o) (hl : (o.getD []).length ≤ 1000000000) :
    Calls Try.prog 59 #[.pointer (some ⟨R, 0, none⟩), .func (.func 60) #[.pointer (some ⟨R, 0, none⟩)] #[]] w (LsPost w R 53 7 enC (o.bind (lstN readE21))) := by
  have hRw := ArrAt.lt h
  have hn0 := Lib.hid (rd_number h (by omega))
  have hrl := resI_len o
  obtain ⟨L, hL⟩ : ∃ L, o.bind (lstN readE21) = L := ⟨_, rfl⟩
  rw [hL]
  cases hr : o.bind readI21 with
  | none =>
    have hL2 := Lib.hid (hL.symm.trans (lst_none o hr))
    rw [hr] at hn0
    replace h := Lib.hid h
    replace hr := Lib.hid hr
    unfold valO resO at hn0
    simp only [Option.map_none] at hn0
    clear hL hrl
    go_enter Try.func59, Try.ntmps59
    go_wp2_with fail
    refine hn0.out.mono ?_
    rintro e w1 ⟨rfl, k1, k2⟩
    replace k1 := Lib.hid k1
    replace k2 := Lib.hid k2
    go_wp2_with fail
    go_loop [6, 15] (fun v i => v = .slice none 0 0 ∧ i = .int .i64 0) (fun _ _ => 0)
    case atStart => exact ⟨rfl, rfl⟩
    case round =>
      obtain ⟨rfl, rfl⟩ := hrel
      go_wp2_with fail
      go_ret
      exact LsPost.nil hL2.out k1.out k2.out
  | some p =>
    obtain ⟨n, t0⟩ := p
    have hL2 := hL.symm.trans (lst_some o hr)
    rw [hr] at hn0 hrl
    simp only [resO, Option.map_some, Option.getD_some] at hrl
    have hnb := (int_read (show readI21 (o.getD []) = some (n, t0) by rw [← bindI]; exact hr)).2
    replace h := Lib.hid h
    unfold valO resO at hn0
    simp only [Option.map_some] at hn0
    by_cases h0 : n < 0
    · rw [if_pos h0] at hL2
      replace hL2 := Lib.hid hL2
      replace hr := Lib.hid hr
      clear hL
      go_enter Try.func59, Try.ntmps59
      go_wp2_with fail
      refine hn0.out.mono ?_
      rintro e w1 ⟨rfl, k1, k2⟩
      have hfl := Lib.hid (rd_fail k1)
      replace k2 := Lib.hid k2
      clear k1 hn0
      go_wp2_with fail
      refine hfl.out.mono ?_
      rintro e w2 ⟨rfl, j1, j2⟩
      replace j1 := Lib.hid j1
      replace j2 := Lib.hid j2
      go_wp2_with fail
      go_loop [6, 15] (fun v i => v = .slice none 0 0 ∧ i = .int .i64 0) (fun _ _ => 0)
      case atStart => exact ⟨rfl, rfl⟩
      case round =>
        obtain ⟨rfl, rfl⟩ := hrel
        go_wp2_with fail
        go_ret
        exact LsPost.nil hL2.out j1.out (turn_on k2.out j2.out)
    · rw [if_neg h0] at hL2
      obtain ⟨cnt, rfl⟩ := Int.eq_ofNat_of_zero_le (show 0 ≤ n by omega)
      rw [Int.toNat_natCast] at hL2
      have hst := Lib.hid (ls_begin readE21 t0 cnt)
      replace hL2 := Lib.hid hL2
      replace hr := Lib.hid hr
      clear hL h0
      go_enter Try.func59, Try.ntmps59
      go_wp2_with fail
      refine hn0.out.mono ?_
      rintro e w1 ⟨rfl, k1, k2⟩
      replace k1 := Lib.hid k1
      replace k2 := Lib.hid k2
      clear hn0
      go_wp2_with fail
      go_loopw [6, 15] (fun v i wr => ∃ (xs : List (En21)) (t : List UInt8) (j : Nat) (a : Option Addr) (m c : Nat), v = .slice a m c ∧ i = .int .i64 (j : Int) ∧ j ≤ cnt ∧ Hid (m = xs.length) ∧ Hid (LsOk readE21 t0 cnt j xs t) ∧ Hid (wr.ownsRow w.heap.size 53 7 (.slice a m c) xs.length (xs.flatMap enC)) ∧ Hid (RdO wr R (some t)) ∧ Hid (Turned (fun b => b = R) w wr)) (fun _ i _ => cnt - (intOf i).toNat)
      case atStart => exact ⟨[], t0, 0, none, 0, 0, rfl, rfl, Nat.zero_le _, Lib.hid rfl, hst, Lib.hid (World.ownsRow_nil _ _ _ _), k1, k2⟩
      case round =>
        obtain ⟨xs, t, j, a, m, c, rfl, rfl, hj, hm, hok, hown, hrd, htn⟩ := hrel
        clear hst k1 k2
        have hok1 : xs.length ≤ j := Nat.le_of_eq hok.out.1
        have hok3 : j ≤ xs.length := Nat.le_of_eq hok.out.1.symm
        have hok2 := hok.out.2.1
        by_cases hlt : j < cnt
        · have hjc : (j : Int) < (cnt : Int) := by omega
          have hr0 := hrd.out
          have hc1 := Lib.hid (rd_entry hr0 (by simp only [Option.getD_some]; omega))
          have htl : t.length ≤ 1000000000 := by omega
          clear hr0
          go_wp2_with fail
          refine hc1.out.mono ?_
          rintro e w2 ⟨x, rfl, hgx, j1, j2⟩
          replace hgx := Lib.hid hgx
          simp only [Option.bind_some] at j1
          have c1 := j1.c1
          have htn2 := Lib.hid (turn_on htn.out j2)
          have hown2 := Lib.hid (own_turn hown.out hRw j2)
          replace j1 := Lib.hid j1
          replace j2 := Lib.hid j2
          clear hown hrd hc1
          cases hft : readE21 t with
          | none =>
            have hbad := Lib.hid (hL2.out.trans (ls_bad hok.out hlt hft))
            rw [hft] at j1 c1
            simp only [resO, Option.map_none, Option.isNone_none] at j1 c1
            replace hft := Lib.hid hft
            obtain ⟨⟨xf, xg⟩, xt, xl, xb, xs1, xs2⟩ := x
            have c1b : (w2.alloc (.cells [.string ⟨xf.toArray⟩, .string ⟨xg.toArray⟩, .string ⟨xt.toArray⟩, .string ⟨xl.toArray⟩, .string ⟨xb.toArray⟩, .int .i64 xs1, .int .u64 xs2].toArray 53)).cell? ⟨R, 1, none⟩ = some (.bool true) := (((Below.refl w2.heap.size w2).alloc (Nat.le_refl _) (.cells [.string ⟨xf.toArray⟩, .string ⟨xg.toArray⟩, .string ⟨xt.toArray⟩, .string ⟨xl.toArray⟩, .string ⟨xb.toArray⟩, .int .i64 xs1, .int .u64 xs2].toArray 53)).cell (p := ⟨R, 1, none⟩) (ArrAt.lt j1.out)).trans c1
            have hbx := Lib.hid ((Below.refl w2.heap.size w2).alloc (Nat.le_refl _) (.cells [.string ⟨xf.toArray⟩, .string ⟨xg.toArray⟩, .string ⟨xt.toArray⟩, .string ⟨xl.toArray⟩, .string ⟨xb.toArray⟩, .int .i64 xs1, .int .u64 xs2].toArray 53))
            unfold enV enC
            go_wp2_with fail
            go_ret
            exact LsPost.nil hbad.out (j1.out.next hbx.out) (turn_more htn2.out hbx.out)
          | some q =>
            obtain ⟨y, u⟩ := q
            have hxy := hgx.out y u hft
            subst hxy
            have hnx := Lib.hid (ls_next hok.out hlt hft (by have e := hft; exact readE_len e))
            rw [hft] at j1 c1
            simp only [resO, Option.map_some, Option.isNone_some] at j1 c1
            replace hft := Lib.hid hft
            have hmx := hm.out
            subst hmx
            obtain ⟨⟨xf, xg⟩, xt, xl, xb, xs1, xs2⟩ := x
            have hbx := Lib.hid ((Below.refl w2.heap.size w2).alloc (Nat.le_refl _) (.cells [.string ⟨xf.toArray⟩, .string ⟨xg.toArray⟩, .string ⟨xt.toArray⟩, .string ⟨xl.toArray⟩, .string ⟨xb.toArray⟩, .int .i64 xs1, .int .u64 xs2].toArray 53))
            unfold enV enC
            go_upto_region 8 with fail
            refine hide_world (K := fun a w' => Code.wp _ _ _ a w') (R := fun W => ArrAt W w2.heap.size 53 [.string ⟨xf.toArray⟩, .string ⟨xg.toArray⟩, .string ⟨xt.toArray⟩, .string ⟨xl.toArray⟩, .string ⟨xb.toArray⟩, .int .i64 xs1, .int .u64 xs2] ∧ RdO W R (some u) ∧ W.ownsRow w.heap.size 53 7 (.slice a xs.length c) xs.length (xs.flatMap enC) ∧ Turned (fun b => b = R) w W) ⟨arrAt_new w2 53 [.string ⟨xf.toArray⟩, .string ⟨xg.toArray⟩, .string ⟨xt.toArray⟩, .string ⟨xl.toArray⟩, .string ⟨xb.toArray⟩, .int .i64 xs1, .int .u64 xs2], j1.out.next hbx.out, ownsRow_below hown2.out hbx.out, turn_more htn2.out hbx.out⟩ ?_
            intro W4 hW4
            obtain ⟨hx4, hrd4, hown4, htn4⟩ := hW4.out
            have c1b := hrd4.c1
            simp only [Option.isNone_some] at c1b
            have hcell := fun i => hx4.cell i
            have z0 := hcell 0
            have z1 := hcell 1
            have z2 := hcell 2
            have z3 := hcell 3
            have z4 := hcell 4
            have z5 := hcell 5
            have z6 := hcell 6
            simp only [List.getElem?_cons_zero, List.getElem?_cons_succ] at z0 z1 z2 z3 z4 z5 z6
            have hown3 := Lib.hid hown4
            have hrd3 := Lib.hid hrd4
            have htn3 := Lib.hid htn4
            have hsz : w.heap.size ≤ W4.heap.size := htn4.size
            clear hcell hx4 hrd4 hown4 htn4 hW4 hbx c1
            clear hown2 hgx j1 htn2 hm
            go_wp2_with (at_builtin; go_must (refine wpList_appendk rfl _ _ 40 53 rfl Try.underlying40 (.agg #[.string ⟨#[]⟩, .string ⟨#[]⟩, .string ⟨#[]⟩, .string ⟨#[]⟩, .string ⟨#[]⟩, .int .i64 0, .int .u64 0]) 7 96 info_en rfl (by decide) (by decide) w.heap.size _ xs.length (xs.flatMap enC) [.string ⟨xf.toArray⟩, .string ⟨xg.toArray⟩, .string ⟨xt.toArray⟩, .string ⟨xl.toArray⟩, .string ⟨xb.toArray⟩, .int .i64 xs1, .int .u64 xs2] rfl hown3.out rfl rfl (by intro u hu; simp at hu; rcases hu with rfl | rfl | rfl | rfl | rfl | rfl | rfl <;> rfl) (by omega) hsz ?_))
            intro v' w4 hown4 hgr _
            obtain ⟨a4, c4, rfl⟩ := own_form hown4.out
            have hrd4 := Lib.hid (rd_grown hown3.out hRw hrd3.out hgr.out)
            have htn4 := Lib.hid (turn_grown hown3.out htn3.out hgr.out)
            have hown5 : Hid (w4.ownsRow w.heap.size 53 7 (.slice a4 (xs.length + 1) c4) (xs ++ [(⟨⟨xf, xg⟩, xt, xl, xb, xs1, xs2⟩ : En21)]).length ((xs ++ [(⟨⟨xf, xg⟩, xt, xl, xb, xs1, xs2⟩ : En21)]).flatMap enC)) := Lib.hid (by rw [List.length_append, List.flatMap_append]; exact hown4.out)
            clear hown4 hown3 hrd3 htn3 hgr
            go_wp2_with fail
            exact ⟨⟨xs ++ [(⟨⟨xf, xg⟩, xt, xl, xb, xs1, xs2⟩ : En21)], u, j + 1, a4, xs.length + 1, c4, rfl, by go_num, by omega, Lib.hid (by rw [List.length_append]; rfl), hnx, hown5, hrd4, htn4⟩, by simp [intOf]; omega⟩
        · have hjc : ¬ (j : Int) < (cnt : Int) := by omega
          have hgood := Lib.hid (hL2.out.trans (ls_end hok.out (by omega)))
          have hmx := hm.out
          subst hmx
          go_wp2_with fail
          go_ret
          exact ⟨_, xs, rfl, (fun y u e => by rw [hgood.out] at e; injection e with e; injection e with e _), hown.out, by omega, by rw [hgood.out]; exact hrd.out, htn.out⟩
end Go.Proofs.Ytpfcamebkcengaa
