/- The walks of block's record and Scan. -/
import Derived.Test.YtkckddcibhbalaaD19b
namespace Go.Proofs.Ytkckddcibhbalaa
open Go.RowKit

/-- What is told of a record, as values. -/
def recPost (w : World) (o : Option (List UInt8)) (e : Ending) (w' : World) : Prop :=
  e = .returned (match o with | none => .tuple #[.string ⟨#[]⟩, .bool false] | some t => .tuple #[.string ⟨t.toArray⟩, .bool true]) ∧ Below w.heap.size w w'
theorem recPost_no {w w' : World} (hb : Below w.heap.size w w') : recPost w none (.returned (.tuple #[.string ⟨#[]⟩, .bool false])) w' := ⟨rfl, hb⟩
theorem recPost_yes {w w' : World} {t : List UInt8} (hb : Below w.heap.size w w') : recPost w (some t) (.returned (.tuple #[.string ⟨t.toArray⟩, .bool true])) w' := ⟨rfl, hb⟩
theorem rdPost_no {w w' : World} {e : Ending} (h : rdPost w none e w') : e = .returned (.tuple #[.int .u8 0, .string ⟨#[]⟩, .bool false]) ∧ Below w.heap.size w w' := h
theorem rdPost_yes {w w' : World} {e : Ending} {k : Nat} {t : List UInt8} (h : rdPost w (some (k, t)) e w') : e = .returned (.tuple #[.int .u8 k, .string ⟨t.toArray⟩, .bool true]) ∧ Below w.heap.size w w' := h
set_option maxHeartbeats 1000000 in
theorem record19_any (s : List UInt8) (n : Nat) (w : World) (hs : s.length ≤ 1000000000) (hn : n ≤ 1000000000) :
    Calls Try.prog 24 #[.string ⟨s.toArray⟩, .int .i64 n] w (recPost w (recB s n)) := by
  obtain ⟨R, hR⟩ : ∃ R, recB s n = R := ⟨_, rfl⟩
  rw [hR]
  have hst := Lib.hid (bd_new w)
  have hsb := Lib.hid ((Below.refl w.heap.size w).alloc (Nat.le_refl _) (.cells #[.pointer none, .slice none 0 0] 43))
  replace hR := Lib.hid hR
  go_enter Try.func24, Try.ntmps24
  go_wp2_with fail
  go_loopw [0, 7] (fun v i wr => ∃ (l : List UInt8) (k : Nat) (text : List UInt8), v = .string ⟨l.toArray⟩ ∧ i = .int .i64 k ∧ l.length + 64 * k = s.length ∧ text.length ≤ 262144 ∧ Hid (recG (chunks19 l) n k text = R) ∧ Hid (BdAt wr w.heap.size w.heap.size text) ∧ Hid (Below w.heap.size w wr)) (fun v _ _ => strLen v)
  case atStart => exact ⟨s, 0, [], rfl, rfl, by omega, by simp, hR, hst, hsb⟩
  case round =>
    obtain ⟨l, k, text, rfl, rfl, hl, htx, hG, hbd, hbl⟩ := hrel
    clear hst hsb hR
    have hrd := read19_any l (n + k) wr (by omega) (by omega)
    cases h : rd19 l (n + k) with
    | none =>
      rw [h] at hrd
      have e := recG_no (text := text) h
      rw [hG.out] at e
      subst e
      clear h hG
      replace hrd := Lib.hid hrd
      go_wp2_with fail
      rw [← Int.natCast_add]
      refine hrd.out.mono ?_; rintro e w1 hp
      obtain ⟨rfl, hb⟩ := rdPost_no hp
      replace hb := Lib.hid (hbl.out.andThen hb)
      clear hp hrd
      go_wp2_with fail
      go_ret2
      exact recPost_no hb.out
    | some x =>
      obtain ⟨kd, t⟩ := x
      rw [h] at hrd
      obtain ⟨hl64, k1, k4, ht, _⟩ := rd_bd h
      have e := recG_yes (text := text) h
      rw [hG.out] at e
      clear h hG
      replace hrd := Lib.hid hrd
      have hsd := fun W => stands19_any kd t.length k W k1 k4
      by_cases hno : standsB kd t.length k = false
      · rw [if_pos (Or.inl hno)] at e
        subst e
        rw [hno] at hsd
        replace hsd := Lib.hid hsd
        clear hno
        go_wp2_with fail
        rw [← Int.natCast_add]
        refine hrd.out.mono ?_; rintro e w1 hp
        obtain ⟨rfl, hb⟩ := rdPost_yes hp
        replace hb := Lib.hid (hbl.out.andThen hb)
        clear hp hrd
        go_wp2_with fail
        refine (hsd.out _).mono ?_; rintro e w2 ⟨rfl, rfl⟩
        go_wp2_with fail
        go_ret2
        exact recPost_no hb.out
      · replace hno : standsB kd t.length k = true := by simpa using hno
        rw [hno] at hsd e
        replace hsd := Lib.hid hsd
        clear hno
        by_cases hlg : 262144 < text.length + t.length
        · rw [if_pos (Or.inr hlg)] at e
          subst e
          go_wp2_with fail
          rw [← Int.natCast_add]
          refine hrd.out.mono ?_; rintro e w1 hp
          obtain ⟨rfl, hb⟩ := rdPost_yes hp
          replace hbd := Lib.hid (hbd.out.next hb)
          replace hb := Lib.hid (hbl.out.andThen hb)
          clear hp hrd
          go_wp2_with fail
          refine (hsd.out _).mono ?_; rintro e w2 ⟨rfl, rfl⟩
          go_wp2_with fail
          refine (bd_len hbd.out).mono ?_; rintro e w2 ⟨rfl, rfl⟩
          go_wp2_with fail
          go_ret2
          exact recPost_no hb.out
        · rw [if_neg (by simp [hlg])] at e
          go_wp2_with fail
          rw [← Int.natCast_add]
          refine hrd.out.mono ?_; rintro e w1 hp
          obtain ⟨rfl, hb⟩ := rdPost_yes hp
          replace hbd := Lib.hid (hbd.out.next hb)
          replace hb := Lib.hid (hbl.out.andThen hb)
          clear hp hrd
          go_wp2_with fail
          refine (hsd.out _).mono ?_; rintro e w2 ⟨rfl, rfl⟩
          go_wp2_with fail
          refine (bd_len hbd.out).mono ?_; rintro e w2 ⟨rfl, rfl⟩
          go_wp2_with fail
          refine (bd_write hbd.out t (by omega) hb.out.size).mono ?_; rintro e w2 ⟨rfl, hbd2, hb2⟩
          replace hb := Lib.hid (hb.out.trans hb2)
          replace hbd := Lib.hid hbd2
          clear hb2 hbd2
          by_cases hend : kd = 1 ∨ kd = 4
          · rw [if_pos hend] at e
            subst e
            have h14 : ((kd : Int) == 1) = true ∨ (((kd : Int) == 1) = false ∧ ((kd : Int) == 4) = true) := by rcases hend with rfl | rfl <;> simp
            clear hend
            rcases h14 with h1 | ⟨h1, h4⟩
            all_goals
              go_wp2_with fail
              refine (bd_string hbd.out hb.out.size).mono ?_; rintro e w3 ⟨rfl, hb2⟩
              replace hb := Lib.hid (hb.out.trans hb2)
              clear hb2
              go_wp2_with fail
              go_ret2
              exact recPost_yes hb.out
          · rw [if_neg hend] at e
            have h1 : ((kd : Int) == 1) = false := by simp; omega
            have h4 : ((kd : Int) == 4) = false := by simp; omega
            replace e := Lib.hid e.symm
            clear hend
            go_wp2_with fail
            exact ⟨⟨l.drop 64, k + 1, text ++ t, rfl, by go_num, by rw [List.length_drop]; omega, by rw [List.length_append]; omega, e, hbd, hb⟩, by rw [strLen_mk, strLen_mk, List.length_drop]; omega⟩

/-- What a scan comes to: the records in a slice of the call's own, and where they end. -/
def ScanPost (w : World) (s : List UInt8) (e : Ending) (w' : World) : Prop :=
  ∃ v, e = .returned (.tuple #[v, .int .i64 (scanB s).2]) ∧ Strs w' w.heap.size v (scanB s).1 ∧ Below w.heap.size w w'
theorem scanPost_of {w w' : World} {s : List UInt8} {v : Value} {out : List (List UInt8)} {fin : Nat} (h : (out, fin) = scanB s) (ho : Strs w' w.heap.size v out) (hb : Below w.heap.size w w') : ScanPost w s (.returned (.tuple #[v, .int .i64 fin])) w' := by
  refine ⟨v, by rw [← h], ?_, hb⟩
  rw [← h]
  exact ho
set_option maxHeartbeats 1000000 in
theorem scan19_any (s : List UInt8) (w : World) (hs : s.length ≤ 100000000) :
    Calls Try.prog 12 #[.string ⟨s.toArray⟩] w (ScanPost w s) := by
  have hst := Lib.hid (show Strs w w.heap.size (.slice none 0 0) [] from World.ownsRow_nil _ _ _ _)
  go_enter Try.func12, Try.ntmps12
  go_wp2_with fail
  go_loopw [4, 5] (fun v i wr => ∃ (m : Nat) (out : List (List UInt8)) (a : Option Addr) (c : Nat), v = .slice a out.length c ∧ i = .int .i64 ((64 * m : Nat) : Int) ∧ 64 * m ≤ s.length ∧ out.length ≤ m ∧ Hid (left19 s m out = scanB s) ∧ Hid (Strs wr w.heap.size (.slice a out.length c) out) ∧ Hid (Below w.heap.size w wr)) (fun _ i _ => s.length - (intOf i).toNat)
  case atStart => exact ⟨0, [], none, 0, rfl, rfl, by omega, by simp, Lib.hid (left_all s), hst, Lib.hid (Below.refl _ _)⟩
  case round =>
    obtain ⟨m, out, a, c, rfl, rfl, hm, hom, hlf, ho, hbl⟩ := hrel
    clear hst
    have hrc := record19_any (s.drop (64 * m)) m wr (by rw [List.length_drop]; omega) (by omega)
    have hdv : ((64 * m : Nat) : Int).tdiv 64 = m := by rw [Int.tdiv_eq_ediv_of_nonneg (by omega)]; omega
    have hmi : ((64 * m : Nat) : Int) ≤ s.length := by omega
    obtain ⟨q, hq⟩ : ∃ q, q = 64 * m := ⟨_, rfl⟩
    rw [← hq] at hdv hmi hrc ⊢
    cases h : recB (s.drop q) m with
    | none =>
      rw [h] at hrc
      rw [hq] at h
      have hlf2 := left_no out hm h
      rw [hlf.out, ← hq] at hlf2
      replace hlf2 := Lib.hid hlf2.symm
      replace hrc := Lib.hid hrc
      clear h hlf
      replace hq := Lib.hid hq
      go_wp2_with fail
      refine hrc.out.mono ?_; rintro e w1 ⟨rfl, hb⟩
      replace ho := Lib.hid (show Strs w1 w.heap.size _ out from ownsRow_below ho.out hb)
      replace hb := Lib.hid (hbl.out.andThen hb)
      clear hrc
      go_wp2_with fail
      go_ret2
      exact scanPost_of hlf2.out ho.out hb.out
    | some t =>
      rw [h] at hrc
      rw [hq] at h
      obtain ⟨hlf2, hm2, htl⟩ := left_yes out hm h
      have hc19 := count19_any (t.length : Int)
      rw [countI_nat] at hc19
      obtain ⟨c1, c2, _⟩ := count19_bd t.length
      rw [hlf.out] at hlf2
      generalize count19 t.length = n at *
      replace hlf2 := Lib.hid hlf2.symm
      replace hrc := Lib.hid hrc
      replace hc19 := Lib.hid (fun W => hc19 W (by omega))
      clear h hlf
      have hq2 : (q : Int) + n * 64 = ((64 * (m + n) : Nat) : Int) := by omega
      have hqs : 64 * (m + n) ≤ s.length := hm2
      replace hq := Lib.hid hq
      go_wp2_with fail
      refine hrc.out.mono ?_; rintro e w1 ⟨rfl, hb⟩
      replace ho := Lib.hid (show Strs w1 w.heap.size _ out from ownsRow_below ho.out hb)
      replace hb := Lib.hid (hbl.out.andThen hb)
      have hsz := hb.out.size
      clear hrc
      go_wp2_with (at_builtin; go_must (refine wpList_append1 rfl _ _ 28 9 rfl Try.underlying28 (.string ⟨#[]⟩) 16 info_str rfl (by decide) w.heap.size _ _ _ _ ho.out rfl rfl rfl (by omega) (by omega) ?_))
      intro v4 w4 ho4 hb4 _
      replace ho4 := Lib.hid (strs_mk ho4)
      replace hb4 := Lib.hid (hb.out.trans hb4)
      obtain ⟨a4, c4, hv4⟩ := own_form ho4.out
      rw [List.length_append, List.length_singleton] at hv4
      subst hv4
      clear hb hsz
      go_wp2_with fail
      refine (hc19.out _).mono ?_; rintro e w5 ⟨rfl, rfl⟩
      go_wp2_with fail
      have hq3 := hq.out
      have hl1 : (out ++ [t]).length = out.length + 1 := by simp
      refine ⟨⟨m + n, out ++ [t], a4, c4, by rw [hl1], vi64 (by omega), hqs, by omega, hlf2, ?_, hb4⟩, by simp [intOf]; omega⟩
      rw [hl1]
      exact ho4
end Go.Proofs.Ytkckddcibhbalaa
