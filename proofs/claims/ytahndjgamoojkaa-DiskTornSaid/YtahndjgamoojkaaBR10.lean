/- Files in memory (a slice of names with bytes): what the call itself made; and one that can be read is AtSl (XAt). -/
import Derived.Test.YtahndjgamoojkaaBR09
import Derived.Test.YtahndjgamoojkaaBR03
import Derived.Test.YtahndjgamoojkaaBR02
import Derived.Deep.RegionLaw
import Derived.Deep.AppendLies
import Derived.Test.YtahndjgamoojkaaBR01
namespace Go.Proofs.Ytahndjgamoojkaa
open Go.RowKit

/-- Files that the call itself made. -/
def Fls (w : World) (B : Nat) (v : Value) (l : List Fl20) : Prop := w.ownsRow B 47 2 v l.length (cellsA l)
theorem info_file : (Try.prog.info? 47).map (fun i => (i.zero, i.size, i.bytes)) = some (some (.agg #[.string ⟨#[]⟩, .string ⟨#[]⟩]), 2, 32) := by kernel_rfl
theorem AtSl.drawn {w w' : World} {v : Value} {l : List At} (h : AtSl w v l) (hd : Drawn w w') : AtSl w' v l := h.next (hd.below _)
end Go.Proofs.Ytahndjgamoojkaa

/- Append of elements that were just built, to a slice that the call itself made: a step law for regions that draw; the row lies where it lay, or in a new block. -/
namespace Go.Proofs.Ytahndjgamoojkaa
open Go.RowKit

theorem arr_news {w : World} {h : Nat} {t : TypeId} {news : List Value} (hh : ArrAt w h t news) : ∀ j u, news[j]? = some u → w.cell? ((⟨h, 0, none⟩ : Addr).add j) = some u := fun j u hu => by
  have hadd : (⟨h, 0, none⟩ : Addr).add j = ⟨h, 0 + j, none⟩ := by unfold Addr.add; split <;> simp_all
  rw [hadd, Nat.zero_add, hh.cell]; exact hu
theorem step_append1 {P : Program} {ops : Array Oper} {o : Oper} {a : Act} {K : Act → World → Prop} {Q : Exit → Act → World → Prop} {E : Prop} {w : World} (hgd : o.guard = none) (s x : Operand) (t e : TypeId)
    (ho : o.op = .call { callee := .builtin .append, args := #[s, x], argTypes := #[t, t] }) (ht : P.underlying t = some (.slice e))
    (z : Value) (size bytes : Nat) (hi : (P.info? e).map (fun i => (i.zero, i.size, i.bytes)) = some (some z, size, bytes)) (hzs : z.cells.size = size) (hsz : 0 < size) (hby : 0 < bytes)
    (B : Nat) (v : Value) (n : Nat) (xs : List Value) (us : List Value) (hus : us.length = size) (hown : w.ownsRow B e size v n xs) (hs : a.eval s = v) (hx : a.eval x = .slice (some ⟨w.heap.size, 0, none⟩) 1 1) (hu : ∀ u ∈ us, u.oneCell' = true)
    (hn : (n + 1) * bytes ≤ 140737488355328) (hB : B ≤ w.heap.size)
    (h : ∀ v' w', Hid (w'.ownsRow B e size v' (n + 1) (xs ++ us)) → Hid (w.grownBy w' v.ownBlock) → Hid (v'.ownBlock = v.ownBlock ∨ ∃ b, v'.ownBlock = some b ∧ w.heap.size ≤ b) → K (a.put o.dst v') w') :
    if Region.wanted o (yielded ops a.tmps) = true then Oper.wp P o a (w.alloc (.cells us.toArray e)) K Q else E := by
  rw [if_pos (by simp [Region.wanted, hgd])]
  obtain ⟨i, hi, hz, hsize, hbyt⟩ := info_parts hi
  have hn1 : n + 1 ≤ (n + 1) * bytes := Nat.le_mul_of_pos_right _ hby
  obtain ⟨v', w', hr, h1, h2, _, h4⟩ := run_append_own_at (P := P) (w.alloc (.cells us.toArray e)) B t o.type e i z size bytes ht hi hz hsize hbyt hzs hsz v n xs (hown.alloc _) ⟨w.heap.size, 0, none⟩ 1 1 us (by omega)
    (arr_news (arrAt_new w e us)) hu (by unfold maxLen; omega) hn (by simp; omega)
  unfold Oper.wp
  simp [execOp, ho, resolve, invoke, builtin, hs, hx, hr, Result.andThen]
  have hg := grownBy_trans (World.grownBy_alloc w (.cells us.toArray e) none) h2
  refine h v' w' (Lib.hid h1) (Lib.hid hg) (Lib.hid ?_)
  rcases h4 with h4 | h4
  · exact Or.inl h4
  · exact Or.inr ⟨_, h4, by simp⟩

/-- The same, in a region that doesn't draw. -/
theorem wpList_appendk {P : Program} {ops : Array Oper} {rest : List Oper} {o : Oper} {a : Act} {Q : Exit → Act → World → Prop} {w : World} (hw : Region.wanted o (yielded ops a.tmps) = true) (s x : Operand) (t e : TypeId)
    (ho : o.op = .call { callee := .builtin .append, args := #[s, x], argTypes := #[t, t] }) (ht : P.underlying t = some (.slice e))
    (z : Value) (size bytes : Nat) (hi : (P.info? e).map (fun i => (i.zero, i.size, i.bytes)) = some (some z, size, bytes)) (hzs : z.cells.size = size) (hsz : 0 < size) (hby : 0 < bytes)
    (B : Nat) (v : Value) (n : Nat) (xs : List Value) (us : List Value) (hus : us.length = size) (hown : w.ownsRow B e size v n xs) (hs : a.eval s = v) (hx : a.eval x = .slice (some ⟨w.heap.size, 0, none⟩) 1 1) (hu : ∀ u ∈ us, u.oneCell' = true)
    (hn : (n + 1) * bytes ≤ 140737488355328) (hB : B ≤ w.heap.size)
    (h : ∀ v' w', Hid (w'.ownsRow B e size v' (n + 1) (xs ++ us)) → Hid (w.grownBy w' v.ownBlock) → Hid (v'.ownBlock = v.ownBlock ∨ ∃ b, v'.ownBlock = some b ∧ w.heap.size ≤ b) → wpList P ops Q rest (a.put o.dst v') w') : wpList P ops Q (o :: rest) a (w.alloc (.cells us.toArray e)) := by
  obtain ⟨i, hi, hz, hsize, hbyt⟩ := info_parts hi
  have hn1 : n + 1 ≤ (n + 1) * bytes := Nat.le_mul_of_pos_right _ hby
  refine BigFrame.wpList_want hw fun K hK => ?_
  obtain ⟨v', w', hr, h1, h2, _, h4⟩ := run_append_own_at (P := P) (w.alloc (.cells us.toArray e)) B t o.type e i z size bytes ht hi hz hsize hbyt hzs hsz v n xs (hown.alloc _) ⟨w.heap.size, 0, none⟩ 1 1 us (by omega)
    (arr_news (arrAt_new w e us)) hu (by unfold maxLen; omega) hn (by simp; omega)
  unfold Oper.wp execOp
  simp only [ho, resolve, invoke, builtin, Sem.run_bind, Sem.run_pure, Result.andThen_ok, List.map_toArray, List.map_cons, List.map_nil, hs, hx, hr]
  have hg := grownBy_trans (World.grownBy_alloc w (.cells us.toArray e) none) h2
  refine hK _ _ (h v' w' (Lib.hid h1) (Lib.hid hg) (Lib.hid ?_))
  rcases h4 with h4 | h4
  · exact Or.inl h4
  · exact Or.inr ⟨_, h4, by simp⟩
end Go.Proofs.Ytahndjgamoojkaa

/- The walks of the reference's Name, find, drop of layer 20. -/
namespace Go.Proofs.Ytahndjgamoojkaa
open Go.RowKit

set_option maxHeartbeats 1000000 in
theorem refname20_any (s : List UInt8) (w : World) (hs : s.length ≤ maxLen) :
    Calls Try.prog 19 #[.string ⟨s.toArray⟩] w fun e w' => e = .returned (.bool (name20 s)) ∧ w = w' := by
  unfold maxLen at hs
  go_enter Try.func19, Try.ntmps19
  go_wp2_with fail
  go_loop [3] (fun i => ∃ k : Nat, i = .int .i64 k ∧ k ≤ s.length ∧ Hid (s.all azB = (s.drop k).all azB)) (fun i => s.length - (intOf i).toNat)
  case atStart => exact ⟨0, rfl, Nat.zero_le _, Lib.hid rfl⟩
  case round =>
    obtain ⟨k, rfl, hk, hA⟩ := hrel
    by_cases hlt : k < s.length
    · have hb : bt s k = ((s.getD k 0).toNat : Int) := rfl
      have hA2 : s.all azB = (azB (s.getD k 0) && (s.drop (k + 1)).all azB) := by
        rw [hA.out, List.drop_eq_getElem_cons hlt, List.all_cons]
        simp [List.getD, hlt]
      generalize s.getD k 0 = c at hb hA2
      by_cases h1 : (c.toNat : Int) < 97
      · have hno : name20 s = false := by
          rw [name_eq, hA2]
          unfold azB
          rw [decide_eq_false (show ¬ 97 ≤ c.toNat by omega)]
          rfl
        replace hno := Lib.hid hno
        clear hA hA2
        go_wp2_with fail
        go_ret
        exact ⟨ret_bool hno.out.symm, rfl⟩
      · by_cases h2 : (122 : Int) < c.toNat
        · have hno : name20 s = false := by
            rw [name_eq, hA2]
            unfold azB
            rw [decide_eq_false (show ¬ c.toNat ≤ 122 by omega)]
            simp
          replace hno := Lib.hid hno
          clear hA hA2
          go_wp2_with fail
          go_ret
          exact ⟨ret_bool hno.out.symm, rfl⟩
        · have hA3 : s.all azB = (s.drop (k + 1)).all azB := by
            rw [hA2]
            unfold azB
            rw [decide_eq_true (show 97 ≤ c.toNat by omega), decide_eq_true (show c.toNat ≤ 122 by omega)]
            rfl
          replace hA3 := Lib.hid hA3
          clear hA hA2
          go_wp2_with fail
          go_round
          case rel => exact ⟨k + 1, by go_num, by omega, hA3⟩
          case measure => simp [intOf]; omega
    · have hke : ¬ ((k : Int) < s.length) := by omega
      have hA2 := hA.out
      rw [List.drop_of_length_le (by omega), List.all_nil] at hA2
      have hn : name20 s = (decide (1 ≤ s.length) && decide (s.length ≤ 16)) := by rw [name_eq, hA2, Bool.true_and]
      by_cases h1 : (1 : Int) ≤ s.length
      · have hn2 : name20 s = decide ((s.length : Int) ≤ 16) := by
          rw [hn, decide_eq_true (show 1 ≤ s.length by omega), Bool.true_and, decide_eq_decide]
          omega
        replace hn2 := Lib.hid hn2
        clear hA hA2 hn
        go_wp2_with fail
        go_ret
        exact ⟨ret_bool hn2.out.symm, rfl⟩
      · have hn2 : name20 s = false := by rw [hn, decide_eq_false (show ¬ 1 ≤ s.length by omega), Bool.false_and]
        replace hn2 := Lib.hid hn2
        clear hA hA2 hn
        go_wp2_with fail
        go_ret
        exact ⟨ret_bool hn2.out.symm, rfl⟩

theorem find_yes {l : List Fl20} {n : List UInt8} (h : pos20 l n < l.length) : find20 l n = pos20 l n := by unfold find20; rw [if_pos h]
theorem find_no {l : List Fl20} {n : List UInt8} (h : ¬ pos20 l n < l.length) : find20 l n = -1 := by unfold find20; rw [if_neg h]
set_option maxHeartbeats 1000000 in
theorem reffind20_any (L : List Fl20) (n : List UInt8) (v : Value) (w : World) (hv : AtSl w v L) (hL : L.length ≤ maxLen) :
    Calls Try.prog 35 #[v, .string ⟨n.toArray⟩] w fun e w' => e = .returned (.int .i64 (find20 L n)) ∧ w = w' := by
  unfold maxLen at hL
  by_cases h0 : L = []
  · obtain ⟨a, c, rfl⟩ := hv.nil h0
    subst h0
    go_enter Try.func35, Try.ntmps35
    go_wp2_with fail
    refine wp_loop_rounds 1 ?_; rw [rounds_succ]
    go_wp2_with fail
    go_ret
    exact ⟨rfl, rfl⟩
  · obtain ⟨b, off, c, _, _, rfl, hc⟩ := hv.some h0
    replace hc := Lib.hid hc
    replace h0 := Lib.hid h0
    clear hv
    go_enter Try.func35, Try.ntmps35
    go_wp2_with fail
    go_loop [5] (fun i => ∃ k : Nat, i = .int .i64 k ∧ k ≤ L.length ∧ Hid (pos20 L n = k + pos20 (L.drop k) n)) (fun i => L.length - (intOf i).toNat)
    case atStart => exact ⟨0, rfl, Nat.zero_le _, Lib.hid (by simp)⟩
    case round =>
      obtain ⟨k, rfl, hk, hP⟩ := hrel
      by_cases hlt : k < L.length
      · obtain ⟨g1, _⟩ := hc.out k hlt
        have hP2 := hP.out
        rw [pos_next L n hlt] at hP2
        have e : L.getD k ([], []) = L[k] := by simp [List.getD, hlt]
        rw [e] at g1
        unfold strV at g1
        by_cases hn : (L[k]'hlt).1 = n
        · rw [if_pos hn] at hP2
          have hf := Lib.hid (find_yes (l := L) (n := n) (by omega))
          rw [hn] at g1
          replace hP2 := Lib.hid hP2
          clear hP hn e
          go_wp2_with fail
          go_ret
          exact ⟨ret_int (by rw [hf.out, hP2.out]; simp), rfl⟩
        · rw [if_neg hn] at hP2
          have hq : ((L[k]'hlt).1 == n) = false := by simpa using hn
          generalize (L[k]'hlt).1 = x at g1 hq
          replace hP2 := Lib.hid hP2
          clear hP hn e
          go_wp2_with fail
          go_round
          case rel => exact ⟨k + 1, by go_num, by omega, Lib.hid (by have := hP2.out; omega)⟩
          case measure => simp [intOf]; omega
      · have hke : ¬ ((k : Int) < L.length) := by omega
        have hP2 := hP.out
        rw [List.drop_of_length_le (by omega)] at hP2
        have hf := Lib.hid (find_no (l := L) (n := n) (by rw [hP2]; simp [pos20]; omega))
        clear hP hP2
        go_wp2_with fail
        go_ret
        exact ⟨ret_int hf.out.symm, rfl⟩
theorem AtSl.part {w : World} {A : Option Addr} {n c : Nat} {L : List At} (h : AtSl w (.slice A n c) L) : PartOf w A (cellsA L) := by
  rcases h with ⟨rfl, a, c', e⟩ | ⟨b, off, c', _, e, hc⟩
  · exact partOf_nil _ _
  · injection e with e1 e2 e3
    subst e1
    intro j u hu
    refine ⟨_, rfl, ?_⟩
    rw [addr_mid]
    have hj : j < L.length * 2 := by have := (List.getElem?_eq_some_iff.1 hu).1; rwa [cellsA_len] at this
    obtain ⟨k1, k2⟩ := hc (j / 2) (by omega)
    obtain ⟨c1, c2⟩ := cellsA_at L (j / 2) (by omega)
    rcases (show j = j / 2 * 2 ∨ j = j / 2 * 2 + 1 by omega) with hj2 | hj2
    · rw [hj2, c1] at hu
      injection hu with hu
      rw [hj2, k1, hu]
    · rw [hj2, c2] at hu
      injection hu with hu
      rw [hj2, ← Nat.add_assoc, k2, hu]
/-- A load of a whole file. -/
theorem fls_mk {w : World} {B : Nat} {v : Value} {l : List Fl20} {x : Fl20} (h : w.ownsRow B 47 2 v (l.length + 1) (cellsA l ++ [strV x.1, strV x.2])) : Fls w B v (l ++ [x]) := by
  unfold Fls
  rw [List.length_append, cellsA_app]
  exact h
theorem Fls.sl {w : World} {B : Nat} {v : Value} {l : List Fl20} (h : Fls w B v l) : AtSl w v l := by
  by_cases h0 : l = []
  · obtain ⟨a, c, e⟩ := own_form h
    subst h0
    exact Or.inl ⟨rfl, a, c, e⟩
  · obtain ⟨a, c', e, hcap⟩ := own_cap h
    rcases h.2 with ⟨_, hn⟩ | ⟨g, cap, cur, hv, _⟩
    · exact absurd (List.length_eq_zero_iff.1 hn) h0
    · rw [hv] at e
      injection e with e1 e2 e3
      refine Or.inr ⟨g, 0, cap, by omega, hv, fun j hj => ?_⟩
      have hcg := World.ownsRow.cells h (g := g) (by rw [hv]; rfl)
      obtain ⟨q1, q2⟩ := cellsA_at l j hj
      have r1 := hcg _ _ q1
      have r2 := hcg _ _ q2
      rw [addr_mid] at r1 r2
      exact ⟨r1, r2⟩
/-- What gives files: a slice of the call's own. -/
def FilesPost (w : World) (L : List Fl20) (e : Ending) (w' : World) : Prop := ∃ v, e = .returned v ∧ Fls w' w.heap.size v L ∧ Below w.heap.size w w'
set_option maxHeartbeats 1000000 in
theorem refdrop20_any (L : List Fl20) (n : List UInt8) (v : Value) (w : World) (hv : AtSl w v L) (hL : L.length ≤ 1000000) :
    Calls Try.prog 53 #[v, .string ⟨n.toArray⟩] w (FilesPost w (drop20 L n)) := by
  have hst := Lib.hid (show Fls w w.heap.size (.slice none 0 0) [] from World.ownsRow_nil _ _ _ _)
  by_cases h0 : L = []
  · obtain ⟨a, c, rfl⟩ := hv.nil h0
    subst h0
    go_enter Try.func53, Try.ntmps53
    go_wp2_with fail
    refine wp_loop_rounds 1 ?_; rw [rounds_succ]
    go_wp2_with fail
    go_ret
    exact ⟨_, rfl, hst.out, Below.refl _ _⟩
  · obtain ⟨b, off, c, _, hbl, rfl, hc⟩ := hv.some h0
    replace hc := Lib.hid hc
    replace h0 := Lib.hid h0
    replace hbl := Lib.hid hbl
    clear hv
    go_enter Try.func53, Try.ntmps53
    go_wp2_with fail
    go_loopw [5, 6] (fun o i wr => ∃ (k : Nat) (a : Option Addr) (m cp : Nat), o = .slice a m cp ∧ i = .int .i64 k ∧ k ≤ L.length ∧ m ≤ k ∧ Hid (m = (drop20 (L.take k) n).length) ∧ Hid (Fls wr w.heap.size (.slice a m cp) (drop20 (L.take k) n)) ∧ Hid (Below w.heap.size w wr)) (fun _ i _ => L.length - (intOf i).toNat)
    case atStart => exact ⟨0, none, 0, 0, rfl, rfl, Nat.zero_le _, Nat.le_refl _, Lib.hid rfl, Lib.hid hst.out, Lib.hid (Below.refl _ _)⟩
    case round =>
      obtain ⟨k, a, m, cp, rfl, rfl, hk, hmk, hm, ho, hb⟩ := hrel
      clear hst
      by_cases hlt : k < L.length
      · obtain ⟨g1, g2⟩ := hc.out k hlt
        have e : L.getD k ([], []) = L[k] := by simp [List.getD, hlt]
        have hdn := drop_next L n hlt
        rw [e] at g1 g2
        replace g1 := (hb.out.cell (p := ⟨b, off + k * 2, none⟩) hbl.out).trans g1
        replace g2 := (hb.out.cell (p := ⟨b, off + k * 2 + 1, none⟩) hbl.out).trans g2
        unfold strV at g1 g2
        by_cases hn : (L[k]'hlt).1 = n
        · rw [if_pos hn, List.append_nil] at hdn
          rw [hn] at g1
          rw [← hdn] at hm ho
          clear hn e g2 hdn
          go_wp2_with fail
          exact ⟨⟨k + 1, a, m, cp, rfl, by go_num, by omega, by omega, hm, ho, hb⟩, by simp [intOf]; omega⟩
        · rw [if_neg hn] at hdn
          have hq : ((L[k]'hlt).1 == n) = false := by simpa using hn
          generalize hx : L[k]'hlt = x at *
          have hsz := hb.out.size
          replace hx := Lib.hid hx
          clear hn e
          have ho1 := ho.out
          unfold Fls at ho1
          rw [← hm.out] at ho1
          replace ho1 := Lib.hid ho1
          go_wp2_with (at_builtin; go_must (refine wpList_appendk rfl _ _ 22 47 rfl Try.underlying22 (.agg #[.string ⟨#[]⟩, .string ⟨#[]⟩]) 2 32 info_file rfl (by decide) (by decide) w.heap.size _ _ _ [strV x.1, strV x.2] rfl ho1.out rfl rfl (by intro u hu; simp at hu; rcases hu with rfl | rfl <;> rfl) (by omega) (by omega) ?_))
          intro v4 w4 ho4 hg4 _
          have hb4 := Lib.hid (hb.out.trans ((Below.refl w.heap.size wr).grown hg4.out hsz fun q hq => (ho1.out.lt q hq).1))
          obtain ⟨a4, c4, hv4⟩ := own_form ho4.out
          subst hv4
          have hm4 : Hid (m + 1 = (drop20 (L.take (k + 1)) n).length) := by
            refine Lib.hid ?_
            rw [hdn, List.length_append, ← hm.out]
            rfl
          have ho5 : Hid (Fls w4 w.heap.size (.slice a4 (m + 1) c4) (drop20 (L.take (k + 1)) n)) := by
            refine Lib.hid ?_
            unfold Fls
            rw [← hm4.out, hdn, cellsA_app]
            exact ho4.out
          clear ho4 hg4 hdn ho ho1
          go_wp2_with fail
          exact ⟨⟨k + 1, a4, m + 1, c4, rfl, by go_num, by omega, by omega, hm4, ho5, hb4⟩, by simp [intOf]; omega⟩
      · have hke : ¬ ((k : Int) < L.length) := by omega
        have ho2 := ho.out
        rw [List.take_of_length_le (by omega)] at ho2
        replace ho2 := Lib.hid ho2
        clear ho
        go_wp2_with fail
        go_ret
        exact ⟨_, rfl, ho2.out, hb.out⟩
end Go.Proofs.Ytahndjgamoojkaa

/- Append of a whole slice of texts, wherever it lies, to one that the call itself made. -/
namespace Go.Proofs.Ytahndjgamoojkaa
open Go.RowKit

/-- A row with nothing in it, just made. -/
theorem ownsRow_empty (w : World) (E : TypeId) (z : Nat) : (w.alloc (.cells #[] E)).ownsRow w.heap.size E z (.slice (some ⟨w.heap.size, 0, none⟩) 0 0) 0 [] :=
  ⟨by simp, Or.inr ⟨_, 0, #[], rfl, Nat.le_refl _, heap_alloc_new w _, Nat.le_refl _, Nat.zero_le _, by simp, by simp⟩⟩
/-- Append of texts. -/
theorem wpList_append_strs {P : Program} {ops : Array Oper} {rest : List Oper} {o : Oper} {a : Act} {Q : Exit → Act → World → Prop} {w : World} (hw : Region.wanted o (yielded ops a.tmps) = true) (s x : Operand) (t e : TypeId)
    (ho : o.op = .call { callee := .builtin .append, args := #[s, x], argTypes := #[t, t] }) (ht : P.underlying t = some (.slice e))
    (z : Value) (bytes : Nat) (hi : (P.info? e).map (fun i => (i.zero, i.size, i.bytes)) = some (some z, 1, bytes)) (hzs : z.cells.size = 1) (hby : 0 < bytes)
    (B : Nat) (v : Value) (n : Nat) (xs : List Value) (hown : w.ownsRow B e 1 v n xs) (v2 : Value) (ys : List (List UInt8)) (hsl : StrSl w v2 ys) (hs : a.eval s = v) (hx : a.eval x = v2)
    (hn : (n + ys.length) * bytes ≤ 140737488355328) (hB : B ≤ w.heap.size)
    (h : ∀ v' w', w'.ownsRow B e 1 v' (n + ys.length) (xs ++ ys.map strV) → Below B w w' → wpList P ops Q rest (a.put o.dst v') w') : wpList P ops Q (o :: rest) a w := by
  obtain ⟨i0, hi, hz0, hz1, hz2⟩ := info_parts hi
  have hn1 : n + ys.length ≤ (n + ys.length) * bytes := Nat.le_mul_of_pos_right _ hby
  have hone : ∀ u ∈ ys.map strV, u.oneCell' = true := by
    intro u hu
    obtain ⟨y, _, rfl⟩ := List.mem_map.1 hu
    rfl
  rcases hsl with ⟨rfl, ad, c, rfl⟩ | ⟨b, off, c, _, rfl, hc⟩
  · cases ad with
    | none =>
      refine BigFrame.wpList_want hw fun K hK => ?_
      have hrun := run_append_none (P := P) (w := w) B t o.type e i0 1 ht hi v n c xs hown
      have hK' := hK _ _ (h v w (by simpa using hown) (Below.refl _ _))
      unfold Oper.wp
      simp [execOp, ho, resolve, invoke, builtin, hs, hx, hrun, Result.andThen]
      exact hK'
    | some ad =>
      refine BigFrame.wpList_want hw fun K hK => wp_append_own _ s x t ho B e i0 z 1 bytes ht hi hz0 hz1 hz2 hzs (by decide) v n xs hs hown ad 0 c [] hx rfl (by simp) (by simp) (by unfold maxLen; simp at hn1 hn ⊢; omega) (by simpa using hn) hB ?_
      intro v' w' h1 h2 _
      exact hK _ _ (h v' w' (by simpa using h1) ((Below.refl B w).grown h2 hB fun k hk => (hown.lt k hk).1))
  · refine BigFrame.wpList_want hw fun K hK => wp_append_own _ s x t ho B e i0 z 1 bytes ht hi hz0 hz1 hz2 hzs (by decide) v n xs hs hown ⟨b, off, none⟩ ys.length c (ys.map strV) hx (by simp) ?_ hone (by unfold maxLen; omega) hn hB ?_
    · intro j u hu
      rw [addr_mid, hc j (by have := (List.getElem?_eq_some_iff.1 hu).1; simpa using this)]
      rw [List.getElem?_map] at hu
      cases hj : ys[j]? with
      | none => simp [hj] at hu
      | some y => simp [hj] at hu; subst hu; simp [List.getD, hj]
    · intro v' w' h1 h2 _
      exact hK _ _ (h v' w' h1 ((Below.refl B w).grown h2 hB fun k hk => (hown.lt k hk).1))
end Go.Proofs.Ytahndjgamoojkaa
