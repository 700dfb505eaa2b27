/- Layer 11: document. -/
import Derived.Test.YtldnigkaagcciaaDoorD11s
import Derived.Test.YtldnigkaagcciaaDoorEr
namespace Go.Proofs.YtldnigkaagcciaaDoor
open Go.RowKit

/-- What the loop of document keeps: k bytes are read, the state is s. -/
structure DocAt (dep : Int) (l : List UInt8) (m k : Nat) (s : Sc) : Prop where
  le : m ≤ k ∧ k ≤ l.length
  eq : loopK (docF dep) sc0 (l.drop m) m = loopK (docF dep) s (l.drop k) k
  toks : s.toks.length ≤ 2 * k
  text : s.text.length ≤ 4 * k
  opn : s.opn.length ≤ k
theorem DocAt.zero {dep : Int} {l : List UInt8} {m : Nat} (hm : m ≤ l.length) : DocAt dep l m m sc0 := ⟨⟨Nat.le_refl _, hm⟩, rfl, by simp [sc0], by simp [sc0], by simp [sc0]⟩
theorem DocAt.step {dep : Int} {l : List UInt8} {m k n : Nat} {s s' : Sc} (h : DocAt dep l m k s) (e : docF dep s (l.drop k) = .go s' n) : DocAt dep l m (k + n) s' ∧ 1 ≤ n := by
  have hs := docF_step e
  obtain ⟨h1, h2⟩ := h.le
  have hi := hs.hi
  rw [List.length_drop] at hi
  have := hs.lo
  refine ⟨⟨⟨by omega, by omega⟩, ?_, by have := hs.toks; have := h.toks; omega, by have := hs.text; have := h.text; omega, by have := hs.opn; have := h.opn; omega⟩, hs.lo⟩
  rw [h.eq, loopK_go (docF_steps dep) _ e, List.drop_drop]
theorem docB_none {dep : Int} {l : List UInt8} (h : headP l = none) : docB dep l = .syn := by unfold docB; rw [h]
theorem docB_syn {dep : Int} {l : List UInt8} {m k : Nat} {s : Sc} (hh : headP l = some m) (h : DocAt dep l m k s) (e : docF dep s (l.drop k) = .bad .syn) : docB dep l = .syn := by
  unfold docB; rw [hh]; simp only; rw [h.eq, loopK_bad _ e]
theorem docB_deep {dep : Int} {l : List UInt8} {m k : Nat} {s : Sc} (hh : headP l = some m) (h : DocAt dep l m k s) (e : docF dep s (l.drop k) = .bad .deep) : docB dep l = .deep k := by
  unfold docB; rw [hh]; simp only; rw [h.eq, loopK_bad _ e]
theorem docB_fin {dep : Int} {l : List UInt8} {m k : Nat} {s : Sc} (hh : headP l = some m) (h : DocAt dep l m k s) (e : docF dep s (l.drop k) = .bad .fin) : docB dep l = if s.rooted && s.opn.isEmpty then .toks s.toks else .syn := by
  unfold docB; rw [hh]; simp only; rw [h.eq, loopK_bad _ e]
/-- What document comes to. -/
def DocPost (w : World) (B R : Nat) (l : List UInt8) (_dep : Int) : Ans → Ending → World → Prop
  | .toks t, e, w' => e = .returned .nilIface ∧ (∃ c' k' s' P', c'.l = l ∧ s'.toks = t ∧ RdM w' B R c' k' s' P') ∧ Below B w w'
  | .syn, e, w' => ∃ f q, e = .returned (faultV f) ∧ B ≤ f ∧ FaultAt w' f q synV ∧ Below B w w'
  | .deep k, e, w' => ∃ f, e = .returned (faultV f) ∧ B ≤ f ∧ FaultAt w' f k deepV ∧ Below B w w'
section
variable {w w' : World} {B R : Nat} {l : List UInt8} {dep : Int} {o : Ans} {e : Ending} {f q : Nat}
theorem DocPost.syn (ho : o = .syn) (he : e = .returned (faultV f)) (hf : B ≤ f) (h : FaultAt w' f q synV) (hb : Below B w w') : DocPost w B R l dep o e w' := by subst ho; exact ⟨f, q, he, hf, h, hb⟩
theorem DocPost.deep {k : Nat} (ho : o = .deep k) (he : e = .returned (faultV f)) (hf : B ≤ f) (h : FaultAt w' f k deepV) (hb : Below B w w') : DocPost w B R l dep o e w' := by subst ho; exact ⟨f, he, hf, h, hb⟩
theorem DocPost.ok {t : List Tk} {c' : RC} {k' : Nat} {s' : Sc} {P' : List (Tk × Value)} (ho : o = .toks t) (he : e = .returned .nilIface) (hl : c'.l = l) (ht : s'.toks = t) (h : RdM w' B R c' k' s' P') (hb : Below B w w') : DocPost w B R l dep o e w' := by subst ho; exact ⟨he, ⟨c', k', s', P', hl, ht, h⟩, hb⟩
end
/-- Where the loop of document stands: the last step's answer, and what it means. -/
inductive DocSt (w wr : World) (B R : Nat) (l : List UInt8) (dep : Int) (m : Nat) (A : Addr) (o : Ans) : Value → Prop
  | more (k : Nat) (s : Sc) (c : RC) (P : List (Tk × Value)) (hd : DocAt dep l m k s) (hl : c.l = l) (hp : c.dep = dep) (hr : RdM wr B R c k s P) : DocSt w wr B R l dep m A o .nilIface
  | fin (k : Nat) (s : Sc) (c : RC) (P : List (Tk × Value)) (ho : o = if s.rooted && s.opn.isEmpty then .toks s.toks else .syn) (hl : c.l = l) (hr : RdM wr B R c k s P) : DocSt w wr B R l dep m A o (endV A)
  | syn (k : Nat) (c : RC) (ho : o = .syn) (hk : k ≤ l.length) (hl : c.l = l) (hr : Rd wr R c k) : DocSt w wr B R l dep m A o synV
  | deep (k : Nat) (c : RC) (ho : o = .deep k) (hk : k ≤ l.length) (hl : c.l = l) (hr : Rd wr R c k) : DocSt w wr B R l dep m A o deepV
def isNilV : Value → Nat
  | .nilIface => 1
  | _ => 0

set_option maxHeartbeats 4000000 in
theorem document11_any (B R : Nat) (c : RC) (A : Addr) (w : World) (hE : Env w B A) (h : RdM w B R c 0 sc0 []) (hl : c.l.length ≤ 20000) (hB : B ≤ w.heap.size) :
    Calls Tryd.prog 19 #[.pointer (some ⟨R, 0, none⟩)] w (DocPost w B R c.l c.dep (docB c.dep c.l)) := by
  obtain ⟨o, ho⟩ : ∃ o, docB c.dep c.l = o := ⟨_, rfl⟩
  rw [ho]
  have hRB := h.low
  have hhead := head11_any R c w hE.maxl (by have := hE.lowm; omega) h.rd (by omega)
  obtain ⟨ho1, hhp⟩ : ∃ x, headP c.l = x := ⟨_, rfl⟩
  rw [hhp] at hhead
  replace h := Lib.hid h
  replace hE := Lib.hid hE
  replace hhp := Lib.hid hhp
  replace ho := Lib.hid ho
  replace hhead := Lib.hid hhead
  go_enter Tryd.func19, Tryd.ntmps19
  go_wp2_with fail
  refine hhead.out.mono ?_
  intro e w1 hq1
  obtain ⟨ev, m, hev, hst, hb1⟩ : ∃ (ev : Value) (m : Nat), e = .returned ev ∧ Hid (DocSt w w1 B R c.l c.dep m A o ev ∧ (ev = .nilIface → headP c.l = some m)) ∧ Below B w w1 := by
    cases ho1 with
    | none =>
      obtain ⟨rfl, k1, hk1, r1, t1⟩ := hq1
      exact ⟨synV, 0, rfl, ⟨.syn k1 c (ho.out.symm.trans (docB_none hhp.out)) hk1 rfl r1, fun e => by cases e⟩, h.out.toTurned t1⟩
    | some m =>
      obtain ⟨rfl, hm, r1, t1⟩ := hq1
      exact ⟨.nilIface, m, rfl, ⟨.more m sc0 c [] (DocAt.zero hm) rfl rfl (h.out.call r1 t1), fun _ => hhp.out⟩, h.out.toTurned t1⟩
  subst hev
  clear hq1 hhead
  have hE1 := hE.out.below hb1
  replace hb1 := Lib.hid hb1
  replace hE1 := Lib.hid hE1
  go_wp2_with fail
  go_loopw [3] (fun v wr => Hid (DocSt w wr B R c.l c.dep m A o v) ∧ Hid (v = .nilIface → headP c.l = some m) ∧ Hid (Env wr B A) ∧ Hid (Below B w wr)) (fun v wr => isNilV v * (c.l.length + 1 - (intOf ((wr.cell? ⟨R, 1, none⟩).getD undef)).toNat))
  case atStart => exact ⟨hst.out.1, hst.out.2, hE1.out, hb1.out⟩
  case round =>
    clear hst hE1 hb1
    obtain ⟨hst, hhd, hEr, hbr⟩ := hrel
    have hst' := hst.out
    clear hst
    have hende := hEr.out.ende
    cases hst' with
    | more k s c' P hd hl' hp hr =>
      have hk := hd.le.2
      have hstep := step11_any B R c' k s P A wr hEr.out hr (by rw [hl']; exact hk) (by rw [hl']; omega) (by have := hd.opn; omega) (by have := hd.toks; omega) (by have := hd.text; omega)
      rw [hl', hp] at hstep
      have hmm := hhd.out rfl
      obtain ⟨res, hres⟩ : ∃ res, docF c.dep s (c.l.drop k) = res := ⟨_, rfl⟩
      rw [hres] at hstep
      have hc1 := hr.rd.c1
      replace hstep := Lib.hid hstep
      replace hres := Lib.hid hres
      replace hd := Lib.hid hd
      replace hr := Lib.hid hr
      replace hmm := Lib.hid hmm
      replace hl' := Lib.hid hl'
      replace hp := Lib.hid hp
      replace hc1 := Lib.hid hc1
      go_wp2_with fail
      refine hstep.out.mono ?_
      intro e w2 hq2
      obtain ⟨ev, hev, hs2, hb2⟩ : ∃ ev : Value, e = .returned ev ∧ Hid (DocSt w w2 B R c.l c.dep m A o ev ∧ isNilV ev * (c.l.length + 1 - (intOf ((w2.cell? ⟨R, 1, none⟩).getD undef)).toNat) < c.l.length + 1 - k) ∧ Below B wr w2 := by
        cases res with
        | stop => exact hq2.elim
        | go s' n =>
          obtain ⟨rfl, ⟨c2, P2, e1, e2, r2⟩, hb2⟩ := hq2
          obtain ⟨hd2, hn⟩ := hd.out.step hres.out
          refine ⟨.nilIface, rfl, ⟨.more (k + n) s' c2 P2 hd2 e1 e2 r2, ?_⟩, hb2⟩
          rw [r2.rd.c1]
          simp [isNilV, intOf]
          omega
        | bad x =>
          cases x with
          | fin =>
            obtain ⟨rfl, ⟨c2, P2, e1, e2, r2⟩, hb2⟩ := hq2
            exact ⟨endV A, rfl, ⟨.fin k s c2 P2 (ho.out.symm.trans (docB_fin hmm.out hd.out hres.out)) e1 r2, by simp [isNilV, endV]; omega⟩, hb2⟩
          | syn =>
            obtain ⟨rfl, ⟨c2, k2, e1, hk2, _, r2⟩, hb2⟩ := hq2
            exact ⟨synV, rfl, ⟨.syn k2 c2 (ho.out.symm.trans (docB_syn hmm.out hd.out hres.out)) hk2 e1 r2, by simp [isNilV, synV]; omega⟩, hb2⟩
          | deep =>
            obtain ⟨rfl, ⟨c2, k2, e1, hk2, hkk, r2⟩, hb2⟩ := hq2
            subst hkk
            exact ⟨deepV, rfl, ⟨.deep k2 c2 (ho.out.symm.trans (docB_deep hmm.out hd.out hres.out)) hk2 e1 r2, by simp [isNilV, deepV]; omega⟩, hb2⟩
      subst hev
      clear hq2 hstep
      have hE2 := Lib.hid (hEr.out.below hb2)
      have hbb := Lib.hid (hbr.out.trans hb2)
      replace hb2 := Lib.hid hb2
      go_wp2_with fail
      have e1 : (intOf ((some (Value.int .i64 (k : Int))).getD undef)).toNat = k := by simp [intOf]
      refine ⟨⟨hs2.out.1, fun _ => hmm.out, hE2.out, hbb.out⟩, ?_⟩
      rw [hc1.out, e1]
      show _ < 1 * _
      rw [Nat.one_mul]
      exact hs2.out.2
    | syn k c' ho2 hk hl' hr =>
      have hc1 := hr.c1
      have hBr := hbr.out.size
      replace hr := Lib.hid hr
      replace ho2 := Lib.hid ho2
      replace hl' := Lib.hid hl'
      unfold synV
      go_wp2_with fail
      refine (is11_code_end 3 A wr).mono ?_; rintro e w2 ⟨rfl, rfl⟩
      go_wp2_with fail
      go_ret
      exact DocPost.syn ho2.out rfl (by omega : B ≤ wr.heap.size) (arrAt_new wr 54 [.int .i64 k, synV]) (hbr.out.alloc (by omega) _)
    | deep k c' ho2 hk hl' hr =>
      have hc1 := hr.c1
      have hBr := hbr.out.size
      replace hr := Lib.hid hr
      replace ho2 := Lib.hid ho2
      replace hl' := Lib.hid hl'
      unfold deepV
      go_wp2_with fail
      refine (is11_code_end 4 A wr).mono ?_; rintro e w2 ⟨rfl, rfl⟩
      go_wp2_with fail
      go_ret
      exact DocPost.deep ho2.out rfl (by omega : B ≤ wr.heap.size) (arrAt_new wr 54 [.int .i64 k, deepV]) (hbr.out.alloc (by omega) _)
    | fin k s c' P ho2 hl' hr =>
      have hc1 := hr.rd.c1
      have hc3 := hr.rd.c3
      have hc4 := hr.rd.c4
      rw [hr.rt] at hc3
      obtain ⟨a4, e4, hv⟩ := own_form hr.opn
      rw [hv] at hc4
      replace hv := Lib.hid hv
      have hBr := hbr.out.size
      have ho3 := ho2
      replace ho2 := Lib.hid ho2
      replace hr := Lib.hid hr
      replace hl' := Lib.hid hl'
      unfold endV
      cases hrt : s.rooted
      · rw [hrt] at ho3 hc3
        replace ho3 := Lib.hid ho3
        replace hrt := Lib.hid hrt
        go_wp2_with fail
        refine (is11_same A wr).mono ?_; rintro e w2 ⟨rfl, rfl⟩
        go_wp2_with fail
        go_ret
        exact DocPost.syn ho3.out rfl (by omega : B ≤ wr.heap.size) (arrAt_new wr 54 [.int .i64 k, synV]) (hbr.out.alloc (by omega) _)
      · rw [hrt, Bool.true_and] at ho3
        rw [hrt] at hc3
        replace hrt := Lib.hid hrt
        by_cases h0 : s.opn.length = 0
        · have he : s.opn.isEmpty = true := by rw [List.isEmpty_iff]; exact List.length_eq_zero_iff.1 h0
          rw [he] at ho3
          have h0' : ((s.opn.length : Int) == 0) = true := by rw [beq_iff_eq]; omega
          replace ho3 := Lib.hid ho3
          replace he := Lib.hid he
          replace h0 := Lib.hid h0
          go_wp2_with fail
          refine (is11_same A wr).mono ?_; rintro e w2 ⟨rfl, rfl⟩
          go_wp2_with fail
          go_ret
          exact DocPost.ok ho3.out rfl hl'.out rfl hr.out hbr.out
        · have he : s.opn.isEmpty = false := by cases hs : s.opn <;> simp_all
          rw [he] at ho3
          have h0' : ((s.opn.length : Int) == 0) = false := by rw [beq_eq_false_iff_ne]; omega
          replace ho3 := Lib.hid ho3
          replace he := Lib.hid he
          go_wp2_with fail
          refine (is11_same A wr).mono ?_; rintro e w2 ⟨rfl, rfl⟩
          go_wp2_with fail
          go_ret
          exact DocPost.syn ho3.out rfl (by omega : B ≤ wr.heap.size) (arrAt_new wr 54 [.int .i64 k, synV]) (hbr.out.alloc (by omega) _)
end Go.Proofs.YtldnigkaagcciaaDoor
