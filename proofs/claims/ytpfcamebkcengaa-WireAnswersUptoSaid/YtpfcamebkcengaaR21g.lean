/- Layer 21, the reference: SameState, of states that are alike. -/
import Derived.Test.YtpfcamebkcengaaD21m
namespace Go.Proofs.Ytpfcamebkcengaa
open Go.RowKit

/-- A state that can be read. -/
structure SvR (w : World) (x : Sv21) : Prop where
  fs : SlOf 1 stC w (.slice x.fa x.st.feeds.length x.fc) x.st.feeds
  es : SlOf 7 enC w (.slice x.ea x.st.entries.length x.ec) x.st.entries
  rs : SlOf 2 kyC w (.slice x.ra x.st.read.length x.rc) x.st.read
  fn : x.st.feeds.length ≤ 9223372036854775807
  en : x.st.entries.length ≤ 9223372036854775807
  rn : x.st.read.length ≤ 9223372036854775807
theorem SvR.next {w w' : World} {x : Sv21} (h : SvR w x) (hb : Below w.heap.size w w') : SvR w' x := ⟨h.fs.next hb, h.es.next hb, h.rs.next hb, h.fn, h.en, h.rn⟩
theorem SvOwn.rd {w : World} {B : Nat} {x : Sv21} (h : SvOwn w B x) (h1 : x.st.feeds.length ≤ 9223372036854775807) (h2 : x.st.entries.length ≤ 9223372036854775807) (h3 : x.st.read.length ≤ 9223372036854775807) : SvR w x := ⟨slOf_own stC_len h.fs, slOf_own enC_len h.es, slOf_own kyC_len h.rs, h1, h2, h3⟩
theorem SvBd.rd {w : World} {B : Nat} {x : Sv21} (h : SvBd w B x) : SvR w x := ⟨h.fs, h.es, h.rs, h.fn, h.en, h.rn⟩

set_option maxHeartbeats 8000000 in
set_option maxRecDepth 100000 in
theorem same21_any (a b : Sv21) (w : World) (hab : a.st = b.st) (ha : SvR w a) (hb : SvR w b) :
    Calls Try.prog 29 #[svV a, svV b] w fun e w' => e = .returned (.bool true) ∧ Below w.heap.size w w' := by
  obtain ⟨st, fa, fc, ea, ec, ra, rc⟩ := a
  obtain ⟨st', ga, gc, ja, jc, ta, tc⟩ := b
  simp only at hab
  subst hab
  obtain ⟨no, fl, ep, fs, es, rs⟩ := st
  obtain ⟨a1, a2, a3, n1, n2, n3⟩ := ha
  obtain ⟨b1, b2, b3, _, _, _⟩ := hb
  unfold svV svC
  simp only at *
  have hb0 := (Below.refl w.heap.size w).alloc (Nat.le_refl _) (.cells #[.slice fa fs.length fc, .slice ea es.length ec, .slice ra rs.length rc, .int .i64 no, .int .i64 fl, .int .i64 ep] 43)
  obtain ⟨p1, q1, _⟩ := new_in (H := w.heap.size) 43 [Value.slice fa fs.length fc, .slice ea es.length ec, .slice ra rs.length rc, .int .i64 no, .int .i64 fl, .int .i64 ep] (Below.refl _ w) (Nat.le_refl _)
  obtain ⟨p2, q2, r2⟩ := new_in (H := w.heap.size) 43 [Value.slice ga fs.length gc, .slice ja es.length jc, .slice ta rs.length tc, .int .i64 no, .int .i64 fl, .int .i64 ep] q1 q1.size
  have e1 : (w.alloc (.cells [Value.slice fa fs.length fc, .slice ea es.length ec, .slice ra rs.length rc, .int .i64 no, .int .i64 fl, .int .i64 ep].toArray 43)).heap.size = w.heap.size + 1 := by simp
  rw [e1] at p2
  have p3 := p1.next r2
  have hsl := Lib.hid (fun V (hb : Below w.heap.size w V) => (⟨a1.next hb, a2.next hb, a3.next hb, b1.next hb, b2.next hb, b3.next hb⟩ : SlOf 1 stC V (.slice fa fs.length fc) fs ∧ SlOf 7 enC V (.slice ea es.length ec) es ∧ SlOf 2 kyC V (.slice ra rs.length rc) rs ∧ SlOf 1 stC V (.slice ga fs.length gc) fs ∧ SlOf 7 enC V (.slice ja es.length jc) es ∧ SlOf 2 kyC V (.slice ta rs.length tc) rs))
  replace p3 := Lib.hid p3
  replace p2 := Lib.hid p2
  replace q2 := Lib.hid q2
  clear hb0 p1 q1 r2 e1 a1 a2 a3 b1 b2 b3
  go_enter Try.func29, Try.ntmps29
  go_upto_region 1 with fail
  refine hide_world (K := fun a w' => Code.wp _ _ _ a w') (R := fun W => ArrAt W w.heap.size 43 [.slice fa fs.length fc, .slice ea es.length ec, .slice ra rs.length rc, .int .i64 no, .int .i64 fl, .int .i64 ep] ∧ ArrAt W (w.heap.size + 1) 43 [.slice ga fs.length gc, .slice ja es.length jc, .slice ta rs.length tc, .int .i64 no, .int .i64 fl, .int .i64 ep] ∧ Below w.heap.size w W) ⟨p3.out, p2.out, q2.out⟩ ?_
  intro W hW
  clear p3 p2 q2
  obtain ⟨p3, p2, hbW⟩ := hW.out
  have hkp := Lib.hid (fun V (hb : Below W.heap.size W V) i => (⟨(p3.next hb).cell i, (p2.next hb).cell i⟩ : V.cell? ⟨w.heap.size, i, none⟩ = _ ∧ V.cell? ⟨w.heap.size + 1, i, none⟩ = _))
  have hcell := fun i => p3.cell i
  have hcell2 := fun i => p2.cell i
  have c0 := hcell 0
  have d0 := hcell2 0
  have c1 := hcell 1
  have d1 := hcell2 1
  have c2 := hcell 2
  have d2 := hcell2 2
  have c3 := hcell 3
  have d3 := hcell2 3
  have c4 := hcell 4
  have d4 := hcell2 4
  have c5 := hcell 5
  have d5 := hcell2 5
  simp only [List.getElem?_cons_zero, List.getElem?_cons_succ] at c0 d0 c1 d1 c2 d2 c3 d3 c4 d4 c5 d5
  replace hbW := Lib.hid hbW
  clear hcell hcell2 p3 p2 hW
  go_wp2_with fail
  go_loopw [5] (fun i wr => ∃ j : Nat, i = .int .i64 (j : Int) ∧ j ≤ fs.length ∧ Hid (Below W.heap.size W wr)) (fun i _ => fs.length - (intOf i).toNat)
  case atStart => exact ⟨0, rfl, Nat.zero_le _, Lib.hid (Below.refl _ _)⟩
  case round =>
    obtain ⟨j, rfl, hj, hbr⟩ := hrel
    obtain ⟨x1, x2⟩ := hkp.out _ hbr.out 0
    simp only [List.getElem?_cons_zero] at x1 x2
    by_cases hlt : j < fs.length
    · have h0 : fs ≠ [] := by intro e; rw [e] at hlt; simp at hlt
      have hsl2 := hsl.out _ (hbW.out.trans (hbr.out.mono hbW.out.size))
      obtain ⟨b1, off1, cc1, _, hblt1, e, hc1⟩ := hsl2.1.some stC_len (by decide) h0
      injection e with e1 e2 e3
      subst e1 e3
      clear e2
      obtain ⟨b2, off2, cc2, _, hblt2, e, hc2⟩ := hsl2.2.2.2.1.some stC_len (by decide) h0
      injection e with e1 e2 e3
      subst e1 e3
      clear e2
      have hj0 : (0 : Int) ≤ (j : Int) := by omega
      have hjL : (j : Int) < (fs.length : Int) := by omega
      have u0 := hc1 j hlt 0 _ (by decide) rfl
      have v0 := hc2 j hlt 0 _ (by decide) rfl
      rw [Nat.mul_one, Nat.add_zero] at u0 v0
      generalize fs[j]'hlt = y at u0 v0
      clear hsl2 hc1 hc2 h0
      go_wp2_with fail
      go_quiet (fail)
      go_wp2_with fail
      exact ⟨⟨j + 1, by go_num, by omega, Lib.hid (hbr.out.trans ((drawn_drewN _ _).below _))⟩, by simp [intOf]; omega⟩
    · have hjL : ¬ (j : Int) < (fs.length : Int) := by omega
      go_wp2_with fail
      go_loopw [6] (fun i wr => ∃ j : Nat, i = .int .i64 (j : Int) ∧ j ≤ es.length ∧ Hid (Below W.heap.size W wr)) (fun i _ => es.length - (intOf i).toNat)
      case atStart => exact ⟨0, rfl, Nat.zero_le _, hbr⟩
      case round =>
        obtain ⟨j, rfl, hj, hbs⟩ := hrel
        obtain ⟨x1, x2⟩ := hkp.out _ hbs.out 1
        simp only [List.getElem?_cons_zero, List.getElem?_cons_succ] at x1 x2
        by_cases hlt : j < es.length
        · have h0 : es ≠ [] := by intro e; rw [e] at hlt; simp at hlt
          have hsl2 := hsl.out _ (hbW.out.trans (hbs.out.mono hbW.out.size))
          obtain ⟨b1, off1, cc1, _, hblt1, e, hc1⟩ := hsl2.2.1.some enC_len (by decide) h0
          injection e with e1 e2 e3
          subst e1 e3
          clear e2
          obtain ⟨b2, off2, cc2, _, hblt2, e, hc2⟩ := hsl2.2.2.2.2.1.some enC_len (by decide) h0
          injection e with e1 e2 e3
          subst e1 e3
          clear e2
          have hj0 : (0 : Int) ≤ (j : Int) := by omega
          have hjL : (j : Int) < (es.length : Int) := by omega
          have u0 := hc1 j hlt 0 _ (by decide) rfl
          have v0 := hc2 j hlt 0 _ (by decide) rfl
          have u1 := hc1 j hlt 1 _ (by decide) rfl
          have v1 := hc2 j hlt 1 _ (by decide) rfl
          have u2 := hc1 j hlt 2 _ (by decide) rfl
          have v2 := hc2 j hlt 2 _ (by decide) rfl
          have u3 := hc1 j hlt 3 _ (by decide) rfl
          have v3 := hc2 j hlt 3 _ (by decide) rfl
          have u4 := hc1 j hlt 4 _ (by decide) rfl
          have v4 := hc2 j hlt 4 _ (by decide) rfl
          have u5 := hc1 j hlt 5 _ (by decide) rfl
          have v5 := hc2 j hlt 5 _ (by decide) rfl
          have u6 := hc1 j hlt 6 _ (by decide) rfl
          have v6 := hc2 j hlt 6 _ (by decide) rfl
          rw [Nat.add_zero] at u0 v0
          generalize es[j]'hlt = y at u0 v0 u1 v1 u2 v2 u3 v3 u4 v4 u5 v5 u6 v6
          obtain ⟨⟨f, g⟩, tt, lk, by_, sm, sg⟩ := y
          simp only at u0 v0 u1 v1 u2 v2 u3 v3 u4 v4 u5 v5 u6 v6
          clear hsl2 hc1 hc2 h0
          go_wp2_with fail
          go_quiet (fail)
          go_wp2_with fail
          exact ⟨⟨j + 1, by go_num, by omega, Lib.hid (hbs.out.trans ((drawn_drewN _ _).below _))⟩, by simp [intOf]; omega⟩
        · have hjL : ¬ (j : Int) < (es.length : Int) := by omega
          go_wp2_with fail
          go_loopw [7] (fun i wr => ∃ j : Nat, i = .int .i64 (j : Int) ∧ j ≤ rs.length ∧ Hid (Below W.heap.size W wr)) (fun i _ => rs.length - (intOf i).toNat)
          case atStart => exact ⟨0, rfl, Nat.zero_le _, hbs⟩
          case round =>
            obtain ⟨j, rfl, hj, hbt⟩ := hrel
            obtain ⟨x1, x2⟩ := hkp.out _ hbt.out 2
            simp only [List.getElem?_cons_zero, List.getElem?_cons_succ] at x1 x2
            by_cases hlt : j < rs.length
            · have h0 : rs ≠ [] := by intro e; rw [e] at hlt; simp at hlt
              have hsl2 := hsl.out _ (hbW.out.trans (hbt.out.mono hbW.out.size))
              obtain ⟨b1, off1, cc1, _, hblt1, e, hc1⟩ := hsl2.2.2.1.some kyC_len (by decide) h0
              injection e with e1 e2 e3
              subst e1 e3
              clear e2
              obtain ⟨b2, off2, cc2, _, hblt2, e, hc2⟩ := hsl2.2.2.2.2.2.some kyC_len (by decide) h0
              injection e with e1 e2 e3
              subst e1 e3
              clear e2
              have hj0 : (0 : Int) ≤ (j : Int) := by omega
              have hjL : (j : Int) < (rs.length : Int) := by omega
              have u0 := hc1 j hlt 0 _ (by decide) rfl
              have v0 := hc2 j hlt 0 _ (by decide) rfl
              have u1 := hc1 j hlt 1 _ (by decide) rfl
              have v1 := hc2 j hlt 1 _ (by decide) rfl
              rw [Nat.add_zero] at u0 v0
              generalize rs[j]'hlt = y at u0 v0 u1 v1
              obtain ⟨f, g⟩ := y
              simp only at u0 v0 u1 v1
              clear hsl2 hc1 hc2 h0
              go_wp2_with fail
              go_quiet (fail)
              go_wp2_with fail
              exact ⟨⟨j + 1, by go_num, by omega, Lib.hid (hbt.out.trans ((drawn_drewN _ _).below _))⟩, by simp [intOf]; omega⟩
            · have hjL : ¬ (j : Int) < (rs.length : Int) := by omega
              go_wp2_with fail
              go_ret
              exact ⟨rfl, hbW.out.trans (hbt.out.mono hbW.out.size)⟩
end Go.Proofs.Ytpfcamebkcengaa
