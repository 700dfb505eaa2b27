/- Layer 21: the law's great. -/
import Derived.Test.YtpfcamebkcengaaD21m
import Derived.Deep.CutBlock
import Derived.Lib.MinMax
namespace Go.Proofs.Ytpfcamebkcengaa
open Go.RowKit

def eG (y : En21) : Nat := min y.title.length 5000 + min y.link.length 5000 + min y.body.length 5000 + min y.key.feed.length 5000 + min y.key.guid.length 5000 + 10
def fG (s : List UInt8) : Nat := min s.length 5000 + 10
def kG (k : Ky21) : Nat := min k.feed.length 5000 + min k.guid.length 5000 + 10
/-- The bytes that are looked at. -/
def great21 (x : St21) : Nat := (x.entries.map eG).sum + (x.feeds.map fG).sum + (x.read.map kG).sum
theorem sum_next {α : Type} (f : α → Nat) (l : List α) {k : Nat} (h : k < l.length) : ((l.take (k + 1)).map f).sum = ((l.take k).map f).sum + f (l[k]'h) := by
  rw [List.take_succ_eq_append_getElem h, List.map_append, List.sum_append]
  simp
theorem sum_part {α : Type} (f : α → Nat) (l : List α) (k : Nat) : ((l.take k).map f).sum ≤ (l.map f).sum := by
  have e : (l.map f).sum = ((l.take k).map f).sum + ((l.drop k).map f).sum := by rw [← List.sum_append, ← List.map_append, List.take_append_drop]
  omega
theorem min_nat {a : Int} {n : Nat} (h : a = (n : Int)) : min a 5000 = ((min n 5000 : Nat) : Int) := by omega

set_option maxHeartbeats 8000000 in
set_option maxRecDepth 100000 in
theorem great21_any (x : Sv21) (w : World) (hx : SvBd w w.heap.size x) :
    Calls Try.prog 24 #[svV x] w fun e w' => e = .returned (.bool (decide (5000 < great21 x.st))) ∧ Below w.heap.size w w' := by
  obtain ⟨⟨no, fl, ep, fs, es, rs⟩, fa, fc, ea, ec, ra, rc⟩ := x
  obtain ⟨x1, x2, x3, x4, x5, x6, x7, x8, x9, x10, x11, x12, y1, y2, y3, y4, y5, y6⟩ := hx
  unfold svV svC great21
  simp only at *
  obtain ⟨S1, hS1⟩ : ∃ S, (es.map eG).sum = S := ⟨_, rfl⟩
  obtain ⟨S2, hS2⟩ : ∃ S, (fs.map fG).sum = S := ⟨_, rfl⟩
  obtain ⟨S3, hS3⟩ : ∃ S, (rs.map kG).sum = S := ⟨_, rfl⟩
  rw [hS1, hS2, hS3]
  have hb0 := (Below.refl w.heap.size w).alloc (Nat.le_refl _) (.cells #[.slice fa fs.length fc, .slice ea es.length ec, .slice ra rs.length rc, .int .i64 no, .int .i64 fl, .int .i64 ep] 43)
  have hK := arrAt_new w 43 [Value.slice fa fs.length fc, .slice ea es.length ec, .slice ra rs.length rc, .int .i64 no, .int .i64 fl, .int .i64 ep]
  obtain ⟨W, hW⟩ : ∃ W, w.alloc (.cells #[.slice fa fs.length fc, .slice ea es.length ec, .slice ra rs.length rc, .int .i64 no, .int .i64 fl, .int .i64 ep] 43) = W := ⟨_, rfl⟩
  have hkp := Lib.hid (fun V (hb : Below W.heap.size W V) i => ((show ArrAt W w.heap.size _ _ from hW ▸ hK).next hb).cell i)
  have hbW : Hid (Below w.heap.size w W) := Lib.hid (hW ▸ hb0)
  have hsl := Lib.hid (fun V (hb : Below w.heap.size w V) => (⟨x1.low x2 hb, x5.low x6 hb, x9.low x10 hb⟩ : SlOf 1 stC V (.slice fa fs.length fc) fs ∧ SlOf 7 enC V (.slice ea es.length ec) es ∧ SlOf 2 kyC V (.slice ra rs.length rc) rs))
  replace hS1 := Lib.hid hS1
  replace hS2 := Lib.hid hS2
  replace hS3 := Lib.hid hS3
  replace x4 := Lib.hid x4
  replace x8 := Lib.hid x8
  replace x12 := Lib.hid x12
  clear hb0 hK x1 x2 x5 x6 x9 x10 y1 y2 y3 y4 y5 y6
  go_enter Try.func24, Try.ntmps24
  go_upto_block 0 with fail
  go_cut [3] from 5 to 52 (fun s3 wx => ∃ m : Nat, s3 = .int .i64 m ∧ m ≤ 31000 ∧ Hid ((5000 < m ∧ m ≤ S1) ∨ m = S1) ∧ Hid (Below W.heap.size W wx))
  case first =>
    clear hW
    go_wp2_with fail
    go_loopw [3, 4] (fun s i wr => ∃ (k m : Nat), s = .int .i64 m ∧ i = .int .i64 k ∧ k ≤ es.length ∧ m ≤ 31000 ∧ Hid (m = ((es.take k).map eG).sum) ∧ Hid (Below W.heap.size W wr)) (fun _ i _ => es.length - (intOf i).toNat)
    case atStart => exact ⟨0, 0, rfl, rfl, Nat.zero_le _, by omega, Lib.hid (by simp), Lib.hid (Below.refl _ _)⟩
    case round =>
      obtain ⟨k, m, rfl, rfl, hk, hm, hsm, hbr⟩ := hrel
      have hpt := sum_part eG es k
      have hq1 := hkp.out _ hbr.out 1
      simp only [List.getElem?_cons_zero, List.getElem?_cons_succ] at hq1
      by_cases hlt : k < es.length
      · have hkO : (k : Int) < es.length := by omega
        by_cases hm2 : (m : Int) ≤ 5000
        · have h0 : es ≠ [] := by intro e; rw [e] at hlt; simp at hlt
          obtain ⟨bk, off, cc, _, hblt, e, hc⟩ := (hsl.out _ (hbW.out.trans (hbr.out.mono hbW.out.size))).2.1.some enC_len (by decide) h0
          injection e with e1 e2 e3
          subst e1 e3
          clear e2
          have c0 := hc k hlt 0 _ (by decide) rfl
          have c1 := hc k hlt 1 _ (by decide) rfl
          have c2 := hc k hlt 2 _ (by decide) rfl
          have c3 := hc k hlt 3 _ (by decide) rfl
          have c4 := hc k hlt 4 _ (by decide) rfl
          have c5 := hc k hlt 5 _ (by decide) rfl
          have c6 := hc k hlt 6 _ (by decide) rfl
          rw [Nat.add_zero] at c0
          have hmn := sum_next eG es hlt
          have hbd := x8.out _ (List.getElem_mem hlt)
          generalize es[k]'hlt = y at c0 c1 c2 c3 c4 c5 c6 hmn hbd
          obtain ⟨⟨f, g⟩, tt, lk, by_, st, sg⟩ := y
          obtain ⟨⟨u1, u2⟩, u3, u4, u5, u6, u7, u8⟩ := hbd
          simp only at c0 c1 c2 c3 c4 c5 c6 u1 u2 u3 u4 u5 u6 u7 u8
          obtain ⟨j1, hj1⟩ : ∃ j : Nat, min tt.length 5000 = j := ⟨_, rfl⟩
          obtain ⟨j2, hj2⟩ : ∃ j : Nat, min lk.length 5000 = j := ⟨_, rfl⟩
          obtain ⟨j3, hj3⟩ : ∃ j : Nat, min by_.length 5000 = j := ⟨_, rfl⟩
          obtain ⟨j4, hj4⟩ : ∃ j : Nat, min f.length 5000 = j := ⟨_, rfl⟩
          obtain ⟨j5, hj5⟩ : ∃ j : Nat, min g.length 5000 = j := ⟨_, rfl⟩
          have i1 : min (tt.length : Int) 5000 = (j1 : Int) := by omega
          have i2 : min (lk.length : Int) 5000 = (j2 : Int) := by omega
          have i3 : min (by_.length : Int) 5000 = (j3 : Int) := by omega
          have i4 : min (f.length : Int) 5000 = (j4 : Int) := by omega
          have i5 : min (g.length : Int) 5000 = (j5 : Int) := by omega
          have b1 : j1 ≤ 5000 := by omega
          have b2 : j2 ≤ 5000 := by omega
          have b3 : j3 ≤ 5000 := by omega
          have b4 : j4 ≤ 5000 := by omega
          have b5 : j5 ≤ 5000 := by omega
          have hmn2 : Hid (m + j1 + j2 + j3 + j4 + j5 + 10 = ((es.take (k + 1)).map eG).sum) := Lib.hid (by rw [hmn, ← hsm.out]; unfold eG; simp only; omega)
          have hbn := Lib.hid (hbr.out.alloc hbr.out.size (.cells #[.string ⟨f.toArray⟩, .string ⟨g.toArray⟩, .string ⟨tt.toArray⟩, .string ⟨lk.toArray⟩, .string ⟨by_.toArray⟩, .int .i64 st, .int .u64 sg] 53))
          clear hj1 hj2 hj3 hj4 hj5 hmn hc h0 hpt
          go_wp2_with fail
          exact ⟨⟨k + 1, m + j1 + j2 + j3 + j4 + j5 + 10, by go_num, by go_num, by omega, by omega, hmn2, hbn⟩, by simp [intOf]; omega⟩
        · have hS := Lib.hid (show 5000 < m ∧ m ≤ S1 by rw [← hS1.out]; have := hsm.out; omega)
          go_wp2_with fail
          go_meet
          exact ⟨m, rfl, hm, Lib.hid (Or.inl hS.out), hbr⟩
      · have hke : ¬ ((k : Int) < es.length) := by omega
        have hS := Lib.hid (show m = S1 by rw [← hS1.out, hsm.out, List.take_of_length_le (by omega)])
        go_wp2_with fail
        go_meet
        exact ⟨m, rfl, hm, Lib.hid (Or.inr hS.out), hbr⟩
  case rest =>
    obtain ⟨m, rfl, hm, hS, hbx⟩ := hcut
    clear hW
    go_upto_block 2 with fail
    go_cut [3] from 6 to 73 (fun s3 wy => ∃ n : Nat, s3 = .int .i64 n ∧ n ≤ 40000 ∧ Hid ((5000 < n ∧ n ≤ S1 + S2) ∨ n = S1 + S2) ∧ Hid (Below W.heap.size W wy))
    case first =>
      go_wp2_with fail
      go_loopw [3, 6] (fun s i wr => ∃ (k n : Nat), s = .int .i64 n ∧ i = .int .i64 k ∧ k ≤ fs.length ∧ n ≤ 36100 ∧ Hid (n = m + ((fs.take k).map fG).sum) ∧ Hid (Below W.heap.size W wr)) (fun _ i _ => fs.length - (intOf i).toNat)
      case atStart => exact ⟨0, m, rfl, rfl, Nat.zero_le _, by omega, Lib.hid (by simp), hbx⟩
      case round =>
        obtain ⟨k, n, rfl, rfl, hk, hn, hsm, hbr⟩ := hrel
        have hpt := sum_part fG fs k
        have hq0 := hkp.out _ hbr.out 0
        simp only [List.getElem?_cons_zero] at hq0
        by_cases hlt : k < fs.length
        · have hkO : (k : Int) < fs.length := by omega
          by_cases hm2 : (n : Int) ≤ 5000
          · have h0 : fs ≠ [] := by intro e; rw [e] at hlt; simp at hlt
            obtain ⟨bk, off, cc, _, hblt, e, hc⟩ := (hsl.out _ (hbW.out.trans (hbr.out.mono hbW.out.size))).1.some stC_len (by decide) h0
            injection e with e1 e2 e3
            subst e1 e3
            clear e2
            have c0 := hc k hlt 0 _ (by decide) rfl
            rw [Nat.mul_one, Nat.add_zero] at c0
            have hmn := sum_next fG fs hlt
            have hbd := x4.out _ (List.getElem_mem hlt)
            generalize fs[k]'hlt = y at c0 hmn hbd
            obtain ⟨j1, hj1⟩ : ∃ j : Nat, min y.length 5000 = j := ⟨_, rfl⟩
            have i1 : min (y.length : Int) 5000 = (j1 : Int) := by omega
            have b1 : j1 ≤ 5000 := by omega
            have hmn2 : Hid (n + j1 + 10 = m + ((fs.take (k + 1)).map fG).sum) := Lib.hid (by rw [hmn, ← Nat.add_assoc, ← hsm.out]; show n + j1 + 10 = n + (min y.length 5000 + 10); omega)
            clear hj1 hmn hc h0 hpt
            go_wp2_with fail
            exact ⟨⟨k + 1, n + j1 + 10, by go_num, by go_num, by omega, by omega, hmn2, hbr⟩, by simp [intOf]; omega⟩
          · have hS := Lib.hid (show 5000 < n ∧ n ≤ S1 + S2 by rw [← hS2.out]; have := hsm.out; have := hS.out; omega)
            go_wp2_with fail
            go_meet
            exact ⟨n, rfl, by omega, Lib.hid (Or.inl hS.out), hbr⟩
        · have hke : ¬ ((k : Int) < fs.length) := by omega
          have hS := Lib.hid (show (5000 < n ∧ n ≤ S1 + S2) ∨ n = S1 + S2 by
            have h1 := hsm.out
            rw [List.take_of_length_le (by omega), hS2.out] at h1
            have := hS.out
            omega)
          go_wp2_with fail
          go_meet
          exact ⟨n, rfl, by omega, hS, hbr⟩
    case rest =>
      obtain ⟨n0, rfl, hn0, hT, hby⟩ := hcut
      go_wp2_with fail
      go_loopw [3, 7] (fun s i wr => ∃ (k n : Nat), s = .int .i64 n ∧ i = .int .i64 k ∧ k ≤ rs.length ∧ n ≤ 50100 ∧ Hid (n = n0 + ((rs.take k).map kG).sum) ∧ Hid (Below W.heap.size W wr)) (fun _ i _ => rs.length - (intOf i).toNat)
      case atStart => exact ⟨0, n0, rfl, rfl, Nat.zero_le _, by omega, Lib.hid (by simp), hby⟩
      case round =>
        obtain ⟨k, n, rfl, rfl, hk, hn, hsm, hbr⟩ := hrel
        have hpt := sum_part kG rs k
        have hq2 := hkp.out _ hbr.out 2
        simp only [List.getElem?_cons_zero, List.getElem?_cons_succ] at hq2
        by_cases hlt : k < rs.length
        · have hkO : (k : Int) < rs.length := by omega
          by_cases hm2 : (n : Int) ≤ 5000
          · have h0 : rs ≠ [] := by intro e; rw [e] at hlt; simp at hlt
            obtain ⟨bk, off, cc, _, hblt, e, hc⟩ := (hsl.out _ (hbW.out.trans (hbr.out.mono hbW.out.size))).2.2.some kyC_len (by decide) h0
            injection e with e1 e2 e3
            subst e1 e3
            clear e2
            have c0 := hc k hlt 0 _ (by decide) rfl
            have c1 := hc k hlt 1 _ (by decide) rfl
            rw [Nat.add_zero] at c0
            have hmn := sum_next kG rs hlt
            have hbd := x12.out _ (List.getElem_mem hlt)
            generalize rs[k]'hlt = y at c0 c1 hmn hbd
            obtain ⟨f, g⟩ := y
            obtain ⟨u1, u2⟩ := hbd
            simp only at c0 c1 u1 u2
            obtain ⟨j1, hj1⟩ : ∃ j : Nat, min f.length 5000 = j := ⟨_, rfl⟩
            obtain ⟨j2, hj2⟩ : ∃ j : Nat, min g.length 5000 = j := ⟨_, rfl⟩
            have i1 : min (f.length : Int) 5000 = (j1 : Int) := by omega
            have i2 : min (g.length : Int) 5000 = (j2 : Int) := by omega
            have b1 : j1 ≤ 5000 := by omega
            have b2 : j2 ≤ 5000 := by omega
            have hmn2 : Hid (n + j1 + j2 + 10 = n0 + ((rs.take (k + 1)).map kG).sum) := Lib.hid (by rw [hmn, ← Nat.add_assoc, ← hsm.out]; show n + j1 + j2 + 10 = n + (min f.length 5000 + min g.length 5000 + 10); omega)
            have p1 : IntKind.i64.wrap ((n : Int) + (j1 : Int)) = (n : Int) + (j1 : Int) := IntWalk.i64_in _ (by omega)
            have p2 : IntKind.i64.wrap ((n : Int) + (j1 : Int) + (j2 : Int)) = (n : Int) + (j1 : Int) + (j2 : Int) := IntWalk.i64_in _ (by omega)
            have p3 : IntKind.i64.wrap ((n : Int) + (j1 : Int) + (j2 : Int) + 10) = (n : Int) + (j1 : Int) + (j2 : Int) + 10 := IntWalk.i64_in _ (by omega)
            have k0 : (0 : Int) ≤ (k : Int) := by omega
            have hbq := Lib.hid (hbr.out.trans ((drawn_drew wr).below _))
            clear hj1 hj2 hmn hc h0 hpt
            go_wp2_with fail
            go_quiet (fail)
            go_wp2_with fail
            exact ⟨⟨k + 1, n + j1 + j2 + 10, by go_num, by go_num, by omega, by omega, hmn2, Lib.hid (hbr.out.trans ((drawn_drewN _ _).below _))⟩, by simp [intOf]; omega⟩
          · have hr : Hid (decide (5000 < S1 + S2 + S3) = true) := by
              refine Lib.hid ?_
              have h1 := hT.out
              have h2 := hsm.out
              rw [hS3.out] at hpt
              rw [decide_eq_true_eq]
              omega
            have hm3 : (5000 : Int) < (n : Int) := by omega
            go_wp2_with fail
            go_ret
            exact ⟨ret_bool hr.out.symm, hbW.out.trans (hbr.out.mono hbW.out.size)⟩
        · have hke : ¬ ((k : Int) < rs.length) := by omega
          have hr : Hid (decide (5000 < S1 + S2 + S3) = decide ((5000 : Int) < n)) := by
            refine Lib.hid ?_
            have h1 := hT.out
            have h2 := hsm.out
            rw [List.take_of_length_le (by omega), hS3.out] at h2
            rw [decide_eq_decide]
            omega
          go_wp2_with fail
          go_ret
          exact ⟨ret_bool hr.out.symm, hbW.out.trans (hbr.out.mono hbW.out.size)⟩
end Go.Proofs.Ytpfcamebkcengaa
