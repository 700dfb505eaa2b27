/- Layer 21: the law WireStored. -/
import Derived.Test.YtpfcamebkcengaaD21x
import Derived.Test.YtpfcamebkcengaaR21g
namespace Go.Proofs.Ytpfcamebkcengaa
open Go.RowKit

theorem svBd_own {w w' : World} {B : Nat} {a : Sv21} {n : Nat} (h : SvOwn w B a) (hs : StSm a.st n) (hn : n ≤ 1000000000) (hw : Below w.heap.size w w') : SvBd w' w'.heap.size a where
  fs := (slOf_own stC_len h.fs).next hw
  fl := (slBelow_own h.fs).mono hw.size
  fn := by have := hs.nf; omega
  fb := fun s hs' => by have := hs.fs s hs'; omega
  es := (slOf_own enC_len h.es).next hw
  el := (slBelow_own h.es).mono hw.size
  en := by have := hs.ne; omega
  eb := hs.es
  rs := (slOf_own kyC_len h.rs).next hw
  rl := (slBelow_own h.rs).mono hw.size
  rn := by have := hs.nr; omega
  rb := hs.ks
  n1 := hs.a1
  n2 := hs.a2
  f1 := hs.b1
  f2 := hs.b2
  p1 := hs.c1
  p2 := hs.c2
set_option maxHeartbeats 16000000 in
set_option maxRecDepth 100000 in
theorem stored_law (x : Sv21) (s : List UInt8) (w : World) (hx : SvBd w w.heap.size x) (hs : s.length ≤ 9223372036854775807) :
    Calls Try.prog 8 #[svV x, .string ⟨s.toArray⟩] w (LawPost w) := by
  have haw := Lib.hid awake21_any
  have hxn := Lib.hid (fun W (hb : Below w.heap.size w W) => (hx.next hb).raise hb.size)
  have hgr := Lib.hid (fun W (hb : Below w.heap.size w W) => great21_any x W (hxn.out W hb))
  have hb0 := (Below.refl w.heap.size w).alloc (Nat.le_refl _) (.cells (svC x).toArray 43)
  have hK := arrAt_new w 43 (svC x)
  obtain ⟨G, hG⟩ : ∃ G, great21 x.st = G := ⟨_, rfl⟩
  rw [hG] at hgr
  have hxeb := hx.eb
  have hxn1 := (⟨⟨hx.n1, hx.n2⟩, ⟨hx.f1, hx.f2⟩, hx.p1, hx.p2⟩ : (-9223372036854775808 ≤ x.st.now ∧ x.st.now ≤ 9223372036854775807) ∧ (-9223372036854775808 ≤ x.st.floor ∧ x.st.floor ≤ 9223372036854775807) ∧ (-9223372036854775808 ≤ x.st.epoch ∧ x.st.epoch ≤ 9223372036854775807))
  have hlow := Lib.hid (fun W (hb : Below w.heap.size w W) => (⟨hx.fs.low hx.fl hb, hx.es.low hx.el hb, hx.rs.low hx.rl hb⟩ : SlOf 1 stC W (.slice x.fa x.st.feeds.length x.fc) x.st.feeds ∧ SlOf 7 enC W (.slice x.ea x.st.entries.length x.ec) x.st.entries ∧ SlOf 2 kyC W (.slice x.ra x.st.read.length x.rc) x.st.read))
  have hgc := hgr.out _ hb0
  by_cases hg : 5000 < G
  · rw [decide_eq_true hg] at hgc
    obtain ⟨⟨no, fl, ep, fs, es, rs⟩, fa, fc, ea, ec, ra, rc⟩ := x
    unfold svV
    unfold svV at hgc
    unfold svC at *
    simp only at *
    have hcell := fun i => hK.cell i
    have c0 := hcell 0
    have c1 := hcell 1
    have c2 := hcell 2
    have c3 := hcell 3
    have c4 := hcell 4
    have c5 := hcell 5
    simp only [List.getElem?_cons_zero, List.getElem?_cons_succ] at c0 c1 c2 c3 c4 c5
    replace hgc := Lib.hid hgc
    replace hb0 := Lib.hid hb0
    replace hK := Lib.hid hK
    clear hxeb hxn1 hx hG hg hcell
    go_enter Try.func8, Try.ntmps8
    go_wp2_with fail
    refine hgc.out.mono ?_
    rintro e w1 ⟨rfl, b1⟩
    have hb1 := Lib.hid (hb0.out.trans (b1.mono hb0.out.size))
    clear b1 c0 c1 c2 c3 c4 c5
    go_wp2_with fail
    refine (haw.out _).mono ?_
    rintro e w2 ⟨rfl, b2⟩
    have hb2 := Lib.hid (hb1.out.trans (b2.mono hb1.out.size))
    clear b2
    go_wp2_with fail
    go_ret
    exact ⟨rfl, hb2.out⟩
  rw [decide_eq_false hg] at hgc
  by_cases hlong : 5000 < (s.length : Int)
  · obtain ⟨⟨no, fl, ep, fs, es, rs⟩, fa, fc, ea, ec, ra, rc⟩ := x
    unfold svV
    unfold svV at hgc
    unfold svC at *
    simp only at *
    have hcell := fun i => hK.cell i
    have c0 := hcell 0
    have c1 := hcell 1
    have c2 := hcell 2
    have c3 := hcell 3
    have c4 := hcell 4
    have c5 := hcell 5
    simp only [List.getElem?_cons_zero, List.getElem?_cons_succ] at c0 c1 c2 c3 c4 c5
    replace hgc := Lib.hid hgc
    replace hb0 := Lib.hid hb0
    replace hK := Lib.hid hK
    clear hxeb hxn1 hx hG hg hcell
    go_enter Try.func8, Try.ntmps8
    go_wp2_with fail
    refine hgc.out.mono ?_
    rintro e w1 ⟨rfl, b1⟩
    have hb1 := Lib.hid (hb0.out.trans (b1.mono hb0.out.size))
    clear b1 c0 c1 c2 c3 c4 c5
    go_wp2_with fail
    refine (haw.out _).mono ?_
    rintro e w2 ⟨rfl, b2⟩
    have hb2 := Lib.hid (hb1.out.trans (b2.mono hb1.out.size))
    clear b2
    go_wp2_with fail
    go_ret
    exact ⟨rfl, hb2.out⟩
  obtain ⟨v1, v2, v3, v4, v5, v6, v7⟩ := state_len (x := x.st) (by omega) hxeb hxn1.1 hxn1.2.1 hxn1.2.2
  have hrs := Lib.hid (fun W => readState21_any s W (by omega))
  have hsm := Lib.hid (fun y (e : readS21 s = some y) => (⟨readS_small e (by omega), state_read e⟩ : StSm y s.length ∧ state21 y = s))
  have hst := Lib.hid (fun W (hb : Below w.heap.size w W) => state21_any W x (hxn.out W hb) (by omega))
  have hrt := Lib.hid (fun W => readState21_any (state21 x.st) W (by omega))
  have hok : Hid ((∀ f ∈ x.st.feeds, f.length ≤ 24) → (∀ y ∈ x.st.entries, y.key.feed.length ≤ 24 ∧ y.key.guid.length ≤ 256) → (∀ k ∈ x.st.read, k.feed.length ≤ 24 ∧ k.guid.length ≤ 256) → readS21 (state21 x.st) = some x.st) := Lib.hid (fun h1 h2 h3 => read_state ⟨hxn1.1.1, hxn1.1.2, hxn1.2.1.1, hxn1.2.1.2, hxn1.2.2.1, hxn1.2.2.2, by omega, by omega, by omega, h1, fun y hy => ⟨(h2 y hy).1, (h2 y hy).2, by have := (v3 y hy).2.2.1; omega, by have := (v3 y hy).2.2.2.1; omega, by have := (v3 y hy).2.2.2.2; omega, (hxeb y hy).st1, (hxeb y hy).st2, (hxeb y hy).sig⟩, h3⟩)
  have hsame := Lib.hid (fun b W (hb : Below w.heap.size w W) (e : x.st = b.st) (hr : SvR W b) => same21_any x b W e (hxn.out W hb).rd hr)
  obtain ⟨D, hD⟩ : ∃ D, state21 x.st = D := ⟨_, rfl⟩
  rw [hD] at hst hrt hok v1
  have v2' := Lib.hid v2
  have v3' := Lib.hid v3
  have v4' := Lib.hid v4
  obtain ⟨⟨no, fl, ep, fs, es, rs⟩, fa, fc, ea, ec, ra, rc⟩ := x
  unfold svV at *
  unfold svC at hK hgc hb0 hst ⊢
  simp only at *
  have hcell := fun i => hK.cell i
  have c0 := hcell 0
  have c1 := hcell 1
  have c2 := hcell 2
  have c3 := hcell 3
  have c4 := hcell 4
  have c5 := hcell 5
  simp only [List.getElem?_cons_zero, List.getElem?_cons_succ] at c0 c1 c2 c3 c4 c5
  replace hgc := Lib.hid hgc
  replace hb0 := Lib.hid hb0
  replace hK := Lib.hid hK
  clear hxeb hxn1 hx hG hg hcell hD v2 v3 v4 hgr hxn
  go_enter Try.func8, Try.ntmps8
  go_wp2_with fail
  refine hgc.out.mono ?_
  rintro e w1 ⟨rfl, b1⟩
  have hb1 := Lib.hid (hb0.out.trans (b1.mono hb0.out.size))
  have hK1 := Lib.hid (hK.out.next b1)
  clear b1 c0 c1 c2 c3 c4 c5 hK hb0 hgc
  go_wp2_with fail
  refine (hrs.out _).mono ?_
  rintro e w2 ⟨⟨⟨ano, afl, aep, afs, aes, ars⟩, afa, afc, aea, aec, ara, arc⟩, rfl, hax, hao, b2⟩
  unfold svV svC
  simp only
  have hal := (Below.refl w2.heap.size w2).alloc (Nat.le_refl _) (.cells #[.slice afa afs.length afc, .slice aea aes.length aec, .slice ara ars.length arc, .int .i64 ano, .int .i64 afl, .int .i64 aep] 43)
  have hb2 := Lib.hid ((hb1.out.trans (b2.mono hb1.out.size)).trans (hal.mono (Nat.le_trans hb1.out.size b2.size)))
  have hK2 := Lib.hid ((hK1.out.next b2).next hal)
  have hA2 := Lib.hid (arrAt_new w2 43 [Value.slice afa afs.length afc, .slice aea aes.length aec, .slice ara ars.length arc, .int .i64 ano, .int .i64 afl, .int .i64 aep])
  have hao2 := Lib.hid (hao.next hal)
  replace hax := Lib.hid hax
  clear b2 hal hb1 hK1 hrs hao
  go_upto_region 4 with fail
  refine hide_world (K := fun a w' => Code.wp _ _ _ a w') (R := fun W => ArrAt W w.heap.size 43 [.slice fa fs.length fc, .slice ea es.length ec, .slice ra rs.length rc, .int .i64 no, .int .i64 fl, .int .i64 ep] ∧ ArrAt W w2.heap.size 43 [.slice afa afs.length afc, .slice aea aes.length aec, .slice ara ars.length arc, .int .i64 ano, .int .i64 afl, .int .i64 aep] ∧ SvOwn W w1.heap.size ⟨⟨ano, afl, aep, afs, aes, ars⟩, afa, afc, aea, aec, ara, arc⟩ ∧ Below w.heap.size w W) ⟨hK2.out, hA2.out, hao2.out, hb2.out⟩ ?_
  intro W3 hW3
  clear hK2 hA2 hao2 hb2
  obtain ⟨hK3, hA3, ho3, hb3⟩ := hW3.out
  replace hK3 := Lib.hid hK3
  replace hb3 := Lib.hid hb3
  cases hr : readS21 s with
  | none =>
    clear hA3 ho3 hW3 hax hsm
    simp only [Option.isSome_none]
    replace hr := Lib.hid hr
    go_upto_region 6 with fail
    refine hide_world (K := fun a w' => Code.wp _ _ _ a w') (R := fun W => ArrAt W w.heap.size 43 [.slice fa fs.length fc, .slice ea es.length ec, .slice ra rs.length rc, .int .i64 no, .int .i64 fl, .int .i64 ep] ∧ Below w.heap.size w W) ⟨hK3.out, hb3.out⟩ ?_
    intro W5 hW5
    clear hK3 hb3
    obtain ⟨hK5, hb5⟩ := hW5.out
    have hcell := fun i => hK5.cell i
    have c0 := hcell 0
    have c1 := hcell 1
    have c2 := hcell 2
    have c3 := hcell 3
    have c4 := hcell 4
    have c5 := hcell 5
    simp only [List.getElem?_cons_zero, List.getElem?_cons_succ] at c0 c1 c2 c3 c4 c5
    have hlo := Lib.hid (hlow.out W5 hb5)
    replace hb5 := Lib.hid hb5
    replace hK5 := Lib.hid hK5
    clear hcell hW5
    go_wp2_with fail
    go_loop [7] (fun i => ∃ j : Nat, i = .int .i64 (j : Int) ∧ j ≤ fs.length ∧ Hid (∀ f ∈ fs.take j, f.length ≤ 24)) (fun i => fs.length - (intOf i).toNat)
    case atStart => exact ⟨0, rfl, Nat.zero_le _, Lib.hid (by simp)⟩
    case round =>
      obtain ⟨j, rfl, hj, hF⟩ := hrel
      by_cases hlt : j < fs.length
      · have h0 : fs ≠ [] := by intro e; rw [e] at hlt; simp at hlt
        obtain ⟨bk, off, cc, _, hblt, e, hc⟩ := hlo.out.1.some stC_len (by decide) h0
        injection e with e1 e2 e3
        subst e1 e3
        clear e2
        have hjL : (j : Int) < (fs.length : Int) := by omega
        have u0 := hc j hlt 0 _ (by decide) rfl
        rw [Nat.mul_one, Nat.add_zero] at u0
        have hbd := v2'.out _ (List.getElem_mem hlt)
        have htk : Hid (∀ z, fs[j]'hlt = z → z.length ≤ 24 → ∀ f ∈ fs.take (j + 1), f.length ≤ 24) := Lib.hid (by
          intro z hz hz2 f hf
          rw [List.take_succ_eq_append_getElem hlt] at hf
          rcases List.mem_append.1 hf with hf | hf
          · exact hF.out f hf
          · rw [List.mem_singleton] at hf; rw [hf, hz]; exact hz2)
        obtain ⟨z, hz⟩ : ∃ z, fs[j]'hlt = z := ⟨_, rfl⟩
        rw [hz] at u0 hbd
        have htk2 := Lib.hid (htk.out z hz)
        clear hc h0 hz htk
        by_cases h24 : (24 : Int) < (z.length : Int)
        · go_wp2_with fail
          refine (haw.out _).mono ?_
          rintro e w6 ⟨rfl, b6⟩
          have hb6 := Lib.hid (hb5.out.trans (b6.mono hb5.out.size))
          clear b6
          go_wp2_with fail
          go_ret
          exact ⟨rfl, hb6.out⟩
        · have hF2 := Lib.hid (htk2.out (by omega))
          go_wp2_with fail
          go_round
          case rel => exact ⟨j + 1, by go_num, by omega, hF2⟩
          case measure => simp [intOf]; omega
      · have hjL : ¬ (j : Int) < (fs.length : Int) := by omega
        have hFF : Hid (∀ f ∈ fs, f.length ≤ 24) := Lib.hid (by have := hF.out; rwa [List.take_of_length_le (by omega)] at this)
        clear hF
        go_wp2_with fail
        go_loop [8] (fun i => ∃ j : Nat, i = .int .i64 (j : Int) ∧ j ≤ es.length ∧ Hid (∀ y ∈ es.take j, y.key.feed.length ≤ 24 ∧ y.key.guid.length ≤ 256)) (fun i => es.length - (intOf i).toNat)
        case atStart => exact ⟨0, rfl, Nat.zero_le _, Lib.hid (by simp)⟩
        case round =>
          obtain ⟨k, rfl, hk, hE⟩ := hrel
          by_cases hlt2 : k < es.length
          · have h0 : es ≠ [] := by intro e; rw [e] at hlt2; simp at hlt2
            obtain ⟨bk, off, cc, _, hblt, e, hc⟩ := hlo.out.2.1.some enC_len (by decide) h0
            injection e with e1 e2 e3
            subst e1 e3
            clear e2
            have hkL : (k : Int) < (es.length : Int) := by omega
            have u0 := hc k hlt2 0 _ (by decide) rfl
            have u1 := hc k hlt2 1 _ (by decide) rfl
            rw [Nat.add_zero] at u0
            have hbd := v3'.out _ (List.getElem_mem hlt2)
            have htk : Hid (∀ z, es[k]'hlt2 = z → z.key.feed.length ≤ 24 → z.key.guid.length ≤ 256 → ∀ y ∈ es.take (k + 1), y.key.feed.length ≤ 24 ∧ y.key.guid.length ≤ 256) := Lib.hid (by
              intro z hz h1 h2 f hf
              rw [List.take_succ_eq_append_getElem hlt2] at hf
              rcases List.mem_append.1 hf with hf | hf
              · exact hE.out f hf
              · rw [List.mem_singleton] at hf; rw [hf, hz]; exact ⟨h1, h2⟩)
            obtain ⟨z, hz⟩ : ∃ z, es[k]'hlt2 = z := ⟨_, rfl⟩
            rw [hz] at u0 u1 hbd
            have htk2 := Lib.hid (htk.out z hz)
            obtain ⟨⟨zf, zg⟩, zt, zl, zb, zs, zq⟩ := z
            simp only at u0 u1 hbd htk2
            obtain ⟨bd1, bd2, _⟩ := hbd
            clear hc h0 hz htk
            by_cases h24 : (24 : Int) < (zf.length : Int)
            · go_wp2_with fail
              refine (haw.out _).mono ?_
              rintro e w6 ⟨rfl, b6⟩
              have hb6 := Lib.hid (hb5.out.trans (b6.mono hb5.out.size))
              clear b6
              go_wp2_with fail
              go_ret
              exact ⟨rfl, hb6.out⟩
            · by_cases h256 : (256 : Int) < (zg.length : Int)
              · go_wp2_with fail
                refine (haw.out _).mono ?_
                rintro e w6 ⟨rfl, b6⟩
                have hb6 := Lib.hid (hb5.out.trans (b6.mono hb5.out.size))
                clear b6
                go_wp2_with fail
                go_ret
                exact ⟨rfl, hb6.out⟩
              · have hE2 := Lib.hid (htk2.out (by omega) (by omega))
                go_wp2_with fail
                go_round
                case rel => exact ⟨k + 1, by go_num, by omega, hE2⟩
                case measure => simp [intOf]; omega
          · have hkL : ¬ (k : Int) < (es.length : Int) := by omega
            have hEE : Hid (∀ y ∈ es, y.key.feed.length ≤ 24 ∧ y.key.guid.length ≤ 256) := Lib.hid (by have := hE.out; rwa [List.take_of_length_le (by omega)] at this)
            clear hE
            go_wp2_with fail
            go_loop [9] (fun i => ∃ j : Nat, i = .int .i64 (j : Int) ∧ j ≤ rs.length ∧ Hid (∀ y ∈ rs.take j, y.feed.length ≤ 24 ∧ y.guid.length ≤ 256)) (fun i => rs.length - (intOf i).toNat)
            case atStart => exact ⟨0, rfl, Nat.zero_le _, Lib.hid (by simp)⟩
            case round =>
              obtain ⟨q, rfl, hq, hR⟩ := hrel
              by_cases hlt3 : q < rs.length
              · have h0 : rs ≠ [] := by intro e; rw [e] at hlt3; simp at hlt3
                obtain ⟨bk, off, cc, _, hblt, e, hc⟩ := hlo.out.2.2.some kyC_len (by decide) h0
                injection e with e1 e2 e3
                subst e1 e3
                clear e2
                have hqL : (q : Int) < (rs.length : Int) := by omega
                have u0 := hc q hlt3 0 _ (by decide) rfl
                have u1 := hc q hlt3 1 _ (by decide) rfl
                rw [Nat.add_zero] at u0
                have hbd := v4'.out _ (List.getElem_mem hlt3)
                have htk : Hid (∀ z, rs[q]'hlt3 = z → z.feed.length ≤ 24 → z.guid.length ≤ 256 → ∀ y ∈ rs.take (q + 1), y.feed.length ≤ 24 ∧ y.guid.length ≤ 256) := Lib.hid (by
                  intro z hz h1 h2 f hf
                  rw [List.take_succ_eq_append_getElem hlt3] at hf
                  rcases List.mem_append.1 hf with hf | hf
                  · exact hR.out f hf
                  · rw [List.mem_singleton] at hf; rw [hf, hz]; exact ⟨h1, h2⟩)
                obtain ⟨z, hz⟩ : ∃ z, rs[q]'hlt3 = z := ⟨_, rfl⟩
                rw [hz] at u0 u1 hbd
                have htk2 := Lib.hid (htk.out z hz)
                obtain ⟨zf, zg⟩ := z
                simp only at u0 u1 hbd htk2
                obtain ⟨bd1, bd2⟩ := hbd
                clear hc h0 hz htk
                by_cases h24 : (24 : Int) < (zf.length : Int)
                · go_wp2_with fail
                  refine (haw.out _).mono ?_
                  rintro e w6 ⟨rfl, b6⟩
                  have hb6 := Lib.hid (hb5.out.trans (b6.mono hb5.out.size))
                  clear b6
                  go_wp2_with fail
                  go_ret
                  exact ⟨rfl, hb6.out⟩
                · by_cases h256 : (256 : Int) < (zg.length : Int)
                  · go_wp2_with fail
                    refine (haw.out _).mono ?_
                    rintro e w6 ⟨rfl, b6⟩
                    have hb6 := Lib.hid (hb5.out.trans (b6.mono hb5.out.size))
                    clear b6
                    go_wp2_with fail
                    go_ret
                    exact ⟨rfl, hb6.out⟩
                  · have hR2 := Lib.hid (htk2.out (by omega) (by omega))
                    go_wp2_with fail
                    go_round
                    case rel => exact ⟨q + 1, by go_num, by omega, hR2⟩
                    case measure => simp [intOf]; omega
              · have hqL : ¬ (q : Int) < (rs.length : Int) := by omega
                have hRR : Hid (∀ y ∈ rs, y.feed.length ≤ 24 ∧ y.guid.length ≤ 256) := Lib.hid (by have := hR.out; rwa [List.take_of_length_le (by omega)] at this)
                have hback := Lib.hid (hok.out hFF.out hEE.out hRR.out)
                have hsx := hst.out W5 hb5.out
                have hrt2 := fun W => hrt.out W
                rw [hback.out] at hrt2
                replace hrt2 := Lib.hid hrt2
                replace hsx := Lib.hid hsx
                clear hR hFF hEE hRR
                go_wp2_with fail
                refine hsx.out.mono ?_
                rintro e w6 ⟨rfl, b6⟩
                have hb6 := Lib.hid (hb5.out.trans (b6.mono hb5.out.size))
                have hK6 := Lib.hid (hK5.out.next b6)
                clear b6 hsx c0 c1 c2 c3 c4 c5
                go_wp2_with fail
                refine (hrt2.out _).mono ?_
                rintro e w7 ⟨⟨⟨bno, bfl, bep, bfs, bes, brs⟩, bfa, bfc, bea, bec, bra, brc⟩, rfl, hbx, hbo, b7⟩
                have hbe := hbx _ rfl
                simp only at hbe
                injection hbe with g1 g2 g3 g4 g5 g6
                subst g1 g2 g3 g4 g5 g6
                unfold svV svC
                simp only
                have hal := (Below.refl w7.heap.size w7).alloc (Nat.le_refl _) (.cells #[.slice bfa bfs.length bfc, .slice bea bes.length bec, .slice bra brs.length brc, .int .i64 bno, .int .i64 bfl, .int .i64 bep] 43)
                have hb8 := Lib.hid ((hb6.out.trans (b7.mono hb6.out.size)).trans (hal.mono (Nat.le_trans hb6.out.size b7.size)))
                have hK8 := Lib.hid ((hK6.out.next b7).next hal)
                have hB8 := Lib.hid (arrAt_new w7 43 [Value.slice bfa bfs.length bfc, .slice bea bes.length bec, .slice bra brs.length brc, .int .i64 bno, .int .i64 bfl, .int .i64 bep])
                have hbo8 := Lib.hid (hbo.next hal)
                clear b7 hal hb6 hK6 hbo hbx
                simp only [Option.isSome_some]
                go_upto_region 22 with fail
                refine hide_world (K := fun a w' => Code.wp _ _ _ a w') (R := fun W => ArrAt W w.heap.size 43 [.slice fa bfs.length fc, .slice ea bes.length ec, .slice ra brs.length rc, .int .i64 bno, .int .i64 bfl, .int .i64 bep] ∧ ArrAt W w7.heap.size 43 [.slice bfa bfs.length bfc, .slice bea bes.length bec, .slice bra brs.length brc, .int .i64 bno, .int .i64 bfl, .int .i64 bep] ∧ SvOwn W w6.heap.size ⟨⟨bno, bfl, bep, bfs, bes, brs⟩, bfa, bfc, bea, bec, bra, brc⟩ ∧ Below w.heap.size w W) ⟨hK8.out, hB8.out, hbo8.out, hb8.out⟩ ?_
                intro W9 hW9
                clear hK8 hB8 hbo8 hb8
                obtain ⟨hK9, hB9, ho9, hb9⟩ := hW9.out
                replace hK9 := Lib.hid hK9
                replace hB9 := Lib.hid hB9
                replace ho9 := Lib.hid ho9
                replace hb9 := Lib.hid hb9
                clear hW9
                go_wp2_with fail
                refine (haw.out _).mono ?_
                rintro e w10 ⟨rfl, b10⟩
                have hcell := fun i => (hK9.out.next b10).cell i
                have hcellB := fun i => (hB9.out.next b10).cell i
                have c0 := hcell 0
                have c1 := hcell 1
                have c2 := hcell 2
                have c3 := hcell 3
                have c4 := hcell 4
                have c5 := hcell 5
                have d0 := hcellB 0
                have d1 := hcellB 1
                have d2 := hcellB 2
                have d3 := hcellB 3
                have d4 := hcellB 4
                have d5 := hcellB 5
                simp only [List.getElem?_cons_zero, List.getElem?_cons_succ] at c0 c1 c2 c3 c4 c5 d0 d1 d2 d3 d4 d5
                have hb10 := Lib.hid (hb9.out.trans (b10.mono hb9.out.size))
                have hsm9 := hsame.out ⟨⟨bno, bfl, bep, bfs, bes, brs⟩, bfa, bfc, bea, bec, bra, brc⟩ w10 hb10.out rfl ((ho9.out.next b10).rd (by simp only at *; omega) (by simp only at *; omega) (by simp only at *; omega))
                unfold svV svC at hsm9
                simp only at hsm9
                replace hsm9 := Lib.hid hsm9
                clear b10 hcell hcellB
                go_wp2_with fail
                refine hsm9.out.mono ?_
                rintro e w11 ⟨rfl, b11⟩
                have hb11 := Lib.hid (hb10.out.trans (b11.mono hb10.out.size))
                clear b11 hsm9
                go_wp2_with fail
                go_ret
                exact ⟨rfl, hb11.out⟩
  | some y =>
    have hay := hax.out y hr
    obtain ⟨hs1, hs2⟩ := hsm.out y hr
    have hsa := Lib.hid (state21_any W3 ⟨⟨ano, afl, aep, afs, aes, ars⟩, afa, afc, aea, aec, ara, arc⟩ (svBd_own ho3 (by rw [hay]; exact hs1) (by omega) (Below.refl _ _)) (by rw [hay, hs2]; omega))
    rw [hay, hs2] at hsa
    have hcellA := fun i => hA3.cell i
    have a0 := hcellA 0
    have a1 := hcellA 1
    have a2 := hcellA 2
    have a3 := hcellA 3
    have a4 := hcellA 4
    have a5 := hcellA 5
    simp only [List.getElem?_cons_zero, List.getElem?_cons_succ] at a0 a1 a2 a3 a4 a5
    unfold svV svC at hsa
    simp only at hsa
    replace hay := Lib.hid hay
    replace hr := Lib.hid hr
    simp only [Option.isSome_some]
    clear hA3 ho3 hW3 hax hsm hcellA hs1 hs2
    go_wp2_with fail
    refine hsa.out.mono ?_
    rintro e w4 ⟨rfl, b4⟩
    replace hK3 := Lib.hid (hK3.out.next b4)
    replace hb3 := Lib.hid (hb3.out.trans (b4.mono hb3.out.size))
    clear b4 hsa a0 a1 a2 a3 a4 a5 hay
    go_upto_region 6 with fail
    refine hide_world (K := fun a w' => Code.wp _ _ _ a w') (R := fun W => ArrAt W w.heap.size 43 [.slice fa fs.length fc, .slice ea es.length ec, .slice ra rs.length rc, .int .i64 no, .int .i64 fl, .int .i64 ep] ∧ Below w.heap.size w W) ⟨hK3.out, hb3.out⟩ ?_
    intro W5 hW5
    clear hK3 hb3
    obtain ⟨hK5, hb5⟩ := hW5.out
    have hcell := fun i => hK5.cell i
    have c0 := hcell 0
    have c1 := hcell 1
    have c2 := hcell 2
    have c3 := hcell 3
    have c4 := hcell 4
    have c5 := hcell 5
    simp only [List.getElem?_cons_zero, List.getElem?_cons_succ] at c0 c1 c2 c3 c4 c5
    have hlo := Lib.hid (hlow.out W5 hb5)
    replace hb5 := Lib.hid hb5
    replace hK5 := Lib.hid hK5
    clear hcell hW5
    go_wp2_with fail
    go_loop [7] (fun i => ∃ j : Nat, i = .int .i64 (j : Int) ∧ j ≤ fs.length ∧ Hid (∀ f ∈ fs.take j, f.length ≤ 24)) (fun i => fs.length - (intOf i).toNat)
    case atStart => exact ⟨0, rfl, Nat.zero_le _, Lib.hid (by simp)⟩
    case round =>
      obtain ⟨j, rfl, hj, hF⟩ := hrel
      by_cases hlt : j < fs.length
      · have h0 : fs ≠ [] := by intro e; rw [e] at hlt; simp at hlt
        obtain ⟨bk, off, cc, _, hblt, e, hc⟩ := hlo.out.1.some stC_len (by decide) h0
        injection e with e1 e2 e3
        subst e1 e3
        clear e2
        have hjL : (j : Int) < (fs.length : Int) := by omega
        have u0 := hc j hlt 0 _ (by decide) rfl
        rw [Nat.mul_one, Nat.add_zero] at u0
        have hbd := v2'.out _ (List.getElem_mem hlt)
        have htk : Hid (∀ z, fs[j]'hlt = z → z.length ≤ 24 → ∀ f ∈ fs.take (j + 1), f.length ≤ 24) := Lib.hid (by
          intro z hz hz2 f hf
          rw [List.take_succ_eq_append_getElem hlt] at hf
          rcases List.mem_append.1 hf with hf | hf
          · exact hF.out f hf
          · rw [List.mem_singleton] at hf; rw [hf, hz]; exact hz2)
        obtain ⟨z, hz⟩ : ∃ z, fs[j]'hlt = z := ⟨_, rfl⟩
        rw [hz] at u0 hbd
        have htk2 := Lib.hid (htk.out z hz)
        clear hc h0 hz htk
        by_cases h24 : (24 : Int) < (z.length : Int)
        · go_wp2_with fail
          refine (haw.out _).mono ?_
          rintro e w6 ⟨rfl, b6⟩
          have hb6 := Lib.hid (hb5.out.trans (b6.mono hb5.out.size))
          clear b6
          go_wp2_with fail
          go_ret
          exact ⟨rfl, hb6.out⟩
        · have hF2 := Lib.hid (htk2.out (by omega))
          go_wp2_with fail
          go_round
          case rel => exact ⟨j + 1, by go_num, by omega, hF2⟩
          case measure => simp [intOf]; omega
      · have hjL : ¬ (j : Int) < (fs.length : Int) := by omega
        have hFF : Hid (∀ f ∈ fs, f.length ≤ 24) := Lib.hid (by have := hF.out; rwa [List.take_of_length_le (by omega)] at this)
        clear hF
        go_wp2_with fail
        go_loop [8] (fun i => ∃ j : Nat, i = .int .i64 (j : Int) ∧ j ≤ es.length ∧ Hid (∀ y ∈ es.take j, y.key.feed.length ≤ 24 ∧ y.key.guid.length ≤ 256)) (fun i => es.length - (intOf i).toNat)
        case atStart => exact ⟨0, rfl, Nat.zero_le _, Lib.hid (by simp)⟩
        case round =>
          obtain ⟨k, rfl, hk, hE⟩ := hrel
          by_cases hlt2 : k < es.length
          · have h0 : es ≠ [] := by intro e; rw [e] at hlt2; simp at hlt2
            obtain ⟨bk, off, cc, _, hblt, e, hc⟩ := hlo.out.2.1.some enC_len (by decide) h0
            injection e with e1 e2 e3
            subst e1 e3
            clear e2
            have hkL : (k : Int) < (es.length : Int) := by omega
            have u0 := hc k hlt2 0 _ (by decide) rfl
            have u1 := hc k hlt2 1 _ (by decide) rfl
            rw [Nat.add_zero] at u0
            have hbd := v3'.out _ (List.getElem_mem hlt2)
            have htk : Hid (∀ z, es[k]'hlt2 = z → z.key.feed.length ≤ 24 → z.key.guid.length ≤ 256 → ∀ y ∈ es.take (k + 1), y.key.feed.length ≤ 24 ∧ y.key.guid.length ≤ 256) := Lib.hid (by
              intro z hz h1 h2 f hf
              rw [List.take_succ_eq_append_getElem hlt2] at hf
              rcases List.mem_append.1 hf with hf | hf
              · exact hE.out f hf
              · rw [List.mem_singleton] at hf; rw [hf, hz]; exact ⟨h1, h2⟩)
            obtain ⟨z, hz⟩ : ∃ z, es[k]'hlt2 = z := ⟨_, rfl⟩
            rw [hz] at u0 u1 hbd
            have htk2 := Lib.hid (htk.out z hz)
            obtain ⟨⟨zf, zg⟩, zt, zl, zb, zs, zq⟩ := z
            simp only at u0 u1 hbd htk2
            obtain ⟨bd1, bd2, _⟩ := hbd
            clear hc h0 hz htk
            by_cases h24 : (24 : Int) < (zf.length : Int)
            · go_wp2_with fail
              refine (haw.out _).mono ?_
              rintro e w6 ⟨rfl, b6⟩
              have hb6 := Lib.hid (hb5.out.trans (b6.mono hb5.out.size))
              clear b6
              go_wp2_with fail
              go_ret
              exact ⟨rfl, hb6.out⟩
            · by_cases h256 : (256 : Int) < (zg.length : Int)
              · go_wp2_with fail
                refine (haw.out _).mono ?_
                rintro e w6 ⟨rfl, b6⟩
                have hb6 := Lib.hid (hb5.out.trans (b6.mono hb5.out.size))
                clear b6
                go_wp2_with fail
                go_ret
                exact ⟨rfl, hb6.out⟩
              · have hE2 := Lib.hid (htk2.out (by omega) (by omega))
                go_wp2_with fail
                go_round
                case rel => exact ⟨k + 1, by go_num, by omega, hE2⟩
                case measure => simp [intOf]; omega
          · have hkL : ¬ (k : Int) < (es.length : Int) := by omega
            have hEE : Hid (∀ y ∈ es, y.key.feed.length ≤ 24 ∧ y.key.guid.length ≤ 256) := Lib.hid (by have := hE.out; rwa [List.take_of_length_le (by omega)] at this)
            clear hE
            go_wp2_with fail
            go_loop [9] (fun i => ∃ j : Nat, i = .int .i64 (j : Int) ∧ j ≤ rs.length ∧ Hid (∀ y ∈ rs.take j, y.feed.length ≤ 24 ∧ y.guid.length ≤ 256)) (fun i => rs.length - (intOf i).toNat)
            case atStart => exact ⟨0, rfl, Nat.zero_le _, Lib.hid (by simp)⟩
            case round =>
              obtain ⟨q, rfl, hq, hR⟩ := hrel
              by_cases hlt3 : q < rs.length
              · have h0 : rs ≠ [] := by intro e; rw [e] at hlt3; simp at hlt3
                obtain ⟨bk, off, cc, _, hblt, e, hc⟩ := hlo.out.2.2.some kyC_len (by decide) h0
                injection e with e1 e2 e3
                subst e1 e3
                clear e2
                have hqL : (q : Int) < (rs.length : Int) := by omega
                have u0 := hc q hlt3 0 _ (by decide) rfl
                have u1 := hc q hlt3 1 _ (by decide) rfl
                rw [Nat.add_zero] at u0
                have hbd := v4'.out _ (List.getElem_mem hlt3)
                have htk : Hid (∀ z, rs[q]'hlt3 = z → z.feed.length ≤ 24 → z.guid.length ≤ 256 → ∀ y ∈ rs.take (q + 1), y.feed.length ≤ 24 ∧ y.guid.length ≤ 256) := Lib.hid (by
                  intro z hz h1 h2 f hf
                  rw [List.take_succ_eq_append_getElem hlt3] at hf
                  rcases List.mem_append.1 hf with hf | hf
                  · exact hR.out f hf
                  · rw [List.mem_singleton] at hf; rw [hf, hz]; exact ⟨h1, h2⟩)
                obtain ⟨z, hz⟩ : ∃ z, rs[q]'hlt3 = z := ⟨_, rfl⟩
                rw [hz] at u0 u1 hbd
                have htk2 := Lib.hid (htk.out z hz)
                obtain ⟨zf, zg⟩ := z
                simp only at u0 u1 hbd htk2
                obtain ⟨bd1, bd2⟩ := hbd
                clear hc h0 hz htk
                by_cases h24 : (24 : Int) < (zf.length : Int)
                · go_wp2_with fail
                  refine (haw.out _).mono ?_
                  rintro e w6 ⟨rfl, b6⟩
                  have hb6 := Lib.hid (hb5.out.trans (b6.mono hb5.out.size))
                  clear b6
                  go_wp2_with fail
                  go_ret
                  exact ⟨rfl, hb6.out⟩
                · by_cases h256 : (256 : Int) < (zg.length : Int)
                  · go_wp2_with fail
                    refine (haw.out _).mono ?_
                    rintro e w6 ⟨rfl, b6⟩
                    have hb6 := Lib.hid (hb5.out.trans (b6.mono hb5.out.size))
                    clear b6
                    go_wp2_with fail
                    go_ret
                    exact ⟨rfl, hb6.out⟩
                  · have hR2 := Lib.hid (htk2.out (by omega) (by omega))
                    go_wp2_with fail
                    go_round
                    case rel => exact ⟨q + 1, by go_num, by omega, hR2⟩
                    case measure => simp [intOf]; omega
              · have hqL : ¬ (q : Int) < (rs.length : Int) := by omega
                have hRR : Hid (∀ y ∈ rs, y.feed.length ≤ 24 ∧ y.guid.length ≤ 256) := Lib.hid (by have := hR.out; rwa [List.take_of_length_le (by omega)] at this)
                have hback := Lib.hid (hok.out hFF.out hEE.out hRR.out)
                have hsx := hst.out W5 hb5.out
                have hrt2 := fun W => hrt.out W
                rw [hback.out] at hrt2
                replace hrt2 := Lib.hid hrt2
                replace hsx := Lib.hid hsx
                clear hR hFF hEE hRR
                go_wp2_with fail
                refine hsx.out.mono ?_
                rintro e w6 ⟨rfl, b6⟩
                have hb6 := Lib.hid (hb5.out.trans (b6.mono hb5.out.size))
                have hK6 := Lib.hid (hK5.out.next b6)
                clear b6 hsx c0 c1 c2 c3 c4 c5
                go_wp2_with fail
                refine (hrt2.out _).mono ?_
                rintro e w7 ⟨⟨⟨bno, bfl, bep, bfs, bes, brs⟩, bfa, bfc, bea, bec, bra, brc⟩, rfl, hbx, hbo, b7⟩
                have hbe := hbx _ rfl
                simp only at hbe
                injection hbe with g1 g2 g3 g4 g5 g6
                subst g1 g2 g3 g4 g5 g6
                unfold svV svC
                simp only
                have hal := (Below.refl w7.heap.size w7).alloc (Nat.le_refl _) (.cells #[.slice bfa bfs.length bfc, .slice bea bes.length bec, .slice bra brs.length brc, .int .i64 bno, .int .i64 bfl, .int .i64 bep] 43)
                have hb8 := Lib.hid ((hb6.out.trans (b7.mono hb6.out.size)).trans (hal.mono (Nat.le_trans hb6.out.size b7.size)))
                have hK8 := Lib.hid ((hK6.out.next b7).next hal)
                have hB8 := Lib.hid (arrAt_new w7 43 [Value.slice bfa bfs.length bfc, .slice bea bes.length bec, .slice bra brs.length brc, .int .i64 bno, .int .i64 bfl, .int .i64 bep])
                have hbo8 := Lib.hid (hbo.next hal)
                clear b7 hal hb6 hK6 hbo hbx
                simp only [Option.isSome_some]
                go_upto_region 22 with fail
                refine hide_world (K := fun a w' => Code.wp _ _ _ a w') (R := fun W => ArrAt W w.heap.size 43 [.slice fa bfs.length fc, .slice ea bes.length ec, .slice ra brs.length rc, .int .i64 bno, .int .i64 bfl, .int .i64 bep] ∧ ArrAt W w7.heap.size 43 [.slice bfa bfs.length bfc, .slice bea bes.length bec, .slice bra brs.length brc, .int .i64 bno, .int .i64 bfl, .int .i64 bep] ∧ SvOwn W w6.heap.size ⟨⟨bno, bfl, bep, bfs, bes, brs⟩, bfa, bfc, bea, bec, bra, brc⟩ ∧ Below w.heap.size w W) ⟨hK8.out, hB8.out, hbo8.out, hb8.out⟩ ?_
                intro W9 hW9
                clear hK8 hB8 hbo8 hb8
                obtain ⟨hK9, hB9, ho9, hb9⟩ := hW9.out
                replace hK9 := Lib.hid hK9
                replace hB9 := Lib.hid hB9
                replace ho9 := Lib.hid ho9
                replace hb9 := Lib.hid hb9
                clear hW9
                go_wp2_with fail
                refine (haw.out _).mono ?_
                rintro e w10 ⟨rfl, b10⟩
                have hcell := fun i => (hK9.out.next b10).cell i
                have hcellB := fun i => (hB9.out.next b10).cell i
                have c0 := hcell 0
                have c1 := hcell 1
                have c2 := hcell 2
                have c3 := hcell 3
                have c4 := hcell 4
                have c5 := hcell 5
                have d0 := hcellB 0
                have d1 := hcellB 1
                have d2 := hcellB 2
                have d3 := hcellB 3
                have d4 := hcellB 4
                have d5 := hcellB 5
                simp only [List.getElem?_cons_zero, List.getElem?_cons_succ] at c0 c1 c2 c3 c4 c5 d0 d1 d2 d3 d4 d5
                have hb10 := Lib.hid (hb9.out.trans (b10.mono hb9.out.size))
                have hsm9 := hsame.out ⟨⟨bno, bfl, bep, bfs, bes, brs⟩, bfa, bfc, bea, bec, bra, brc⟩ w10 hb10.out rfl ((ho9.out.next b10).rd (by simp only at *; omega) (by simp only at *; omega) (by simp only at *; omega))
                unfold svV svC at hsm9
                simp only at hsm9
                replace hsm9 := Lib.hid hsm9
                clear b10 hcell hcellB
                go_wp2_with fail
                refine hsm9.out.mono ?_
                rintro e w11 ⟨rfl, b11⟩
                have hb11 := Lib.hid (hb10.out.trans (b11.mono hb10.out.size))
                clear b11 hsm9
                go_wp2_with fail
                go_ret
                exact ⟨rfl, hb11.out⟩
end Go.Proofs.Ytpfcamebkcengaa
