/- Layer 21: the law WireAnswers. -/
import Derived.Test.YtpfcamebkcengaaR21q
import Derived.Test.YtpfcamebkcengaaD21y
namespace Go.Proofs.Ytpfcamebkcengaa
open Go.RowKit

theorem key_ge (k : Ky21) : k.feed.length < (key21 k).length ∧ k.guid.length < (key21 k).length := by
  have h1 := text_ge k.feed
  have h2 := text_ge k.guid
  unfold key21
  rw [List.length_append]
  omega
/-- An answer whose bytes are not too many has no part that is too long. -/
theorem ans_ln {w : World} {B : Nat} {a : An21} (hx : AnBd w B a) (hr : (rest21 a).length ≤ 140737488351232) : AnLn w a ∧ (ans21 a).length ≤ 140737488355328 := by
  have hl := hr
  unfold rest21 at hl
  simp only [List.length_append] at hl
  have hcl : ∀ y ∈ a.clusters, ClLn w y := fun y hy => by
    have h1 := flat_mem cl21 hy
    have hb := hx.cb y hy
    have h1' : (key21 y.rep).length + (y.members.flatMap key21).length ≤ (cl21 y).length := by
      unfold cl21
      simp only [List.length_append]
      omega
    have h2 := key_ge y.rep
    exact ⟨by omega, by omega, hb.sl, hb.few, fun k hk => by
      have h3 := flat_mem key21 hk
      have h4 := key_ge k
      exact ⟨by omega, by omega⟩, by omega, hb.f1, hb.f2, hb.n1, hb.n2, hb.s1, hb.s2⟩
  have hen : ∀ y ∈ a.entries, EnLn y 140737488355000 := fun y hy => by
    have h1 := flat_mem ent21 hy
    have hb := hx.eb y hy
    have h1' : (key21 y.key).length + (text21 y.title).length + (text21 y.link).length + (text21 y.body).length ≤ (ent21 y).length := by
      unfold ent21
      simp only [List.length_append]
      omega
    have h2 := key_ge y.key
    have h3 := text_ge y.title
    have h4 := text_ge y.link
    have h5 := text_ge y.body
    exact ⟨by omega, by omega, by omega, by omega, by omega, hb.st1, hb.st2, hb.sig⟩
  have hcu := text_ge a.cursor
  refine ⟨⟨hx.c1, hx.c2, hx.new1, hx.new2, hx.ep1, hx.ep2, hx.cs, hx.cn, hcl, by omega, hx.es, hx.en, hen, by omega, by omega, hx.cnt⟩, ?_⟩
  have := (int_len_bd hx.c1 hx.c2).2
  unfold ans21
  rw [List.length_append]
  split
  · omega
  · rw [List.length_nil]; omega

set_option maxHeartbeats 8000000 in
set_option maxRecDepth 100000 in
theorem answers_law (a : An21) (w : World) (hx : AnBd w w.heap.size a) (hr : (rest21 a).length ≤ 140737488351232) :
    Calls Try.prog 9 #[anV a] w (LawPost w) := by
  have haw := Lib.hid awake21_any
  obtain ⟨hln, hlen⟩ := ans_ln hx hr
  have hcC := Lib.hid (fun W (hb : Below w.heap.size w W) => ans21_any W a ((hx.next hb).raise hb.size) hlen)
  have hcD := fun W (hb : Below w.heap.size w W) => rans_any a W { hln with cs := hx.cs.low hx.cl hb, es := hx.es.low hx.el hb, cb := fun y hy => { hln.cb y hy with sl := (hx.cb y hy).sl.low (hx.cb y hy).low hb } }
  have hsl := Lib.hid (fun W (hb : Below w.heap.size w W) => hx.cs.low hx.cl hb)
  have hb0 := Lib.hid ((Below.refl w.heap.size w).alloc (Nat.le_refl _) (.cells (anC a).toArray 57))
  have hK := Lib.hid (arrAt_new w 57 (anC a))
  unfold StrW at hcD
  replace hcD := Lib.hid hcD
  have m1 := hx.cn
  have m2 := hx.en
  have m3 := hx.cu
  have hfew := Lib.hid (fun y hy => (hx.cb y hy).few)
  generalize ans21 a = D at *
  obtain ⟨co, ne, ep, cs, es, cu, n0, n1, n2, n3, n4, ca, cc, ea, ec⟩ := a
  unfold anV
  unfold anV at hcC hcD
  unfold anC at *
  simp only at *
  clear hx hr hln hlen
  go_enter Try.func9, Try.ntmps9
  go_upto_region 1 with fail
  refine hide_world (K := fun a w' => Code.wp _ _ _ a w') (R := fun W => ArrAt W w.heap.size 57 [.int .i64 co, .int .i64 ne, .int .i64 ep, .slice ca cs.length cc, .slice ea es.length ec, .string ⟨cu.toArray⟩, .int .i64 n0, .int .i64 n1, .int .i64 n2, .int .i64 n3, .int .i64 n4] ∧ Below w.heap.size w W) ⟨hK.out, hb0.out⟩ ?_
  intro W2 hW2
  clear hK hb0
  obtain ⟨hK, hb⟩ := hW2.out
  have hcell := fun i => hK.cell i
  have c3 := hcell 3
  have c4 := hcell 4
  have c5 := hcell 5
  simp only [List.getElem?_cons_zero, List.getElem?_cons_succ] at c3 c4 c5
  have hkp := Lib.hid (fun V (hb : Below W2.heap.size W2 V) i => (hK.next hb).cell i)
  replace hb := Lib.hid hb
  clear hcell hK hW2
  by_cases hlong : 20 < (cs.length : Int) ∨ (¬ 20 < (cs.length : Int) ∧ 20 < (es.length : Int)) ∨ (¬ 20 < (cs.length : Int) ∧ ¬ 20 < (es.length : Int) ∧ 5000 < (cu.length : Int))
  · rcases hlong with h | ⟨h1, h⟩ | ⟨h1, h2, h⟩
    all_goals
      go_wp2_with fail
      refine (haw.out _).mono ?_
      rintro e w1 ⟨rfl, b1⟩
      have hb1 := Lib.hid (hb.out.trans (b1.mono hb.out.size))
      clear b1
      go_wp2_with fail
      go_ret
      exact ⟨rfl, hb1.out⟩
  have e1 : ¬ 20 < (cs.length : Int) := by omega
  have e2 : ¬ 20 < (es.length : Int) := by omega
  have e3 : ¬ 5000 < (cu.length : Int) := by omega
  clear hlong
  go_wp2_with fail
  go_loopw [3] (fun i wr => ∃ j : Nat, i = .int .i64 (j : Int) ∧ j ≤ cs.length ∧ Hid (Below W2.heap.size W2 wr)) (fun i _ => cs.length - (intOf i).toNat)
  case atStart => exact ⟨0, rfl, Nat.zero_le _, Lib.hid (Below.refl _ _)⟩
  case round =>
    obtain ⟨j, rfl, hj, hbr⟩ := hrel
    have hbx := Lib.hid (hb.out.trans (hbr.out.mono hb.out.size))
    have hkq := Lib.hid (fun V (hv : Below wr.heap.size wr V) i => hkp.out V (hbr.out.trans (hv.mono hbr.out.size)) i)
    clear c3 c4 c5
    have c3 := hkq.out _ (Below.refl _ _) 3
    simp only [List.getElem?_cons_zero, List.getElem?_cons_succ] at c3
    by_cases hlt : j < cs.length
    · have h0 : cs ≠ [] := by intro e; rw [e] at hlt; simp at hlt
      obtain ⟨b1, off1, cc1, _, hblt1, e, hc1⟩ := (hsl.out _ hbx.out).some clC_len (by decide) h0
      injection e with e4 e5 e6
      subst e4 e6
      clear e5
      have hj0 : (0 : Int) ≤ (j : Int) := by omega
      have hjL : (j : Int) < (cs.length : Int) := by omega
      have u2 := hc1 j hlt 2 _ (by decide) rfl
      have hfw := hfew.out _ (List.getElem_mem hlt)
      generalize cs[j]'hlt = y at u2 hfw
      obtain ⟨⟨f, g⟩, ms, fe, ne2, sc, rd, ma, mc⟩ := y
      simp only at u2 hfw
      clear hc1 h0
      by_cases h60 : 60 < (ms.length : Int)
      · go_wp2_with fail
        refine (haw.out _).mono ?_
        rintro e w1 ⟨rfl, b1⟩
        have hb1 := Lib.hid (hbx.out.trans (b1.mono hbx.out.size))
        clear b1
        go_wp2_with fail
        go_ret
        exact ⟨rfl, hb1.out⟩
      · go_wp2_with fail
        exact ⟨⟨j + 1, by go_num, by omega, hbr⟩, by simp [intOf]; omega⟩
    · have hjL : ¬ (j : Int) < (cs.length : Int) := by omega
      go_wp2_with fail
      go_region_held3 (fun W => W.cell? ⟨w.heap.size, 0, none⟩ = some (.int .i64 co) ∧ W.cell? ⟨w.heap.size, 1, none⟩ = some (.int .i64 ne) ∧ W.cell? ⟨w.heap.size, 2, none⟩ = some (.int .i64 ep) ∧ W.cell? ⟨w.heap.size, 3, none⟩ = some (.slice ca cs.length cc) ∧ W.cell? ⟨w.heap.size, 4, none⟩ = some (.slice ea es.length ec) ∧ W.cell? ⟨w.heap.size, 5, none⟩ = some (.string ⟨cu.toArray⟩) ∧ W.cell? ⟨w.heap.size, 6, none⟩ = some (.int .i64 n0) ∧ W.cell? ⟨w.heap.size, 7, none⟩ = some (.int .i64 n1) ∧ W.cell? ⟨w.heap.size, 8, none⟩ = some (.int .i64 n2) ∧ W.cell? ⟨w.heap.size, 9, none⟩ = some (.int .i64 n3) ∧ W.cell? ⟨w.heap.size, 10, none⟩ = some (.int .i64 n4)) (first | exact ⟨hkq.out _ b12.out 0, hkq.out _ b12.out 1, hkq.out _ b12.out 2, hkq.out _ b12.out 3, hkq.out _ b12.out 4, hkq.out _ b12.out 5, hkq.out _ b12.out 6, hkq.out _ b12.out 7, hkq.out _ b12.out 8, hkq.out _ b12.out 9, hkq.out _ b12.out 10⟩ | exact ⟨hkq.out _ b11.out 0, hkq.out _ b11.out 1, hkq.out _ b11.out 2, hkq.out _ b11.out 3, hkq.out _ b11.out 4, hkq.out _ b11.out 5, hkq.out _ b11.out 6, hkq.out _ b11.out 7, hkq.out _ b11.out 8, hkq.out _ b11.out 9, hkq.out _ b11.out 10⟩ | exact ⟨hkq.out _ b10.out 0, hkq.out _ b10.out 1, hkq.out _ b10.out 2, hkq.out _ b10.out 3, hkq.out _ b10.out 4, hkq.out _ b10.out 5, hkq.out _ b10.out 6, hkq.out _ b10.out 7, hkq.out _ b10.out 8, hkq.out _ b10.out 9, hkq.out _ b10.out 10⟩ | exact ⟨hkq.out _ ((drawn_drew _).below _) 0, hkq.out _ ((drawn_drew _).below _) 1, hkq.out _ ((drawn_drew _).below _) 2, hkq.out _ ((drawn_drew _).below _) 3, hkq.out _ ((drawn_drew _).below _) 4, hkq.out _ ((drawn_drew _).below _) 5, hkq.out _ ((drawn_drew _).below _) 6, hkq.out _ ((drawn_drew _).below _) 7, hkq.out _ ((drawn_drew _).below _) 8, hkq.out _ ((drawn_drew _).below _) 9, hkq.out _ ((drawn_drew _).below _) 10⟩) (first
        | (go_at_call 11; ((with_reducible refine (haw.out _).mono ?_); rintro e w10 ⟨rfl, bb⟩; have b10 := Lib.hid (((drawn_drew wr).below wr.heap.size).andThen bb); clear bb))
        | (go_at_call 30; ((with_reducible refine (hcC.out _ (hbx.out.trans (b10.out.mono hbx.out.size))).mono ?_); rintro e w11 ⟨rfl, bb⟩; have b11 := Lib.hid (b10.out.andThen bb); clear bb))
        | (go_at_call 31; ((with_reducible refine (hcD.out _ (hbx.out.trans (b11.out.mono hbx.out.size))).mono ?_); rintro e w12 ⟨rfl, bb⟩; have b12 := Lib.hid (b11.out.andThen bb); clear bb)))
      all_goals go_wp2_with fail
      all_goals go_ret
      all_goals exact ⟨rfl, hbx.out.trans (b12.out.mono hbx.out.size)⟩
end Go.Proofs.Ytpfcamebkcengaa
