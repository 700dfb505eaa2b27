/- Layer 17: the law PrintBack (made by wip/tools/gen_back17.py). -/
import Derived.BigRegion
import Derived.Deep.CutRange
import Derived.Test.YtahohmdbiiknoaaGreatDoorD17p
import Derived.Test.YtahohmdbiiknoaaGreatDoorD17w
namespace Go.Proofs.YtahohmdbiiknoaaGreatDoor
open Go.RowKit

theorem fine_of {x : It} (h1 : cleanB x.guid ≠ []) (h2 : (x.guid.length : Int) ≤ 256) (h3 : (x.title.length : Int) ≤ 1024) (h4 : (x.link.length : Int) ≤ 1024) (h5 : (x.body.length : Int) ≤ 1024) (h6 : x.dated = true → 0 ≤ x.date ∧ x.date ≤ 253402300799) : Fine x :=
  ⟨h1, by omega, by omega, by omega, by omega, h6⟩
set_option maxRecDepth 100000 in
set_option maxHeartbeats 40000000 in
theorem back17_law (L : List It) (src : Value) (w : World) (hS : ItSl w src L) (hE : Env13 w) :
    Calls Tryz.prog 3 #[src] w (LawPost w) := by
  have hun : ∀ b : Bool, (undef = Value.bool b) = False := by intro b; simp [undef]
  obtain ⟨sa, sc, rfl, hS2⟩ := (show ∃ sa sc, src = .slice sa L.length sc ∧ ItSl w (.slice sa L.length sc) L by obtain ⟨a, c, e⟩ := hS.form; exact ⟨a, c, e, e ▸ hS⟩)
  clear hS
  have hg := Lib.hid (great17_any L _ w hS2)
  replace hS2 := Lib.hid hS2
  replace hE := Lib.hid hE
  go_enter Tryz.func3, Tryz.ntmps3
  go_wp2_with fail
  refine hg.out.mono ?_
  rintro e w1 ⟨b, rfl, hdr, hb⟩
  have k1 := hdr.below w.heap.size
  clear hg hdr
  cases b
  rotate_left
  · have hA := Lib.hid (awake17_any w1 (hE.out.below k1))
    replace k1 := Lib.hid k1
    go_wp2_with fail
    refine hA.out.mono ?_
    rintro e w2 ⟨rfl, k2⟩
    replace k1 := Lib.hid (k1.out.andThen k2)
    clear k2
    go_wp2_with fail
    go_ret
    exact ⟨rfl, k1.out⟩
  obtain ⟨hl61, hby⟩ := hb rfl
  clear hb
  have hl64 : ¬ ((64 : Int) < L.length) := by omega
  have hM0 := Lib.hid ((BkAt.begin w L).next k1)
  clear k1
  go_wp2_with fail
  go_loopw [3, 4, 5] (fun vi di ii wr => ∃ (k m : Nat) (a' : Option Addr) (c' : Nat) (dt : Bool), vi = .slice a' m c' ∧ di = .bool dt ∧ ii = .int .i64 k ∧ k ≤ L.length ∧ Hid (m = k) ∧ Hid (BkAt w L k dt vi wr)) (fun _ _ ii _ => L.length - (intOf ii).toNat)
  case atStart => exact ⟨0, 0, none, 0, true, rfl, rfl, rfl, Nat.zero_le _, rfl, hM0⟩
  case round =>
    clear hM0
    obtain ⟨k, m, va, vc, dt, rfl, rfl, rfl, hk, hm, hM⟩ := hrel
    by_cases hlt : k < L.length
    · have hlt1 : (k : Int) < L.length := by omega
      have hsr := hS2.out.next (show Below w.heap.size w wr from hM.out.below)
      obtain ⟨a', c', ec, hat⟩ := hsr.all
      injection ec with e1 e2 e3
      subst e1 e3
      clear e2 hsr
      obtain ⟨b, off, rfl, hc, hit⟩ := hat k hlt
      clear hat
      obtain ⟨x0, x1, x2, x3, x4, x5⟩ := hit
      have hkc : (k : Int) < sc := by omega
      have hb1 := bytesL_take L k hlt
      have hxk : L[k]? = some (L[k]'hlt) := List.getElem?_eq_getElem hlt
      generalize L[k]'hlt = x at *
      obtain ⟨xg, xt, xl, xb, xd, xk⟩ := x
      unfold bytesI at hb1
      simp only at hb1
      have n0 : xg.length ≤ 4000 := by omega
      have n1 : xt.length ≤ 4000 := by omega
      have n2 : xl.length ≤ 4000 := by omega
      have n3 : xb.length ≤ 4000 := by omega
      clear hb1
      have hbw := (Below.refl wr.heap.size wr).alloc (Nat.le_refl _) (.cells (itC ⟨xg, xt, xl, xb, xd, xk⟩).toArray 26)
      have hX := arrAt_new wr 26 (itC ⟨xg, xt, xl, xb, xd, xk⟩)
      replace hM := Lib.hid (hM.out.next hbw)
      clear hbw
      have hf := Lib.hid (fine17_any xg (wr.alloc (.cells (itC ⟨xg, xt, xl, xb, xd, xk⟩).toArray 26)) (by omega))
      replace hX := Lib.hid hX
      replace hxk := Lib.hid hxk
      unfold itC strV at hf hM
      unfold strV at x0 x1 x2 x3
      simp only at x0 x1 x2 x3 x4 x5 hf hM
      go_upto_region 9 with (fail)
      go_cut [96] from 21 to 118 (fun s96 wx => ∃ bad : Bool, s96 = .bool bad ∧ Hid (ArrAt wx wr.heap.size 26 (itC ⟨xg, xt, xl, xb, xd, xk⟩)) ∧ Hid (BkAt w L k dt (.slice va m vc) wx) ∧ (bad = false → Hid (Fine ⟨xg, xt, xl, xb, xd, xk⟩) ∧ Hid (GoodI ⟨xg, xt, xl, xb, xd, xk⟩)))
      case first =>
        go_wp2_with fail
        refine hf.out.mono ?_
        rintro e W ⟨b, rfl, k1, p0⟩
        clear hf x0 x1 x2 x3 x4 x5
        replace hX := Lib.hid (hX.out.next k1)
        replace hM := Lib.hid (hM.out.next k1)
        clear k1
        generalize wr.heap.size = bx at *
        obtain ⟨⟨g0, q0⟩, ⟨g1, q1⟩, ⟨g2, q2⟩, ⟨g3, q3⟩, ⟨g4, q4⟩, ⟨g5, q5⟩⟩ := row6 hX.out
        simp only at g0 g1 g2 g3 g4 g5
        cases b
        · go_wp2_with fail
          go_meet
          exact ⟨true, rfl, hX, hM, fun e => by cases e⟩
        replace p0 := Lib.hid (p0 rfl)
        have hf := Lib.hid (fine17_any xt W (by omega))
        go_wp2_with fail
        refine hf.out.mono ?_
        rintro e W ⟨b, rfl, k1, p1⟩
        clear hf g0 g1 g2 g3 g4 g5 q0 q1 q2 q3 q4 q5
        replace hX := Lib.hid (hX.out.next k1)
        replace hM := Lib.hid (hM.out.next k1)
        clear k1
        obtain ⟨⟨g0, q0⟩, ⟨g1, q1⟩, ⟨g2, q2⟩, ⟨g3, q3⟩, ⟨g4, q4⟩, ⟨g5, q5⟩⟩ := row6 hX.out
        simp only at g0 g1 g2 g3 g4 g5
        cases b
        · go_wp2_with fail
          go_meet
          exact ⟨true, rfl, hX, hM, fun e => by cases e⟩
        replace p1 := Lib.hid (p1 rfl)
        have hf := Lib.hid (fine17_any xl W (by omega))
        go_wp2_with fail
        refine hf.out.mono ?_
        rintro e W ⟨b, rfl, k1, p2⟩
        clear hf g0 g1 g2 g3 g4 g5 q0 q1 q2 q3 q4 q5
        replace hX := Lib.hid (hX.out.next k1)
        replace hM := Lib.hid (hM.out.next k1)
        clear k1
        obtain ⟨⟨g0, q0⟩, ⟨g1, q1⟩, ⟨g2, q2⟩, ⟨g3, q3⟩, ⟨g4, q4⟩, ⟨g5, q5⟩⟩ := row6 hX.out
        simp only at g0 g1 g2 g3 g4 g5
        cases b
        · go_wp2_with fail
          go_meet
          exact ⟨true, rfl, hX, hM, fun e => by cases e⟩
        replace p2 := Lib.hid (p2 rfl)
        have hf := Lib.hid (fine17_any xb W (by omega))
        go_wp2_with fail
        refine hf.out.mono ?_
        rintro e W ⟨b, rfl, k1, p3⟩
        clear hf g0 g1 g2 g3 g4 g5 q0 q1 q2 q3 q4 q5
        replace hX := Lib.hid (hX.out.next k1)
        replace hM := Lib.hid (hM.out.next k1)
        clear k1
        obtain ⟨⟨g0, q0⟩, ⟨g1, q1⟩, ⟨g2, q2⟩, ⟨g3, q3⟩, ⟨g4, q4⟩, ⟨g5, q5⟩⟩ := row6 hX.out
        simp only at g0 g1 g2 g3 g4 g5
        cases b
        · go_wp2_with fail
          go_meet
          exact ⟨true, rfl, hX, hM, fun e => by cases e⟩
        replace p3 := Lib.hid (p3 rfl)
        have hgood := Lib.hid (show GoodI ⟨xg, xt, xl, xb, xd, xk⟩ from ⟨p0.out, p1.out, p2.out, p3.out⟩)
        clear p0 p1 p2 p3
        by_cases d0 : (256 : Int) < xg.length
        · have e0 : decide ((256 : Int) < (xg.length : Int)) = true := decide_eq_true d0
          go_wp2_with fail
          go_meet
          exact ⟨true, rfl, hX, hM, fun e => by cases e⟩
        have e0 : decide ((256 : Int) < (xg.length : Int)) = false := decide_eq_false d0
        by_cases d1 : (1024 : Int) < xt.length
        · have e1 : decide ((1024 : Int) < (xt.length : Int)) = true := decide_eq_true d1
          go_wp2_with fail
          go_meet
          exact ⟨true, rfl, hX, hM, fun e => by cases e⟩
        have e1 : decide ((1024 : Int) < (xt.length : Int)) = false := decide_eq_false d1
        by_cases d2 : (1024 : Int) < xl.length
        · have e2 : decide ((1024 : Int) < (xl.length : Int)) = true := decide_eq_true d2
          go_wp2_with fail
          go_meet
          exact ⟨true, rfl, hX, hM, fun e => by cases e⟩
        have e2 : decide ((1024 : Int) < (xl.length : Int)) = false := decide_eq_false d2
        by_cases d3 : (1024 : Int) < xb.length
        · have e3 : decide ((1024 : Int) < (xb.length : Int)) = true := decide_eq_true d3
          go_wp2_with fail
          go_meet
          exact ⟨true, rfl, hX, hM, fun e => by cases e⟩
        have e3 : decide ((1024 : Int) < (xb.length : Int)) = false := decide_eq_false d3
        have hfc := Lib.hid (refclean_any xg W (by omega))
        cases xk
        · skip
          go_wp2_with fail
          refine hfc.out.mono ?_
          rintro e W5 ⟨rfl, k1⟩
          clear hfc g0 g1 g2 g3 g4 g5 q0 q1 q2 q3 q4 q5
          replace hX := Lib.hid (hX.out.next k1)
          replace hM := Lib.hid (hM.out.next k1)
          clear k1
          by_cases hcl : cleanB xg = []
          · rw [hcl]
            go_wp2_with fail
            go_meet
            exact ⟨true, rfl, hX, hM, fun e => by cases e⟩
          · have hcb : (cleanB xg == []) = false := by rw [beq_eq_false_iff_ne]; exact hcl
            have hfine := Lib.hid (fine_of (x := ⟨xg, xt, xl, xb, xd, false⟩) hcl (by show (xg.length : Int) ≤ 256; omega) (by show (xt.length : Int) ≤ 1024; omega) (by show (xl.length : Int) ≤ 1024; omega) (by show (xb.length : Int) ≤ 1024; omega) (fun h => by cases h))
            generalize cleanB xg = yg at hcb ⊢
            clear hcl
            go_wp2_with fail
            go_meet
            exact ⟨false, rfl, hX, hM, fun _ => ⟨hfine, hgood⟩⟩
        · skip
          by_cases d4 : xd < 0
          · have e4 : decide (xd < 0) = true := decide_eq_true d4
            go_wp2_with fail
            go_meet
            exact ⟨true, rfl, hX, hM, fun e => by cases e⟩
          have e4 : decide (xd < 0) = false := decide_eq_false d4
          by_cases d5 : 253402300799 < xd
          · have e5 : decide (253402300799 < xd) = true := decide_eq_true d5
            go_wp2_with fail
            go_meet
            exact ⟨true, rfl, hX, hM, fun e => by cases e⟩
          have e5 : decide (253402300799 < xd) = false := decide_eq_false d5
          go_wp2_with fail
          refine hfc.out.mono ?_
          rintro e W5 ⟨rfl, k1⟩
          clear hfc g0 g1 g2 g3 g4 g5 q0 q1 q2 q3 q4 q5
          replace hX := Lib.hid (hX.out.next k1)
          replace hM := Lib.hid (hM.out.next k1)
          clear k1
          by_cases hcl : cleanB xg = []
          · rw [hcl]
            go_wp2_with fail
            go_meet
            exact ⟨true, rfl, hX, hM, fun e => by cases e⟩
          · have hcb : (cleanB xg == []) = false := by rw [beq_eq_false_iff_ne]; exact hcl
            have hfine := Lib.hid (fine_of (x := ⟨xg, xt, xl, xb, xd, true⟩) hcl (by show (xg.length : Int) ≤ 256; omega) (by show (xt.length : Int) ≤ 1024; omega) (by show (xl.length : Int) ≤ 1024; omega) (by show (xb.length : Int) ≤ 1024; omega) (fun _ => ⟨by show (0 : Int) ≤ xd; omega, by show xd ≤ 253402300799; omega⟩))
            generalize cleanB xg = yg at hcb ⊢
            clear hcl
            go_wp2_with fail
            go_meet
            exact ⟨false, rfl, hX, hM, fun _ => ⟨hfine, hgood⟩⟩
      case rest =>
        obtain ⟨bad, rfl, hX, hM, hok⟩ := hcut
        clear hf
        cases bad
        rotate_left
        · have hA := Lib.hid (awake17_any wc (hE.out.below hM.out.below))
          go_wp2_with fail
          refine hA.out.mono ?_
          rintro e w9 ⟨rfl, k9⟩
          replace k9 := Lib.hid (hM.out.below.andThen k9)
          go_wp2_with fail
          go_ret
          exact ⟨rfl, k9.out⟩
        obtain ⟨hfine, hgood⟩ := hok rfl
        clear hok
        generalize wr.heap.size = bx at *
        have hcc := cleaned17_any ⟨xg, xt, xl, xb, xd, xk⟩ wc (by show xg.length ≤ 100000; omega) (by show xt.length ≤ 100000; omega) (by show xl.length ≤ 100000; omega) (by show xb.length ≤ 100000; omega)
        have hpl := fun W : World => refplain_any xt W (by omega)
        have hpc := clean_plain xt
        have hci : cleanI ⟨xg, xt, xl, xb, xd, xk⟩ = ⟨cleanB xg, cleanB xt, cleanB xl, cleanB xb, if xk = true then xd else 0, xk⟩ := rfl
        rw [hci] at hcc
        unfold itV itC strV at hcc
        simp only at hcc
        replace hci := Lib.hid hci
        generalize (if xk = true then xd else 0) = yd at hcc hci
        generalize cleanB xg = yg at hcc hci
        generalize cleanB xt = yt at hcc hci hpc
        generalize cleanB xl = yl at hcc hci
        generalize cleanB xb = yb at hcc hci
        replace hcc := Lib.hid hcc
        replace hpl := Lib.hid hpl
        replace hpc := Lib.hid hpc
        obtain ⟨⟨g0, q0⟩, ⟨g1, q1⟩, ⟨g2, q2⟩, ⟨g3, q3⟩, ⟨g4, q4⟩, ⟨g5, q5⟩⟩ := row6 hX.out
        simp only at g0 g1 g2 g3 g4 g5
        cases dt
        · skip
          go_wp2_with fail
          refine hcc.out.mono ?_
          rintro e W6 ⟨rfl, k1⟩
          clear hcc g0 g1 g2 g3 g4 g5 q0 q1 q2 q3 q4 q5
          have hbw := (Below.refl W6.heap.size W6).alloc (Nat.le_refl _) (.cells (itC ⟨yg, yt, yl, yb, yd, xk⟩).toArray 26)
          have hY := arrAt_new W6 26 (itC ⟨yg, yt, yl, yb, yd, xk⟩)
          replace hX := (hX.out.next k1).next hbw
          replace hM := (hM.out.next k1).next hbw
          clear k1 hbw
          unfold itC strV at hY hX hM
          simp only at hY hX hM
          go_upto_region 13 with (fail)
          generalize W6.alloc (.cells #[.string ⟨yg.toArray⟩, .string ⟨yt.toArray⟩, .string ⟨yl.toArray⟩, .string ⟨yb.toArray⟩, .int .i64 yd, .bool xk] 26) = W7 at hX hY hM ⊢
          generalize W6.heap.size = by7 at hY ⊢
          obtain ⟨⟨g0, q0⟩, ⟨g1, q1⟩, ⟨g2, q2⟩, ⟨g3, q3⟩, ⟨g4, q4⟩, ⟨g5, q5⟩⟩ := row6 (x := ⟨xg, xt, xl, xb, xd, xk⟩) hX
          simp only at g0 g1 g2 g3 g4 g5
          obtain ⟨⟨y0, -⟩, ⟨y1, -⟩, ⟨y2, -⟩, ⟨y3, -⟩, ⟨y4, -⟩, ⟨y5, -⟩⟩ := row6 (x := ⟨yg, yt, yl, yb, yd, xk⟩) hY
          simp only at y0 y1 y2 y3 y4 y5
          have hlow := hM.below.size
          have hml : ((L.take k).map cleanI).length = m := by rw [List.length_map, List.length_take, hm.out]; omega
          have hrow := hM.own
          unfold OwnI at hrow
          rw [hml] at hrow
          have hm64 : m ≤ 64 := by rw [hm.out]; omega
          replace hM := Lib.hid hM
          replace hrow := Lib.hid hrow
          replace hml := Lib.hid hml
          clear hX hY q0 q1 q2 q3 q4 q5
          cases hp : plainB xt
          · replace hpl := hpl.out
            rw [hp] at hpl
            replace hpl := Lib.hid hpl
            replace hp := Lib.hid hp
            go_wp2_with fail
            refine (hpl.out W7).mono ?_
            rintro e w' ⟨rfl, rfl⟩
            go_wp2_with (at_builtin; go_must (refine wpList_appendk rfl _ _ 22 26 rfl Tryz.underlying22 (.agg #[.string ⟨#[]⟩, .string ⟨#[]⟩, .string ⟨#[]⟩, .string ⟨#[]⟩, .int .i64 0, .bool false]) 6 80 info_item rfl (by decide) (by decide) w.heap.size _ m (cellsI ((L.take k).map cleanI)) [.string ⟨yg.toArray⟩, .string ⟨yt.toArray⟩, .string ⟨yl.toArray⟩, .string ⟨yb.toArray⟩, .int .i64 yd, .bool xk] rfl hrow.out rfl (by first | rfl | simp [Act.eval]) (by intro u hu; simp at hu; rcases hu with rfl | rfl | rfl | rfl | rfl | rfl <;> rfl) (by omega) hlow ?_))
            intro v2 W8 h1 h2 h3
            have hM4 := hM.out.step hxk.out hfine.out hgood.out (by rw [hci.out, hml.out, List.map_take]; exact h1.out) h2.out
            obtain ⟨a2, c2, rfl⟩ := own_form h1.out
            clear h1 h2 h3 hrow hM
            replace hM4 := Lib.hid hM4
            go_wp2_with fail
            exact ⟨⟨k + 1, m + 1, a2, c2, false, rfl, rfl, by go_num, by omega, Lib.hid (by rw [hm.out]), hM4⟩, by simp [intOf]; omega⟩
          · replace hpl := hpl.out
            rw [hp] at hpl
            replace hpl := Lib.hid hpl
            have hne : (yt == xt) = true := by rw [hpc.out hp]; simp
            replace hp := Lib.hid hp
            go_wp2_with fail
            refine (hpl.out W7).mono ?_
            rintro e w' ⟨rfl, rfl⟩
            go_wp2_with (at_builtin; go_must (refine wpList_appendk rfl _ _ 22 26 rfl Tryz.underlying22 (.agg #[.string ⟨#[]⟩, .string ⟨#[]⟩, .string ⟨#[]⟩, .string ⟨#[]⟩, .int .i64 0, .bool false]) 6 80 info_item rfl (by decide) (by decide) w.heap.size _ m (cellsI ((L.take k).map cleanI)) [.string ⟨yg.toArray⟩, .string ⟨yt.toArray⟩, .string ⟨yl.toArray⟩, .string ⟨yb.toArray⟩, .int .i64 yd, .bool xk] rfl hrow.out rfl (by first | rfl | simp [Act.eval]) (by intro u hu; simp at hu; rcases hu with rfl | rfl | rfl | rfl | rfl | rfl <;> rfl) (by omega) hlow ?_))
            intro v2 W8 h1 h2 h3
            have hM4 := hM.out.step hxk.out hfine.out hgood.out (by rw [hci.out, hml.out, List.map_take]; exact h1.out) h2.out
            obtain ⟨a2, c2, rfl⟩ := own_form h1.out
            clear h1 h2 h3 hrow hM
            replace hM4 := Lib.hid hM4
            go_wp2_with fail
            exact ⟨⟨k + 1, m + 1, a2, c2, false, rfl, rfl, by go_num, by omega, Lib.hid (by rw [hm.out]), hM4⟩, by simp [intOf]; omega⟩
        · skip
          go_wp2_with fail
          refine hcc.out.mono ?_
          rintro e W6 ⟨rfl, k1⟩
          clear hcc g0 g1 g2 g3 g4 g5 q0 q1 q2 q3 q4 q5
          have hbw := (Below.refl W6.heap.size W6).alloc (Nat.le_refl _) (.cells (itC ⟨yg, yt, yl, yb, yd, xk⟩).toArray 26)
          have hY := arrAt_new W6 26 (itC ⟨yg, yt, yl, yb, yd, xk⟩)
          replace hX := (hX.out.next k1).next hbw
          replace hM := (hM.out.next k1).next hbw
          clear k1 hbw
          unfold itC strV at hY hX hM
          simp only at hY hX hM
          go_upto_region 13 with (fail)
          generalize W6.alloc (.cells #[.string ⟨yg.toArray⟩, .string ⟨yt.toArray⟩, .string ⟨yl.toArray⟩, .string ⟨yb.toArray⟩, .int .i64 yd, .bool xk] 26) = W7 at hX hY hM ⊢
          generalize W6.heap.size = by7 at hY ⊢
          obtain ⟨⟨g0, q0⟩, ⟨g1, q1⟩, ⟨g2, q2⟩, ⟨g3, q3⟩, ⟨g4, q4⟩, ⟨g5, q5⟩⟩ := row6 (x := ⟨xg, xt, xl, xb, xd, xk⟩) hX
          simp only at g0 g1 g2 g3 g4 g5
          obtain ⟨⟨y0, -⟩, ⟨y1, -⟩, ⟨y2, -⟩, ⟨y3, -⟩, ⟨y4, -⟩, ⟨y5, -⟩⟩ := row6 (x := ⟨yg, yt, yl, yb, yd, xk⟩) hY
          simp only at y0 y1 y2 y3 y4 y5
          have hlow := hM.below.size
          have hml : ((L.take k).map cleanI).length = m := by rw [List.length_map, List.length_take, hm.out]; omega
          have hrow := hM.own
          unfold OwnI at hrow
          rw [hml] at hrow
          have hm64 : m ≤ 64 := by rw [hm.out]; omega
          replace hM := Lib.hid hM
          replace hrow := Lib.hid hrow
          replace hml := Lib.hid hml
          clear hX hY q0 q1 q2 q3 q4 q5
          cases hp : plainB xt
          · replace hpl := hpl.out
            rw [hp] at hpl
            replace hpl := Lib.hid hpl
            replace hp := Lib.hid hp
            go_wp2_with fail
            refine (hpl.out W7).mono ?_
            rintro e w' ⟨rfl, rfl⟩
            go_wp2_with (at_builtin; go_must (refine wpList_appendk rfl _ _ 22 26 rfl Tryz.underlying22 (.agg #[.string ⟨#[]⟩, .string ⟨#[]⟩, .string ⟨#[]⟩, .string ⟨#[]⟩, .int .i64 0, .bool false]) 6 80 info_item rfl (by decide) (by decide) w.heap.size _ m (cellsI ((L.take k).map cleanI)) [.string ⟨yg.toArray⟩, .string ⟨yt.toArray⟩, .string ⟨yl.toArray⟩, .string ⟨yb.toArray⟩, .int .i64 yd, .bool xk] rfl hrow.out rfl (by first | rfl | simp [Act.eval]) (by intro u hu; simp at hu; rcases hu with rfl | rfl | rfl | rfl | rfl | rfl <;> rfl) (by omega) hlow ?_))
            intro v2 W8 h1 h2 h3
            have hM4 := hM.out.step hxk.out hfine.out hgood.out (by rw [hci.out, hml.out, List.map_take]; exact h1.out) h2.out
            obtain ⟨a2, c2, rfl⟩ := own_form h1.out
            clear h1 h2 h3 hrow hM
            replace hM4 := Lib.hid hM4
            go_wp2_with fail
            exact ⟨⟨k + 1, m + 1, a2, c2, xk, rfl, rfl, by go_num, by omega, Lib.hid (by rw [hm.out]), hM4⟩, by simp [intOf]; omega⟩
          · replace hpl := hpl.out
            rw [hp] at hpl
            replace hpl := Lib.hid hpl
            have hne : (yt == xt) = true := by rw [hpc.out hp]; simp
            replace hp := Lib.hid hp
            go_wp2_with fail
            refine (hpl.out W7).mono ?_
            rintro e w' ⟨rfl, rfl⟩
            go_wp2_with (at_builtin; go_must (refine wpList_appendk rfl _ _ 22 26 rfl Tryz.underlying22 (.agg #[.string ⟨#[]⟩, .string ⟨#[]⟩, .string ⟨#[]⟩, .string ⟨#[]⟩, .int .i64 0, .bool false]) 6 80 info_item rfl (by decide) (by decide) w.heap.size _ m (cellsI ((L.take k).map cleanI)) [.string ⟨yg.toArray⟩, .string ⟨yt.toArray⟩, .string ⟨yl.toArray⟩, .string ⟨yb.toArray⟩, .int .i64 yd, .bool xk] rfl hrow.out rfl (by first | rfl | simp [Act.eval]) (by intro u hu; simp at hu; rcases hu with rfl | rfl | rfl | rfl | rfl | rfl <;> rfl) (by omega) hlow ?_))
            intro v2 W8 h1 h2 h3
            have hM4 := hM.out.step hxk.out hfine.out hgood.out (by rw [hci.out, hml.out, List.map_take]; exact h1.out) h2.out
            obtain ⟨a2, c2, rfl⟩ := own_form h1.out
            clear h1 h2 h3 hrow hM
            replace hM4 := Lib.hid hM4
            go_wp2_with fail
            exact ⟨⟨k + 1, m + 1, a2, c2, xk, rfl, rfl, by go_num, by omega, Lib.hid (by rw [hm.out]), hM4⟩, by simp [intOf]; omega⟩
    · have hlt1 : ¬ ((k : Int) < L.length) := by omega
      have hke : L.take k = L := List.take_of_length_le (by omega)
      have hfi := hM.out.fine
      have hown := hM.out.own
      have hda := hM.out.dat
      have hbel := hM.out.below
      rw [hke] at hfi hown hda
      have hML : (L.map cleanI).length ≤ 1000000 := by rw [List.length_map]; omega
      have hmL : m = (L.map cleanI).length := by rw [List.length_map, hm.out]; omega
      obtain ⟨T1, N1, t1, t2, t3, t4⟩ := rss_parse (fun x hx => (hfi x hx).1) (fun x hx => (hfi x hx).2) (by omega)
      obtain ⟨T2, N2, u1, u2, u3, u4⟩ := atom_parse (fun x hx => (hfi x hx).1) (fun x hx => (hfi x hx).2) (by omega)
      rw [← hda] at u4
      have hI1 := nodes_rss t3 t4
      have hI2 := nodes_atom u3 u4
      have hl1 := rssB_len L
      have hl2 := atomB_len L
      have hR := fun (W : World) (hb : Below w.heap.size w W) => rss17_any L _ W (hS2.out.next hb) (hE.out.below hb) (by omega) (by omega)
      have hA := fun (W : World) (hb : Below w.heap.size w W) => atom17_any L _ W (hS2.out.next hb) (hE.out.below hb) (by omega) (by omega)
      have l1 : (rssB L).length ≤ 50000 := by omega
      have l2 : (atomB L).length ≤ 50000 := by omega
      generalize rssB L = S1 at *
      generalize atomB L = S2 at *
      generalize L.map cleanI = M at *
      have hF0 : Fk w M wr.heap.size [.slice va m vc] (wr.alloc (.cells (prmC p17).toArray 31)) := by
        have hbw := (Below.refl wr.heap.size wr).alloc (Nat.le_refl _) (.cells (prmC p17).toArray 31)
        exact ⟨arrAt_new wr 31 (prmC p17), fun v hv => ⟨w.heap.size, by rw [List.mem_singleton] at hv; subst hv; exact ownsRow_below hown hbw⟩, hbel.andThen hbw⟩
      clear hfi hown hda hbel t3 t4 u3 u4 hl1 hl2 hke hM hm
      unfold prmC p17 at hF0
      simp only at hF0
      go_upto_region 17 with (fail)
      generalize wr.alloc (.cells #[.int .i64 0, .int .i64 65536, .int .i64 8, .int .i64 0, .int .i64 64, .int .i64 1024, .int .i64 0, .int .i64 0, .int .i64 0, .int .i64 0, .int .i64 0] 31) = W0 at hF0 ⊢
      generalize wr.heap.size = bp at hF0 ⊢
      have f1 := Lib.hid (fun (vs : List Value) W (h : Hid (Fk w M bp vs W)) => Fk.text hR W h)
      have f2 := Lib.hid (fun (vs : List Value) W (h : Hid (Fk w M bp vs W)) => Fk.parse l1 t1 t2 hI1 W h)
      have f3 := Lib.hid (fun (vs : List Value) W (h : Hid (Fk w M bp vs W)) => Fk.text hA W h)
      obtain ⟨⟨g0, g1, g2, g3, g4, g5⟩, g6, g7, g8, g9, g10⟩ := row11 hF0.p
      replace hF0 := Lib.hid hF0
      have hFd := Fk.drew hF0
      clear hR hA t1 t2 hI1
      go_wp2_with fail
      go_region_with (first | (go_at_call 11; ((with_reducible refine (f1.out _ _ (by assumption)).mono ?_); rintro e w' ⟨rfl, ⟨⟨g0, g1, g2, g3, g4, g5⟩, g6, g7, g8, g9, g10⟩, hFd⟩)) | (go_at_call 10; ((with_reducible refine (f2.out _ _ (by assumption)).mono ?_); rintro e w' ⟨a1, n1, c1, rfl, ⟨⟨g0, g1, g2, g3, g4, g5⟩, g6, g7, g8, g9, g10⟩, hFd⟩)))
      all_goals
        have hFe := Fk.drew hFd
        cases dt
        · rw [if_neg (by decide)] at hI2
          have f4 := Lib.hid (fun (vs : List Value) W (h : Hid (Fk w M bp vs W)) => Fk.parse_no l2 u1 u2 hI2 W h)
          clear u1 u2 hI2
          go_wp2_with fail
          go_region_with (first | (go_at_call 12; ((with_reducible refine (f3.out _ _ (by assumption)).mono ?_); rintro e w' ⟨rfl, ⟨⟨g0, g1, g2, g3, g4, g5⟩, g6, g7, g8, g9, g10⟩, hFd⟩)) | (go_at_call 10; ((with_reducible refine (f4.out _ _ (by assumption)).mono ?_); rintro e w' ⟨rfl, ⟨⟨g0, g1, g2, g3, g4, g5⟩, g6, g7, g8, g9, g10⟩, hFd⟩)))
          all_goals
            have hs := Lib.hid (Fk.same hFd.out (u := .slice a1 n1 c1) (v := .slice va M.length vc) (by simp) (by simp [hmL]) hML)
            clear g0 g1 g2 g3 g4 g5 g6 g7 g8 g9 g10
            go_wp2_with fail
            refine hs.out.mono ?_
            rintro e w8 ⟨rfl, hF⟩
            have hAw := Lib.hid (awake17_any w8 (hE.out.below hF.out.below))
            clear hs
            go_wp2_with fail
            refine hAw.out.mono ?_
            rintro e w9 ⟨rfl, k9⟩
            replace hF := Lib.hid (hF.out.below.andThen k9)
            clear hAw k9
            go_wp2_with fail
            go_ret
            exact ⟨rfl, hF.out⟩
        · rw [if_pos rfl] at hI2
          have f4 := Lib.hid (fun (vs : List Value) W (h : Hid (Fk w M bp vs W)) => Fk.parse l2 u1 u2 hI2 W h)
          clear u1 u2 hI2
          go_wp2_with fail
          go_region_with (first | (go_at_call 12; ((with_reducible refine (f3.out _ _ (by assumption)).mono ?_); rintro e w' ⟨rfl, ⟨⟨g0, g1, g2, g3, g4, g5⟩, g6, g7, g8, g9, g10⟩, hFd⟩)) | (go_at_call 10; ((with_reducible refine (f4.out _ _ (by assumption)).mono ?_); rintro e w' ⟨a2, n2, c2, rfl, ⟨⟨g0, g1, g2, g3, g4, g5⟩, g6, g7, g8, g9, g10⟩, hFd⟩)))
          all_goals
            have hs := Lib.hid (Fk.same hFd.out (u := .slice a1 n1 c1) (v := .slice va M.length vc) (by simp) (by simp [hmL]) hML)
            clear g0 g1 g2 g3 g4 g5 g6 g7 g8 g9 g10
            go_wp2_with fail
            refine hs.out.mono ?_
            rintro e w8 ⟨rfl, hF⟩
            have hAw := Lib.hid (awake17_any w8 (hE.out.below hF.out.below))
            clear hs
            go_wp2_with fail
            refine hAw.out.mono ?_
            rintro e w9 ⟨rfl, k9⟩
            replace hF := Lib.hid (hF.out.next k9)
            have hs := Lib.hid (Fk.same hF.out (u := .slice a2 n2 c2) (v := .slice va M.length vc) (by simp) (by simp [hmL]) hML)
            clear hAw k9
            go_wp2_with fail
            refine hs.out.mono ?_
            rintro e w10 ⟨rfl, hG⟩
            go_wp2_with fail
            go_ret
            exact ⟨rfl, hG.out.below⟩
end Go.Proofs.YtahohmdbiiknoaaGreatDoor
