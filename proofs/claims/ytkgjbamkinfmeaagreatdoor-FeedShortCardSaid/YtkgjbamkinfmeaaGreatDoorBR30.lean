/- Layers 14 and 15: Read, for entries of any kind. -/
import Derived.Test.YtkgjbamkinfmeaaGreatDoorBR27
import Derived.Test.YtkgjbamkinfmeaaGreatDoorBR01
import Derived.Test.YtkgjbamkinfmeaaGreatDoorBR02
import Derived.Test.YtkgjbamkinfmeaaGreatDoorBR23
namespace Go.Proofs.YtkgjbamkinfmeaaGreatDoor
open Go.RowKit

/-- What Items answers. -/
def ItsPost (w : World) (o : ItsO) (e : Ending) (w' : World) : Prop :=
  match o with
  | .bad q => ∃ f, e = .returned (.tuple #[.slice none 0 0, faultV f]) ∧ FaultAt w' f 0 (codeV q) ∧ Below w.heap.size w w'
  | .its l => ∃ v, e = .returned (.tuple #[v, .nilIface]) ∧ OwnI w' w.heap.size v l ∧ Below w.heap.size w w'
theorem ItsPost.bad {w w' : World} {q : Int} {f : Nat} (hf : FaultAt w' f 0 (codeV q)) (hb : Below w.heap.size w w') : ItsPost w (.bad q) (.returned (.tuple #[.slice none 0 0, faultV f])) w' := ⟨f, rfl, hf, hb⟩
theorem ItsPost.from {w0 w w' : World} {o : ItsO} {e : Ending} (h : ItsPost w o e w') (hb : Below w0.heap.size w0 w) : ItsPost w0 o e w' := by
  cases o with
  | bad q => obtain ⟨f, h1, h2, h3⟩ := h; exact ⟨f, h1, h2, hb.andThen h3⟩
  | its l => obtain ⟨v, h1, h2, h3⟩ := h; exact ⟨v, h1, ownsRow_mono h2 hb.size, hb.andThen h3⟩
theorem ItsPost.good {w w' : World} {l : List It} {e : Ending} (h : ItsPost w (.its l) e w') : ∃ v, e = .returned (.tuple #[v, .nilIface]) ∧ OwnI w' w.heap.size v l ∧ Below w.heap.size w w' := h

set_option maxRecDepth 100000 in
set_option maxHeartbeats 4000000 in
/-- The entries of the kids of a name, by whatever tells of one: it may say what is the same of a part as of the list, of attributes of which K holds. -/
theorem read14_any (K : List At → Prop) (G : List Nd → Int → ItO) (f : Nat) (ga : Array Value) (P : List (Nd × Value)) (v : Value) (cn : Nat) (nm : List UInt8) (many : Int) (w : World) (h : NdSl w v P) (hn : P.length ≤ 1000000) (hT : sumT (nodes P) ≤ 2000000) (hY : EnvT w) (hcl : cn < P.length) (hK : ∀ x ∈ nodes P, K x.attrs) (hcall : ∀ (args : Array Value) (W : World), (callFunc f args).run Tryz.prog W = .ok (.enter f args) W)
    (hG : ∀ q j l i, Told q j l i → G q j = G l i) (hc : ∀ l i, G l i = .bad 6 ∨ G l i = .bad 7 ∨ ∃ x, G l i = .it x)
    (hone : ∀ (Q : List (Nd × Value)) (u : Value) (i : Int) (W : World), NdSl W u Q → Q.length ≤ 1000000 → sumT (nodes Q) ≤ 2000000 → (∀ x ∈ nodes Q, K x.attrs) → Below w.heap.size w W → Calls Tryz.prog f (#[u, .int .i64 i] ++ ga) W (ItPost W (G (nodes Q) i))) :
    Calls Tryz.prog 62 #[v, .int .i64 cn, .string ⟨nm.toArray⟩, .int .i64 many, .func (.func f) #[] ga] w (ItsPost w (readB (nodes P) cn nm (G (nodes P)) many)) := by
  obtain ⟨o, ho⟩ : ∃ o, readB (nodes P) cn nm (G (nodes P)) many = o := ⟨_, rfl⟩
  rw [ho]
  unfold readB at ho
  have hnx := fun W (hb : Below w.heap.size w W) => h.next hb
  obtain ⟨a, ac, hv⟩ := h.form
  have hp0 : 0 < P.length := by omega
  have hnm := named12_any P v cn nm w h hn
  have hSn := namedB_nodup (nodes P) cn nm
  have hSb : ∀ x ∈ namedB (nodes P) cn nm, placeB (nodes P) x = true ∧ upN (nodes P) x = (cn : Int) ∧ x ≠ (cn : Int) := fun x hx => ⟨(namedB_bd hx).1, (namedB_bd hx).2.1, (namedB_bd hx).2.2.1⟩
  have hSl := namedB_len (nodes P) cn nm
  rw [nodes_len] at hSl
  generalize namedB (nodes P) cn nm = S at ho hnm hSn hSb hSl
  have hcut := fun W u (hb : Below w.heap.size w W) (hu : RdSl .i64 W u S) (hS0 : 0 < S.length) => cut14_any P v u cn S W (hnx W hb) hu hp0 hn hcl hSb hSn (by omega) hS0
  obtain ⟨os, hos⟩ : ∃ os, S.map (G (nodes P)) = os := ⟨_, rfl⟩
  rw [hos] at ho
  have hol : os.length = S.length := by rw [← hos, List.length_map]
  have hPn := hn
  subst hv
  replace ho := Lib.hid ho
  replace hnm := Lib.hid hnm
  replace hnx := Lib.hid hnx
  replace hcut := Lib.hid hcut
  replace hSb := Lib.hid hSb
  replace hSn := Lib.hid hSn
  replace hos := Lib.hid hos
  replace hY := Lib.hid hY
  replace hK := Lib.hid hK
  replace hG := Lib.hid hG
  replace hc := Lib.hid hc
  replace hone := Lib.hid hone
  replace h := Lib.hid h
  have hS1 : (S.length : Int) ≤ 1000000 := by omega
  by_cases hm : many < (S.length : Int)
  · have ho6 := ho.out
    rw [if_pos hm] at ho6
    subst ho6
    clear ho
    go_enter Tryz.func62, Tryz.ntmps62
    go_wp2_with fail
    refine hnm.out.mono ?_
    rintro e w2 ⟨u, rfl, hu, hb2⟩
    obtain ⟨ua, uc, rfl⟩ := own_form hu
    have hb3 := Lib.hid hb2
    clear hb2 hu hnm
    go_wp2_with fail
    refine (fault14_any 6 _).mono ?_
    rintro e w3 ⟨rfl, hf, hb4⟩
    have hb5 := Lib.hid (hb3.out.andThen hb4)
    replace hf := Lib.hid hf
    clear hb4
    go_wp2_with fail
    go_ret2
    exact ItsPost.bad hf.out hb5.out
  · have ho6 := ho.out
    rw [if_neg hm] at ho6
    replace ho := Lib.hid ho6
    clear ho6
    by_cases hS0 : 0 < S.length
    · have hcut := Lib.hid (fun W u hb hu => hcut.out W u hb hu hS0)
      go_enter Tryz.func62, Tryz.ntmps62
      go_wp2_with fail
      refine hnm.out.mono ?_
      rintro e w2 ⟨u, rfl, hu, hb2⟩
      obtain ⟨ua, uc, rfl⟩ := own_form hu
      have hb3 := Lib.hid hb2
      have hn0 := arrAt_new w2 38 [.pointer none]
      have hbn : Below w2.heap.size w2 (w2.alloc (.cells #[.pointer none] 38)) := (Below.refl _ _).alloc (Nat.le_refl _) _
      have hct := hcut.out (w2.alloc (.cells #[.pointer none] 38)) _ (hb3.out.andThen hbn) (hu.rd.next hbn)
      have hlw0 := hb3.out.size
      clear hb2 hu hnm hcut
      replace hb3 := Lib.hid (hb3.out.andThen hbn)
      have hlw := hb3.out.size
      replace hlw : w.heap.size ≤ w2.heap.size := hlw0
      clear hbn
      replace hn0 := Lib.hid hn0
      replace hct := Lib.hid hct
      go_wp2_with fail
      refine hct.out.mono ?_
      rintro e wc ⟨g, pcs, rfl, hA, hpl, hpc, hb4⟩
      clear hct
      obtain ⟨Wb, hWb⟩ : ∃ Wb, w2.heap.size = Wb := ⟨_, rfl⟩
      rw [hWb] at hn0 hlw
      rw [hWb]
      replace hWb := Lib.hid hWb
      have hEc : Hid (Ec K G w wc g Wb pcs os) := ⟨hA.out, fun i p hp => by
        obtain ⟨Q, q1, q2, q3, q4⟩ := hpc.out i p hp
        refine ⟨Q, q1, by omega, by omega, fun x hx => ?_, ?_⟩
        · obtain ⟨y, y1, y2⟩ := q4.from_ x hx
          rw [y2]; exact hK.out y y1
        have hi : i < S.length := by rw [← hpl.out]; exact (List.getElem?_eq_some_iff.1 hp).1
        rw [← hos.out, List.getElem?_map, List.getElem?_eq_getElem hi, hG.out _ _ _ _ q4]
        simp [List.getD, hi], hn0.out.next hb4.out, hlw, hb3.out.andThen hb4.out, by rw [hpl.out, hol]⟩
      have hEm : Hid (Em wc Wb os 0 (.slice none 0 0) [] false wc) := ⟨Turned.refl _ _, World.ownsRow_nil _ _ _ _, ⟨none, hEc.out.note, fun _ => rfl, nofun⟩, rfl, Nat.le_refl _⟩
      clear hA hpl hpc hn0 hb4 hb3
      go_wp2_with fail
      go_loopw [13, 33] (fun vi ii wr => ∃ (k m : Nat) (a' : Option Addr) (c' : Nat) (acc : List It) (bad : Bool), vi = .slice a' m c' ∧ ii = .int .i64 k ∧ k ≤ S.length ∧ Hid (m = acc.length) ∧ Hid (Em wc Wb os k vi acc bad wr)) (fun _ ii _ => S.length - (intOf ii).toNat)
      case atStart => exact ⟨0, 0, none, 0, [], false, rfl, rfl, Nat.zero_le _, rfl, hEm⟩
      case round =>
        clear hEm
        obtain ⟨k, m, a', c', acc, bad, rfl, rfl, hk, hmm, hM⟩ := hrel
        by_cases hlt : k < S.length
        · have hlt1 : (k : Int) < S.length := by omega
          obtain ⟨⟨pv, pz⟩, hp⟩ : ∃ p, pcs[k]? = some p := ⟨_, List.getElem?_eq_getElem (by rw [hEc.out.len]; omega)⟩
          obtain ⟨Q, q1, q2, q3, q4, hx⟩ := hM.out.nd hEc.out hp
          have hA := hM.out.arr hEc.out
          obtain ⟨e0, e1⟩ := cellsQ_at pcs k _ hp
          have c0 : wr.cell? ⟨g, k * 2, none⟩ = some pv := (hA.cell _).trans e0
          have c1 : wr.cell? ⟨g, k * 2 + 1, none⟩ = some (.int .i64 pz) := (hA.cell _).trans e1
          clear e0 e1 hA
          simp only at q1 hx
          obtain ⟨pa, pc, rfl⟩ := q1.form
          have hbx : Below wr.heap.size wr (wr.alloc (.cells #[.slice pa Q.length pc, .int .i64 pz] 150)) := (Below.refl _ _).alloc (Nat.le_refl _) _
          have hM1 := Lib.hid (Em.next hM.out hbx)
          have hen := hone.out Q _ pz _ (q1.next hbx) q2 q3 q4 (hM1.out.below hEc.out)
          have hcs := hc.out (nodes Q) pz
          generalize G (nodes Q) pz = oo at hen hx hcs
          clear q1 hbx hM
          replace hp := Lib.hid hp
          replace hx := Lib.hid hx
          have hmk : m ≤ k := by rw [hmm.out]; exact hM1.out.few
          rcases hcs with rfl | rfl | ⟨x, rfl⟩
          · replace hen := Lib.hid hen
            go_wp2_with fail
            refine hen.out.mono ?_
            rintro e w4 ⟨f, rfl, -, hf, hb4⟩
            clear hen c0 c1
            have hM2 := Em.next hM1.out hb4
            have hbx : Below w4.heap.size w4 (w4.alloc (.cells (itC it0).toArray 48)) := (Below.refl _ _).alloc (Nat.le_refl _) _
            have hM3 := Lib.hid (Em.next hM2 hbx)
            have hf3 := hf.below hbx
            have hI := is11_fault f 6 6 _ (ArrAt.cell hf3 1)
            replace hf3 := Lib.hid hf3
            replace hI := Lib.hid hI
            clear hM1 hM2 hbx hf hb4
            unfold itV faultV itC it0 strV
            simp only
            go_wp2_with fail
            refine hI.out.mono ?_
            rintro e w5 ⟨rfl, rfl⟩
            clear hI
            go_wp2_with fail
            go_ret2
            rw [show o = .bad 6 from ho.out.symm.trans (hM3.out.gat.trans (by rw [drop_some hx.out]; rfl))]
            exact ItsPost.bad hf3.out (hM3.out.below hEc.out)
          · replace hen := Lib.hid hen
            go_wp2_with fail
            refine hen.out.mono ?_
            rintro e w4 ⟨f, rfl, -, hf, hb4⟩
            clear hen c0 c1
            have hM2 := Em.next hM1.out hb4
            have hbx : Below w4.heap.size w4 (w4.alloc (.cells (itC it0).toArray 48)) := (Below.refl _ _).alloc (Nat.le_refl _) _
            have hM3 := Lib.hid (Em.next hM2 hbx)
            have hf3 := hf.below hbx
            have hI := is11_fault f 7 6 _ (ArrAt.cell hf3 1)
            obtain ⟨y, n1, -, -⟩ := hM3.out.note
            have hAs := as11_fault f Wb _ _ (n1.cell 0) (n1.soft 0) (hY.out.below (hM3.out.below hEc.out))
            replace hf3 := Lib.hid hf3
            replace hI := Lib.hid hI
            replace hAs := Lib.hid hAs
            clear hM1 hM2 hbx hf hb4 n1
            unfold itV faultV itC it0 strV
            simp only
            go_wp2_with fail
            refine hI.out.mono ?_
            rintro e w5 ⟨rfl, rfl⟩
            clear hI
            go_wp2_with fail
            refine hAs.out.mono ?_
            rintro e w5 ⟨rfl, w6, hb6, rfl⟩
            have hM4 := Lib.hid (Em.wrong (Em.next hM3.out hb6) hx.out (by decide) (hf3.out.below hb6))
            clear hAs hM3 hf3 hb6
            go_wp2_with fail
            exact ⟨⟨k + 1, m, a', c', acc, true, rfl, by go_num, by omega, hmm, hM4⟩, by simp [intOf]; omega⟩
          · replace hen := Lib.hid hen
            go_wp2_with fail
            refine hen.out.mono ?_
            rintro e w4 ⟨rfl, hb4⟩
            clear hen c0 c1
            have hM2 := Em.next hM1.out hb4
            have hbx : Below w4.heap.size w4 (w4.alloc (.cells (itC x).toArray 48)) := (Below.refl _ _).alloc (Nat.le_refl _) _
            have hM3 := Lib.hid (Em.next hM2 hbx)
            have hrow := Lib.hid hM3.out.own
            unfold OwnI at hrow
            have hwc := hM3.out.tur.size
            clear hM1 hM2 hbx hb4
            obtain ⟨xg, xt, xl, xb, xd, xk⟩ := x
            unfold itV
            unfold itC strV
            unfold itC strV at hM3 hrow hwc
            simp only at hM3 hrow hwc ⊢
            go_wp2_with fail
            refine (is14_nil 6 _).mono ?_
            rintro e w5 ⟨rfl, rfl⟩
            go_wp2_with fail
            refine (as11_nil _ _).mono ?_
            rintro e w5 ⟨rfl, rfl⟩
            have hal : acc.length ≤ 1000000 := by rw [← hmm.out]; omega
            go_wp2_with (at_builtin; go_must (refine wpList_appendk rfl _ _ 25 48 rfl Tryz.underlying25 (.agg #[.string ⟨#[]⟩, .string ⟨#[]⟩, .string ⟨#[]⟩, .string ⟨#[]⟩, .int .i64 0, .bool false]) 6 80 info_item rfl (by decide) (by decide) wc.heap.size _ acc.length (cellsI acc) [.string ⟨xg.toArray⟩, .string ⟨xt.toArray⟩, .string ⟨xl.toArray⟩, .string ⟨xb.toArray⟩, .int .i64 xd, .bool xk] rfl hrow.out rfl (by first | rfl | simp [Act.eval]) (by intro u hu; simp at hu; rcases hu with rfl | rfl | rfl | rfl | rfl | rfl <;> rfl) (by omega) hwc ?_))
            intro v2 w7 h1 h2 h3
            have hM4 := Em.item hM3.out hx.out h1.out h2.out
            obtain ⟨a2, c2, rfl⟩ := own_form h1.out
            clear h1 h2 h3 hrow hM3
            replace hM4 := Lib.hid hM4
            go_wp2_with fail
            exact ⟨⟨k + 1, acc.length + 1, a2, c2, _, bad, rfl, by go_num, by omega, Lib.hid (by simp), hM4⟩, by simp [intOf]; omega⟩
        · have hlt2 : ¬ ((k : Int) < S.length) := by omega
          have hdr : os.drop k = [] := List.drop_eq_nil_of_le (by omega)
          have hgo := ho.out.symm.trans hM.out.gat
          rw [hdr] at hgo
          obtain ⟨y, n1, n2, n3⟩ := hM.out.note
          have n0 := n1.cell 0
          have hown := Lib.hid (ownsRow_mono hM.out.own hEc.out.below.size)
          have hbl := Lib.hid (hM.out.below hEc.out)
          replace n1 := Lib.hid n1
          cases bad with
          | false =>
            obtain rfl := n2 rfl
            clear n2 n3
            replace hgo := Lib.hid hgo
            go_wp2_with fail
            go_ret2
            rw [show o = .its acc from hgo.out]
            exact ⟨_, rfl, by unfold OwnI; exact hmm.out ▸ hown.out, hbl.out⟩
          | true =>
            obtain ⟨f, rfl, hf⟩ := n3 rfl
            clear n2 n3
            replace hgo := Lib.hid hgo
            replace hf := Lib.hid hf
            go_wp2_with fail
            go_quiet (fail)
            go_wp2_with fail
            go_ret2
            rw [show o = .bad 7 from hgo.out]
            have hdn := (drawn_drewN wr nq).below wr.heap.size
            exact ItsPost.bad (hf.out.below hdn) (hbl.out.andThen hdn)
    · obtain rfl : S = [] := List.length_eq_zero_iff.1 (by omega)
      have hoo : o = .its [] := by rw [← ho.out, ← hos.out]; rfl
      clear hcut hone hc hG hK hY hnx hSb hSn ho hos
      go_enter Tryz.func62, Tryz.ntmps62
      go_wp2_with fail
      refine hnm.out.mono ?_
      rintro e w2 ⟨u, rfl, hu, hb2⟩
      obtain ⟨ua, uc, rfl⟩ := own_form hu
      have hn0 := arrAt_new w2 38 [.pointer none]
      have hbn := hb2.alloc (Below.size hb2) (.cells #[.pointer none] 38)
      obtain ⟨W0, hW0⟩ : ∃ W0, w2.alloc (.cells #[.pointer none] 38) = W0 := ⟨_, rfl⟩
      have n0 := hn0.cell 0
      rw [hW0] at n0 hbn
      replace hbn := Lib.hid hbn
      clear hnm hu hb2 hn0
      go_wp2_with fail
      refine (cut14_nil _ _ _ _ _ _ ⟨_, _, rfl⟩).mono ?_
      rintro e wc ⟨rfl, rfl⟩
      clear hW0
      go_wp2_with fail
      go_loopw [13, 33] (fun vi ii wr => vi = .slice none 0 0 ∧ ii = .int .i64 0 ∧ wr = W0) (fun _ _ _ => 0)
      case atStart => exact ⟨rfl, rfl, rfl⟩
      case round =>
        obtain ⟨rfl, rfl, rfl⟩ := hrel
        go_wp2_with fail
        go_ret2
        rw [hoo]
        exact ⟨_, rfl, World.ownsRow_nil _ _ _ _, hbn.out⟩
end Go.Proofs.YtkgjbamkinfmeaaGreatDoor

/- Layers 14 and 15: the rows of an entry. -/
namespace Go.Proofs.YtkgjbamkinfmeaaGreatDoor
open Go.RowKit

theorem row14 {w : World} {b : Nat} {x : It} {t : TypeId} (h : ArrAt w b t (itC x)) : (w.cell? ⟨b, 0, none⟩ = some (strV x.guid) ∧ w.frozen? ⟨b, 0, none⟩ = false) ∧ (w.cell? ⟨b, 1, none⟩ = some (strV x.title) ∧ w.frozen? ⟨b, 1, none⟩ = false) ∧ (w.cell? ⟨b, 2, none⟩ = some (strV x.link) ∧ w.frozen? ⟨b, 2, none⟩ = false) ∧ (w.cell? ⟨b, 3, none⟩ = some (strV x.body) ∧ w.frozen? ⟨b, 3, none⟩ = false) ∧ (w.cell? ⟨b, 4, none⟩ = some (.int .i64 x.date) ∧ w.frozen? ⟨b, 4, none⟩ = false) ∧ (w.cell? ⟨b, 5, none⟩ = some (.bool x.dated) ∧ w.frozen? ⟨b, 5, none⟩ = false) :=
  ⟨⟨h.cell 0, h.soft 0⟩, ⟨h.cell 1, h.soft 1⟩, ⟨h.cell 2, h.soft 2⟩, ⟨h.cell 3, h.soft 3⟩, ⟨h.cell 4, h.soft 4⟩, ⟨h.cell 5, h.soft 5⟩⟩
theorem row14_set {w : World} {b : Nat} {x : It} {t : TypeId} (h : ArrAt w b t (itC x)) (y : It) : ArrAt ((((((w.setCell ⟨b, 0, none⟩ (strV y.guid)).setCell ⟨b, 1, none⟩ (strV y.title)).setCell ⟨b, 2, none⟩ (strV y.link)).setCell ⟨b, 3, none⟩ (strV y.body)).setCell ⟨b, 4, none⟩ (.int .i64 y.date)).setCell ⟨b, 5, none⟩ (.bool y.dated)) b t (itC y) :=
  (((((h.set 0 _).set 1 _).set 2 _).set 3 _).set 4 _).set 5 _
theorem row14_zero {w : World} {b : Nat} {t : TypeId} (h : ArrAt w b t (itC it0)) : (w.cell? ⟨b, 0, none⟩ = some (.string ⟨#[]⟩) ∧ w.frozen? ⟨b, 0, none⟩ = false) ∧ (w.cell? ⟨b, 1, none⟩ = some (.string ⟨#[]⟩) ∧ w.frozen? ⟨b, 1, none⟩ = false) ∧ (w.cell? ⟨b, 2, none⟩ = some (.string ⟨#[]⟩) ∧ w.frozen? ⟨b, 2, none⟩ = false) ∧ (w.cell? ⟨b, 3, none⟩ = some (.string ⟨#[]⟩) ∧ w.frozen? ⟨b, 3, none⟩ = false) ∧ (w.cell? ⟨b, 4, none⟩ = some (.int .i64 0) ∧ w.frozen? ⟨b, 4, none⟩ = false) ∧ (w.cell? ⟨b, 5, none⟩ = some (.bool false) ∧ w.frozen? ⟨b, 5, none⟩ = false) := row14 h
/-- A row of an entry, set anew. -/
def setIt (w : World) (b : Nat) (y : It) : World := ((((((w.setCell ⟨b, 0, none⟩ (strV y.guid)).setCell ⟨b, 1, none⟩ (strV y.title)).setCell ⟨b, 2, none⟩ (strV y.link)).setCell ⟨b, 3, none⟩ (strV y.body)).setCell ⟨b, 4, none⟩ (.int .i64 y.date)).setCell ⟨b, 5, none⟩ (.bool y.dated))
theorem setIt_below {w0 w : World} {b : Nat} (y : It) (h : Below w0.heap.size w0 w) (hb : w0.heap.size ≤ b) : Below w0.heap.size w0 (setIt w b y) :=
  (((((h.setCell (p := ⟨b, 0, none⟩) hb _).setCell (p := ⟨b, 1, none⟩) hb _).setCell (p := ⟨b, 2, none⟩) hb _).setCell (p := ⟨b, 3, none⟩) hb _).setCell (p := ⟨b, 4, none⟩) hb _).setCell (p := ⟨b, 5, none⟩) hb _
theorem bad_end {w W : World} {B f : Nat} {q : Int} (hw : Below w.heap.size w W) (hB : w.heap.size ≤ B) (hr : ArrAt W B 48 (itC it0)) (hf : FaultAt W f 0 (codeV q)) (hlow : w.heap.size ≤ f) : ItPost w (.bad q) (.returned (.tuple #[itV it0, faultV f])) (setIt W B it0) := by
  have hne : f ≠ B := arr_apart hf hr (by decide)
  exact ⟨f, rfl, hlow, ((((((hf.far 0 _ hne).far 1 _ hne).far 2 _ hne).far 3 _ hne).far 4 _ hne).far 5 _ hne), setIt_below it0 hw hB⟩
theorem it_end {w W : World} {B : Nat} (x : It) (hw : Below w.heap.size w W) (hB : w.heap.size ≤ B) : ItPost w (.it x) (.returned (.tuple #[itV x, .nilIface])) (setIt W B x) := ⟨rfl, setIt_below x hw hB⟩
theorem itO_is {F : List UInt8 → Option (List UInt8)} {R : List UInt8 → Int × Bool} {most : Int} {s1 s2 s3 s4 : List UInt8} (h1 : (F guidL).getD [] = s1) (h2 : (F titleL).getD [] = s2) (h3 : (F linkL).getD [] = s3) (h4 : (F descL).getD [] = s4) :
    itO F R most = if shortB ⟨s1, s2, s3, s4, 0, false⟩ most = false then .bad 6 else match F pubL with
      | none => if s1 = [] then .bad 7 else .it ⟨s1, s2, s3, s4, 0, false⟩
      | some s => if s1 = [] ∨ (R s).2 = false then .bad 7 else .it ⟨s1, s2, s3, s4, (R s).1, (R s).2⟩ := by
  subst h1 h2 h3 h4
  have hs : shortB (oneB F R) most = shortB ⟨(F guidL).getD [], (F titleL).getD [], (F linkL).getD [], (F descL).getD [], 0, false⟩ most := rfl
  unfold itO lateB
  rw [hs]
  unfold oneB
  cases F pubL with
  | none => simp
  | some s => simp
/-- The rows of one's result and of its variable. -/
structure On (w0 : World) (x : It) (w : World) : Prop where
  r0 : ArrAt w w0.heap.size 48 (itC it0)
  r1 : ArrAt w (w0.heap.size + 1) 48 (itC x)
  below : Below w0.heap.size w0 w
section
variable {w0 w w' : World} {x : It}
theorem On.next (h : On w0 x w) (hb : Below w.heap.size w w') : On w0 x w' := ⟨h.r0.next hb, h.r1.next hb, h.below.andThen hb⟩
theorem On.set (h : On w0 x w) (k : Nat) (u : Value) (y : It) (e : (itC x).set k u = itC y) : On w0 y (w.setCell ⟨w0.heap.size + 1, k, none⟩ u) :=
  ⟨h.r0.far k u (by omega), e ▸ h.r1.set k u, h.below.setCell (p := ⟨w0.heap.size + 1, k, none⟩) (Nat.le_succ _) u⟩
theorem On.new (w : World) : On w it0 ((w.alloc (.cells (itC it0).toArray 48)).alloc (.cells (itC it0).toArray 48)) := by
  have h1 := arrAt_new w 48 (itC it0)
  have h2 := arrAt_new (w.alloc (.cells (itC it0).toArray 48)) 48 (itC it0)
  rw [show (w.alloc (.cells (itC it0).toArray 48)).heap.size = w.heap.size + 1 from by simp] at h2
  exact ⟨h1.next ((Below.refl _ _).alloc (Nat.le_refl _) _), h2, ((Below.refl _ _).alloc (Nat.le_refl _) _).alloc (by simp) _⟩
end
theorem FldPost.tells {w w' : World} {o : Option (List UInt8)} {e : Ending} {s : List UInt8} (h : FldPost w o e w') (hs : o.getD [] = s) : e = .returned (.tuple #[.string ⟨s.toArray⟩, .bool o.isSome]) ∧ Below w.heap.size w w' := by
  subst hs; exact h
theorem drew_below (w : World) : Below w.heap.size w w.drew := (drawn_drew w).below _
end Go.Proofs.YtkgjbamkinfmeaaGreatDoor

/- Layer 14: an entry. -/
namespace Go.Proofs.YtkgjbamkinfmeaaGreatDoor
open Go.RowKit

set_option maxRecDepth 100000 in
set_option maxHeartbeats 4000000 in
theorem entry14_any (P : List (Nd × Value)) (v : Value) (i most : Int) (w : World) (h : NdSl w v P) (hn : P.length ≤ 1000000) (hT : sumT (nodes P) ≤ 2000000) (hE : Env13 w) :
    Calls Tryz.prog 67 #[v, .int .i64 i, .int .i64 most] w (ItPost w (itO (fieldB (nodes P) i) r822C most)) := by
  have hO := On.new w
  obtain ⟨s1, h1⟩ : ∃ s, (fieldB (nodes P) i guidL).getD [] = s := ⟨_, rfl⟩
  obtain ⟨s2, h2⟩ : ∃ s, (fieldB (nodes P) i titleL).getD [] = s := ⟨_, rfl⟩
  obtain ⟨s3, h3⟩ : ∃ s, (fieldB (nodes P) i linkL).getD [] = s := ⟨_, rfl⟩
  obtain ⟨s4, h4⟩ : ∃ s, (fieldB (nodes P) i descL).getD [] = s := ⟨_, rfl⟩
  have f1 := Lib.hid (fun W (hW : Below w.heap.size w W) => (field14_any P v i guidL W (h.next hW) hn hT).mono fun e w' q => q.tells h1)
  have f2 := Lib.hid (fun W (hW : Below w.heap.size w W) => (field14_any P v i titleL W (h.next hW) hn hT).mono fun e w' q => q.tells h2)
  have f3 := Lib.hid (fun W (hW : Below w.heap.size w W) => (field14_any P v i linkL W (h.next hW) hn hT).mono fun e w' q => q.tells h3)
  have f4 := Lib.hid (fun W (hW : Below w.heap.size w W) => (field14_any P v i descL W (h.next hW) hn hT).mono fun e w' q => q.tells h4)
  have f5 := fun W (hW : Below w.heap.size w W) => field14_any P v i pubL W (h.next hW) hn hT
  have hT2 := fun s (e : fieldB (nodes P) i pubL = some s) => fieldB_bd e
  obtain ⟨o, ho⟩ : ∃ o, itO (fieldB (nodes P) i) r822C most = o := ⟨_, rfl⟩
  rw [ho]
  rw [itO_is h1 h2 h3 h4] at ho
  generalize fieldB (nodes P) i pubL = op at f5 hT2 ho
  unfold pubL at f5
  replace f5 := Lib.hid f5
  obtain ⟨a, ac, hv⟩ := h.form
  replace hO := Lib.hid hO
  replace ho := Lib.hid ho
  replace hE := Lib.hid hE
  clear h1 h2 h3 h4 h
  subst hv
  unfold itC it0 strV at hO
  simp only at hO
  go_enter Tryz.func67, Tryz.ntmps67
  go_wp2_with fail
  refine (f1.out _ hO.out.below).mono ?_
  rintro e w1 ⟨rfl, hb⟩
  clear f1
  replace hO := Lib.hid (hO.out.next hb)
  clear hb
  obtain ⟨⟨g0, k0⟩, ⟨g1, k1⟩, ⟨g2, k2⟩, ⟨g3, k3⟩, ⟨g4, k4⟩, ⟨g5, k5⟩⟩ := row14 hO.out.r1
  replace hO := Lib.hid (hO.out.set 0 (.string ⟨s1.toArray⟩) ⟨s1, [], [], [], 0, false⟩ rfl)
  go_wp2_with fail
  clear g0 g1 g2 g3 g4 g5 k0 k1 k2 k3 k4 k5
  refine (f2.out _ hO.out.below).mono ?_
  rintro e w2 ⟨rfl, hb⟩
  clear f2
  replace hO := Lib.hid (hO.out.next hb)
  clear hb
  obtain ⟨⟨g0, k0⟩, ⟨g1, k1⟩, ⟨g2, k2⟩, ⟨g3, k3⟩, ⟨g4, k4⟩, ⟨g5, k5⟩⟩ := row14 hO.out.r1
  replace hO := Lib.hid (hO.out.set 1 (.string ⟨s2.toArray⟩) ⟨s1, s2, [], [], 0, false⟩ rfl)
  go_wp2_with fail
  clear g0 g1 g2 g3 g4 g5 k0 k1 k2 k3 k4 k5
  refine (f3.out _ hO.out.below).mono ?_
  rintro e w3 ⟨rfl, hb⟩
  clear f3
  replace hO := Lib.hid (hO.out.next hb)
  clear hb
  obtain ⟨⟨g0, k0⟩, ⟨g1, k1⟩, ⟨g2, k2⟩, ⟨g3, k3⟩, ⟨g4, k4⟩, ⟨g5, k5⟩⟩ := row14 hO.out.r1
  replace hO := Lib.hid (hO.out.set 2 (.string ⟨s3.toArray⟩) ⟨s1, s2, s3, [], 0, false⟩ rfl)
  go_wp2_with fail
  clear g0 g1 g2 g3 g4 g5 k0 k1 k2 k3 k4 k5
  refine (f4.out _ hO.out.below).mono ?_
  rintro e w4 ⟨rfl, hb⟩
  clear f4
  replace hO := Lib.hid (hO.out.next hb)
  clear hb
  obtain ⟨⟨g0, k0⟩, ⟨g1, k1⟩, ⟨g2, k2⟩, ⟨g3, k3⟩, ⟨g4, k4⟩, ⟨g5, k5⟩⟩ := row14 hO.out.r1
  replace hO := Lib.hid (hO.out.set 3 (.string ⟨s4.toArray⟩) ⟨s1, s2, s3, s4, 0, false⟩ rfl)
  go_upto_region 6 with (fail)
  clear g0 g1 g2 g3 g4 g5 k0 k1 k2 k3 k4 k5
  generalize (w4.setCell ⟨w.heap.size + 1, 3, none⟩ (.string ⟨s4.toArray⟩)) = w4 at *
  obtain ⟨⟨g0, k0⟩, ⟨g1, k1⟩, ⟨g2, k2⟩, ⟨g3, k3⟩, ⟨g4, k4⟩, ⟨g5, k5⟩⟩ := row14 hO.out.r1
  unfold strV at g0 g1 g2 g3
  have hsh := short14_any ⟨s1, s2, s3, s4, 0, false⟩ most w4
  unfold itV itC strV at hsh
  replace hsh := Lib.hid hsh
  go_wp2_with fail
  refine hsh.out.mono ?_
  rintro e w5 ⟨rfl, hb⟩
  clear hsh g0 g1 g2 g3 g4 g5 k0 k1 k2 k3 k4 k5
  replace hO := Lib.hid (hO.out.next hb)
  clear hb
  cases hS : shortB ⟨s1, s2, s3, s4, 0, false⟩ most with
  | false =>
    go_wp2_with fail
    refine (fault14_any 6 _).mono ?_
    rintro e w9 ⟨rfl, hfa, hb9⟩
    have hO9 := hO.out.next hb9
    have hr := hO9.r0
    have hlw := hO.out.below.size
    have hbw := hO9.below
    obtain ⟨⟨g0, k0⟩, ⟨g1, k1⟩, ⟨g2, k2⟩, ⟨g3, k3⟩, ⟨g4, k4⟩, ⟨g5, k5⟩⟩ := row14_zero hr
    have hz := row14_zero (row14_set hr it0)
    unfold it0 strV at hz
    simp only at hz
    replace hz := Lib.hid hz
    replace hfa := Lib.hid hfa
    replace hr := Lib.hid hr
    replace hbw := Lib.hid hbw
    clear hO9
    go_wp2_with fail
    obtain ⟨⟨z0, -⟩, ⟨z1, -⟩, ⟨z2, -⟩, ⟨z3, -⟩, ⟨z4, -⟩, ⟨z5, -⟩⟩ := hz.out
    (try simp only [Exit.inBlock, Exit.then])
    refine bodyPost_ret (v := .tuple #[.agg #[.string ⟨#[]⟩, .string ⟨#[]⟩, .string ⟨#[]⟩, .string ⟨#[]⟩, .int .i64 0, .bool false], _]) (by simp [results, Tryz.results67, go_sem, z0, z1, z2, z3, z4, z5]; rfl) rfl ?_
    rw [show o = .bad 6 from ho.out.symm.trans (if_pos hS)]
    exact bad_end hbw.out (Nat.le_refl _) hr.out (by simpa using hfa.out) (by simpa using hlw)
  | true =>
    have hO2 := ho.out
    rw [if_neg (by rw [hS]; decide)] at hO2
    replace ho := Lib.hid hO2
    clear hO2
    go_wp2_with fail
    refine (f5.out _ hO.out.below).mono ?_
    rintro e w6 ⟨rfl, hb⟩
    clear f5
    replace hO := Lib.hid (hO.out.next hb)
    clear hb
    cases op with
    | none =>
      clear hT2
      obtain ⟨⟨g0, k0⟩, ⟨g1, k1⟩, ⟨g2, k2⟩, ⟨g3, k3⟩, ⟨g4, k4⟩, ⟨g5, k5⟩⟩ := row14 hO.out.r1
      unfold strV at g0 g1 g2 g3
      by_cases hs1 : s1 = []
      · subst hs1
        go_wp2_with fail
        refine (fault14_any 7 _).mono ?_
        rintro e w9 ⟨rfl, hfa, hb9⟩
        have hO9 := hO.out.next hb9
        have hr := hO9.r0
        have hlw := hO.out.below.size
        have hbw := hO9.below
        obtain ⟨⟨g0, k0⟩, ⟨g1, k1⟩, ⟨g2, k2⟩, ⟨g3, k3⟩, ⟨g4, k4⟩, ⟨g5, k5⟩⟩ := row14_zero hr
        have hz := row14_zero (row14_set hr it0)
        unfold it0 strV at hz
        simp only at hz
        replace hz := Lib.hid hz
        replace hfa := Lib.hid hfa
        replace hr := Lib.hid hr
        replace hbw := Lib.hid hbw
        clear hO9
        go_wp2_with fail
        obtain ⟨⟨z0, -⟩, ⟨z1, -⟩, ⟨z2, -⟩, ⟨z3, -⟩, ⟨z4, -⟩, ⟨z5, -⟩⟩ := hz.out
        (try simp only [Exit.inBlock, Exit.then])
        refine bodyPost_ret (v := .tuple #[.agg #[.string ⟨#[]⟩, .string ⟨#[]⟩, .string ⟨#[]⟩, .string ⟨#[]⟩, .int .i64 0, .bool false], _]) (by simp [results, Tryz.results67, go_sem, z0, z1, z2, z3, z4, z5]; rfl) rfl ?_
        rw [show o = .bad 7 from ho.out.symm.trans (by simp)]
        exact bad_end hbw.out (Nat.le_refl _) hr.out (by simpa using hfa.out) (by simpa using hlw)
      · have hs2 : (s1 == []) = false := by rw [beq_eq_false_iff_ne]; exact hs1
        clear g0 g1 g2 g3 g4 g5 k0 k1 k2 k3 k4 k5
        obtain ⟨⟨q0, j0⟩, ⟨q1, j1⟩, ⟨q2, j2⟩, ⟨q3, j3⟩, ⟨q4, j4⟩, ⟨q5, j5⟩⟩ := row14_zero hO.out.r0
        obtain ⟨⟨g0, k0⟩, ⟨g1, k1⟩, ⟨g2, k2⟩, ⟨g3, k3⟩, ⟨g4, k4⟩, ⟨g5, k5⟩⟩ := row14 hO.out.r1
        unfold strV at g0 g1 g2 g3
        have hz := row14 (row14_set hO.out.r0 ⟨s1, s2, s3, s4, 0, false⟩)
        unfold strV at hz
        simp only at hz
        have hbw := Lib.hid hO.out.below
        replace hz := Lib.hid hz
        go_wp2_with fail
        obtain ⟨⟨z0, -⟩, ⟨z1, -⟩, ⟨z2, -⟩, ⟨z3, -⟩, ⟨z4, -⟩, ⟨z5, -⟩⟩ := hz.out
        (try simp only [Exit.inBlock, Exit.then])
        refine bodyPost_ret (v := .tuple #[itV ⟨s1, s2, s3, s4, 0, false⟩, .nilIface]) (by simp [results, Tryz.results67, go_sem, z0, z1, z2, z3, z4, z5]; rfl) rfl ?_
        rw [show o = .it ⟨s1, s2, s3, s4, 0, false⟩ from ho.out.symm.trans (if_neg hs1)]
        exact it_end _ hbw.out (Nat.le_refl _)
    | some s =>
      have hs8 := hT2 s rfl
      have hE3 := hE.out.below hO.out.below
      have hrf := rfc822_any s w6 hE3 (by omega)
      clear hT2 hE3
      replace ho := ho.out
      simp only at ho
      generalize r822C s = r at hrf ho
      obtain ⟨d, k⟩ := r
      replace ho := Lib.hid ho
      replace hrf := Lib.hid hrf
      go_wp2_with fail
      refine hrf.out.mono ?_
      rintro e w7 ⟨rfl, hb⟩
      clear hrf
      replace hO := Lib.hid (hO.out.next hb)
      clear hb
      obtain ⟨⟨g0, k0⟩, ⟨g1, k1⟩, ⟨g2, k2⟩, ⟨g3, k3⟩, ⟨g4, k4⟩, ⟨g5, k5⟩⟩ := row14 hO.out.r1
      unfold strV at g0 g1 g2 g3
      have hO2 := Lib.hid ((hO.out.set 4 (.int .i64 d) ⟨s1, s2, s3, s4, d, false⟩ rfl).set 5 (.bool k) ⟨s1, s2, s3, s4, d, k⟩ rfl)
      go_upto_region 11 with (fail)
      clear g0 g1 g2 g3 g4 g5 k0 k1 k2 k3 k4 k5 hO
      have hO := hO2
      clear hO2
      generalize ((w7.setCell ⟨w.heap.size + 1, 4, none⟩ (.int .i64 d)).setCell ⟨w.heap.size + 1, 5, none⟩ (.bool k)) = w8 at *
      obtain ⟨⟨g0, k0⟩, ⟨g1, k1⟩, ⟨g2, k2⟩, ⟨g3, k3⟩, ⟨g4, k4⟩, ⟨g5, k5⟩⟩ := row14 hO.out.r1
      unfold strV at g0 g1 g2 g3
      by_cases hs1 : s1 = []
      · subst hs1
        go_wp2_with fail
        refine (fault14_any 7 _).mono ?_
        rintro e w9 ⟨rfl, hfa, hb9⟩
        have hO9 := hO.out.next hb9
        have hr := hO9.r0
        have hlw := hO.out.below.size
        have hbw := hO9.below
        obtain ⟨⟨g0, k0⟩, ⟨g1, k1⟩, ⟨g2, k2⟩, ⟨g3, k3⟩, ⟨g4, k4⟩, ⟨g5, k5⟩⟩ := row14_zero hr
        have hz := row14_zero (row14_set hr it0)
        unfold it0 strV at hz
        simp only at hz
        replace hz := Lib.hid hz
        replace hfa := Lib.hid hfa
        replace hr := Lib.hid hr
        replace hbw := Lib.hid hbw
        clear hO9
        go_wp2_with fail
        obtain ⟨⟨z0, -⟩, ⟨z1, -⟩, ⟨z2, -⟩, ⟨z3, -⟩, ⟨z4, -⟩, ⟨z5, -⟩⟩ := hz.out
        (try simp only [Exit.inBlock, Exit.then])
        refine bodyPost_ret (v := .tuple #[.agg #[.string ⟨#[]⟩, .string ⟨#[]⟩, .string ⟨#[]⟩, .string ⟨#[]⟩, .int .i64 0, .bool false], _]) (by simp [results, Tryz.results67, go_sem, z0, z1, z2, z3, z4, z5]; rfl) rfl ?_
        rw [show o = .bad 7 from ho.out.symm.trans (by simp)]
        exact bad_end hbw.out (Nat.le_refl _) hr.out (by simpa using hfa.out) (by simpa using hlw)
      · have hs2 : (s1 == []) = false := by rw [beq_eq_false_iff_ne]; exact hs1
        cases k with
        | false =>
          go_wp2_with fail
          refine (fault14_any 7 _).mono ?_
          rintro e w9 ⟨rfl, hfa, hb9⟩
          have hO9 := hO.out.next hb9
          have hr := hO9.r0
          have hlw := hO.out.below.size
          have hbw := hO9.below
          obtain ⟨⟨g0, k0⟩, ⟨g1, k1⟩, ⟨g2, k2⟩, ⟨g3, k3⟩, ⟨g4, k4⟩, ⟨g5, k5⟩⟩ := row14_zero hr
          have hz := row14_zero (row14_set hr it0)
          unfold it0 strV at hz
          simp only at hz
          replace hz := Lib.hid hz
          replace hfa := Lib.hid hfa
          replace hr := Lib.hid hr
          replace hbw := Lib.hid hbw
          clear hO9
          go_wp2_with fail
          obtain ⟨⟨z0, -⟩, ⟨z1, -⟩, ⟨z2, -⟩, ⟨z3, -⟩, ⟨z4, -⟩, ⟨z5, -⟩⟩ := hz.out
          (try simp only [Exit.inBlock, Exit.then])
          refine bodyPost_ret (v := .tuple #[.agg #[.string ⟨#[]⟩, .string ⟨#[]⟩, .string ⟨#[]⟩, .string ⟨#[]⟩, .int .i64 0, .bool false], _]) (by simp [results, Tryz.results67, go_sem, z0, z1, z2, z3, z4, z5]; rfl) rfl ?_
          rw [show o = .bad 7 from ho.out.symm.trans (by simp)]
          exact bad_end hbw.out (Nat.le_refl _) hr.out (by simpa using hfa.out) (by simpa using hlw)
        | true =>
          clear g0 g1 g2 g3 g4 g5 k0 k1 k2 k3 k4 k5
          obtain ⟨⟨q0, j0⟩, ⟨q1, j1⟩, ⟨q2, j2⟩, ⟨q3, j3⟩, ⟨q4, j4⟩, ⟨q5, j5⟩⟩ := row14_zero hO.out.r0
          obtain ⟨⟨g0, k0⟩, ⟨g1, k1⟩, ⟨g2, k2⟩, ⟨g3, k3⟩, ⟨g4, k4⟩, ⟨g5, k5⟩⟩ := row14 hO.out.r1
          unfold strV at g0 g1 g2 g3
          have hz := row14 (row14_set hO.out.r0 ⟨s1, s2, s3, s4, d, true⟩)
          unfold strV at hz
          simp only at hz
          have hbw := Lib.hid hO.out.below
          replace hz := Lib.hid hz
          go_wp2_with fail
          obtain ⟨⟨z0, -⟩, ⟨z1, -⟩, ⟨z2, -⟩, ⟨z3, -⟩, ⟨z4, -⟩, ⟨z5, -⟩⟩ := hz.out
          (try simp only [Exit.inBlock, Exit.then])
          refine bodyPost_ret (v := .tuple #[itV ⟨s1, s2, s3, s4, d, true⟩, .nilIface]) (by simp [results, Tryz.results67, go_sem, z0, z1, z2, z3, z4, z5]; rfl) rfl ?_
          rw [show o = .it ⟨s1, s2, s3, s4, d, true⟩ from ho.out.symm.trans (if_neg (by rintro (e | e); exact hs1 e; cases e))]
          exact it_end _ hbw.out (Nat.le_refl _)
end Go.Proofs.YtkgjbamkinfmeaaGreatDoor
