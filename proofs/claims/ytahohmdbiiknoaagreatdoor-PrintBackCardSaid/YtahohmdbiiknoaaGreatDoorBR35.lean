/- Layer 15: the reference's one, its Items. -/
import Derived.Test.YtahohmdbiiknoaaGreatDoorBR34
import Derived.Test.YtahohmdbiiknoaaGreatDoorBR31
import Derived.Test.YtahohmdbiiknoaaGreatDoorBR32
import Derived.Test.YtahohmdbiiknoaaGreatDoorBR33
import Derived.Test.YtahohmdbiiknoaaGreatDoorBR28
import Derived.Test.YtahohmdbiiknoaaGreatDoorBR04
import Derived.Test.YtahohmdbiiknoaaGreatDoorBR20
namespace Go.Proofs.YtahohmdbiiknoaaGreatDoor
open Go.RowKit

theorem shortA (F : List UInt8 → Option (List UInt8)) (L : Option (List UInt8)) (R S : List UInt8 → Int × Bool) (most : Int) : shortB (oneA F L R) most = shortB (oneA F L S) most := rfl
theorem guidA (F : List UInt8 → Option (List UInt8)) (L : Option (List UInt8)) (R S : List UInt8 → Int × Bool) : (oneA F L R).guid = (oneA F L S).guid := rfl
theorem itA_alike (F : List UInt8 → Option (List UInt8)) (L : Option (List UInt8)) (most : Int) : itA F L r3339C most = itA F L r3339R most := by
  obtain ⟨h1, h2⟩ := r3339_alike ((orB (F updL) (F pubdL)).getD [])
  have hd : (oneA F L r3339C).dated = (oneA F L r3339R).dated := by rw [datedA, datedA, h1]
  unfold itA
  rw [shortA F L r3339C r3339R, hd, guidA F L r3339C r3339R]
  by_cases hb : (oneA F L r3339R).guid = [] ∨ (oneA F L r3339R).dated = false
  · rw [if_pos hb, if_pos hb]
  · rw [if_neg hb, if_neg hb]
    have hk : (r3339C ((orB (F updL) (F pubdL)).getD [])).2 = true := by
      cases hc : (r3339C ((orB (F updL) (F pubdL)).getD [])).2 with
      | true => rfl
      | false => exact absurd (Or.inr (by rw [datedA, ← h1, hc])) hb
    have e : oneA F L r3339C = oneA F L r3339R := by
      unfold oneA
      rw [h2 hk, h1]
    rw [e]
theorem itsA_alike (l : List Nd) (many most : Int) : itsA l r3339C many most = itsA l r3339R many most := by
  unfold itsA
  simp only [itA_alike]

theorem oneA_is {F : List UInt8 → Option (List UInt8)} {L : Option (List UInt8)} (R : List UInt8 → Int × Bool) {s1 s2 s3 s4 dt : List UInt8} (h1 : (F idL).getD [] = s1) (h2 : (F titleL).getD [] = s2) (h3 : L.getD [] = s3) (h4 : (orB (F sumL) (F contL)).getD [] = s4) (h5 : (orB (F updL) (F pubdL)).getD [] = dt) :
    oneA F L R = ⟨s1, s2, s3, s4, (R dt).1, (R dt).2⟩ := by
  subst h1 h2 h3 h4 h5
  rfl
theorem orB_len (l : List Nd) (i : Int) (a b : List UInt8) : ((orB (fieldB l i a) (fieldB l i b)).getD []).length ≤ 8 * sumT l := by
  unfold orB
  cases e : fieldB l i a with
  | some s => exact fieldB_bd e
  | none =>
    cases e2 : fieldB l i b with
    | some s => exact fieldB_bd e2
    | none => simp

set_option maxRecDepth 100000 in
set_option maxHeartbeats 4000000 in
theorem refone15_any (P : List (Nd × Value)) (v : Value) (i : Int) (w : World) (h : NdSl w v P) (hn : P.length ≤ 1000000) (hT : sumT (nodes P) ≤ 2000000) (hK : ∀ x ∈ nodes P, AtOk x.attrs) :
    Calls Tryz.prog 38 #[v, .int .i64 i] w (OnePost w (oneA (fieldB (nodes P) i) (linkB (nodes P) i) r3339R) (oneA (fieldB (nodes P) i) (linkB (nodes P) i) r3339R).dated) := by
  have hO := On.new w
  obtain ⟨s1, h1⟩ : ∃ s, (fieldB (nodes P) i idL).getD [] = s := ⟨_, rfl⟩
  obtain ⟨s2, h2⟩ : ∃ s, (fieldB (nodes P) i titleL).getD [] = s := ⟨_, rfl⟩
  obtain ⟨s3, h3⟩ : ∃ s, (linkB (nodes P) i).getD [] = s := ⟨_, rfl⟩
  obtain ⟨s4, h4⟩ : ∃ s, (orB (fieldB (nodes P) i sumL) (fieldB (nodes P) i contL)).getD [] = s := ⟨_, rfl⟩
  obtain ⟨dt, h5⟩ : ∃ s, (orB (fieldB (nodes P) i updL) (fieldB (nodes P) i pubdL)).getD [] = s := ⟨_, rfl⟩
  have hdt := orB_len (nodes P) i updL pubdL
  rw [h5] at hdt
  have f1 := fun W (hW : Below w.heap.size w W) => (reffield14_any P v i idL W (h.next hW) hn hT).mono fun e w' q => q.tells h1
  have f2 := fun W (hW : Below w.heap.size w W) => (reffield14_any P v i titleL W (h.next hW) hn hT).mono fun e w' q => q.tells h2
  have f3 := fun W (hW : Below w.heap.size w W) => (reflink15_any P v i W (h.next hW) hn hK).mono fun e w' q => q.tells h3
  have f4 := fun W (hW : Below w.heap.size w W) => (refeither15_any P v i sumL contL W (h.next hW) hn hT).mono fun e w' q => q.tells h4
  have f5 := fun W (hW : Below w.heap.size w W) => (refeither15_any P v i updL pubdL W (h.next hW) hn hT).mono fun e w' q => q.tells h5
  rw [oneA_is r3339R h1 h2 h3 h4 h5]
  unfold idL at f1
  unfold titleL at f2
  unfold sumL contL at f4
  unfold updL pubdL at f5
  generalize (fieldB (nodes P) i [105, 100]).isSome = b1 at f1
  generalize (fieldB (nodes P) i [116, 105, 116, 108, 101]).isSome = b2 at f2
  generalize (linkB (nodes P) i).isSome = b3 at f3
  generalize (orB (fieldB (nodes P) i [115, 117, 109, 109, 97, 114, 121]) (fieldB (nodes P) i [99, 111, 110, 116, 101, 110, 116])).isSome = b4 at f4
  generalize (orB (fieldB (nodes P) i [117, 112, 100, 97, 116, 101, 100]) (fieldB (nodes P) i [112, 117, 98, 108, 105, 115, 104, 101, 100])).isSome = b5 at f5
  replace f1 := Lib.hid f1
  replace f2 := Lib.hid f2
  replace f3 := Lib.hid f3
  replace f4 := Lib.hid f4
  replace f5 := Lib.hid f5
  obtain ⟨a, ac, hv⟩ := h.form
  replace hO := Lib.hid hO
  clear h1 h2 h3 h4 h5 h hK
  subst hv
  simp only
  obtain ⟨r, hr⟩ : ∃ r, r3339R dt = r := ⟨_, rfl⟩
  have hrf := fun W => rfc3339r_any dt W (by omega)
  rw [hr] at hrf ⊢
  clear hr hdt
  obtain ⟨d, k⟩ := r
  simp only at hrf ⊢
  replace hrf := Lib.hid hrf
  unfold itC it0 strV at hO
  simp only at hO
  go_enter Tryz.func38, Tryz.ntmps38
  go_wp2_with fail
  refine (f1.out _ hO.out.below).mono ?_
  rintro e w1 ⟨rfl, hb⟩
  clear f1
  replace hO := Lib.hid (hO.out.next hb)
  clear hb
  obtain ⟨⟨g0, k0⟩, ⟨g1, k1⟩, ⟨g2, k2⟩, ⟨g3, k3⟩, ⟨g4, k4⟩, ⟨g5, k5⟩⟩ := row14 hO.out.r1
  replace hO := Lib.hid (hO.out.set 0 (.string ⟨s1.toArray⟩) ⟨s1, [], [], [], 0, false⟩ rfl)
  go_wp2_with fail
  clear g0 g1 g2 g3 g4 g5 k0 k1 k2 k3 k4 k5
  refine (f2.out _ hO.out.below).mono ?_
  rintro e w2 ⟨rfl, hb⟩
  clear f2
  replace hO := Lib.hid (hO.out.next hb)
  clear hb
  obtain ⟨⟨g0, k0⟩, ⟨g1, k1⟩, ⟨g2, k2⟩, ⟨g3, k3⟩, ⟨g4, k4⟩, ⟨g5, k5⟩⟩ := row14 hO.out.r1
  replace hO := Lib.hid (hO.out.set 1 (.string ⟨s2.toArray⟩) ⟨s1, s2, [], [], 0, false⟩ rfl)
  go_wp2_with fail
  clear g0 g1 g2 g3 g4 g5 k0 k1 k2 k3 k4 k5
  refine (f3.out _ hO.out.below).mono ?_
  rintro e w3 ⟨rfl, hb⟩
  clear f3
  replace hO := Lib.hid (hO.out.next hb)
  clear hb
  obtain ⟨⟨g0, k0⟩, ⟨g1, k1⟩, ⟨g2, k2⟩, ⟨g3, k3⟩, ⟨g4, k4⟩, ⟨g5, k5⟩⟩ := row14 hO.out.r1
  replace hO := Lib.hid (hO.out.set 2 (.string ⟨s3.toArray⟩) ⟨s1, s2, s3, [], 0, false⟩ rfl)
  go_wp2_with fail
  clear g0 g1 g2 g3 g4 g5 k0 k1 k2 k3 k4 k5
  refine (f4.out _ hO.out.below).mono ?_
  rintro e w4 ⟨rfl, hb⟩
  clear f4
  replace hO := Lib.hid (hO.out.next hb)
  clear hb
  obtain ⟨⟨g0, k0⟩, ⟨g1, k1⟩, ⟨g2, k2⟩, ⟨g3, k3⟩, ⟨g4, k4⟩, ⟨g5, k5⟩⟩ := row14 hO.out.r1
  replace hO := Lib.hid (hO.out.set 3 (.string ⟨s4.toArray⟩) ⟨s1, s2, s3, s4, 0, false⟩ rfl)
  go_wp2_with fail
  clear g0 g1 g2 g3 g4 g5 k0 k1 k2 k3 k4 k5
  refine (f5.out _ hO.out.below).mono ?_
  rintro e w5 ⟨rfl, hb⟩
  clear f5
  replace hO := Lib.hid (hO.out.next hb)
  clear hb
  go_wp2_with fail
  refine (hrf.out _).mono ?_
  rintro e w6 ⟨rfl, hb⟩
  clear hrf
  replace hO := Lib.hid (hO.out.next (hb.below _))
  clear hb
  obtain ⟨⟨g0, k0⟩, ⟨g1, k1⟩, ⟨g2, k2⟩, ⟨g3, k3⟩, ⟨g4, k4⟩, ⟨g5, k5⟩⟩ := row14 hO.out.r1
  unfold strV at g0 g1 g2 g3
  have hO2 := Lib.hid ((hO.out.set 4 (.int .i64 d) ⟨s1, s2, s3, s4, d, false⟩ rfl).set 5 (.bool k) ⟨s1, s2, s3, s4, d, k⟩ rfl)
  go_upto_region 9 with (fail)
  clear g0 g1 g2 g3 g4 g5 k0 k1 k2 k3 k4 k5 hO
  generalize ((w6.setCell ⟨w.heap.size + 1, 4, none⟩ (.int .i64 d)).setCell ⟨w.heap.size + 1, 5, none⟩ (.bool k)) = w7 at *
  obtain ⟨⟨g0, k0⟩, ⟨g1, k1⟩, ⟨g2, k2⟩, ⟨g3, k3⟩, ⟨g4, k4⟩, ⟨g5, k5⟩⟩ := row14 hO2.out.r1
  obtain ⟨⟨q0, j0⟩, ⟨q1, j1⟩, ⟨q2, j2⟩, ⟨q3, j3⟩, ⟨q4, j4⟩, ⟨q5, j5⟩⟩ := row14_zero hO2.out.r0
  unfold strV at g0 g1 g2 g3
  have hz := Lib.hid (row14 (row14_set hO2.out.r0 ⟨s1, s2, s3, s4, d, k⟩))
  have hbw := Lib.hid (setIt_below ⟨s1, s2, s3, s4, d, k⟩ hO2.out.below (Nat.le_refl _))
  unfold strV at hz
  simp only at hz
  go_wp2_with fail
  obtain ⟨⟨z0, -⟩, ⟨z1, -⟩, ⟨z2, -⟩, ⟨z3, -⟩, ⟨z4, -⟩, ⟨z5, -⟩⟩ := hz.out
  (try simp only [Exit.inBlock, Exit.then])
  refine bodyPost_ret (v := .tuple #[itV ⟨s1, s2, s3, s4, d, k⟩, .bool k]) (by simp [results, Tryz.results38, go_sem, z0, z1, z2, z3, z4, z5]; rfl) rfl ?_
  exact ⟨rfl, hbw.out⟩

set_option maxRecDepth 100000 in
set_option maxHeartbeats 4000000 in
theorem refitems15_any (P : List (Nd × Value)) (v : Value) (many most : Int) (w : World) (h : NdSl w v P) (hn : P.length ≤ 1000000) (hT : sumT (nodes P) ≤ 2000000) (hK : ∀ x ∈ nodes P, AtOk x.attrs) :
    Calls Tryz.prog 23 #[v, .int .i64 many, .int .i64 most] w (RefItsPost w (itsA (nodes P) r3339R many most)) := by
  obtain ⟨o, ho⟩ : ∃ o, itsA (nodes P) r3339R many most = o := ⟨_, rfl⟩
  rw [ho]
  unfold itsA readB at ho
  by_cases h0 : P = []
  · subst h0
    obtain ⟨a, c, rfl⟩ := h.form
    rw [if_pos (Or.inl (show nodes [] = [] from rfl))] at ho
    subst ho
    clear h
    go_enter Tryz.func23, Tryz.ntmps23
    go_wp2_with fail
    go_ret2
    exact ⟨rfl, Below.refl _ _⟩
  have hp0 : 0 < P.length := List.length_pos_iff.2 h0
  have hnm := refnamed12_any P v 0 entryL w h hn
  have hone := fun W i (hb : Below w.heap.size w W) => refone15_any P v i W (h.next hb) hn hT hK
  obtain ⟨b, off, cap, hcap, hbl, rfl, hcl⟩ := h.some hp0
  obtain ⟨d0, _, _, _⟩ := hcl 0 hp0
  have hna : (P[0]'hp0).1 = atN (nodes P) 0 := nodes_at hp0
  rw [hna] at d0
  clear hcl hna
  have hne : nodes P ≠ [] := fun e => h0 (List.map_eq_nil_iff.1 e)
  have hl0 : ((P.length : Int) == 0) = false := by rw [beq_eq_false_iff_ne]; omega
  have hl1 : (P.length == 0) = false := by rw [beq_eq_false_iff_ne]; omega
  have hl2 : (0 : Int) < P.length := by omega
  unfold strV at d0
  rw [Nat.zero_mul, Nat.add_zero] at d0
  replace h0 := Lib.hid h0
  by_cases hq : (atN (nodes P) 0).name = feedL
  · rw [if_neg (by rintro (e | e); exact hne e; exact e hq)] at ho
    rw [hq] at d0
    unfold feedL at d0
    have hnx := fun W (hb : Below w.heap.size w W) => h.next hb
    have hSl := namedB_len (nodes P) 0 entryL
    rw [nodes_len] at hSl
    generalize namedB (nodes P) 0 entryL = S at ho hnm hSl
    obtain ⟨os, hos⟩ : ∃ os, S.map (fun i => itA (fieldB (nodes P) i) (linkB (nodes P) i) r3339R most) = os := ⟨_, rfl⟩
    rw [hos] at ho
    have hol : os.length = S.length := by rw [← hos, List.length_map]
    unfold entryL at hnm
    replace ho := Lib.hid ho
    replace hnm := Lib.hid hnm
    replace hnx := Lib.hid hnx
    replace hos := Lib.hid hos
    replace hone := Lib.hid hone
    replace h := Lib.hid h
    replace hq := Lib.hid hq
    replace hne := Lib.hid hne
    have hS1 : (S.length : Int) ≤ 1000000 := by omega
    by_cases hm : many < (S.length : Int)
    · have ho6 := ho.out
      rw [if_pos hm] at ho6
      subst ho6
      clear ho
      go_enter Tryz.func23, Tryz.ntmps23
      go_wp2_with fail
      refine hnm.out.mono ?_
      rintro e w2 ⟨u, rfl, hu, hb2⟩
      obtain ⟨ua, uc, rfl⟩ := own_form hu
      have hb3 := Lib.hid hb2
      clear hb2 hu hnm
      go_wp2_with fail
      go_ret2
      exact ⟨rfl, hb3.out⟩
    · have ho6 := ho.out
      rw [if_neg hm] at ho6
      replace ho := Lib.hid ho6
      clear ho6
      go_enter Tryz.func23, Tryz.ntmps23
      go_wp2_with fail
      refine hnm.out.mono ?_
      rintro e w2 ⟨u, rfl, hu, hb2⟩
      have hb3 := Lib.hid hb2
      have hrd := hu.rd
      obtain ⟨ua, uc, rfl⟩ := own_form hu
      have hcells : ∀ W, Below w2.heap.size w2 W → ∀ j, j < S.length → ∃ ub uo, ua = some ⟨ub, uo, none⟩ ∧ W.cell? ⟨ub, uo + j, none⟩ = some (.int .i64 (S.getD j 0)) := fun W hb j hj => by
        rcases (hrd.next hb).sl with ⟨rfl, _⟩ | ⟨ub, uo, c, e, hc⟩
        · simp at hj
        · injection e with e1 e2 e3
          exact ⟨ub, uo, e1, hc j hj⟩
      replace hcells := Lib.hid hcells
      clear hb2 hu hnm hrd
      have hR : Hid (Rm w2 os 0 (.slice none 0 0) [] true w2) := ⟨World.ownsRow_nil _ _ _ _, Below.refl _ _, ⟨[], rfl, fun _ => rfl⟩, Nat.le_refl _⟩
      go_wp2_with fail
      go_loopw [9, 10, 11] (fun vi gi ii wr => ∃ (k m : Nat) (a' : Option Addr) (c' : Nat) (acc : List It) (good : Bool), vi = .slice a' m c' ∧ gi = .bool good ∧ ii = .int .i64 k ∧ k ≤ S.length ∧ Hid (m = acc.length) ∧ Hid (Rm w2 os k vi acc good wr)) (fun _ _ ii _ => S.length - (intOf ii).toNat)
      case atStart => exact ⟨0, 0, none, 0, [], true, rfl, rfl, rfl, Nat.zero_le _, rfl, hR⟩
      case round =>
        clear hR
        obtain ⟨k, m, a', c', acc, good, rfl, rfl, rfl, hk, hmm, hM⟩ := hrel
        by_cases hlt : k < S.length
        · have hlt1 : (k : Int) < S.length := by omega
          obtain ⟨ub, uo, rfl, i0⟩ := hcells.out wr hM.out.below k hlt
          have hon := hone.out wr (S.getD k 0) (hb3.out.andThen (hM.out.below))
          have hx : os[k]? = some (itA (fieldB (nodes P) (S.getD k 0)) (linkB (nodes P) (S.getD k 0)) r3339R most) := by
            rw [← hos.out, List.getElem?_map, List.getElem?_eq_getElem hlt]; simp [List.getD, hlt]
          unfold itA at hx
          have hmk : m ≤ k := by rw [hmm.out]; exact hM.out.few
          generalize S.getD k 0 = at0 at *
          generalize oneA (fieldB (nodes P) at0) (linkB (nodes P) at0) r3339R = x at hon hx
          obtain ⟨fine, hfine⟩ : ∃ b, x.dated = b := ⟨_, rfl⟩
          rw [hfine] at hon hx
          have hsh := fun W => refshort14_any x most W
          obtain ⟨sb, hsb⟩ : ∃ sb, shortB x most = sb := ⟨_, rfl⟩
          rw [hsb] at hx hsh
          replace hx := Lib.hid hx
          replace hsb := Lib.hid hsb
          replace hon := Lib.hid hon
          go_wp2_with fail
          refine hon.out.mono ?_
          rintro e w4 ⟨rfl, hb4⟩
          clear hon i0
          have hbx : Below w4.heap.size w4 (w4.alloc (.cells (itC x).toArray 26)) := (Below.refl _ _).alloc (Nat.le_refl _) _
          have hM3 := Lib.hid (Rm.next (hM.out.next hb4) hbx)
          have hw0 := hM3.out.below.size
          have hst := Lib.hid (hsh (w4.alloc (.cells (itC x).toArray 26)))
          have hxn := arrAt_new w4 26 (itC x)
          clear hM hbx hb4 hsh
          obtain ⟨xg, xt, xl, xb, xd, xk⟩ := x
          replace hfine := Lib.hid hfine
          unfold itV
          unfold itC strV
          unfold itV itC strV at hst
          unfold itC strV at hM3 hxn hw0
          simp only at hM3 hxn hst hx hw0 ⊢
          replace hxn := Lib.hid hxn
          go_wp2_with fail
          refine hst.out.mono ?_
          rintro e w5 ⟨rfl, hb5⟩
          clear hst
          replace hM3 := Lib.hid (hM3.out.next hb5)
          replace hxn := Lib.hid (hxn.out.next hb5)
          have hw5 := hM3.out.below.size
          obtain ⟨⟨y0, -⟩, ⟨y1, -⟩, ⟨y2, -⟩, ⟨y3, -⟩, ⟨y4, -⟩, ⟨y5, -⟩⟩ := row14 (x := ⟨xg, xt, xl, xb, xd, xk⟩) hxn.out
          unfold strV at y0 y1 y2 y3
          simp only at y0 y1 y2 y3 y4 y5
          clear hb5 hw0
          cases sb with
          | false =>
            go_wp2_with fail
            go_ret2
            obtain ⟨acc2, g1, -⟩ := hM3.out.gat
            rw [show o = .bad 6 from ho.out.symm.trans (g1.trans (by rw [drop_some hx.out, if_pos trivial]; rfl))]
            exact ⟨rfl, hb3.out.andThen hM3.out.below⟩
          | true =>
            have hrow := Lib.hid hM3.out.own
            unfold OwnI at hrow
            have hal : acc.length ≤ 1000000 := by rw [← hmm.out]; omega
            have hx2 := hx.out
            rw [if_neg (by decide)] at hx2
            clear hx
            cases fine with
            | false =>
              rw [if_pos (Or.inr rfl)] at hx2
              cases good with
              | false =>
                replace hx2 := Lib.hid hx2
                go_wp2_with (at_builtin; go_must (refine wpList_appendk rfl _ _ 22 26 rfl Tryz.underlying22 (.agg #[.string ⟨#[]⟩, .string ⟨#[]⟩, .string ⟨#[]⟩, .string ⟨#[]⟩, .int .i64 0, .bool false]) 6 80 info_item rfl (by decide) (by decide) w2.heap.size _ acc.length (cellsI acc) [.string ⟨xg.toArray⟩, .string ⟨xt.toArray⟩, .string ⟨xl.toArray⟩, .string ⟨xb.toArray⟩, .int .i64 xd, .bool xk] rfl hrow.out rfl (by first | rfl | simp [Act.eval]) (by intro u hu; simp at hu; rcases hu with rfl | rfl | rfl | rfl | rfl | rfl <;> rfl) (by omega) hw5 ?_))
                intro v2 w7 h1 h2 h3
                have hM4 := Rm.item (x := ⟨xg, xt, xl, xb, xd, xk⟩) (g2 := false) hM3.out hx2.out (Or.inl ⟨rfl, rfl⟩) h1.out h2.out
                obtain ⟨a2, c2, rfl⟩ := own_form h1.out
                clear h1 h2 h3 hrow hM3
                replace hM4 := Lib.hid hM4
                go_wp2_with fail
                exact ⟨⟨k + 1, acc.length + 1, a2, c2, _, false, rfl, rfl, by go_num, by omega, Lib.hid (by simp), hM4⟩, by simp [intOf]; omega⟩
              | true =>
                replace hx2 := Lib.hid hx2
                go_wp2_with (at_builtin; go_must (refine wpList_appendk rfl _ _ 22 26 rfl Tryz.underlying22 (.agg #[.string ⟨#[]⟩, .string ⟨#[]⟩, .string ⟨#[]⟩, .string ⟨#[]⟩, .int .i64 0, .bool false]) 6 80 info_item rfl (by decide) (by decide) w2.heap.size _ acc.length (cellsI acc) [.string ⟨xg.toArray⟩, .string ⟨xt.toArray⟩, .string ⟨xl.toArray⟩, .string ⟨xb.toArray⟩, .int .i64 xd, .bool xk] rfl hrow.out rfl (by first | rfl | simp [Act.eval]) (by intro u hu; simp at hu; rcases hu with rfl | rfl | rfl | rfl | rfl | rfl <;> rfl) (by omega) hw5 ?_))
                intro v2 w7 h1 h2 h3
                have hM4 := Rm.item (x := ⟨xg, xt, xl, xb, xd, xk⟩) (g2 := false) hM3.out hx2.out (Or.inl ⟨rfl, rfl⟩) h1.out h2.out
                obtain ⟨a2, c2, rfl⟩ := own_form h1.out
                clear h1 h2 h3 hrow hM3
                replace hM4 := Lib.hid hM4
                go_wp2_with fail
                exact ⟨⟨k + 1, acc.length + 1, a2, c2, _, false, rfl, rfl, by go_num, by omega, Lib.hid (by simp), hM4⟩, by simp [intOf]; omega⟩
            | true =>
              by_cases hg : xg = []
              · rw [if_pos (Or.inl hg)] at hx2
                subst hg
                cases good with
                | false =>
                  replace hx2 := Lib.hid hx2
                  go_wp2_with (at_builtin; go_must (refine wpList_appendk rfl _ _ 22 26 rfl Tryz.underlying22 (.agg #[.string ⟨#[]⟩, .string ⟨#[]⟩, .string ⟨#[]⟩, .string ⟨#[]⟩, .int .i64 0, .bool false]) 6 80 info_item rfl (by decide) (by decide) w2.heap.size _ acc.length (cellsI acc) [.string ⟨#[]⟩, .string ⟨xt.toArray⟩, .string ⟨xl.toArray⟩, .string ⟨xb.toArray⟩, .int .i64 xd, .bool xk] rfl hrow.out rfl (by first | rfl | simp [Act.eval]) (by intro u hu; simp at hu; rcases hu with rfl | rfl | rfl | rfl | rfl | rfl <;> rfl) (by omega) hw5 ?_))
                  intro v2 w7 h1 h2 h3
                  have hM4 := Rm.item (x := ⟨[], xt, xl, xb, xd, xk⟩) (g2 := false) hM3.out hx2.out (Or.inl ⟨rfl, rfl⟩) h1.out h2.out
                  obtain ⟨a2, c2, rfl⟩ := own_form h1.out
                  clear h1 h2 h3 hrow hM3
                  replace hM4 := Lib.hid hM4
                  go_wp2_with fail
                  exact ⟨⟨k + 1, acc.length + 1, a2, c2, _, false, rfl, rfl, by go_num, by omega, Lib.hid (by simp), hM4⟩, by simp [intOf]; omega⟩
                | true =>
                  replace hx2 := Lib.hid hx2
                  go_wp2_with (at_builtin; go_must (refine wpList_appendk rfl _ _ 22 26 rfl Tryz.underlying22 (.agg #[.string ⟨#[]⟩, .string ⟨#[]⟩, .string ⟨#[]⟩, .string ⟨#[]⟩, .int .i64 0, .bool false]) 6 80 info_item rfl (by decide) (by decide) w2.heap.size _ acc.length (cellsI acc) [.string ⟨#[]⟩, .string ⟨xt.toArray⟩, .string ⟨xl.toArray⟩, .string ⟨xb.toArray⟩, .int .i64 xd, .bool xk] rfl hrow.out rfl (by first | rfl | simp [Act.eval]) (by intro u hu; simp at hu; rcases hu with rfl | rfl | rfl | rfl | rfl | rfl <;> rfl) (by omega) hw5 ?_))
                  intro v2 w7 h1 h2 h3
                  have hM4 := Rm.item (x := ⟨[], xt, xl, xb, xd, xk⟩) (g2 := false) hM3.out hx2.out (Or.inl ⟨rfl, rfl⟩) h1.out h2.out
                  obtain ⟨a2, c2, rfl⟩ := own_form h1.out
                  clear h1 h2 h3 hrow hM3
                  replace hM4 := Lib.hid hM4
                  go_wp2_with fail
                  exact ⟨⟨k + 1, acc.length + 1, a2, c2, _, false, rfl, rfl, by go_num, by omega, Lib.hid (by simp), hM4⟩, by simp [intOf]; omega⟩
              · rw [if_neg (by rintro (e | e); exact hg e; cases e)] at hx2
                have hg2 : (xg == []) = false := by rw [beq_eq_false_iff_ne]; exact hg
                cases good with
                | false =>
                  replace hx2 := Lib.hid hx2
                  go_wp2_with (at_builtin; go_must (refine wpList_appendk rfl _ _ 22 26 rfl Tryz.underlying22 (.agg #[.string ⟨#[]⟩, .string ⟨#[]⟩, .string ⟨#[]⟩, .string ⟨#[]⟩, .int .i64 0, .bool false]) 6 80 info_item rfl (by decide) (by decide) w2.heap.size _ acc.length (cellsI acc) [.string ⟨xg.toArray⟩, .string ⟨xt.toArray⟩, .string ⟨xl.toArray⟩, .string ⟨xb.toArray⟩, .int .i64 xd, .bool xk] rfl hrow.out rfl (by first | rfl | simp [Act.eval]) (by intro u hu; simp at hu; rcases hu with rfl | rfl | rfl | rfl | rfl | rfl <;> rfl) (by omega) hw5 ?_))
                  intro v2 w7 h1 h2 h3
                  have hM4 := Rm.item (x := ⟨xg, xt, xl, xb, xd, xk⟩) (g2 := false) hM3.out hx2.out (Or.inr ⟨rfl, rfl⟩) h1.out h2.out
                  obtain ⟨a2, c2, rfl⟩ := own_form h1.out
                  clear h1 h2 h3 hrow hM3
                  replace hM4 := Lib.hid hM4
                  go_wp2_with fail
                  exact ⟨⟨k + 1, acc.length + 1, a2, c2, _, false, rfl, rfl, by go_num, by omega, Lib.hid (by simp), hM4⟩, by simp [intOf]; omega⟩
                | true =>
                  replace hx2 := Lib.hid hx2
                  go_wp2_with (at_builtin; go_must (refine wpList_appendk rfl _ _ 22 26 rfl Tryz.underlying22 (.agg #[.string ⟨#[]⟩, .string ⟨#[]⟩, .string ⟨#[]⟩, .string ⟨#[]⟩, .int .i64 0, .bool false]) 6 80 info_item rfl (by decide) (by decide) w2.heap.size _ acc.length (cellsI acc) [.string ⟨xg.toArray⟩, .string ⟨xt.toArray⟩, .string ⟨xl.toArray⟩, .string ⟨xb.toArray⟩, .int .i64 xd, .bool xk] rfl hrow.out rfl (by first | rfl | simp [Act.eval]) (by intro u hu; simp at hu; rcases hu with rfl | rfl | rfl | rfl | rfl | rfl <;> rfl) (by omega) hw5 ?_))
                  intro v2 w7 h1 h2 h3
                  have hM4 := Rm.item (x := ⟨xg, xt, xl, xb, xd, xk⟩) (g2 := true) hM3.out hx2.out (Or.inr ⟨rfl, rfl⟩) h1.out h2.out
                  obtain ⟨a2, c2, rfl⟩ := own_form h1.out
                  clear h1 h2 h3 hrow hM3
                  replace hM4 := Lib.hid hM4
                  go_wp2_with fail
                  exact ⟨⟨k + 1, acc.length + 1, a2, c2, _, true, rfl, rfl, by go_num, by omega, Lib.hid (by simp), hM4⟩, by simp [intOf]; omega⟩
        · have hlt2 : ¬ ((k : Int) < S.length) := by omega
          have hdr : os.drop k = [] := List.drop_eq_nil_of_le (by omega)
          obtain ⟨acc2, g1, g2⟩ := hM.out.gat
          have hgo := ho.out.symm.trans g1
          rw [hdr] at hgo
          have hown := Lib.hid (ownsRow_mono hM.out.own hb3.out.size)
          have hbl := Lib.hid (hb3.out.andThen hM.out.below)
          replace hgo := Lib.hid hgo
          cases good with
          | false =>
            clear g1 g2
            go_wp2_with fail
            go_ret2
            rw [show o = .bad 7 from hgo.out]
            exact ⟨rfl, hbl.out⟩
          | true =>
            obtain rfl := g2 rfl
            clear g1 g2
            go_wp2_with fail
            go_ret2
            rw [show o = .its acc2 from hgo.out]
            exact ⟨_, rfl, by unfold OwnI; exact hmm.out ▸ hown.out, hbl.out⟩
  · rw [if_pos (Or.inr hq)] at ho
    subst ho
    have hq1 : ((atN (nodes P) 0).name == [102, 101, 101, 100]) = false := by rw [beq_eq_false_iff_ne]; exact hq
    generalize (atN (nodes P) 0).name = nm at d0 hq1
    clear hone hnm h
    replace hq := Lib.hid hq
    go_enter Tryz.func23, Tryz.ntmps23
    go_wp2_with fail
    go_ret2
    exact ⟨rfl, Below.refl _ _⟩
end Go.Proofs.YtahohmdbiiknoaaGreatDoor

/- Layer 15, plain: how long a document's attributes are. -/
namespace Go.Proofs.YtahohmdbiiknoaaGreatDoor
open Go.RowKit

theorem attrsRF_few {N : Nat} {l l' : List At} {d : List UInt8} {n : Nat} (h : attrsRF l d = .go l' n) (hd : d.length ≤ N) (hl : AtFew N l) : AtFew N l' := by
  unfold attrsRF at h
  split at h
  · cases h
  split at h
  · cases h
  split at h
  · cases h
  rename_i h16
  split at h
  · cases h
  · rename_i x m e
    have := attrP_long e
    rw [List.length_drop] at this
    split at h
    · cases h
    · injection h with ha hb
      subst ha
      have h1 := hl.1
      refine ⟨?_, fun a ha => ?_⟩
      · rw [List.length_append]
        have : l.length ≠ 16 := fun e => h16 (Or.inr e)
        simp
        omega
      · rcases List.mem_append.1 ha with ha | ha
        · exact hl.2 a ha
        · rw [List.mem_singleton] at ha
          subst ha
          omega
theorem attrsR_few {N : Nat} {d : List UInt8} {l : List At} {b : Bool} {n : Nat} (h : attrsR d = some ((l, b), n)) (hd : d.length ≤ N) : AtFew N l := by
  have key : ∀ s d, ∀ k, d.length ≤ N → AtFew N s → AtFew N (loopK attrsRF s d k).2.1 := by
    refine loopK_ind attrsRF_steps (P := fun s d => ∀ k, d.length ≤ N → AtFew N s → AtFew N (loopK attrsRF s d k).2.1) ?_ ?_ ?_
    · intro s d x e k _ hs; rw [loopK_bad _ e]; exact hs
    · intro s d e k _ hs; rw [loopK_stop _ e]; exact hs
    · intro s d s' n e ih k hd hs
      rw [loopK_go attrsRF_steps _ e]
      exact ih (k + n) (by rw [List.length_drop]; omega) (attrsRF_few e hd hs)
  have hk := key [] d 0 hd (AtFew.nil N)
  unfold attrsR at h
  revert h hk
  cases e : loopK attrsRF [] d 0 with
  | mk o y =>
    obtain ⟨z, k⟩ := y
    intro h hk
    cases o with
    | some _ => cases h
    | none =>
      simp only at h hk
      split at h
      · injection h with h
        injection h with h1 h2
        injection h1 with h1 h3
        subst h1
        exact hk
      split at h
      · injection h with h
        injection h with h1 h2
        injection h1 with h1 h3
        subst h1
        exact hk
      · cases h
theorem beginR_few {N : Nat} {dep : Int} {s s' : Sc} {d : List UInt8} {n : Nat} (h : beginR dep s d = .go s' n) (hd : d.length ≤ N) (hs : TkFew N s.toks) : TkFew N s'.toks := by
  unfold beginR at h
  split at h
  · cases h
  split at h
  · cases h
  · split at h
    · cases h
    · rename_i l m e
      have := attrsR_few e (N := N) (by rw [List.length_drop]; omega)
      injection h with ha hb
      subst ha
      exact addT_few hs this
    · rename_i l m e
      have := attrsR_few e (N := N) (by rw [List.length_drop]; omega)
      injection h with ha hb
      subst ha
      exact addT_few hs this
theorem endR_few {N : Nat} {s s' : Sc} {d : List UInt8} {n : Nat} (h : endR s d = .go s' n) (hs : TkFew N s.toks) : TkFew N s'.toks := by
  unfold endR at h
  split at h
  · cases h
  · split at h
    · cases h
    split at h
    · cases h
    split at h
    · injection h with ha hb
      subst ha
      exact addT_few hs (AtFew.nil N)
    · cases h
theorem stepR_few {N : Nat} {dep : Int} {s s' : Sc} {d : List UInt8} {n : Nat} (h : stepR dep s d = .go s' n) (hd : d.length ≤ N) (hs : TkFew N s.toks) : TkFew N s'.toks := by
  have hC : (match commR d with | none => Rs.bad (3 : Int) | some n => .go s n) = .go s' n → TkFew N s'.toks := fun e => by
    revert e
    cases e2 : commR d with
    | none => intro e; cases e
    | some m =>
      intro e
      injection e with ha hb
      subst ha
      exact hs
  unfold stepR at h
  split at h
  · cases h
  split at h
  · unfold outerR at h
    split at h
    · injection h with ha hb
      subst ha
      exact hs
    split at h
    · exact hC h
    split at h
    · exact beginR_few h hd hs
    · cases h
  · unfold innerR at h
    split at h
    · exact endR_few h hs
    split at h
    · exact hC h
    split at h
    · split at h
      · cases h
      · injection h with ha hb
        subst ha
        exact hs
    split at h
    · split at h
      · exact beginR_few h hd hs
      · cases h
    split at h
    · split at h
      · cases h
      · injection h with ha hb
        subst ha
        exact hs
    · injection h with ha hb
      subst ha
      exact hs
theorem tokR_few (dep : Int) (l : List UInt8) : TkFew l.length (tokR dep l).ts := by
  have hno : TkFew l.length [] := fun t ht => by cases ht
  unfold tokR
  generalize hg : goodN l = g
  have hlg : (l.take g).length ≤ l.length := by rw [List.length_take]; omega
  cases hh : preR (l.take g) with
  | none => exact hno
  | some m =>
    have key : ∀ s d, ∀ k, d.length ≤ l.length → TkFew l.length s.toks → TkFew l.length (loopK (stepR dep) s d k).2.1.toks := by
      refine loopK_ind (stepR_steps dep) (P := fun s d => ∀ k, d.length ≤ l.length → TkFew l.length s.toks → TkFew l.length (loopK (stepR dep) s d k).2.1.toks) ?_ ?_ ?_
      · intro s d x e k _ hs; rw [loopK_bad _ e]; exact hs
      · intro s d e k _ hs; rw [loopK_stop _ e]; exact hs
      · intro s d s' n e ih k hd hs
        rw [loopK_go (stepR_steps dep) _ e]
        exact ih (k + n) (by rw [List.length_drop]; omega) (stepR_few e hd hs)
    have hk := key sc0 ((l.take g).drop m) m (by rw [List.length_drop]; omega) hno
    revert hk
    simp only
    cases e : loopK (stepR dep) sc0 ((l.take g).drop m) m with
    | mk o y =>
      obtain ⟨s, k⟩ := y
      intro hk
      cases o with
      | some q => exact hno
      | none =>
        simp only at hk ⊢
        split
        · exact hno
        · exact hk
/-- A document's nodes have few attributes, and short ones. -/
theorem docN_few (dep : Int) (l : List UInt8) : ∀ x ∈ docN dep l, AtFew l.length x.attrs := by
  intro x hx
  unfold docN at hx
  cases hb : buildB (tokR dep l).ts with
  | none => rw [hb] at hx; cases hx
  | some nds =>
    rw [hb] at hx
    rcases (buildB_tree hb).2.2.2.2 x hx with h | ⟨t, ht, h⟩
    · rw [h]; exact AtFew.nil _
    · rw [h]; exact tokR_few dep l t ht
end Go.Proofs.YtahohmdbiiknoaaGreatDoor

/- Layer 16's reference: Parse, of a document that is one. -/
namespace Go.Proofs.YtahohmdbiiknoaaGreatDoor
open Go.RowKit

theorem refcheck16_yes (p : Prm) (w : World) (h : checkB p.doc p.dep p.many p.most = true) : Calls Tryz.prog 20 #[prmV p] w fun e w' => e = .returned (.bool true) ∧ Below w.heap.size w w' := by
  obtain ⟨p0, p1, p2, p3, p4, p5, p6, p7, p8, p9, p10⟩ := p
  have hb : ∀ c : Array Value, Below w.heap.size w (w.alloc (.cells c 31)) := fun c => (Below.refl _ _).alloc (Nat.le_refl _) _
  unfold checkB at h
  simp only [Bool.and_eq_true, decide_eq_true_eq] at h
  obtain ⟨⟨⟨⟨⟨⟨⟨h1, h2⟩, h3⟩, h4⟩, h5⟩, h6⟩, h7⟩, h8⟩ := h
  unfold prmV prmC
  simp only
  replace hb := Lib.hid hb
  go_enter Tryz.func20, Tryz.ntmps20
  go_wp2_with fail
  go_ret
  exact ⟨rfl, hb.out _⟩
theorem few_ok' {N : Nat} {l : List At} (h : AtFew N l) (hN : N ≤ 500000) : AtOk l := ⟨by have := h.1; omega, fun a ha => by have := h.2 a ha; omega⟩
theorem TrPost.good {w w' : World} {t : List Tk} {e : Ending} (h : TrPost w (.toks t) e w') : ∃ v P, e = .returned (.tuple #[v, .int .i64 0]) ∧ TkSl w' v P ∧ P.map Prod.fst = t ∧ Below w.heap.size w w' := by
  obtain ⟨⟨v, P, h1, h2, h3⟩, h4⟩ := h
  exact ⟨v, P, h1, h2.sl, h3, h4⟩
/-- What is read of a document's nodes. -/
def nodesB (N : List Nd) (many most : Int) : ItsO := if (atN N 0).name = feedL then itsA N r3339C many most else itsB N r822C many most
theorem RefItsPost.from {w0 w w' : World} {o : ItsO} {e : Ending} (h : RefItsPost w o e w') (hb : Below w0.heap.size w0 w) : RefItsPost w0 o e w' := by
  cases o with
  | bad q => exact ⟨h.1, hb.andThen h.2⟩
  | its l => obtain ⟨v, h1, h2, h3⟩ := h; exact ⟨v, h1, ownsRow_mono h2 hb.size, hb.andThen h3⟩

set_option maxRecDepth 100000 in
set_option maxHeartbeats 8000000 in
theorem refparse16_any (l : List UInt8) (p : Prm) (w : World) (T : List Tk) (N : List Nd) (hc : checkB p.doc p.dep p.many p.most = true) (hd : ¬ p.doc < (l.length : Int)) (hl : l.length ≤ 50000) (hT : tokR p.dep l = .toks T) (hN : buildB T = some N) :
    Calls Tryz.prog 10 #[.string ⟨l.toArray⟩, prmV p] w (RefItsPost w (nodesB N p.many p.most)) := by
  have hb0 : Below w.heap.size w (w.alloc (.cells (prmC p).toArray 31)) := (Below.refl _ _).alloc (Nat.le_refl _) _
  have hr0 := arrAt_new w 31 (prmC p)
  have hch := Lib.hid (refcheck16_yes p (w.alloc (.cells (prmC p).toArray 31)) hc)
  have htok := fun W => rtokens_any l p.dep W (by omega)
  rw [hT] at htok
  have hlen := (tokR_len p.dep l).1
  rw [hT] at hlen
  have hdoc : docN p.dep l = N := by unfold docN; rw [hT]; show (buildB T).getD [] = N; rw [hN]; rfl
  have hn1 := docN_len p.dep l
  have hn2 := docN_sum p.dep l
  have hn3 := docN_few p.dep l
  rw [hdoc] at hn1 hn2 hn3
  have hne := (buildB_tree hN).2.1
  obtain ⟨p0, p1, p2, p3, p4, p5, p6, p7, p8, p9, p10⟩ := p
  have hcells : ∀ W : World, ArrAt W w.heap.size 31 (prmC ⟨p0, p1, p2, p3, p4, p5, p6, p7, p8, p9, p10⟩) → W.cell? ⟨w.heap.size, 1, none⟩ = some (.int .i64 p1) ∧ W.cell? ⟨w.heap.size, 2, none⟩ = some (.int .i64 p2) ∧ W.cell? ⟨w.heap.size, 4, none⟩ = some (.int .i64 p4) ∧ W.cell? ⟨w.heap.size, 5, none⟩ = some (.int .i64 p5) := fun _ h => ⟨h.cell 1, h.cell 2, h.cell 4, h.cell 5⟩
  simp only at hd htok ⊢
  replace hcells := Lib.hid hcells
  replace hb0 := Lib.hid hb0
  replace hr0 := Lib.hid hr0
  replace htok := Lib.hid htok
  have hlenT : T.length ≤ 100000 := by have : T.length ≤ 2 * l.length := hlen; omega
  have hsz1 : N.length ≤ 1000000 := by omega
  have hsz2 : sumT N ≤ 2000000 := by omega
  have hsz3 : ∀ x ∈ N, AtOk x.attrs := fun x hx => few_ok' (hn3 x hx) (by omega)
  have hN0 : 0 < N.length := List.length_pos_iff.2 hne
  obtain ⟨os, hos⟩ : ∃ os, nodesB N p4 p5 = os := ⟨_, rfl⟩
  rw [hos]
  replace hsz3 := Lib.hid hsz3
  replace hos := Lib.hid hos
  replace hN := Lib.hid hN
  clear hT hlen hdoc hn1 hn2 hn3 hc hne
  unfold prmV prmC at hch hb0 ⊢
  simp only at hch hb0 ⊢
  go_enter Tryz.func10, Tryz.ntmps10
  go_wp2_with fail
  refine hch.out.mono ?_
  rintro e w1 ⟨rfl, hb1⟩
  have hr1 := hr0.out.next hb1
  obtain ⟨c1, c2, c4, c5⟩ := hcells.out w1 hr1
  have hb2 := Lib.hid (hb0.out.andThen hb1)
  replace hr1 := Lib.hid hr1
  clear hb1 hch hr0 hb0
  go_wp2_with fail
  refine (htok.out w1).mono ?_
  rintro e w2 hh
  obtain ⟨v, P, rfl, hK, rfl, hb3⟩ := hh.good
  clear hh htok c1 c2 c4 c5
  rw [List.length_map] at hlenT
  have hB := refbuild12_any P v w2 hK hlenT
  rw [hN.out] at hB
  obtain ⟨va, vc, rfl⟩ := hK.form
  replace hB := Lib.hid hB
  replace hr1 := Lib.hid (hr1.out.next hb3)
  replace hb2 := Lib.hid (hb2.out.andThen hb3)
  clear hK hb3 hN
  go_wp2_with fail
  refine hB.out.mono ?_
  rintro e w3 hh
  obtain ⟨v2, Q, rfl, hQ, rfl, hb4⟩ : ∃ v P, e = .returned (.tuple #[v, .int .i64 0]) ∧ NdSl w3 v P ∧ nodes P = N ∧ Below w2.heap.size w2 w3 := hh
  clear hB
  rw [nodes_len] at hsz1 hN0
  have hr3 := hr1.out.next hb4
  obtain ⟨c1, c2, c4, c5⟩ := hcells.out w3 hr3
  have hb5 := Lib.hid (hb2.out.andThen hb4)
  obtain ⟨b, off, cap, hcap, hbl, rfl, hcl⟩ := hQ.some hN0
  have a0 := (hcl 0 hN0).c0
  have hat := nodes_at hN0
  have hl1 : (0 : Int) < Q.length := by omega
  have hl2 : (0 : Int) < cap := by omega
  rw [Nat.zero_mul, Nat.add_zero] at a0
  rw [hat] at a0
  by_cases hf : (atN (nodes Q) 0).name = feedL
  · have he : os = itsA (nodes Q) r3339C p4 p5 := by rw [← hos.out]; unfold nodesB; rw [if_pos hf]
    have hA := refitems15_any Q _ p4 p5 w3 hQ hsz1 hsz2 hsz3.out
    rw [← itsA_alike, ← he] at hA
    rw [show (atN (nodes Q) ((0 : Nat) : Int)).name = feedL from hf] at a0
    unfold strV feedL at a0
    replace hA := Lib.hid hA
    clear hcl hQ hb4 hr1 hr3 hos hsz3 he hat hf hb2
    go_wp2_with fail
    refine hA.out.mono ?_
    rintro e w4 hh
    replace hh := hh.from hb5.out
    clear hA
    cases os with
    | bad q =>
      obtain ⟨rfl, hb6⟩ := hh
      replace hb6 := Lib.hid hb6
      go_wp2_with fail
      go_ret2
      exact ⟨rfl, hb6.out⟩
    | its x =>
      obtain ⟨u, rfl, hu, hb6⟩ := hh
      obtain ⟨ua, uc, rfl⟩ := own_form hu
      replace hb6 := Lib.hid hb6
      replace hu := Lib.hid hu
      go_wp2_with fail
      go_ret2
      exact ⟨_, rfl, hu.out, hb6.out⟩
  · have he : os = itsB (nodes Q) r822C p4 p5 := by rw [← hos.out]; unfold nodesB; rw [if_neg hf]
    have hA := refitems14_any Q _ p4 p5 w3 hQ hsz1 hsz2
    rw [← itsB_alike, ← he] at hA
    obtain ⟨nm, hnm⟩ : ∃ nm, (atN (nodes Q) ((0 : Nat) : Int)).name = nm := ⟨_, rfl⟩
    have hne : (nm == [102, 101, 101, 100]) = false := by rw [beq_eq_false_iff_ne, ← hnm]; exact hf
    rw [hnm] at a0
    unfold strV at a0
    replace hA := Lib.hid hA
    clear hcl hQ hb4 hr1 hr3 hos hsz3 he hat hf hnm hb2
    go_wp2_with fail
    refine hA.out.mono ?_
    rintro e w4 hh
    replace hh := hh.from hb5.out
    clear hA
    cases os with
    | bad q =>
      obtain ⟨rfl, hb6⟩ := hh
      replace hb6 := Lib.hid hb6
      go_wp2_with fail
      go_ret2
      exact ⟨rfl, hb6.out⟩
    | its x =>
      obtain ⟨u, rfl, hu, hb6⟩ := hh
      obtain ⟨ua, uc, rfl⟩ := own_form hu
      replace hb6 := Lib.hid hb6
      replace hu := Lib.hid hu
      go_wp2_with fail
      go_ret2
      exact ⟨_, rfl, hu.out, hb6.out⟩
end Go.Proofs.YtahohmdbiiknoaaGreatDoor
