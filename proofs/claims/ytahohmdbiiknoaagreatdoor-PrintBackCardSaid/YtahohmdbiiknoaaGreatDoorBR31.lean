/- Layer 14: the reference's one. -/
import Derived.Test.YtahohmdbiiknoaaGreatDoorBR29
import Derived.Test.YtahohmdbiiknoaaGreatDoorBR14
import Derived.Test.YtahohmdbiiknoaaGreatDoorBR30
import Derived.Test.YtahohmdbiiknoaaGreatDoorBR22
namespace Go.Proofs.YtahohmdbiiknoaaGreatDoor
open Go.RowKit

def dateO (R : List UInt8 → Int × Bool) : Option (List UInt8) → Int
  | none => 0
  | some s => (R s).1
def datedO (R : List UInt8 → Int × Bool) : Option (List UInt8) → Bool
  | none => false
  | some s => (R s).2
def fineO (R : List UInt8 → Int × Bool) : Option (List UInt8) → Bool
  | none => true
  | some s => (R s).2
theorem fineO_late (F : List UInt8 → Option (List UInt8)) (R : List UInt8 → Int × Bool) : (!lateB F R) = fineO R (F pubL) := by
  unfold lateB
  cases F pubL with
  | none => rfl
  | some s => simp [fineO]
theorem oneB_is {F : List UInt8 → Option (List UInt8)} (R : List UInt8 → Int × Bool) {s1 s2 s3 s4 : List UInt8} (h1 : (F guidL).getD [] = s1) (h2 : (F titleL).getD [] = s2) (h3 : (F linkL).getD [] = s3) (h4 : (F descL).getD [] = s4) :
    oneB F R = ⟨s1, s2, s3, s4, dateO R (F pubL), datedO R (F pubL)⟩ := by
  subst h1 h2 h3 h4
  unfold oneB
  cases F pubL <;> rfl
def OnePost (w : World) (x : It) (fine : Bool) (e : Ending) (w' : World) : Prop := e = .returned (.tuple #[itV x, .bool fine]) ∧ Below w.heap.size w w'

set_option maxRecDepth 100000 in
set_option maxHeartbeats 4000000 in
theorem refone14_any (P : List (Nd × Value)) (v : Value) (i : Int) (w : World) (h : NdSl w v P) (hn : P.length ≤ 1000000) (hT : sumT (nodes P) ≤ 2000000) :
    Calls Tryz.prog 41 #[v, .int .i64 i] w (OnePost w (oneB (fieldB (nodes P) i) r822R) (!lateB (fieldB (nodes P) i) r822R)) := by
  have hO := On.new w
  obtain ⟨s1, h1⟩ : ∃ s, (fieldB (nodes P) i guidL).getD [] = s := ⟨_, rfl⟩
  obtain ⟨s2, h2⟩ : ∃ s, (fieldB (nodes P) i titleL).getD [] = s := ⟨_, rfl⟩
  obtain ⟨s3, h3⟩ : ∃ s, (fieldB (nodes P) i linkL).getD [] = s := ⟨_, rfl⟩
  obtain ⟨s4, h4⟩ : ∃ s, (fieldB (nodes P) i descL).getD [] = s := ⟨_, rfl⟩
  have f1 := Lib.hid (fun W (hW : Below w.heap.size w W) => (reffield14_any P v i guidL W (h.next hW) hn hT).mono fun e w' q => q.tells h1)
  have f2 := Lib.hid (fun W (hW : Below w.heap.size w W) => (reffield14_any P v i titleL W (h.next hW) hn hT).mono fun e w' q => q.tells h2)
  have f3 := Lib.hid (fun W (hW : Below w.heap.size w W) => (reffield14_any P v i linkL W (h.next hW) hn hT).mono fun e w' q => q.tells h3)
  have f4 := Lib.hid (fun W (hW : Below w.heap.size w W) => (reffield14_any P v i descL W (h.next hW) hn hT).mono fun e w' q => q.tells h4)
  have f5 := fun W (hW : Below w.heap.size w W) => reffield14_any P v i pubL W (h.next hW) hn hT
  have hT2 := fun s (e : fieldB (nodes P) i pubL = some s) => fieldB_bd e
  rw [fineO_late, oneB_is r822R h1 h2 h3 h4]
  generalize fieldB (nodes P) i pubL = op at f5 hT2
  unfold pubL at f5
  replace f5 := Lib.hid f5
  obtain ⟨a, ac, hv⟩ := h.form
  replace hO := Lib.hid hO
  clear h1 h2 h3 h4 h
  subst hv
  obtain ⟨xo, hxo⟩ : ∃ x : It × Bool, ((⟨s1, s2, s3, s4, dateO r822R op, datedO r822R op⟩ : It), fineO r822R op) = x := ⟨_, rfl⟩
  rw [show (⟨s1, s2, s3, s4, dateO r822R op, datedO r822R op⟩ : It) = xo.1 from congrArg Prod.fst hxo, show fineO r822R op = xo.2 from congrArg Prod.snd hxo]
  replace hxo := Lib.hid hxo
  unfold itC it0 strV at hO
  simp only at hO
  go_enter Tryz.func41, Tryz.ntmps41
  go_wp2_with fail
  refine (f1.out _ hO.out.below).mono ?_
  rintro e w1 ⟨rfl, hb⟩
  clear f1
  replace hO := Lib.hid (hO.out.next hb)
  clear hb
  obtain ⟨⟨g0, k0⟩, ⟨g1, k1⟩, ⟨g2, k2⟩, ⟨g3, k3⟩, ⟨g4, k4⟩, ⟨g5, k5⟩⟩ := row14 hO.out.r1
  replace hO := Lib.hid (hO.out.set 0 (.string ⟨s1.toArray⟩) ⟨s1, [], [], [], 0, false⟩ rfl)
  go_wp2_with fail
  clear g0 g1 g2 g3 g4 g5 k0 k1 k2 k3 k4 k5
  refine (f2.out _ hO.out.below).mono ?_
  rintro e w2 ⟨rfl, hb⟩
  clear f2
  replace hO := Lib.hid (hO.out.next hb)
  clear hb
  obtain ⟨⟨g0, k0⟩, ⟨g1, k1⟩, ⟨g2, k2⟩, ⟨g3, k3⟩, ⟨g4, k4⟩, ⟨g5, k5⟩⟩ := row14 hO.out.r1
  replace hO := Lib.hid (hO.out.set 1 (.string ⟨s2.toArray⟩) ⟨s1, s2, [], [], 0, false⟩ rfl)
  go_wp2_with fail
  clear g0 g1 g2 g3 g4 g5 k0 k1 k2 k3 k4 k5
  refine (f3.out _ hO.out.below).mono ?_
  rintro e w3 ⟨rfl, hb⟩
  clear f3
  replace hO := Lib.hid (hO.out.next hb)
  clear hb
  obtain ⟨⟨g0, k0⟩, ⟨g1, k1⟩, ⟨g2, k2⟩, ⟨g3, k3⟩, ⟨g4, k4⟩, ⟨g5, k5⟩⟩ := row14 hO.out.r1
  replace hO := Lib.hid (hO.out.set 2 (.string ⟨s3.toArray⟩) ⟨s1, s2, s3, [], 0, false⟩ rfl)
  go_wp2_with fail
  clear g0 g1 g2 g3 g4 g5 k0 k1 k2 k3 k4 k5
  refine (f4.out _ hO.out.below).mono ?_
  rintro e w4 ⟨rfl, hb⟩
  clear f4
  replace hO := Lib.hid (hO.out.next hb)
  clear hb
  obtain ⟨⟨g0, k0⟩, ⟨g1, k1⟩, ⟨g2, k2⟩, ⟨g3, k3⟩, ⟨g4, k4⟩, ⟨g5, k5⟩⟩ := row14 hO.out.r1
  replace hO := Lib.hid (hO.out.set 3 (.string ⟨s4.toArray⟩) ⟨s1, s2, s3, s4, 0, false⟩ rfl)
  go_wp2_with fail
  clear g0 g1 g2 g3 g4 g5 k0 k1 k2 k3 k4 k5
  refine (f5.out _ hO.out.below).mono ?_
  rintro e w5 ⟨rfl, hb⟩
  clear f5
  replace hO := Lib.hid (hO.out.next hb)
  clear hb
  cases op with
  | none =>
    obtain ⟨⟨g0, k0⟩, ⟨g1, k1⟩, ⟨g2, k2⟩, ⟨g3, k3⟩, ⟨g4, k4⟩, ⟨g5, k5⟩⟩ := row14 hO.out.r1
    obtain ⟨⟨q0, j0⟩, ⟨q1, j1⟩, ⟨q2, j2⟩, ⟨q3, j3⟩, ⟨q4, j4⟩, ⟨q5, j5⟩⟩ := row14_zero hO.out.r0
    unfold strV at g0 g1 g2 g3
    have hz := Lib.hid (row14 (row14_set hO.out.r0 ⟨s1, s2, s3, s4, 0, false⟩))
    have hbw := Lib.hid (setIt_below ⟨s1, s2, s3, s4, 0, false⟩ hO.out.below (Nat.le_refl _))
    unfold strV at hz
    simp only at hz
    go_wp2_with fail
    obtain ⟨⟨z0, -⟩, ⟨z1, -⟩, ⟨z2, -⟩, ⟨z3, -⟩, ⟨z4, -⟩, ⟨z5, -⟩⟩ := hz.out
    (try simp only [Exit.inBlock, Exit.then])
    refine bodyPost_ret (v := .tuple #[itV ⟨s1, s2, s3, s4, 0, false⟩, .bool true]) (by simp [results, Tryz.results41, go_sem, z0, z1, z2, z3, z4, z5]; rfl) rfl ?_
    rw [← hxo.out]
    exact ⟨rfl, hbw.out⟩
  | some s =>
    have hs8 := hT2 s rfl
    have hrf := rfc822r_any s w5 (by omega)
    clear hT2
    replace hxo := hxo.out
    unfold dateO datedO fineO at hxo
    simp only at hxo
    generalize r822R s = r at hrf hxo
    obtain ⟨d, k⟩ := r
    replace hxo := Lib.hid hxo
    replace hrf := Lib.hid hrf
    go_wp2_with fail
    refine hrf.out.mono ?_
    rintro e w6 ⟨rfl, hb⟩
    clear hrf
    replace hO := Lib.hid (hO.out.next (hb.below _))
    clear hb
    obtain ⟨⟨g0, k0⟩, ⟨g1, k1⟩, ⟨g2, k2⟩, ⟨g3, k3⟩, ⟨g4, k4⟩, ⟨g5, k5⟩⟩ := row14 hO.out.r1
    unfold strV at g0 g1 g2 g3
    have hO2 := Lib.hid ((hO.out.set 4 (.int .i64 d) ⟨s1, s2, s3, s4, d, false⟩ rfl).set 5 (.bool k) ⟨s1, s2, s3, s4, d, k⟩ rfl)
    go_upto_region 11 with (fail)
    clear g0 g1 g2 g3 g4 g5 k0 k1 k2 k3 k4 k5 hO
    generalize ((w6.setCell ⟨w.heap.size + 1, 4, none⟩ (.int .i64 d)).setCell ⟨w.heap.size + 1, 5, none⟩ (.bool k)) = w7 at *
    obtain ⟨⟨g0, k0⟩, ⟨g1, k1⟩, ⟨g2, k2⟩, ⟨g3, k3⟩, ⟨g4, k4⟩, ⟨g5, k5⟩⟩ := row14 hO2.out.r1
    obtain ⟨⟨q0, j0⟩, ⟨q1, j1⟩, ⟨q2, j2⟩, ⟨q3, j3⟩, ⟨q4, j4⟩, ⟨q5, j5⟩⟩ := row14_zero hO2.out.r0
    unfold strV at g0 g1 g2 g3
    have hz := Lib.hid (row14 (row14_set hO2.out.r0 ⟨s1, s2, s3, s4, d, k⟩))
    have hbw := Lib.hid (setIt_below ⟨s1, s2, s3, s4, d, k⟩ hO2.out.below (Nat.le_refl _))
    unfold strV at hz
    simp only at hz
    go_wp2_with fail
    obtain ⟨⟨z0, -⟩, ⟨z1, -⟩, ⟨z2, -⟩, ⟨z3, -⟩, ⟨z4, -⟩, ⟨z5, -⟩⟩ := hz.out
    (try simp only [Exit.inBlock, Exit.then])
    refine bodyPost_ret (v := .tuple #[itV ⟨s1, s2, s3, s4, d, k⟩, .bool k]) (by simp [results, Tryz.results41, go_sem, z0, z1, z2, z3, z4, z5]; rfl) rfl ?_
    rw [← hxo.out]
    exact ⟨rfl, hbw.out⟩
end Go.Proofs.YtahohmdbiiknoaaGreatDoor

/- Layer 14: the reference's Items. -/
namespace Go.Proofs.YtahohmdbiiknoaaGreatDoor
open Go.RowKit

/-- What the reference's Items answers. -/
def RefItsPost (w : World) (o : ItsO) (e : Ending) (w' : World) : Prop :=
  match o with
  | .bad q => e = .returned (.tuple #[.slice none 0 0, .int .i64 q]) ∧ Below w.heap.size w w'
  | .its l => ∃ v, e = .returned (.tuple #[v, .int .i64 0]) ∧ OwnI w' w.heap.size v l ∧ Below w.heap.size w w'
/-- What its loop keeps. -/
structure Rm (w0 : World) (os : List ItO) (k : Nat) (v : Value) (acc : List It) (good : Bool) (w : World) : Prop where
  own : OwnI w w0.heap.size v acc
  below : Below w0.heap.size w0 w
  gat : ∃ acc2, gatherB os [] false = gatherB (os.drop k) acc2 (!good) ∧ (good = true → acc2 = acc)
  few : acc.length ≤ k
section
variable {w0 w w' : World} {os : List ItO} {k : Nat} {v : Value} {acc : List It} {good : Bool}
theorem Rm.next (h : Rm w0 os k v acc good w) (hb : Below w.heap.size w w') : Rm w0 os k v acc good w' := ⟨ownsRow_below h.own hb, h.below.andThen hb, h.gat, h.few⟩
theorem Rm.item {x : It} {o : ItO} {g2 : Bool} {v' : Value} (h : Rm w0 os k v acc good w) (hx : os[k]? = some o) (ho : (o = .bad 7 ∧ g2 = false) ∨ (o = .it x ∧ g2 = good)) (h1 : w'.ownsRow w0.heap.size 26 6 v' (acc.length + 1) (cellsI acc ++ itC x)) (h2 : w.grownBy w' v.ownBlock) : Rm w0 os (k + 1) v' (acc ++ [x]) g2 w' := by
  obtain ⟨acc2, g, hg⟩ := h.gat
  refine ⟨by unfold OwnI; rw [cellsI_app]; simpa using h1, h.below.trans ((Below.refl w0.heap.size w).grown h2 h.below.size fun k hk => (h.own.lt k hk).1), ?_, by simp; have := h.few; omega⟩
  rw [g, drop_some hx]
  rcases ho with ⟨rfl, rfl⟩ | ⟨rfl, rfl⟩
  · exact ⟨acc2, rfl, nofun⟩
  · exact ⟨acc2 ++ [x], rfl, fun e => by rw [hg e]⟩
end
/-- What an entry is, by what one says. -/
theorem itO_one (F : List UInt8 → Option (List UInt8)) (R : List UInt8 → Int × Bool) (most : Int) :
    itO F R most = if shortB (oneB F R) most = false then .bad 6 else if (oneB F R).guid = [] ∨ (!lateB F R) = false then .bad 7 else .it (oneB F R) := by
  unfold itO
  cases lateB F R <;> simp

set_option maxRecDepth 100000 in
set_option maxHeartbeats 4000000 in
theorem refitems14_any (P : List (Nd × Value)) (v : Value) (many most : Int) (w : World) (h : NdSl w v P) (hn : P.length ≤ 1000000) (hT : sumT (nodes P) ≤ 2000000) :
    Calls Tryz.prog 24 #[v, .int .i64 many, .int .i64 most] w (RefItsPost w (itsB (nodes P) r822R many most)) := by
  obtain ⟨o, ho⟩ : ∃ o, itsB (nodes P) r822R many most = o := ⟨_, rfl⟩
  rw [ho]
  unfold itsB readB at ho
  have hch := refchannel14_any P v w h hn
  have hnx := fun W (hb : Below w.heap.size w W) => h.next hb
  have hone := fun W i (hb : Below w.heap.size w W) => refone14_any P v i W (h.next hb) hn hT
  obtain ⟨a, ac, hv⟩ := h.form
  cases hcB : chanB (nodes P) with
  | none =>
    rw [hcB] at hch ho
    subst ho
    replace hch := Lib.hid hch
    clear hnx h hone
    subst hv
    go_enter Tryz.func24, Tryz.ntmps24
    go_wp2_with fail
    refine hch.out.mono ?_
    rintro e w1 ⟨rfl, hb⟩
    replace hb := Lib.hid hb
    go_wp2_with fail
    go_ret2
    exact ⟨rfl, hb.out⟩
  | some c =>
    rw [hcB] at hch ho
    simp only at ho
    have hnm := fun W (hb : Below w.heap.size w W) => refnamed12_any P v c itemL W (hnx W hb) hn
    have hSl := namedB_len (nodes P) c itemL
    rw [nodes_len] at hSl
    generalize namedB (nodes P) c itemL = S at ho hnm hSl
    obtain ⟨os, hos⟩ : ∃ os, S.map (fun i => itO (fieldB (nodes P) i) r822R most) = os := ⟨_, rfl⟩
    rw [hos] at ho
    have hol : os.length = S.length := by rw [← hos, List.length_map]
    unfold itemL at hnm
    subst hv
    replace ho := Lib.hid ho
    replace hch := Lib.hid hch
    replace hnm := Lib.hid hnm
    replace hnx := Lib.hid hnx
    replace hos := Lib.hid hos
    replace hone := Lib.hid hone
    replace h := Lib.hid h
    clear hcB
    have hS1 : (S.length : Int) ≤ 1000000 := by omega
    by_cases hm : many < (S.length : Int)
    · have ho6 := ho.out
      rw [if_pos hm] at ho6
      subst ho6
      clear ho
      go_enter Tryz.func24, Tryz.ntmps24
      go_wp2_with fail
      refine hch.out.mono ?_
      rintro e w1 ⟨rfl, hb⟩
      clear hch
      replace hb := Lib.hid hb
      go_wp2_with fail
      refine (hnm.out w1 hb.out).mono ?_
      rintro e w2 ⟨u, rfl, hu, hb2⟩
      obtain ⟨ua, uc, rfl⟩ := own_form hu
      have hb3 := Lib.hid (hb.out.andThen hb2)
      clear hb2 hu hnm
      go_wp2_with fail
      go_ret2
      exact ⟨rfl, hb3.out⟩
    · have ho6 := ho.out
      rw [if_neg hm] at ho6
      replace ho := Lib.hid ho6
      clear ho6
      go_enter Tryz.func24, Tryz.ntmps24
      go_wp2_with fail
      refine hch.out.mono ?_
      rintro e w1 ⟨rfl, hb⟩
      clear hch
      replace hb := Lib.hid hb
      go_wp2_with fail
      refine (hnm.out w1 hb.out).mono ?_
      rintro e w2 ⟨u, rfl, hu, hb2⟩
      have hb3 := Lib.hid (hb.out.andThen hb2)
      have hrd := hu.rd
      obtain ⟨ua, uc, rfl⟩ := own_form hu
      have hcells : ∀ W, Below w2.heap.size w2 W → ∀ j, j < S.length → ∃ ub uo, ua = some ⟨ub, uo, none⟩ ∧ W.cell? ⟨ub, uo + j, none⟩ = some (.int .i64 (S.getD j 0)) := fun W hb j hj => by
        rcases (hrd.next hb).sl with ⟨rfl, _⟩ | ⟨ub, uo, c, e, hc⟩
        · simp at hj
        · injection e with e1 e2 e3
          exact ⟨ub, uo, e1, hc j hj⟩
      replace hcells := Lib.hid hcells
      clear hb2 hu hnm hrd hb
      have hR : Hid (Rm w2 os 0 (.slice none 0 0) [] true w2) := ⟨World.ownsRow_nil _ _ _ _, Below.refl _ _, ⟨[], rfl, fun _ => rfl⟩, Nat.le_refl _⟩
      go_wp2_with fail
      go_loopw [11, 12, 13] (fun vi gi ii wr => ∃ (k m : Nat) (a' : Option Addr) (c' : Nat) (acc : List It) (good : Bool), vi = .slice a' m c' ∧ gi = .bool good ∧ ii = .int .i64 k ∧ k ≤ S.length ∧ Hid (m = acc.length) ∧ Hid (Rm w2 os k vi acc good wr)) (fun _ _ ii _ => S.length - (intOf ii).toNat)
      case atStart => exact ⟨0, 0, none, 0, [], true, rfl, rfl, rfl, Nat.zero_le _, rfl, hR⟩
      case round =>
        clear hR
        obtain ⟨k, m, a', c', acc, good, rfl, rfl, rfl, hk, hmm, hM⟩ := hrel
        by_cases hlt : k < S.length
        · have hlt1 : (k : Int) < S.length := by omega
          obtain ⟨ub, uo, rfl, i0⟩ := hcells.out wr hM.out.below k hlt
          have hon := hone.out wr (S.getD k 0) (hb3.out.andThen (hM.out.below))
          have hx : os[k]? = some (itO (fieldB (nodes P) (S.getD k 0)) r822R most) := by
            rw [← hos.out, List.getElem?_map, List.getElem?_eq_getElem hlt]; simp [List.getD, hlt]
          rw [itO_one] at hx
          have hmk : m ≤ k := by rw [hmm.out]; exact hM.out.few
          generalize S.getD k 0 = at0 at *
          generalize oneB (fieldB (nodes P) at0) r822R = x at hon hx
          generalize (!lateB (fieldB (nodes P) at0) r822R) = fine at hon hx
          have hsh := fun W => refshort14_any x most W
          obtain ⟨sb, hsb⟩ : ∃ sb, shortB x most = sb := ⟨_, rfl⟩
          rw [hsb] at hx hsh
          replace hx := Lib.hid hx
          replace hsb := Lib.hid hsb
          replace hon := Lib.hid hon
          go_wp2_with fail
          refine hon.out.mono ?_
          rintro e w4 ⟨rfl, hb4⟩
          clear hon i0
          have hbx : Below w4.heap.size w4 (w4.alloc (.cells (itC x).toArray 26)) := (Below.refl _ _).alloc (Nat.le_refl _) _
          have hM3 := Lib.hid (Rm.next (hM.out.next hb4) hbx)
          have hw0 := hM3.out.below.size
          have hst := Lib.hid (hsh (w4.alloc (.cells (itC x).toArray 26)))
          have hxn := arrAt_new w4 26 (itC x)
          clear hM hbx hb4 hsh
          obtain ⟨xg, xt, xl, xb, xd, xk⟩ := x
          unfold itV
          unfold itC strV
          unfold itV itC strV at hst
          unfold itC strV at hM3 hxn hw0
          simp only at hM3 hxn hst hx hw0 ⊢
          replace hxn := Lib.hid hxn
          go_wp2_with fail
          refine hst.out.mono ?_
          rintro e w5 ⟨rfl, hb5⟩
          clear hst
          replace hM3 := Lib.hid (hM3.out.next hb5)
          replace hxn := Lib.hid (hxn.out.next hb5)
          have hw5 := hM3.out.below.size
          obtain ⟨⟨y0, -⟩, ⟨y1, -⟩, ⟨y2, -⟩, ⟨y3, -⟩, ⟨y4, -⟩, ⟨y5, -⟩⟩ := row14 (x := ⟨xg, xt, xl, xb, xd, xk⟩) hxn.out
          unfold strV at y0 y1 y2 y3
          simp only at y0 y1 y2 y3 y4 y5
          clear hb5 hw0
          cases sb with
          | false =>
            go_wp2_with fail
            go_ret2
            obtain ⟨acc2, g1, -⟩ := hM3.out.gat
            rw [show o = .bad 6 from ho.out.symm.trans (g1.trans (by rw [drop_some hx.out, if_pos trivial]; rfl))]
            exact ⟨rfl, hb3.out.andThen hM3.out.below⟩
          | true =>
            have hrow := Lib.hid hM3.out.own
            unfold OwnI at hrow
            have hal : acc.length ≤ 1000000 := by rw [← hmm.out]; omega
            have hx2 := hx.out
            rw [if_neg (by decide)] at hx2
            clear hx
            cases fine with
            | false =>
              rw [if_pos (Or.inr rfl)] at hx2
              cases good with
              | false =>
                replace hx2 := Lib.hid hx2
                go_wp2_with (at_builtin; go_must (refine wpList_appendk rfl _ _ 22 26 rfl Tryz.underlying22 (.agg #[.string ⟨#[]⟩, .string ⟨#[]⟩, .string ⟨#[]⟩, .string ⟨#[]⟩, .int .i64 0, .bool false]) 6 80 info_item rfl (by decide) (by decide) w2.heap.size _ acc.length (cellsI acc) [.string ⟨xg.toArray⟩, .string ⟨xt.toArray⟩, .string ⟨xl.toArray⟩, .string ⟨xb.toArray⟩, .int .i64 xd, .bool xk] rfl hrow.out rfl (by first | rfl | simp [Act.eval]) (by intro u hu; simp at hu; rcases hu with rfl | rfl | rfl | rfl | rfl | rfl <;> rfl) (by omega) hw5 ?_))
                intro v2 w7 h1 h2 h3
                have hM4 := Rm.item (x := ⟨xg, xt, xl, xb, xd, xk⟩) (g2 := false) hM3.out hx2.out (Or.inl ⟨rfl, rfl⟩) h1.out h2.out
                obtain ⟨a2, c2, rfl⟩ := own_form h1.out
                clear h1 h2 h3 hrow hM3
                replace hM4 := Lib.hid hM4
                go_wp2_with fail
                exact ⟨⟨k + 1, acc.length + 1, a2, c2, _, false, rfl, rfl, by go_num, by omega, Lib.hid (by simp), hM4⟩, by simp [intOf]; omega⟩
              | true =>
                replace hx2 := Lib.hid hx2
                go_wp2_with (at_builtin; go_must (refine wpList_appendk rfl _ _ 22 26 rfl Tryz.underlying22 (.agg #[.string ⟨#[]⟩, .string ⟨#[]⟩, .string ⟨#[]⟩, .string ⟨#[]⟩, .int .i64 0, .bool false]) 6 80 info_item rfl (by decide) (by decide) w2.heap.size _ acc.length (cellsI acc) [.string ⟨xg.toArray⟩, .string ⟨xt.toArray⟩, .string ⟨xl.toArray⟩, .string ⟨xb.toArray⟩, .int .i64 xd, .bool xk] rfl hrow.out rfl (by first | rfl | simp [Act.eval]) (by intro u hu; simp at hu; rcases hu with rfl | rfl | rfl | rfl | rfl | rfl <;> rfl) (by omega) hw5 ?_))
                intro v2 w7 h1 h2 h3
                have hM4 := Rm.item (x := ⟨xg, xt, xl, xb, xd, xk⟩) (g2 := false) hM3.out hx2.out (Or.inl ⟨rfl, rfl⟩) h1.out h2.out
                obtain ⟨a2, c2, rfl⟩ := own_form h1.out
                clear h1 h2 h3 hrow hM3
                replace hM4 := Lib.hid hM4
                go_wp2_with fail
                exact ⟨⟨k + 1, acc.length + 1, a2, c2, _, false, rfl, rfl, by go_num, by omega, Lib.hid (by simp), hM4⟩, by simp [intOf]; omega⟩
            | true =>
              by_cases hg : xg = []
              · rw [if_pos (Or.inl hg)] at hx2
                subst hg
                cases good with
                | false =>
                  replace hx2 := Lib.hid hx2
                  go_wp2_with (at_builtin; go_must (refine wpList_appendk rfl _ _ 22 26 rfl Tryz.underlying22 (.agg #[.string ⟨#[]⟩, .string ⟨#[]⟩, .string ⟨#[]⟩, .string ⟨#[]⟩, .int .i64 0, .bool false]) 6 80 info_item rfl (by decide) (by decide) w2.heap.size _ acc.length (cellsI acc) [.string ⟨#[]⟩, .string ⟨xt.toArray⟩, .string ⟨xl.toArray⟩, .string ⟨xb.toArray⟩, .int .i64 xd, .bool xk] rfl hrow.out rfl (by first | rfl | simp [Act.eval]) (by intro u hu; simp at hu; rcases hu with rfl | rfl | rfl | rfl | rfl | rfl <;> rfl) (by omega) hw5 ?_))
                  intro v2 w7 h1 h2 h3
                  have hM4 := Rm.item (x := ⟨[], xt, xl, xb, xd, xk⟩) (g2 := false) hM3.out hx2.out (Or.inl ⟨rfl, rfl⟩) h1.out h2.out
                  obtain ⟨a2, c2, rfl⟩ := own_form h1.out
                  clear h1 h2 h3 hrow hM3
                  replace hM4 := Lib.hid hM4
                  go_wp2_with fail
                  exact ⟨⟨k + 1, acc.length + 1, a2, c2, _, false, rfl, rfl, by go_num, by omega, Lib.hid (by simp), hM4⟩, by simp [intOf]; omega⟩
                | true =>
                  replace hx2 := Lib.hid hx2
                  go_wp2_with (at_builtin; go_must (refine wpList_appendk rfl _ _ 22 26 rfl Tryz.underlying22 (.agg #[.string ⟨#[]⟩, .string ⟨#[]⟩, .string ⟨#[]⟩, .string ⟨#[]⟩, .int .i64 0, .bool false]) 6 80 info_item rfl (by decide) (by decide) w2.heap.size _ acc.length (cellsI acc) [.string ⟨#[]⟩, .string ⟨xt.toArray⟩, .string ⟨xl.toArray⟩, .string ⟨xb.toArray⟩, .int .i64 xd, .bool xk] rfl hrow.out rfl (by first | rfl | simp [Act.eval]) (by intro u hu; simp at hu; rcases hu with rfl | rfl | rfl | rfl | rfl | rfl <;> rfl) (by omega) hw5 ?_))
                  intro v2 w7 h1 h2 h3
                  have hM4 := Rm.item (x := ⟨[], xt, xl, xb, xd, xk⟩) (g2 := false) hM3.out hx2.out (Or.inl ⟨rfl, rfl⟩) h1.out h2.out
                  obtain ⟨a2, c2, rfl⟩ := own_form h1.out
                  clear h1 h2 h3 hrow hM3
                  replace hM4 := Lib.hid hM4
                  go_wp2_with fail
                  exact ⟨⟨k + 1, acc.length + 1, a2, c2, _, false, rfl, rfl, by go_num, by omega, Lib.hid (by simp), hM4⟩, by simp [intOf]; omega⟩
              · rw [if_neg (by rintro (e | e); exact hg e; cases e)] at hx2
                have hg2 : (xg == []) = false := by rw [beq_eq_false_iff_ne]; exact hg
                cases good with
                | false =>
                  replace hx2 := Lib.hid hx2
                  go_wp2_with (at_builtin; go_must (refine wpList_appendk rfl _ _ 22 26 rfl Tryz.underlying22 (.agg #[.string ⟨#[]⟩, .string ⟨#[]⟩, .string ⟨#[]⟩, .string ⟨#[]⟩, .int .i64 0, .bool false]) 6 80 info_item rfl (by decide) (by decide) w2.heap.size _ acc.length (cellsI acc) [.string ⟨xg.toArray⟩, .string ⟨xt.toArray⟩, .string ⟨xl.toArray⟩, .string ⟨xb.toArray⟩, .int .i64 xd, .bool xk] rfl hrow.out rfl (by first | rfl | simp [Act.eval]) (by intro u hu; simp at hu; rcases hu with rfl | rfl | rfl | rfl | rfl | rfl <;> rfl) (by omega) hw5 ?_))
                  intro v2 w7 h1 h2 h3
                  have hM4 := Rm.item (x := ⟨xg, xt, xl, xb, xd, xk⟩) (g2 := false) hM3.out hx2.out (Or.inr ⟨rfl, rfl⟩) h1.out h2.out
                  obtain ⟨a2, c2, rfl⟩ := own_form h1.out
                  clear h1 h2 h3 hrow hM3
                  replace hM4 := Lib.hid hM4
                  go_wp2_with fail
                  exact ⟨⟨k + 1, acc.length + 1, a2, c2, _, false, rfl, rfl, by go_num, by omega, Lib.hid (by simp), hM4⟩, by simp [intOf]; omega⟩
                | true =>
                  replace hx2 := Lib.hid hx2
                  go_wp2_with (at_builtin; go_must (refine wpList_appendk rfl _ _ 22 26 rfl Tryz.underlying22 (.agg #[.string ⟨#[]⟩, .string ⟨#[]⟩, .string ⟨#[]⟩, .string ⟨#[]⟩, .int .i64 0, .bool false]) 6 80 info_item rfl (by decide) (by decide) w2.heap.size _ acc.length (cellsI acc) [.string ⟨xg.toArray⟩, .string ⟨xt.toArray⟩, .string ⟨xl.toArray⟩, .string ⟨xb.toArray⟩, .int .i64 xd, .bool xk] rfl hrow.out rfl (by first | rfl | simp [Act.eval]) (by intro u hu; simp at hu; rcases hu with rfl | rfl | rfl | rfl | rfl | rfl <;> rfl) (by omega) hw5 ?_))
                  intro v2 w7 h1 h2 h3
                  have hM4 := Rm.item (x := ⟨xg, xt, xl, xb, xd, xk⟩) (g2 := true) hM3.out hx2.out (Or.inr ⟨rfl, rfl⟩) h1.out h2.out
                  obtain ⟨a2, c2, rfl⟩ := own_form h1.out
                  clear h1 h2 h3 hrow hM3
                  replace hM4 := Lib.hid hM4
                  go_wp2_with fail
                  exact ⟨⟨k + 1, acc.length + 1, a2, c2, _, true, rfl, rfl, by go_num, by omega, Lib.hid (by simp), hM4⟩, by simp [intOf]; omega⟩
        · have hlt2 : ¬ ((k : Int) < S.length) := by omega
          have hdr : os.drop k = [] := List.drop_eq_nil_of_le (by omega)
          obtain ⟨acc2, g1, g2⟩ := hM.out.gat
          have hgo := ho.out.symm.trans g1
          rw [hdr] at hgo
          have hown := Lib.hid (ownsRow_mono hM.out.own hb3.out.size)
          have hbl := Lib.hid (hb3.out.andThen hM.out.below)
          replace hgo := Lib.hid hgo
          cases good with
          | false =>
            clear g1 g2
            go_wp2_with fail
            go_ret2
            rw [show o = .bad 7 from hgo.out]
            exact ⟨rfl, hbl.out⟩
          | true =>
            obtain rfl := g2 rfl
            clear g1 g2
            go_wp2_with fail
            go_ret2
            rw [show o = .its acc2 from hgo.out]
            exact ⟨_, rfl, by unfold OwnI; exact hmm.out ▸ hown.out, hbl.out⟩
theorem RefItsPost.good {w w' : World} {l : List It} {e : Ending} (h : RefItsPost w (.its l) e w') : ∃ v, e = .returned (.tuple #[v, .int .i64 0]) ∧ OwnI w' w.heap.size v l ∧ Below w.heap.size w w' := h
theorem RefItsPost.no {w w' : World} {q : Int} {e : Ending} (h : RefItsPost w (.bad q) e w') : e = .returned (.tuple #[.slice none 0 0, .int .i64 q]) ∧ Below w.heap.size w w' := h
end Go.Proofs.YtahohmdbiiknoaaGreatDoor
