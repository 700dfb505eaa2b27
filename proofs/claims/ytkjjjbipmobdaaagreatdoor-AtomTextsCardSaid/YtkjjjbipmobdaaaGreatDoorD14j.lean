/- Layer 14: the reference's one. -/
import Derived.Test.YtkjjjbipmobdaaaGreatDoorD14w
import Derived.Test.YtkjjjbipmobdaaaGreatDoorD14h
import Derived.Test.YtkjjjbipmobdaaaGreatDoorBR17
namespace Go.Proofs.YtkjjjbipmobdaaaGreatDoor
open Go.RowKit

def dateO (R : List UInt8 → Int × Bool) : Option (List UInt8) → Int
  | none => 0
  | some s => (R s).1
def datedO (R : List UInt8 → Int × Bool) : Option (List UInt8) → Bool
  | none => false
  | some s => (R s).2
def fineO (R : List UInt8 → Int × Bool) : Option (List UInt8) → Bool
  | none => true
  | some s => (R s).2
theorem fineO_late (F : List UInt8 → Option (List UInt8)) (R : List UInt8 → Int × Bool) : (!lateB F R) = fineO R (F pubL) := by
  unfold lateB
  cases F pubL with
  | none => rfl
  | some s => simp [fineO]
theorem oneB_is {F : List UInt8 → Option (List UInt8)} (R : List UInt8 → Int × Bool) {s1 s2 s3 s4 : List UInt8} (h1 : (F guidL).getD [] = s1) (h2 : (F titleL).getD [] = s2) (h3 : (F linkL).getD [] = s3) (h4 : (F descL).getD [] = s4) :
    oneB F R = ⟨s1, s2, s3, s4, dateO R (F pubL), datedO R (F pubL)⟩ := by
  subst h1 h2 h3 h4
  unfold oneB
  cases F pubL <;> rfl
def OnePost (w : World) (x : It) (fine : Bool) (e : Ending) (w' : World) : Prop := e = .returned (.tuple #[itV x, .bool fine]) ∧ Below w.heap.size w w'

set_option maxRecDepth 100000 in
set_option maxHeartbeats 4000000 in
theorem refone14_any (P : List (Nd × Value)) (v : Value) (i : Int) (w : World) (h : NdSl w v P) (hn : P.length ≤ 1000000) (hT : sumT (nodes P) ≤ 2000000) :
    Calls Tryz.prog 45 #[v, .int .i64 i] w (OnePost w (oneB (fieldB (nodes P) i) r822R) (!lateB (fieldB (nodes P) i) r822R)) := by
  have hO := On.new w
  obtain ⟨s1, h1⟩ : ∃ s, (fieldB (nodes P) i guidL).getD [] = s := ⟨_, rfl⟩
  obtain ⟨s2, h2⟩ : ∃ s, (fieldB (nodes P) i titleL).getD [] = s := ⟨_, rfl⟩
  obtain ⟨s3, h3⟩ : ∃ s, (fieldB (nodes P) i linkL).getD [] = s := ⟨_, rfl⟩
  obtain ⟨s4, h4⟩ : ∃ s, (fieldB (nodes P) i descL).getD [] = s := ⟨_, rfl⟩
  have f1 := Lib.hid (fun W (hW : Below w.heap.size w W) => (reffield14_any P v i guidL W (h.next hW) hn hT).mono fun e w' q => q.tells h1)
  have f2 := Lib.hid (fun W (hW : Below w.heap.size w W) => (reffield14_any P v i titleL W (h.next hW) hn hT).mono fun e w' q => q.tells h2)
  have f3 := Lib.hid (fun W (hW : Below w.heap.size w W) => (reffield14_any P v i linkL W (h.next hW) hn hT).mono fun e w' q => q.tells h3)
  have f4 := Lib.hid (fun W (hW : Below w.heap.size w W) => (reffield14_any P v i descL W (h.next hW) hn hT).mono fun e w' q => q.tells h4)
  have f5 := fun W (hW : Below w.heap.size w W) => reffield14_any P v i pubL W (h.next hW) hn hT
  have hT2 := fun s (e : fieldB (nodes P) i pubL = some s) => fieldB_bd e
  rw [fineO_late, oneB_is r822R h1 h2 h3 h4]
  generalize fieldB (nodes P) i pubL = op at f5 hT2
  unfold pubL at f5
  replace f5 := Lib.hid f5
  obtain ⟨a, ac, hv⟩ := h.form
  replace hO := Lib.hid hO
  clear h1 h2 h3 h4 h
  subst hv
  obtain ⟨xo, hxo⟩ : ∃ x : It × Bool, ((⟨s1, s2, s3, s4, dateO r822R op, datedO r822R op⟩ : It), fineO r822R op) = x := ⟨_, rfl⟩
  rw [show (⟨s1, s2, s3, s4, dateO r822R op, datedO r822R op⟩ : It) = xo.1 from congrArg Prod.fst hxo, show fineO r822R op = xo.2 from congrArg Prod.snd hxo]
  replace hxo := Lib.hid hxo
  unfold itC it0 strV at hO
  simp only at hO
  go_enter Tryz.func45, Tryz.ntmps45
  go_wp2_with fail
  refine (f1.out _ hO.out.below).mono ?_
  rintro e w1 ⟨rfl, hb⟩
  clear f1
  replace hO := Lib.hid (hO.out.next hb)
  clear hb
  obtain ⟨⟨g0, k0⟩, ⟨g1, k1⟩, ⟨g2, k2⟩, ⟨g3, k3⟩, ⟨g4, k4⟩, ⟨g5, k5⟩⟩ := row14 hO.out.r1
  replace hO := Lib.hid (hO.out.set 0 (.string ⟨s1.toArray⟩) ⟨s1, [], [], [], 0, false⟩ rfl)
  go_wp2_with fail
  clear g0 g1 g2 g3 g4 g5 k0 k1 k2 k3 k4 k5
  refine (f2.out _ hO.out.below).mono ?_
  rintro e w2 ⟨rfl, hb⟩
  clear f2
  replace hO := Lib.hid (hO.out.next hb)
  clear hb
  obtain ⟨⟨g0, k0⟩, ⟨g1, k1⟩, ⟨g2, k2⟩, ⟨g3, k3⟩, ⟨g4, k4⟩, ⟨g5, k5⟩⟩ := row14 hO.out.r1
  replace hO := Lib.hid (hO.out.set 1 (.string ⟨s2.toArray⟩) ⟨s1, s2, [], [], 0, false⟩ rfl)
  go_wp2_with fail
  clear g0 g1 g2 g3 g4 g5 k0 k1 k2 k3 k4 k5
  refine (f3.out _ hO.out.below).mono ?_
  rintro e w3 ⟨rfl, hb⟩
  clear f3
  replace hO := Lib.hid (hO.out.next hb)
  clear hb
  obtain ⟨⟨g0, k0⟩, ⟨g1, k1⟩, ⟨g2, k2⟩, ⟨g3, k3⟩, ⟨g4, k4⟩, ⟨g5, k5⟩⟩ := row14 hO.out.r1
  replace hO := Lib.hid (hO.out.set 2 (.string ⟨s3.toArray⟩) ⟨s1, s2, s3, [], 0, false⟩ rfl)
  go_wp2_with fail
  clear g0 g1 g2 g3 g4 g5 k0 k1 k2 k3 k4 k5
  refine (f4.out _ hO.out.below).mono ?_
  rintro e w4 ⟨rfl, hb⟩
  clear f4
  replace hO := Lib.hid (hO.out.next hb)
  clear hb
  obtain ⟨⟨g0, k0⟩, ⟨g1, k1⟩, ⟨g2, k2⟩, ⟨g3, k3⟩, ⟨g4, k4⟩, ⟨g5, k5⟩⟩ := row14 hO.out.r1
  replace hO := Lib.hid (hO.out.set 3 (.string ⟨s4.toArray⟩) ⟨s1, s2, s3, s4, 0, false⟩ rfl)
  go_wp2_with fail
  clear g0 g1 g2 g3 g4 g5 k0 k1 k2 k3 k4 k5
  refine (f5.out _ hO.out.below).mono ?_
  rintro e w5 ⟨rfl, hb⟩
  clear f5
  replace hO := Lib.hid (hO.out.next hb)
  clear hb
  cases op with
  | none =>
    obtain ⟨⟨g0, k0⟩, ⟨g1, k1⟩, ⟨g2, k2⟩, ⟨g3, k3⟩, ⟨g4, k4⟩, ⟨g5, k5⟩⟩ := row14 hO.out.r1
    obtain ⟨⟨q0, j0⟩, ⟨q1, j1⟩, ⟨q2, j2⟩, ⟨q3, j3⟩, ⟨q4, j4⟩, ⟨q5, j5⟩⟩ := row14_zero hO.out.r0
    unfold strV at g0 g1 g2 g3
    have hz := Lib.hid (row14 (row14_set hO.out.r0 ⟨s1, s2, s3, s4, 0, false⟩))
    have hbw := Lib.hid (setIt_below ⟨s1, s2, s3, s4, 0, false⟩ hO.out.below (Nat.le_refl _))
    unfold strV at hz
    simp only at hz
    go_wp2_with fail
    obtain ⟨⟨z0, -⟩, ⟨z1, -⟩, ⟨z2, -⟩, ⟨z3, -⟩, ⟨z4, -⟩, ⟨z5, -⟩⟩ := hz.out
    (try simp only [Exit.inBlock, Exit.then])
    refine bodyPost_ret (v := .tuple #[itV ⟨s1, s2, s3, s4, 0, false⟩, .bool true]) (by simp [results, Tryz.results45, go_sem, z0, z1, z2, z3, z4, z5]; rfl) rfl ?_
    rw [← hxo.out]
    exact ⟨rfl, hbw.out⟩
  | some s =>
    have hs8 := hT2 s rfl
    have hrf := rfc822r_any s w5 (by omega)
    clear hT2
    replace hxo := hxo.out
    unfold dateO datedO fineO at hxo
    simp only at hxo
    generalize r822R s = r at hrf hxo
    obtain ⟨d, k⟩ := r
    replace hxo := Lib.hid hxo
    replace hrf := Lib.hid hrf
    go_wp2_with fail
    refine hrf.out.mono ?_
    rintro e w6 ⟨rfl, hb⟩
    clear hrf
    replace hO := Lib.hid (hO.out.next (hb.below _))
    clear hb
    obtain ⟨⟨g0, k0⟩, ⟨g1, k1⟩, ⟨g2, k2⟩, ⟨g3, k3⟩, ⟨g4, k4⟩, ⟨g5, k5⟩⟩ := row14 hO.out.r1
    unfold strV at g0 g1 g2 g3
    have hO2 := Lib.hid ((hO.out.set 4 (.int .i64 d) ⟨s1, s2, s3, s4, d, false⟩ rfl).set 5 (.bool k) ⟨s1, s2, s3, s4, d, k⟩ rfl)
    go_upto_region 11 with (fail)
    clear g0 g1 g2 g3 g4 g5 k0 k1 k2 k3 k4 k5 hO
    generalize ((w6.setCell ⟨w.heap.size + 1, 4, none⟩ (.int .i64 d)).setCell ⟨w.heap.size + 1, 5, none⟩ (.bool k)) = w7 at *
    obtain ⟨⟨g0, k0⟩, ⟨g1, k1⟩, ⟨g2, k2⟩, ⟨g3, k3⟩, ⟨g4, k4⟩, ⟨g5, k5⟩⟩ := row14 hO2.out.r1
    obtain ⟨⟨q0, j0⟩, ⟨q1, j1⟩, ⟨q2, j2⟩, ⟨q3, j3⟩, ⟨q4, j4⟩, ⟨q5, j5⟩⟩ := row14_zero hO2.out.r0
    unfold strV at g0 g1 g2 g3
    have hz := Lib.hid (row14 (row14_set hO2.out.r0 ⟨s1, s2, s3, s4, d, k⟩))
    have hbw := Lib.hid (setIt_below ⟨s1, s2, s3, s4, d, k⟩ hO2.out.below (Nat.le_refl _))
    unfold strV at hz
    simp only at hz
    go_wp2_with fail
    obtain ⟨⟨z0, -⟩, ⟨z1, -⟩, ⟨z2, -⟩, ⟨z3, -⟩, ⟨z4, -⟩, ⟨z5, -⟩⟩ := hz.out
    (try simp only [Exit.inBlock, Exit.then])
    refine bodyPost_ret (v := .tuple #[itV ⟨s1, s2, s3, s4, d, k⟩, .bool k]) (by simp [results, Tryz.results45, go_sem, z0, z1, z2, z3, z4, z5]; rfl) rfl ?_
    rw [← hxo.out]
    exact ⟨rfl, hbw.out⟩
end Go.Proofs.YtkjjjbipmobdaaaGreatDoor
