/- Layer 14: an entry. -/
import Derived.Test.YtkjjjbipmobdaaaGreatDoorBR20
namespace Go.Proofs.YtkjjjbipmobdaaaGreatDoor
open Go.RowKit

theorem row14 {w : World} {b : Nat} {x : It} {t : TypeId} (h : ArrAt w b t (itC x)) : (w.cell? ⟨b, 0, none⟩ = some (strV x.guid) ∧ w.frozen? ⟨b, 0, none⟩ = false) ∧ (w.cell? ⟨b, 1, none⟩ = some (strV x.title) ∧ w.frozen? ⟨b, 1, none⟩ = false) ∧ (w.cell? ⟨b, 2, none⟩ = some (strV x.link) ∧ w.frozen? ⟨b, 2, none⟩ = false) ∧ (w.cell? ⟨b, 3, none⟩ = some (strV x.body) ∧ w.frozen? ⟨b, 3, none⟩ = false) ∧ (w.cell? ⟨b, 4, none⟩ = some (.int .i64 x.date) ∧ w.frozen? ⟨b, 4, none⟩ = false) ∧ (w.cell? ⟨b, 5, none⟩ = some (.bool x.dated) ∧ w.frozen? ⟨b, 5, none⟩ = false) :=
  ⟨⟨h.cell 0, h.soft 0⟩, ⟨h.cell 1, h.soft 1⟩, ⟨h.cell 2, h.soft 2⟩, ⟨h.cell 3, h.soft 3⟩, ⟨h.cell 4, h.soft 4⟩, ⟨h.cell 5, h.soft 5⟩⟩
theorem row14_set {w : World} {b : Nat} {x : It} {t : TypeId} (h : ArrAt w b t (itC x)) (y : It) : ArrAt ((((((w.setCell ⟨b, 0, none⟩ (strV y.guid)).setCell ⟨b, 1, none⟩ (strV y.title)).setCell ⟨b, 2, none⟩ (strV y.link)).setCell ⟨b, 3, none⟩ (strV y.body)).setCell ⟨b, 4, none⟩ (.int .i64 y.date)).setCell ⟨b, 5, none⟩ (.bool y.dated)) b t (itC y) :=
  (((((h.set 0 _).set 1 _).set 2 _).set 3 _).set 4 _).set 5 _
theorem row14_zero {w : World} {b : Nat} {t : TypeId} (h : ArrAt w b t (itC it0)) : (w.cell? ⟨b, 0, none⟩ = some (.string ⟨#[]⟩) ∧ w.frozen? ⟨b, 0, none⟩ = false) ∧ (w.cell? ⟨b, 1, none⟩ = some (.string ⟨#[]⟩) ∧ w.frozen? ⟨b, 1, none⟩ = false) ∧ (w.cell? ⟨b, 2, none⟩ = some (.string ⟨#[]⟩) ∧ w.frozen? ⟨b, 2, none⟩ = false) ∧ (w.cell? ⟨b, 3, none⟩ = some (.string ⟨#[]⟩) ∧ w.frozen? ⟨b, 3, none⟩ = false) ∧ (w.cell? ⟨b, 4, none⟩ = some (.int .i64 0) ∧ w.frozen? ⟨b, 4, none⟩ = false) ∧ (w.cell? ⟨b, 5, none⟩ = some (.bool false) ∧ w.frozen? ⟨b, 5, none⟩ = false) := row14 h
/-- A row of an entry, set anew. -/
def setIt (w : World) (b : Nat) (y : It) : World := ((((((w.setCell ⟨b, 0, none⟩ (strV y.guid)).setCell ⟨b, 1, none⟩ (strV y.title)).setCell ⟨b, 2, none⟩ (strV y.link)).setCell ⟨b, 3, none⟩ (strV y.body)).setCell ⟨b, 4, none⟩ (.int .i64 y.date)).setCell ⟨b, 5, none⟩ (.bool y.dated))
theorem setIt_below {w0 w : World} {b : Nat} (y : It) (h : Below w0.heap.size w0 w) (hb : w0.heap.size ≤ b) : Below w0.heap.size w0 (setIt w b y) :=
  (((((h.setCell (p := ⟨b, 0, none⟩) hb _).setCell (p := ⟨b, 1, none⟩) hb _).setCell (p := ⟨b, 2, none⟩) hb _).setCell (p := ⟨b, 3, none⟩) hb _).setCell (p := ⟨b, 4, none⟩) hb _).setCell (p := ⟨b, 5, none⟩) hb _
theorem bad_end {w W : World} {B f : Nat} {q : Int} (hw : Below w.heap.size w W) (hB : w.heap.size ≤ B) (hr : ArrAt W B 40 (itC it0)) (hf : FaultAt W f 0 (codeV q)) (hlow : w.heap.size ≤ f) : ItPost w (.bad q) (.returned (.tuple #[itV it0, faultV f])) (setIt W B it0) := by
  have hne : f ≠ B := arr_apart hf hr (by decide)
  exact ⟨f, rfl, hlow, ((((((hf.far 0 _ hne).far 1 _ hne).far 2 _ hne).far 3 _ hne).far 4 _ hne).far 5 _ hne), setIt_below it0 hw hB⟩
theorem it_end {w W : World} {B : Nat} (x : It) (hw : Below w.heap.size w W) (hB : w.heap.size ≤ B) : ItPost w (.it x) (.returned (.tuple #[itV x, .nilIface])) (setIt W B x) := ⟨rfl, setIt_below x hw hB⟩
theorem itO_is {F : List UInt8 → Option (List UInt8)} {R : List UInt8 → Int × Bool} {most : Int} {s1 s2 s3 s4 : List UInt8} (h1 : (F guidL).getD [] = s1) (h2 : (F titleL).getD [] = s2) (h3 : (F linkL).getD [] = s3) (h4 : (F descL).getD [] = s4) :
    itO F R most = if shortB ⟨s1, s2, s3, s4, 0, false⟩ most = false then .bad 6 else match F pubL with
      | none => if s1 = [] then .bad 7 else .it ⟨s1, s2, s3, s4, 0, false⟩
      | some s => if s1 = [] ∨ (R s).2 = false then .bad 7 else .it ⟨s1, s2, s3, s4, (R s).1, (R s).2⟩ := by
  subst h1 h2 h3 h4
  have hs : shortB (oneB F R) most = shortB ⟨(F guidL).getD [], (F titleL).getD [], (F linkL).getD [], (F descL).getD [], 0, false⟩ most := rfl
  unfold itO lateB
  rw [hs]
  unfold oneB
  cases F pubL with
  | none => simp
  | some s => simp
/-- The rows of one's result and of its variable. -/
structure On (w0 : World) (x : It) (w : World) : Prop where
  r0 : ArrAt w w0.heap.size 40 (itC it0)
  r1 : ArrAt w (w0.heap.size + 1) 40 (itC x)
  below : Below w0.heap.size w0 w
section
variable {w0 w w' : World} {x : It}
theorem On.next (h : On w0 x w) (hb : Below w.heap.size w w') : On w0 x w' := ⟨h.r0.next hb, h.r1.next hb, h.below.andThen hb⟩
theorem On.set (h : On w0 x w) (k : Nat) (u : Value) (y : It) (e : (itC x).set k u = itC y) : On w0 y (w.setCell ⟨w0.heap.size + 1, k, none⟩ u) :=
  ⟨h.r0.far k u (by omega), e ▸ h.r1.set k u, h.below.setCell (p := ⟨w0.heap.size + 1, k, none⟩) (Nat.le_succ _) u⟩
theorem On.new (w : World) : On w it0 ((w.alloc (.cells (itC it0).toArray 40)).alloc (.cells (itC it0).toArray 40)) := by
  have h1 := arrAt_new w 40 (itC it0)
  have h2 := arrAt_new (w.alloc (.cells (itC it0).toArray 40)) 40 (itC it0)
  rw [show (w.alloc (.cells (itC it0).toArray 40)).heap.size = w.heap.size + 1 from by simp] at h2
  exact ⟨h1.next ((Below.refl _ _).alloc (Nat.le_refl _) _), h2, ((Below.refl _ _).alloc (Nat.le_refl _) _).alloc (by simp) _⟩
end
theorem FldPost.tells {w w' : World} {o : Option (List UInt8)} {e : Ending} {s : List UInt8} (h : FldPost w o e w') (hs : o.getD [] = s) : e = .returned (.tuple #[.string ⟨s.toArray⟩, .bool o.isSome]) ∧ Below w.heap.size w w' := by
  subst hs; exact h
theorem drew_below (w : World) : Below w.heap.size w w.drew := (drawn_drew w).below _
set_option maxRecDepth 100000 in
set_option maxHeartbeats 4000000 in
theorem entry14_any (P : List (Nd × Value)) (v : Value) (i most : Int) (w : World) (h : NdSl w v P) (hn : P.length ≤ 1000000) (hT : sumT (nodes P) ≤ 2000000) (hE : Env13 w) :
    Calls Tryz.prog 44 #[v, .int .i64 i, .int .i64 most] w (ItPost w (itO (fieldB (nodes P) i) r822C most)) := by
  have hO := On.new w
  obtain ⟨s1, h1⟩ : ∃ s, (fieldB (nodes P) i guidL).getD [] = s := ⟨_, rfl⟩
  obtain ⟨s2, h2⟩ : ∃ s, (fieldB (nodes P) i titleL).getD [] = s := ⟨_, rfl⟩
  obtain ⟨s3, h3⟩ : ∃ s, (fieldB (nodes P) i linkL).getD [] = s := ⟨_, rfl⟩
  obtain ⟨s4, h4⟩ : ∃ s, (fieldB (nodes P) i descL).getD [] = s := ⟨_, rfl⟩
  have f1 := Lib.hid (fun W (hW : Below w.heap.size w W) => (field14_any P v i guidL W (h.next hW) hn hT).mono fun e w' q => q.tells h1)
  have f2 := Lib.hid (fun W (hW : Below w.heap.size w W) => (field14_any P v i titleL W (h.next hW) hn hT).mono fun e w' q => q.tells h2)
  have f3 := Lib.hid (fun W (hW : Below w.heap.size w W) => (field14_any P v i linkL W (h.next hW) hn hT).mono fun e w' q => q.tells h3)
  have f4 := Lib.hid (fun W (hW : Below w.heap.size w W) => (field14_any P v i descL W (h.next hW) hn hT).mono fun e w' q => q.tells h4)
  have f5 := fun W (hW : Below w.heap.size w W) => field14_any P v i pubL W (h.next hW) hn hT
  have hT2 := fun s (e : fieldB (nodes P) i pubL = some s) => fieldB_bd e
  obtain ⟨o, ho⟩ : ∃ o, itO (fieldB (nodes P) i) r822C most = o := ⟨_, rfl⟩
  rw [ho]
  rw [itO_is h1 h2 h3 h4] at ho
  generalize fieldB (nodes P) i pubL = op at f5 hT2 ho
  unfold pubL at f5
  replace f5 := Lib.hid f5
  obtain ⟨a, ac, hv⟩ := h.form
  replace hO := Lib.hid hO
  replace ho := Lib.hid ho
  replace hE := Lib.hid hE
  clear h1 h2 h3 h4 h
  subst hv
  unfold itC it0 strV at hO
  simp only at hO
  go_enter Tryz.func44, Tryz.ntmps44
  go_wp2_with fail
  refine (f1.out _ hO.out.below).mono ?_
  rintro e w1 ⟨rfl, hb⟩
  clear f1
  replace hO := Lib.hid (hO.out.next hb)
  clear hb
  obtain ⟨⟨g0, k0⟩, ⟨g1, k1⟩, ⟨g2, k2⟩, ⟨g3, k3⟩, ⟨g4, k4⟩, ⟨g5, k5⟩⟩ := row14 hO.out.r1
  replace hO := Lib.hid (hO.out.set 0 (.string ⟨s1.toArray⟩) ⟨s1, [], [], [], 0, false⟩ rfl)
  go_wp2_with fail
  clear g0 g1 g2 g3 g4 g5 k0 k1 k2 k3 k4 k5
  refine (f2.out _ hO.out.below).mono ?_
  rintro e w2 ⟨rfl, hb⟩
  clear f2
  replace hO := Lib.hid (hO.out.next hb)
  clear hb
  obtain ⟨⟨g0, k0⟩, ⟨g1, k1⟩, ⟨g2, k2⟩, ⟨g3, k3⟩, ⟨g4, k4⟩, ⟨g5, k5⟩⟩ := row14 hO.out.r1
  replace hO := Lib.hid (hO.out.set 1 (.string ⟨s2.toArray⟩) ⟨s1, s2, [], [], 0, false⟩ rfl)
  go_wp2_with fail
  clear g0 g1 g2 g3 g4 g5 k0 k1 k2 k3 k4 k5
  refine (f3.out _ hO.out.below).mono ?_
  rintro e w3 ⟨rfl, hb⟩
  clear f3
  replace hO := Lib.hid (hO.out.next hb)
  clear hb
  obtain ⟨⟨g0, k0⟩, ⟨g1, k1⟩, ⟨g2, k2⟩, ⟨g3, k3⟩, ⟨g4, k4⟩, ⟨g5, k5⟩⟩ := row14 hO.out.r1
  replace hO := Lib.hid (hO.out.set 2 (.string ⟨s3.toArray⟩) ⟨s1, s2, s3, [], 0, false⟩ rfl)
  go_wp2_with fail
  clear g0 g1 g2 g3 g4 g5 k0 k1 k2 k3 k4 k5
  refine (f4.out _ hO.out.below).mono ?_
  rintro e w4 ⟨rfl, hb⟩
  clear f4
  replace hO := Lib.hid (hO.out.next hb)
  clear hb
  obtain ⟨⟨g0, k0⟩, ⟨g1, k1⟩, ⟨g2, k2⟩, ⟨g3, k3⟩, ⟨g4, k4⟩, ⟨g5, k5⟩⟩ := row14 hO.out.r1
  replace hO := Lib.hid (hO.out.set 3 (.string ⟨s4.toArray⟩) ⟨s1, s2, s3, s4, 0, false⟩ rfl)
  go_upto_region 6 with (fail)
  clear g0 g1 g2 g3 g4 g5 k0 k1 k2 k3 k4 k5
  generalize (w4.setCell ⟨w.heap.size + 1, 3, none⟩ (.string ⟨s4.toArray⟩)) = w4 at *
  obtain ⟨⟨g0, k0⟩, ⟨g1, k1⟩, ⟨g2, k2⟩, ⟨g3, k3⟩, ⟨g4, k4⟩, ⟨g5, k5⟩⟩ := row14 hO.out.r1
  unfold strV at g0 g1 g2 g3
  have hsh := short14_any ⟨s1, s2, s3, s4, 0, false⟩ most w4
  unfold itV itC strV at hsh
  replace hsh := Lib.hid hsh
  go_wp2_with fail
  refine hsh.out.mono ?_
  rintro e w5 ⟨rfl, hb⟩
  clear hsh g0 g1 g2 g3 g4 g5 k0 k1 k2 k3 k4 k5
  replace hO := Lib.hid (hO.out.next hb)
  clear hb
  cases hS : shortB ⟨s1, s2, s3, s4, 0, false⟩ most with
  | false =>
    go_wp2_with fail
    refine (fault14_any 6 _).mono ?_
    rintro e w9 ⟨rfl, hfa, hb9⟩
    have hO9 := hO.out.next hb9
    have hr := hO9.r0
    have hlw := hO.out.below.size
    have hbw := hO9.below
    obtain ⟨⟨g0, k0⟩, ⟨g1, k1⟩, ⟨g2, k2⟩, ⟨g3, k3⟩, ⟨g4, k4⟩, ⟨g5, k5⟩⟩ := row14_zero hr
    have hz := row14_zero (row14_set hr it0)
    unfold it0 strV at hz
    simp only at hz
    replace hz := Lib.hid hz
    replace hfa := Lib.hid hfa
    replace hr := Lib.hid hr
    replace hbw := Lib.hid hbw
    clear hO9
    go_wp2_with fail
    obtain ⟨⟨z0, -⟩, ⟨z1, -⟩, ⟨z2, -⟩, ⟨z3, -⟩, ⟨z4, -⟩, ⟨z5, -⟩⟩ := hz.out
    (try simp only [Exit.inBlock, Exit.then])
    refine bodyPost_ret (v := .tuple #[.agg #[.string ⟨#[]⟩, .string ⟨#[]⟩, .string ⟨#[]⟩, .string ⟨#[]⟩, .int .i64 0, .bool false], _]) (by simp [results, Tryz.results44, go_sem, z0, z1, z2, z3, z4, z5]; rfl) rfl ?_
    rw [show o = .bad 6 from ho.out.symm.trans (if_pos hS)]
    exact bad_end hbw.out (Nat.le_refl _) hr.out (by simpa using hfa.out) (by simpa using hlw)
  | true =>
    have hO2 := ho.out
    rw [if_neg (by rw [hS]; decide)] at hO2
    replace ho := Lib.hid hO2
    clear hO2
    go_wp2_with fail
    refine (f5.out _ hO.out.below).mono ?_
    rintro e w6 ⟨rfl, hb⟩
    clear f5
    replace hO := Lib.hid (hO.out.next hb)
    clear hb
    cases op with
    | none =>
      clear hT2
      obtain ⟨⟨g0, k0⟩, ⟨g1, k1⟩, ⟨g2, k2⟩, ⟨g3, k3⟩, ⟨g4, k4⟩, ⟨g5, k5⟩⟩ := row14 hO.out.r1
      unfold strV at g0 g1 g2 g3
      by_cases hs1 : s1 = []
      · subst hs1
        go_wp2_with fail
        refine (fault14_any 7 _).mono ?_
        rintro e w9 ⟨rfl, hfa, hb9⟩
        have hO9 := hO.out.next hb9
        have hr := hO9.r0
        have hlw := hO.out.below.size
        have hbw := hO9.below
        obtain ⟨⟨g0, k0⟩, ⟨g1, k1⟩, ⟨g2, k2⟩, ⟨g3, k3⟩, ⟨g4, k4⟩, ⟨g5, k5⟩⟩ := row14_zero hr
        have hz := row14_zero (row14_set hr it0)
        unfold it0 strV at hz
        simp only at hz
        replace hz := Lib.hid hz
        replace hfa := Lib.hid hfa
        replace hr := Lib.hid hr
        replace hbw := Lib.hid hbw
        clear hO9
        go_wp2_with fail
        obtain ⟨⟨z0, -⟩, ⟨z1, -⟩, ⟨z2, -⟩, ⟨z3, -⟩, ⟨z4, -⟩, ⟨z5, -⟩⟩ := hz.out
        (try simp only [Exit.inBlock, Exit.then])
        refine bodyPost_ret (v := .tuple #[.agg #[.string ⟨#[]⟩, .string ⟨#[]⟩, .string ⟨#[]⟩, .string ⟨#[]⟩, .int .i64 0, .bool false], _]) (by simp [results, Tryz.results44, go_sem, z0, z1, z2, z3, z4, z5]; rfl) rfl ?_
        rw [show o = .bad 7 from ho.out.symm.trans (by simp)]
        exact bad_end hbw.out (Nat.le_refl _) hr.out (by simpa using hfa.out) (by simpa using hlw)
      · have hs2 : (s1 == []) = false := by rw [beq_eq_false_iff_ne]; exact hs1
        clear g0 g1 g2 g3 g4 g5 k0 k1 k2 k3 k4 k5
        obtain ⟨⟨q0, j0⟩, ⟨q1, j1⟩, ⟨q2, j2⟩, ⟨q3, j3⟩, ⟨q4, j4⟩, ⟨q5, j5⟩⟩ := row14_zero hO.out.r0
        obtain ⟨⟨g0, k0⟩, ⟨g1, k1⟩, ⟨g2, k2⟩, ⟨g3, k3⟩, ⟨g4, k4⟩, ⟨g5, k5⟩⟩ := row14 hO.out.r1
        unfold strV at g0 g1 g2 g3
        have hz := row14 (row14_set hO.out.r0 ⟨s1, s2, s3, s4, 0, false⟩)
        unfold strV at hz
        simp only at hz
        have hbw := Lib.hid hO.out.below
        replace hz := Lib.hid hz
        go_wp2_with fail
        obtain ⟨⟨z0, -⟩, ⟨z1, -⟩, ⟨z2, -⟩, ⟨z3, -⟩, ⟨z4, -⟩, ⟨z5, -⟩⟩ := hz.out
        (try simp only [Exit.inBlock, Exit.then])
        refine bodyPost_ret (v := .tuple #[itV ⟨s1, s2, s3, s4, 0, false⟩, .nilIface]) (by simp [results, Tryz.results44, go_sem, z0, z1, z2, z3, z4, z5]; rfl) rfl ?_
        rw [show o = .it ⟨s1, s2, s3, s4, 0, false⟩ from ho.out.symm.trans (if_neg hs1)]
        exact it_end _ hbw.out (Nat.le_refl _)
    | some s =>
      have hs8 := hT2 s rfl
      have hE3 := hE.out.below hO.out.below
      have hrf := rfc822_any s w6 hE3 (by omega)
      clear hT2 hE3
      replace ho := ho.out
      simp only at ho
      generalize r822C s = r at hrf ho
      obtain ⟨d, k⟩ := r
      replace ho := Lib.hid ho
      replace hrf := Lib.hid hrf
      go_wp2_with fail
      refine hrf.out.mono ?_
      rintro e w7 ⟨rfl, hb⟩
      clear hrf
      replace hO := Lib.hid (hO.out.next hb)
      clear hb
      obtain ⟨⟨g0, k0⟩, ⟨g1, k1⟩, ⟨g2, k2⟩, ⟨g3, k3⟩, ⟨g4, k4⟩, ⟨g5, k5⟩⟩ := row14 hO.out.r1
      unfold strV at g0 g1 g2 g3
      have hO2 := Lib.hid ((hO.out.set 4 (.int .i64 d) ⟨s1, s2, s3, s4, d, false⟩ rfl).set 5 (.bool k) ⟨s1, s2, s3, s4, d, k⟩ rfl)
      go_upto_region 11 with (fail)
      clear g0 g1 g2 g3 g4 g5 k0 k1 k2 k3 k4 k5 hO
      have hO := hO2
      clear hO2
      generalize ((w7.setCell ⟨w.heap.size + 1, 4, none⟩ (.int .i64 d)).setCell ⟨w.heap.size + 1, 5, none⟩ (.bool k)) = w8 at *
      obtain ⟨⟨g0, k0⟩, ⟨g1, k1⟩, ⟨g2, k2⟩, ⟨g3, k3⟩, ⟨g4, k4⟩, ⟨g5, k5⟩⟩ := row14 hO.out.r1
      unfold strV at g0 g1 g2 g3
      by_cases hs1 : s1 = []
      · subst hs1
        go_wp2_with fail
        refine (fault14_any 7 _).mono ?_
        rintro e w9 ⟨rfl, hfa, hb9⟩
        have hO9 := hO.out.next hb9
        have hr := hO9.r0
        have hlw := hO.out.below.size
        have hbw := hO9.below
        obtain ⟨⟨g0, k0⟩, ⟨g1, k1⟩, ⟨g2, k2⟩, ⟨g3, k3⟩, ⟨g4, k4⟩, ⟨g5, k5⟩⟩ := row14_zero hr
        have hz := row14_zero (row14_set hr it0)
        unfold it0 strV at hz
        simp only at hz
        replace hz := Lib.hid hz
        replace hfa := Lib.hid hfa
        replace hr := Lib.hid hr
        replace hbw := Lib.hid hbw
        clear hO9
        go_wp2_with fail
        obtain ⟨⟨z0, -⟩, ⟨z1, -⟩, ⟨z2, -⟩, ⟨z3, -⟩, ⟨z4, -⟩, ⟨z5, -⟩⟩ := hz.out
        (try simp only [Exit.inBlock, Exit.then])
        refine bodyPost_ret (v := .tuple #[.agg #[.string ⟨#[]⟩, .string ⟨#[]⟩, .string ⟨#[]⟩, .string ⟨#[]⟩, .int .i64 0, .bool false], _]) (by simp [results, Tryz.results44, go_sem, z0, z1, z2, z3, z4, z5]; rfl) rfl ?_
        rw [show o = .bad 7 from ho.out.symm.trans (by simp)]
        exact bad_end hbw.out (Nat.le_refl _) hr.out (by simpa using hfa.out) (by simpa using hlw)
      · have hs2 : (s1 == []) = false := by rw [beq_eq_false_iff_ne]; exact hs1
        cases k with
        | false =>
          go_wp2_with fail
          refine (fault14_any 7 _).mono ?_
          rintro e w9 ⟨rfl, hfa, hb9⟩
          have hO9 := hO.out.next hb9
          have hr := hO9.r0
          have hlw := hO.out.below.size
          have hbw := hO9.below
          obtain ⟨⟨g0, k0⟩, ⟨g1, k1⟩, ⟨g2, k2⟩, ⟨g3, k3⟩, ⟨g4, k4⟩, ⟨g5, k5⟩⟩ := row14_zero hr
          have hz := row14_zero (row14_set hr it0)
          unfold it0 strV at hz
          simp only at hz
          replace hz := Lib.hid hz
          replace hfa := Lib.hid hfa
          replace hr := Lib.hid hr
          replace hbw := Lib.hid hbw
          clear hO9
          go_wp2_with fail
          obtain ⟨⟨z0, -⟩, ⟨z1, -⟩, ⟨z2, -⟩, ⟨z3, -⟩, ⟨z4, -⟩, ⟨z5, -⟩⟩ := hz.out
          (try simp only [Exit.inBlock, Exit.then])
          refine bodyPost_ret (v := .tuple #[.agg #[.string ⟨#[]⟩, .string ⟨#[]⟩, .string ⟨#[]⟩, .string ⟨#[]⟩, .int .i64 0, .bool false], _]) (by simp [results, Tryz.results44, go_sem, z0, z1, z2, z3, z4, z5]; rfl) rfl ?_
          rw [show o = .bad 7 from ho.out.symm.trans (by simp)]
          exact bad_end hbw.out (Nat.le_refl _) hr.out (by simpa using hfa.out) (by simpa using hlw)
        | true =>
          clear g0 g1 g2 g3 g4 g5 k0 k1 k2 k3 k4 k5
          obtain ⟨⟨q0, j0⟩, ⟨q1, j1⟩, ⟨q2, j2⟩, ⟨q3, j3⟩, ⟨q4, j4⟩, ⟨q5, j5⟩⟩ := row14_zero hO.out.r0
          obtain ⟨⟨g0, k0⟩, ⟨g1, k1⟩, ⟨g2, k2⟩, ⟨g3, k3⟩, ⟨g4, k4⟩, ⟨g5, k5⟩⟩ := row14 hO.out.r1
          unfold strV at g0 g1 g2 g3
          have hz := row14 (row14_set hO.out.r0 ⟨s1, s2, s3, s4, d, true⟩)
          unfold strV at hz
          simp only at hz
          have hbw := Lib.hid hO.out.below
          replace hz := Lib.hid hz
          go_wp2_with fail
          obtain ⟨⟨z0, -⟩, ⟨z1, -⟩, ⟨z2, -⟩, ⟨z3, -⟩, ⟨z4, -⟩, ⟨z5, -⟩⟩ := hz.out
          (try simp only [Exit.inBlock, Exit.then])
          refine bodyPost_ret (v := .tuple #[itV ⟨s1, s2, s3, s4, d, true⟩, .nilIface]) (by simp [results, Tryz.results44, go_sem, z0, z1, z2, z3, z4, z5]; rfl) rfl ?_
          rw [show o = .it ⟨s1, s2, s3, s4, d, true⟩ from ho.out.symm.trans (if_neg (by rintro (e | e); exact hs1 e; cases e))]
          exact it_end _ hbw.out (Nat.le_refl _)
end Go.Proofs.YtkjjjbipmobdaaaGreatDoor
