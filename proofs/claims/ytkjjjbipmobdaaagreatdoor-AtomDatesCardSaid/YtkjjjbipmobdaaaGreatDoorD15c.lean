/- Layer 15: an entry. -/
import Derived.Test.YtkjjjbipmobdaaaGreatDoorD15a
import Derived.Test.YtkjjjbipmobdaaaGreatDoorD15b
import Derived.Test.YtkjjjbipmobdaaaGreatDoorD14w
import Derived.Test.YtkjjjbipmobdaaaGreatDoorBR32
namespace Go.Proofs.YtkjjjbipmobdaaaGreatDoor
open Go.RowKit

/-- The rows of entry's result and of its variable. -/
structure Oa (w0 : World) (b : Nat) (x : It) (w : World) : Prop where
  r0 : ArrAt w w0.heap.size 40 (itC it0)
  r1 : ArrAt w b 40 (itC x)
  lt : w0.heap.size < b
  below : Below w0.heap.size w0 w
section
variable {w0 w w' : World} {x : It} {b : Nat}
theorem Oa.next (h : Oa w0 b x w) (hb : Below w.heap.size w w') : Oa w0 b x w' := ⟨h.r0.next hb, h.r1.next hb, h.lt, h.below.andThen hb⟩
theorem Oa.set (h : Oa w0 b x w) (k : Nat) (u : Value) (y : It) (e : (itC x).set k u = itC y) : Oa w0 b y (w.setCell ⟨b, k, none⟩ u) :=
  ⟨h.r0.far k u (by have := h.lt; omega), e ▸ h.r1.set k u, h.lt, h.below.setCell (p := ⟨b, k, none⟩) (by have := h.lt; show w0.heap.size ≤ b; omega) u⟩
theorem Oa.new (h : ArrAt w w0.heap.size 40 (itC it0)) (hb : Below w0.heap.size w0 w) (y : It) : Oa w0 w.heap.size y (w.alloc (.cells (itC y).toArray 40)) :=
  ⟨h.next ((Below.refl w.heap.size w).alloc (Nat.le_refl _) (.cells (itC y).toArray 40)), arrAt_new w 40 (itC y), h.lt, hb.alloc hb.size _⟩
end
theorem itA_is {F : List UInt8 → Option (List UInt8)} {L : Option (List UInt8)} (R : List UInt8 → Int × Bool) (most : Int) {s1 s2 s3 s4 dt : List UInt8} (h1 : (F idL).getD [] = s1) (h2 : (F titleL).getD [] = s2) (h3 : L.getD [] = s3) (h4 : (orB (F sumL) (F contL)).getD [] = s4) (h5 : (orB (F updL) (F pubdL)).getD [] = dt) :
    itA F L R most = if shortB ⟨s1, s2, s3, s4, 0, false⟩ most = false then .bad 6 else if s1 = [] ∨ (R dt).2 = false then .bad 7 else .it ⟨s1, s2, s3, s4, (R dt).1, (R dt).2⟩ := by
  subst h1 h2 h3 h4 h5
  rfl
theorem orB_bd (l : List Nd) (i : Int) (a b : List UInt8) : ((orB (fieldB l i a) (fieldB l i b)).getD []).length ≤ 8 * sumT l := by
  unfold orB
  cases e : fieldB l i a with
  | some s => exact fieldB_bd e
  | none =>
    cases e2 : fieldB l i b with
    | some s => exact fieldB_bd e2
    | none => simp
theorem FldPost.tells2 {w w' : World} {o : Option (List UInt8)} {e : Ending} {s : List UInt8} (h : FldPost w o e w') (hs : o.getD [] = s) : ∃ b, e = .returned (.tuple #[.string ⟨s.toArray⟩, .bool b]) ∧ Below w.heap.size w w' := by
  subst hs; exact ⟨_, h⟩
theorem TextPost.andAt {W W0 w' : World} {s : List UInt8} {e : Ending} (h : TextPost W s e w') (hb : Below W0.heap.size W0 W) : e = .returned (.string ⟨s.toArray⟩) ∧ Below W0.heap.size W0 w' := ⟨h.1, hb.andThen h.2⟩

set_option maxRecDepth 100000 in
set_option maxHeartbeats 4000000 in
theorem entry15_any (P : List (Nd × Value)) (v : Value) (i most : Int) (w : World) (h : NdSl w v P) (hn : P.length ≤ 1000000) (hT : sumT (nodes P) ≤ 2000000) (hK : ∀ x ∈ nodes P, AtOk x.attrs) :
    Calls Tryz.prog 32 #[v, .int .i64 i, .int .i64 most] w (ItPost w (itA (fieldB (nodes P) i) (linkB (nodes P) i) r3339C most)) := by
  have hr0 := arrAt_new w 40 (itC it0)
  have hb0 : Below w.heap.size w (w.alloc (.cells (itC it0).toArray 40)) := (Below.refl _ _).alloc (Nat.le_refl _) _
  obtain ⟨s1, h1⟩ : ∃ s, (fieldB (nodes P) i idL).getD [] = s := ⟨_, rfl⟩
  obtain ⟨s2, h2⟩ : ∃ s, (fieldB (nodes P) i titleL).getD [] = s := ⟨_, rfl⟩
  obtain ⟨s3, h3⟩ : ∃ s, (linkB (nodes P) i).getD [] = s := ⟨_, rfl⟩
  obtain ⟨s4, h4⟩ : ∃ s, (orB (fieldB (nodes P) i sumL) (fieldB (nodes P) i contL)).getD [] = s := ⟨_, rfl⟩
  obtain ⟨dt, h5⟩ : ∃ s, (orB (fieldB (nodes P) i updL) (fieldB (nodes P) i pubdL)).getD [] = s := ⟨_, rfl⟩
  have hdt := orB_bd (nodes P) i updL pubdL
  rw [h5] at hdt
  have hone : ∀ (W : World) (nm s : List UInt8), (fieldB (nodes P) i nm).getD [] = s → Below w.heap.size w W → Calls Tryz.prog 51 #[v, .int .i64 i, .slice (some ⟨W.heap.size, 0, none⟩) 1 1] (W.alloc (.cells #[.string ⟨nm.toArray⟩] 9)) fun e w' => e = .returned (.string ⟨s.toArray⟩) ∧ Below W.heap.size W w' := fun W nm s hs hb => by
    have hbn := (Below.refl W.heap.size W).alloc (Nat.le_refl _) (.cells #[.string ⟨nm.toArray⟩] 9)
    have := field15_any P v i [nm] W.heap.size _ (h.next (hb.andThen hbn)) hn hT (nmAt_one W nm) (by simp)
    rw [fieldsB_one, hs] at this
    exact this.mono fun e w' q => q.andAt hbn
  have htwo : ∀ (W : World) (na nb s : List UInt8), (orB (fieldB (nodes P) i na) (fieldB (nodes P) i nb)).getD [] = s → Below w.heap.size w W → Calls Tryz.prog 51 #[v, .int .i64 i, .slice (some ⟨W.heap.size, 0, none⟩) 2 2] (W.alloc (.cells #[.string ⟨na.toArray⟩, .string ⟨nb.toArray⟩] 9)) fun e w' => e = .returned (.string ⟨s.toArray⟩) ∧ Below W.heap.size W w' := fun W na nb s hs hb => by
    have hbn := (Below.refl W.heap.size W).alloc (Nat.le_refl _) (.cells #[.string ⟨na.toArray⟩, .string ⟨nb.toArray⟩] 9)
    have := field15_any P v i [na, nb] W.heap.size _ (h.next (hb.andThen hbn)) hn hT (nmAt_two W na nb) (by simp)
    rw [fieldsB_two, hs] at this
    exact this.mono fun e w' q => q.andAt hbn
  have f1 := hone _ idL s1 h1 hb0
  have f2 := Lib.hid fun W => hone W titleL s2 h2
  have f4 := Lib.hid fun W => htwo W sumL contL s4 h4
  have f5 := Lib.hid fun W => htwo W updL pubdL dt h5
  have f3 := Lib.hid (fun W (hW : Below w.heap.size w W) => (link15_any P v i W (h.next hW) hn hK).mono fun e w' q => q.tells2 h3)
  unfold idL at f1
  unfold titleL at f2
  unfold sumL contL at f4
  unfold updL pubdL at f5
  obtain ⟨o, ho⟩ : ∃ o, itA (fieldB (nodes P) i) (linkB (nodes P) i) r3339C most = o := ⟨_, rfl⟩
  rw [ho]
  rw [itA_is r3339C most h1 h2 h3 h4 h5] at ho
  obtain ⟨a, ac, hv⟩ := h.form
  rw [show (w.alloc (.cells (itC it0).toArray 40)).heap.size = w.heap.size + 1 from by simp] at f1
  replace f1 := Lib.hid f1
  replace hr0 := Lib.hid hr0
  replace hb0 := Lib.hid hb0
  replace ho := Lib.hid ho
  clear h1 h2 h3 h4 h5 h hone htwo hK
  subst hv
  unfold itC it0 strV at f1 hr0 hb0
  simp only at f1 hr0 hb0
  go_enter Tryz.func32, Tryz.ntmps32
  go_wp2_with fail
  refine f1.out.mono ?_
  rintro e w1 ⟨rfl, hb⟩
  rw [show w.heap.size + 1 = (w.alloc (.cells #[Value.string ⟨[].toArray⟩, .string ⟨[].toArray⟩, .string ⟨[].toArray⟩, .string ⟨[].toArray⟩, .int .i64 0, .bool false] 40)).heap.size from by simp] at hb
  replace hr0 := Lib.hid (hr0.out.next hb)
  replace hb0 := Lib.hid (hb0.out.andThen hb)
  clear f1 hb
  have f := Lib.hid (f2.out w1 hb0.out)
  clear f2
  go_wp2_with fail
  refine f.out.mono ?_
  rintro e w2 ⟨rfl, hb⟩
  replace hr0 := Lib.hid (hr0.out.next hb)
  replace hb0 := Lib.hid (hb0.out.andThen hb)
  clear f hb
  have f := Lib.hid (f4.out w2 hb0.out)
  clear f4
  go_wp2_with fail
  refine f.out.mono ?_
  rintro e w3 ⟨rfl, hb⟩
  replace hr0 := Lib.hid (hr0.out.next hb)
  replace hb0 := Lib.hid (hb0.out.andThen hb)
  clear f hb
  have hO := Oa.new hr0.out hb0.out ⟨s1, s2, [], s4, 0, false⟩
  unfold itC strV at hO
  simp only at hO
  replace hO := Lib.hid hO
  clear hr0 hb0
  go_upto_region 2 with (fail)
  generalize (w3.alloc (.cells #[.string ⟨s1.toArray⟩, .string ⟨s2.toArray⟩, .string ⟨#[]⟩, .string ⟨s4.toArray⟩, .int .i64 0, .bool false] 40)) = w4 at *
  obtain ⟨Bx, hBx⟩ : ∃ b, w3.heap.size = b := ⟨_, rfl⟩
  rw [hBx] at hO ⊢
  clear hBx
  have f := Lib.hid (f3.out _ hO.out.below)
  clear f3
  go_wp2_with fail
  refine f.out.mono ?_
  rintro e w5 ⟨bl, rfl, hb⟩
  clear f
  replace hO := Lib.hid (hO.out.next hb)
  clear hb
  obtain ⟨⟨g0, k0⟩, ⟨g1, k1⟩, ⟨g2, k2⟩, ⟨g3, k3⟩, ⟨g4, k4⟩, ⟨g5, k5⟩⟩ := row14 hO.out.r1
  replace hO := Lib.hid (hO.out.set 2 (.string ⟨s3.toArray⟩) ⟨s1, s2, s3, s4, 0, false⟩ rfl)
  go_upto_region 3 with (fail)
  clear g0 g1 g2 g3 g4 g5 k0 k1 k2 k3 k4 k5
  generalize (w5.setCell ⟨Bx, 2, none⟩ (.string ⟨s3.toArray⟩)) = w6 at *
  obtain ⟨⟨g0, k0⟩, ⟨g1, k1⟩, ⟨g2, k2⟩, ⟨g3, k3⟩, ⟨g4, k4⟩, ⟨g5, k5⟩⟩ := row14 hO.out.r1
  unfold strV at g0 g1 g2 g3
  have hsh := short14_any ⟨s1, s2, s3, s4, 0, false⟩ most w6
  unfold itV itC strV at hsh
  replace hsh := Lib.hid hsh
  go_wp2_with fail
  refine hsh.out.mono ?_
  rintro e w7 ⟨rfl, hb⟩
  clear hsh g0 g1 g2 g3 g4 g5 k0 k1 k2 k3 k4 k5
  replace hO := Lib.hid (hO.out.next hb)
  clear hb
  cases hS : shortB ⟨s1, s2, s3, s4, 0, false⟩ most with
  | false =>
    go_wp2_with fail
    refine (fault14_any 6 _).mono ?_
    rintro e w9 ⟨rfl, hfa, hb9⟩
    have hO9 := hO.out.next hb9
    have hr := hO9.r0
    have hlw := hO.out.below.size
    have hbw := hO9.below
    obtain ⟨⟨g0, k0⟩, ⟨g1, k1⟩, ⟨g2, k2⟩, ⟨g3, k3⟩, ⟨g4, k4⟩, ⟨g5, k5⟩⟩ := row14_zero hr
    have hz := row14_zero (row14_set hr it0)
    unfold it0 strV at hz
    simp only at hz
    replace hz := Lib.hid hz
    replace hfa := Lib.hid hfa
    replace hr := Lib.hid hr
    replace hbw := Lib.hid hbw
    clear hO9
    go_wp2_with fail
    obtain ⟨⟨z0, -⟩, ⟨z1, -⟩, ⟨z2, -⟩, ⟨z3, -⟩, ⟨z4, -⟩, ⟨z5, -⟩⟩ := hz.out
    (try simp only [Exit.inBlock, Exit.then])
    refine bodyPost_ret (v := .tuple #[.agg #[.string ⟨#[]⟩, .string ⟨#[]⟩, .string ⟨#[]⟩, .string ⟨#[]⟩, .int .i64 0, .bool false], _]) (by simp [results, Tryz.results32, go_sem, z0, z1, z2, z3, z4, z5]; rfl) rfl ?_
    rw [show o = .bad 6 from ho.out.symm.trans (if_pos hS)]
    exact bad_end hbw.out (Nat.le_refl _) hr.out (by simpa using hfa.out) (by simpa using hlw)
  | true =>
    have hO2 := ho.out
    rw [if_neg (by rw [hS]; decide)] at hO2
    replace ho := Lib.hid hO2
    clear hO2
    have f := Lib.hid (f5.out w7 hO.out.below)
    clear f5
    go_wp2_with fail
    refine f.out.mono ?_
    rintro e w8 ⟨rfl, hb⟩
    clear f
    replace hO := Lib.hid (hO.out.next hb)
    clear hb
    have hrf := rfc3339_any dt w8 (by omega)
    replace ho := ho.out
    generalize r3339C dt = r at hrf ho
    obtain ⟨d, k⟩ := r
    replace ho := Lib.hid ho
    replace hrf := Lib.hid hrf
    go_wp2_with fail
    refine hrf.out.mono ?_
    rintro e w9 ⟨rfl, hb⟩
    clear hrf
    replace hO := Lib.hid (hO.out.next hb)
    clear hb
    obtain ⟨⟨g0, k0⟩, ⟨g1, k1⟩, ⟨g2, k2⟩, ⟨g3, k3⟩, ⟨g4, k4⟩, ⟨g5, k5⟩⟩ := row14 hO.out.r1
    unfold strV at g0 g1 g2 g3
    have hO2 := Lib.hid ((hO.out.set 4 (.int .i64 d) ⟨s1, s2, s3, s4, d, false⟩ rfl).set 5 (.bool k) ⟨s1, s2, s3, s4, d, k⟩ rfl)
    go_upto_region 6 with (fail)
    clear g0 g1 g2 g3 g4 g5 k0 k1 k2 k3 k4 k5 hO
    have hO := hO2
    clear hO2
    generalize ((w9.setCell ⟨Bx, 4, none⟩ (.int .i64 d)).setCell ⟨Bx, 5, none⟩ (.bool k)) = w8 at *
    obtain ⟨⟨g0, k0⟩, ⟨g1, k1⟩, ⟨g2, k2⟩, ⟨g3, k3⟩, ⟨g4, k4⟩, ⟨g5, k5⟩⟩ := row14 hO.out.r1
    unfold strV at g0 g1 g2 g3
    by_cases hs1 : s1 = []
    · subst hs1
      go_wp2_with fail
      refine (fault14_any 7 _).mono ?_
      rintro e w9 ⟨rfl, hfa, hb9⟩
      have hO9 := hO.out.next hb9
      have hr := hO9.r0
      have hlw := hO.out.below.size
      have hbw := hO9.below
      obtain ⟨⟨g0, k0⟩, ⟨g1, k1⟩, ⟨g2, k2⟩, ⟨g3, k3⟩, ⟨g4, k4⟩, ⟨g5, k5⟩⟩ := row14_zero hr
      have hz := row14_zero (row14_set hr it0)
      unfold it0 strV at hz
      simp only at hz
      replace hz := Lib.hid hz
      replace hfa := Lib.hid hfa
      replace hr := Lib.hid hr
      replace hbw := Lib.hid hbw
      clear hO9
      go_wp2_with fail
      obtain ⟨⟨z0, -⟩, ⟨z1, -⟩, ⟨z2, -⟩, ⟨z3, -⟩, ⟨z4, -⟩, ⟨z5, -⟩⟩ := hz.out
      (try simp only [Exit.inBlock, Exit.then])
      refine bodyPost_ret (v := .tuple #[.agg #[.string ⟨#[]⟩, .string ⟨#[]⟩, .string ⟨#[]⟩, .string ⟨#[]⟩, .int .i64 0, .bool false], _]) (by simp [results, Tryz.results32, go_sem, z0, z1, z2, z3, z4, z5]; rfl) rfl ?_
      rw [show o = .bad 7 from ho.out.symm.trans (by simp)]
      exact bad_end hbw.out (Nat.le_refl _) hr.out (by simpa using hfa.out) (by simpa using hlw)
    · have hs2 : (s1 == []) = false := by rw [beq_eq_false_iff_ne]; exact hs1
      cases k with
      | false =>
        go_wp2_with fail
        refine (fault14_any 7 _).mono ?_
        rintro e w9 ⟨rfl, hfa, hb9⟩
        have hO9 := hO.out.next hb9
        have hr := hO9.r0
        have hlw := hO.out.below.size
        have hbw := hO9.below
        obtain ⟨⟨g0, k0⟩, ⟨g1, k1⟩, ⟨g2, k2⟩, ⟨g3, k3⟩, ⟨g4, k4⟩, ⟨g5, k5⟩⟩ := row14_zero hr
        have hz := row14_zero (row14_set hr it0)
        unfold it0 strV at hz
        simp only at hz
        replace hz := Lib.hid hz
        replace hfa := Lib.hid hfa
        replace hr := Lib.hid hr
        replace hbw := Lib.hid hbw
        clear hO9
        go_wp2_with fail
        obtain ⟨⟨z0, -⟩, ⟨z1, -⟩, ⟨z2, -⟩, ⟨z3, -⟩, ⟨z4, -⟩, ⟨z5, -⟩⟩ := hz.out
        (try simp only [Exit.inBlock, Exit.then])
        refine bodyPost_ret (v := .tuple #[.agg #[.string ⟨#[]⟩, .string ⟨#[]⟩, .string ⟨#[]⟩, .string ⟨#[]⟩, .int .i64 0, .bool false], _]) (by simp [results, Tryz.results32, go_sem, z0, z1, z2, z3, z4, z5]; rfl) rfl ?_
        rw [show o = .bad 7 from ho.out.symm.trans (by simp)]
        exact bad_end hbw.out (Nat.le_refl _) hr.out (by simpa using hfa.out) (by simpa using hlw)
      | true =>
        clear g0 g1 g2 g3 g4 g5 k0 k1 k2 k3 k4 k5
        obtain ⟨⟨q0, j0⟩, ⟨q1, j1⟩, ⟨q2, j2⟩, ⟨q3, j3⟩, ⟨q4, j4⟩, ⟨q5, j5⟩⟩ := row14_zero hO.out.r0
        obtain ⟨⟨g0, k0⟩, ⟨g1, k1⟩, ⟨g2, k2⟩, ⟨g3, k3⟩, ⟨g4, k4⟩, ⟨g5, k5⟩⟩ := row14 hO.out.r1
        unfold strV at g0 g1 g2 g3
        have hz := row14 (row14_set hO.out.r0 ⟨s1, s2, s3, s4, d, true⟩)
        unfold strV at hz
        simp only at hz
        have hbw := Lib.hid hO.out.below
        replace hz := Lib.hid hz
        go_wp2_with fail
        obtain ⟨⟨z0, -⟩, ⟨z1, -⟩, ⟨z2, -⟩, ⟨z3, -⟩, ⟨z4, -⟩, ⟨z5, -⟩⟩ := hz.out
        (try simp only [Exit.inBlock, Exit.then])
        refine bodyPost_ret (v := .tuple #[itV ⟨s1, s2, s3, s4, d, true⟩, .nilIface]) (by simp [results, Tryz.results32, go_sem, z0, z1, z2, z3, z4, z5]; rfl) rfl ?_
        rw [show o = .it ⟨s1, s2, s3, s4, d, true⟩ from ho.out.symm.trans (if_neg (by rintro (e | e); exact hs1 e; cases e))]
        exact it_end _ hbw.out (Nat.le_refl _)
end Go.Proofs.YtkjjjbipmobdaaaGreatDoor
