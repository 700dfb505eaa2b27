/- Layer 15: an entry. -/
import Derived.Test.YtkgjbamkinfmeaaGreatDoorBR31
import Derived.Test.YtkgjbamkinfmeaaGreatDoorBR30
import Derived.Test.YtkgjbamkinfmeaaGreatDoorBR32
import Derived.Test.YtkgjbamkinfmeaaGreatDoorBR01
import Derived.ProofKit
import Derived.OpenShut
import Derived.LaidMore
import Derived.Stop.Joined
import Derived.Deep.Slices
import Derived.SevenTiedAt
import Derived.Lib.LaidTab
import Derived.Test.YtkgjbamkinfmeaaGreatDoorBR02
namespace Go.Proofs.YtkgjbamkinfmeaaGreatDoor
open Go.RowKit

/-- The rows of entry's result and of its variable. -/
structure Oa (w0 : World) (b : Nat) (x : It) (w : World) : Prop where
  r0 : ArrAt w w0.heap.size 48 (itC it0)
  r1 : ArrAt w b 48 (itC x)
  lt : w0.heap.size < b
  below : Below w0.heap.size w0 w
section
variable {w0 w w' : World} {x : It} {b : Nat}
theorem Oa.next (h : Oa w0 b x w) (hb : Below w.heap.size w w') : Oa w0 b x w' := ⟨h.r0.next hb, h.r1.next hb, h.lt, h.below.andThen hb⟩
theorem Oa.set (h : Oa w0 b x w) (k : Nat) (u : Value) (y : It) (e : (itC x).set k u = itC y) : Oa w0 b y (w.setCell ⟨b, k, none⟩ u) :=
  ⟨h.r0.far k u (by have := h.lt; omega), e ▸ h.r1.set k u, h.lt, h.below.setCell (p := ⟨b, k, none⟩) (by have := h.lt; show w0.heap.size ≤ b; omega) u⟩
theorem Oa.new (h : ArrAt w w0.heap.size 48 (itC it0)) (hb : Below w0.heap.size w0 w) (y : It) : Oa w0 w.heap.size y (w.alloc (.cells (itC y).toArray 48)) :=
  ⟨h.next ((Below.refl w.heap.size w).alloc (Nat.le_refl _) (.cells (itC y).toArray 48)), arrAt_new w 48 (itC y), h.lt, hb.alloc hb.size _⟩
end
theorem itA_is {F : List UInt8 → Option (List UInt8)} {L : Option (List UInt8)} (R : List UInt8 → Int × Bool) (most : Int) {s1 s2 s3 s4 dt : List UInt8} (h1 : (F idL).getD [] = s1) (h2 : (F titleL).getD [] = s2) (h3 : L.getD [] = s3) (h4 : (orB (F sumL) (F contL)).getD [] = s4) (h5 : (orB (F updL) (F pubdL)).getD [] = dt) :
    itA F L R most = if shortB ⟨s1, s2, s3, s4, 0, false⟩ most = false then .bad 6 else if s1 = [] ∨ (R dt).2 = false then .bad 7 else .it ⟨s1, s2, s3, s4, (R dt).1, (R dt).2⟩ := by
  subst h1 h2 h3 h4 h5
  rfl
theorem orB_bd (l : List Nd) (i : Int) (a b : List UInt8) : ((orB (fieldB l i a) (fieldB l i b)).getD []).length ≤ 8 * sumT l := by
  unfold orB
  cases e : fieldB l i a with
  | some s => exact fieldB_bd e
  | none =>
    cases e2 : fieldB l i b with
    | some s => exact fieldB_bd e2
    | none => simp
theorem FldPost.tells2 {w w' : World} {o : Option (List UInt8)} {e : Ending} {s : List UInt8} (h : FldPost w o e w') (hs : o.getD [] = s) : ∃ b, e = .returned (.tuple #[.string ⟨s.toArray⟩, .bool b]) ∧ Below w.heap.size w w' := by
  subst hs; exact ⟨_, h⟩
theorem TextPost.andAt {W W0 w' : World} {s : List UInt8} {e : Ending} (h : TextPost W s e w') (hb : Below W0.heap.size W0 W) : e = .returned (.string ⟨s.toArray⟩) ∧ Below W0.heap.size W0 w' := ⟨h.1, hb.andThen h.2⟩

set_option maxRecDepth 100000 in
set_option maxHeartbeats 4000000 in
theorem entry15_any (P : List (Nd × Value)) (v : Value) (i most : Int) (w : World) (h : NdSl w v P) (hn : P.length ≤ 1000000) (hT : sumT (nodes P) ≤ 2000000) (hK : ∀ x ∈ nodes P, AtOk x.attrs) :
    Calls Tryz.prog 64 #[v, .int .i64 i, .int .i64 most] w (ItPost w (itA (fieldB (nodes P) i) (linkB (nodes P) i) r3339C most)) := by
  have hr0 := arrAt_new w 48 (itC it0)
  have hb0 : Below w.heap.size w (w.alloc (.cells (itC it0).toArray 48)) := (Below.refl _ _).alloc (Nat.le_refl _) _
  obtain ⟨s1, h1⟩ : ∃ s, (fieldB (nodes P) i idL).getD [] = s := ⟨_, rfl⟩
  obtain ⟨s2, h2⟩ : ∃ s, (fieldB (nodes P) i titleL).getD [] = s := ⟨_, rfl⟩
  obtain ⟨s3, h3⟩ : ∃ s, (linkB (nodes P) i).getD [] = s := ⟨_, rfl⟩
  obtain ⟨s4, h4⟩ : ∃ s, (orB (fieldB (nodes P) i sumL) (fieldB (nodes P) i contL)).getD [] = s := ⟨_, rfl⟩
  obtain ⟨dt, h5⟩ : ∃ s, (orB (fieldB (nodes P) i updL) (fieldB (nodes P) i pubdL)).getD [] = s := ⟨_, rfl⟩
  have hdt := orB_bd (nodes P) i updL pubdL
  rw [h5] at hdt
  have hone : ∀ (W : World) (nm s : List UInt8), (fieldB (nodes P) i nm).getD [] = s → Below w.heap.size w W → Calls Tryz.prog 89 #[v, .int .i64 i, .slice (some ⟨W.heap.size, 0, none⟩) 1 1] (W.alloc (.cells #[.string ⟨nm.toArray⟩] 9)) fun e w' => e = .returned (.string ⟨s.toArray⟩) ∧ Below W.heap.size W w' := fun W nm s hs hb => by
    have hbn := (Below.refl W.heap.size W).alloc (Nat.le_refl _) (.cells #[.string ⟨nm.toArray⟩] 9)
    have := field15_any P v i [nm] W.heap.size _ (h.next (hb.andThen hbn)) hn hT (nmAt_one W nm) (by simp)
    rw [fieldsB_one, hs] at this
    exact this.mono fun e w' q => q.andAt hbn
  have htwo : ∀ (W : World) (na nb s : List UInt8), (orB (fieldB (nodes P) i na) (fieldB (nodes P) i nb)).getD [] = s → Below w.heap.size w W → Calls Tryz.prog 89 #[v, .int .i64 i, .slice (some ⟨W.heap.size, 0, none⟩) 2 2] (W.alloc (.cells #[.string ⟨na.toArray⟩, .string ⟨nb.toArray⟩] 9)) fun e w' => e = .returned (.string ⟨s.toArray⟩) ∧ Below W.heap.size W w' := fun W na nb s hs hb => by
    have hbn := (Below.refl W.heap.size W).alloc (Nat.le_refl _) (.cells #[.string ⟨na.toArray⟩, .string ⟨nb.toArray⟩] 9)
    have := field15_any P v i [na, nb] W.heap.size _ (h.next (hb.andThen hbn)) hn hT (nmAt_two W na nb) (by simp)
    rw [fieldsB_two, hs] at this
    exact this.mono fun e w' q => q.andAt hbn
  have f1 := hone _ idL s1 h1 hb0
  have f2 := Lib.hid fun W => hone W titleL s2 h2
  have f4 := Lib.hid fun W => htwo W sumL contL s4 h4
  have f5 := Lib.hid fun W => htwo W updL pubdL dt h5
  have f3 := Lib.hid (fun W (hW : Below w.heap.size w W) => (link15_any P v i W (h.next hW) hn hK).mono fun e w' q => q.tells2 h3)
  unfold idL at f1
  unfold titleL at f2
  unfold sumL contL at f4
  unfold updL pubdL at f5
  obtain ⟨o, ho⟩ : ∃ o, itA (fieldB (nodes P) i) (linkB (nodes P) i) r3339C most = o := ⟨_, rfl⟩
  rw [ho]
  rw [itA_is r3339C most h1 h2 h3 h4 h5] at ho
  obtain ⟨a, ac, hv⟩ := h.form
  rw [show (w.alloc (.cells (itC it0).toArray 48)).heap.size = w.heap.size + 1 from by simp] at f1
  replace f1 := Lib.hid f1
  replace hr0 := Lib.hid hr0
  replace hb0 := Lib.hid hb0
  replace ho := Lib.hid ho
  clear h1 h2 h3 h4 h5 h hone htwo hK
  subst hv
  unfold itC it0 strV at f1 hr0 hb0
  simp only at f1 hr0 hb0
  go_enter Tryz.func64, Tryz.ntmps64
  go_wp2_with fail
  refine f1.out.mono ?_
  rintro e w1 ⟨rfl, hb⟩
  rw [show w.heap.size + 1 = (w.alloc (.cells #[Value.string ⟨[].toArray⟩, .string ⟨[].toArray⟩, .string ⟨[].toArray⟩, .string ⟨[].toArray⟩, .int .i64 0, .bool false] 48)).heap.size from by simp] at hb
  replace hr0 := Lib.hid (hr0.out.next hb)
  replace hb0 := Lib.hid (hb0.out.andThen hb)
  clear f1 hb
  have f := Lib.hid (f2.out w1 hb0.out)
  clear f2
  go_wp2_with fail
  refine f.out.mono ?_
  rintro e w2 ⟨rfl, hb⟩
  replace hr0 := Lib.hid (hr0.out.next hb)
  replace hb0 := Lib.hid (hb0.out.andThen hb)
  clear f hb
  have f := Lib.hid (f4.out w2 hb0.out)
  clear f4
  go_wp2_with fail
  refine f.out.mono ?_
  rintro e w3 ⟨rfl, hb⟩
  replace hr0 := Lib.hid (hr0.out.next hb)
  replace hb0 := Lib.hid (hb0.out.andThen hb)
  clear f hb
  have hO := Oa.new hr0.out hb0.out ⟨s1, s2, [], s4, 0, false⟩
  unfold itC strV at hO
  simp only at hO
  replace hO := Lib.hid hO
  clear hr0 hb0
  go_upto_region 2 with (fail)
  generalize (w3.alloc (.cells #[.string ⟨s1.toArray⟩, .string ⟨s2.toArray⟩, .string ⟨#[]⟩, .string ⟨s4.toArray⟩, .int .i64 0, .bool false] 48)) = w4 at *
  obtain ⟨Bx, hBx⟩ : ∃ b, w3.heap.size = b := ⟨_, rfl⟩
  rw [hBx] at hO ⊢
  clear hBx
  have f := Lib.hid (f3.out _ hO.out.below)
  clear f3
  go_wp2_with fail
  refine f.out.mono ?_
  rintro e w5 ⟨bl, rfl, hb⟩
  clear f
  replace hO := Lib.hid (hO.out.next hb)
  clear hb
  obtain ⟨⟨g0, k0⟩, ⟨g1, k1⟩, ⟨g2, k2⟩, ⟨g3, k3⟩, ⟨g4, k4⟩, ⟨g5, k5⟩⟩ := row14 hO.out.r1
  replace hO := Lib.hid (hO.out.set 2 (.string ⟨s3.toArray⟩) ⟨s1, s2, s3, s4, 0, false⟩ rfl)
  go_upto_region 3 with (fail)
  clear g0 g1 g2 g3 g4 g5 k0 k1 k2 k3 k4 k5
  generalize (w5.setCell ⟨Bx, 2, none⟩ (.string ⟨s3.toArray⟩)) = w6 at *
  obtain ⟨⟨g0, k0⟩, ⟨g1, k1⟩, ⟨g2, k2⟩, ⟨g3, k3⟩, ⟨g4, k4⟩, ⟨g5, k5⟩⟩ := row14 hO.out.r1
  unfold strV at g0 g1 g2 g3
  have hsh := short14_any ⟨s1, s2, s3, s4, 0, false⟩ most w6
  unfold itV itC strV at hsh
  replace hsh := Lib.hid hsh
  go_wp2_with fail
  refine hsh.out.mono ?_
  rintro e w7 ⟨rfl, hb⟩
  clear hsh g0 g1 g2 g3 g4 g5 k0 k1 k2 k3 k4 k5
  replace hO := Lib.hid (hO.out.next hb)
  clear hb
  cases hS : shortB ⟨s1, s2, s3, s4, 0, false⟩ most with
  | false =>
    go_wp2_with fail
    refine (fault14_any 6 _).mono ?_
    rintro e w9 ⟨rfl, hfa, hb9⟩
    have hO9 := hO.out.next hb9
    have hr := hO9.r0
    have hlw := hO.out.below.size
    have hbw := hO9.below
    obtain ⟨⟨g0, k0⟩, ⟨g1, k1⟩, ⟨g2, k2⟩, ⟨g3, k3⟩, ⟨g4, k4⟩, ⟨g5, k5⟩⟩ := row14_zero hr
    have hz := row14_zero (row14_set hr it0)
    unfold it0 strV at hz
    simp only at hz
    replace hz := Lib.hid hz
    replace hfa := Lib.hid hfa
    replace hr := Lib.hid hr
    replace hbw := Lib.hid hbw
    clear hO9
    go_wp2_with fail
    obtain ⟨⟨z0, -⟩, ⟨z1, -⟩, ⟨z2, -⟩, ⟨z3, -⟩, ⟨z4, -⟩, ⟨z5, -⟩⟩ := hz.out
    (try simp only [Exit.inBlock, Exit.then])
    refine bodyPost_ret (v := .tuple #[.agg #[.string ⟨#[]⟩, .string ⟨#[]⟩, .string ⟨#[]⟩, .string ⟨#[]⟩, .int .i64 0, .bool false], _]) (by simp [results, Tryz.results64, go_sem, z0, z1, z2, z3, z4, z5]; rfl) rfl ?_
    rw [show o = .bad 6 from ho.out.symm.trans (if_pos hS)]
    exact bad_end hbw.out (Nat.le_refl _) hr.out (by simpa using hfa.out) (by simpa using hlw)
  | true =>
    have hO2 := ho.out
    rw [if_neg (by rw [hS]; decide)] at hO2
    replace ho := Lib.hid hO2
    clear hO2
    have f := Lib.hid (f5.out w7 hO.out.below)
    clear f5
    go_wp2_with fail
    refine f.out.mono ?_
    rintro e w8 ⟨rfl, hb⟩
    clear f
    replace hO := Lib.hid (hO.out.next hb)
    clear hb
    have hrf := rfc3339_any dt w8 (by omega)
    replace ho := ho.out
    generalize r3339C dt = r at hrf ho
    obtain ⟨d, k⟩ := r
    replace ho := Lib.hid ho
    replace hrf := Lib.hid hrf
    go_wp2_with fail
    refine hrf.out.mono ?_
    rintro e w9 ⟨rfl, hb⟩
    clear hrf
    replace hO := Lib.hid (hO.out.next hb)
    clear hb
    obtain ⟨⟨g0, k0⟩, ⟨g1, k1⟩, ⟨g2, k2⟩, ⟨g3, k3⟩, ⟨g4, k4⟩, ⟨g5, k5⟩⟩ := row14 hO.out.r1
    unfold strV at g0 g1 g2 g3
    have hO2 := Lib.hid ((hO.out.set 4 (.int .i64 d) ⟨s1, s2, s3, s4, d, false⟩ rfl).set 5 (.bool k) ⟨s1, s2, s3, s4, d, k⟩ rfl)
    go_upto_region 6 with (fail)
    clear g0 g1 g2 g3 g4 g5 k0 k1 k2 k3 k4 k5 hO
    have hO := hO2
    clear hO2
    generalize ((w9.setCell ⟨Bx, 4, none⟩ (.int .i64 d)).setCell ⟨Bx, 5, none⟩ (.bool k)) = w8 at *
    obtain ⟨⟨g0, k0⟩, ⟨g1, k1⟩, ⟨g2, k2⟩, ⟨g3, k3⟩, ⟨g4, k4⟩, ⟨g5, k5⟩⟩ := row14 hO.out.r1
    unfold strV at g0 g1 g2 g3
    by_cases hs1 : s1 = []
    · subst hs1
      go_wp2_with fail
      refine (fault14_any 7 _).mono ?_
      rintro e w9 ⟨rfl, hfa, hb9⟩
      have hO9 := hO.out.next hb9
      have hr := hO9.r0
      have hlw := hO.out.below.size
      have hbw := hO9.below
      obtain ⟨⟨g0, k0⟩, ⟨g1, k1⟩, ⟨g2, k2⟩, ⟨g3, k3⟩, ⟨g4, k4⟩, ⟨g5, k5⟩⟩ := row14_zero hr
      have hz := row14_zero (row14_set hr it0)
      unfold it0 strV at hz
      simp only at hz
      replace hz := Lib.hid hz
      replace hfa := Lib.hid hfa
      replace hr := Lib.hid hr
      replace hbw := Lib.hid hbw
      clear hO9
      go_wp2_with fail
      obtain ⟨⟨z0, -⟩, ⟨z1, -⟩, ⟨z2, -⟩, ⟨z3, -⟩, ⟨z4, -⟩, ⟨z5, -⟩⟩ := hz.out
      (try simp only [Exit.inBlock, Exit.then])
      refine bodyPost_ret (v := .tuple #[.agg #[.string ⟨#[]⟩, .string ⟨#[]⟩, .string ⟨#[]⟩, .string ⟨#[]⟩, .int .i64 0, .bool false], _]) (by simp [results, Tryz.results64, go_sem, z0, z1, z2, z3, z4, z5]; rfl) rfl ?_
      rw [show o = .bad 7 from ho.out.symm.trans (by simp)]
      exact bad_end hbw.out (Nat.le_refl _) hr.out (by simpa using hfa.out) (by simpa using hlw)
    · have hs2 : (s1 == []) = false := by rw [beq_eq_false_iff_ne]; exact hs1
      cases k with
      | false =>
        go_wp2_with fail
        refine (fault14_any 7 _).mono ?_
        rintro e w9 ⟨rfl, hfa, hb9⟩
        have hO9 := hO.out.next hb9
        have hr := hO9.r0
        have hlw := hO.out.below.size
        have hbw := hO9.below
        obtain ⟨⟨g0, k0⟩, ⟨g1, k1⟩, ⟨g2, k2⟩, ⟨g3, k3⟩, ⟨g4, k4⟩, ⟨g5, k5⟩⟩ := row14_zero hr
        have hz := row14_zero (row14_set hr it0)
        unfold it0 strV at hz
        simp only at hz
        replace hz := Lib.hid hz
        replace hfa := Lib.hid hfa
        replace hr := Lib.hid hr
        replace hbw := Lib.hid hbw
        clear hO9
        go_wp2_with fail
        obtain ⟨⟨z0, -⟩, ⟨z1, -⟩, ⟨z2, -⟩, ⟨z3, -⟩, ⟨z4, -⟩, ⟨z5, -⟩⟩ := hz.out
        (try simp only [Exit.inBlock, Exit.then])
        refine bodyPost_ret (v := .tuple #[.agg #[.string ⟨#[]⟩, .string ⟨#[]⟩, .string ⟨#[]⟩, .string ⟨#[]⟩, .int .i64 0, .bool false], _]) (by simp [results, Tryz.results64, go_sem, z0, z1, z2, z3, z4, z5]; rfl) rfl ?_
        rw [show o = .bad 7 from ho.out.symm.trans (by simp)]
        exact bad_end hbw.out (Nat.le_refl _) hr.out (by simpa using hfa.out) (by simpa using hlw)
      | true =>
        clear g0 g1 g2 g3 g4 g5 k0 k1 k2 k3 k4 k5
        obtain ⟨⟨q0, j0⟩, ⟨q1, j1⟩, ⟨q2, j2⟩, ⟨q3, j3⟩, ⟨q4, j4⟩, ⟨q5, j5⟩⟩ := row14_zero hO.out.r0
        obtain ⟨⟨g0, k0⟩, ⟨g1, k1⟩, ⟨g2, k2⟩, ⟨g3, k3⟩, ⟨g4, k4⟩, ⟨g5, k5⟩⟩ := row14 hO.out.r1
        unfold strV at g0 g1 g2 g3
        have hz := row14 (row14_set hO.out.r0 ⟨s1, s2, s3, s4, d, true⟩)
        unfold strV at hz
        simp only at hz
        have hbw := Lib.hid hO.out.below
        replace hz := Lib.hid hz
        go_wp2_with fail
        obtain ⟨⟨z0, -⟩, ⟨z1, -⟩, ⟨z2, -⟩, ⟨z3, -⟩, ⟨z4, -⟩, ⟨z5, -⟩⟩ := hz.out
        (try simp only [Exit.inBlock, Exit.then])
        refine bodyPost_ret (v := .tuple #[itV ⟨s1, s2, s3, s4, d, true⟩, .nilIface]) (by simp [results, Tryz.results64, go_sem, z0, z1, z2, z3, z4, z5]; rfl) rfl ?_
        rw [show o = .it ⟨s1, s2, s3, s4, d, true⟩ from ho.out.symm.trans (if_neg (by rintro (e | e); exact hs1 e; cases e))]
        exact it_end _ hbw.out (Nat.le_refl _)
end Go.Proofs.YtkgjbamkinfmeaaGreatDoor

/- Layer 15: Items. -/
namespace Go.Proofs.YtkgjbamkinfmeaaGreatDoor
open Go.RowKit

set_option maxRecDepth 100000 in
set_option maxHeartbeats 2000000 in
/-- What is handed to Read. -/
theorem one15_any (Q : List (Nd × Value)) (u : Value) (i most : Int) (mb : Nat) (w : World) (h : NdSl w u Q) (hn : Q.length ≤ 1000000) (hT : sumT (nodes Q) ≤ 2000000) (hK : ∀ x ∈ nodes Q, AtOk x.attrs) (hm : w.cell? ⟨mb, 0, none⟩ = some (.int .i64 most)) :
    Calls Tryz.prog 63 #[u, .int .i64 i, .pointer (some ⟨mb, 0, none⟩)] w (ItPost w (itA (fieldB (nodes Q) i) (linkB (nodes Q) i) r3339C most)) := by
  have hr := arrAt_new w 48 (itC it0)
  have hb0 : Below w.heap.size w (w.alloc (.cells (itC it0).toArray 48)) := (Below.refl _ _).alloc (Nat.le_refl _) _
  have hen := entry15_any Q u i most _ (h.next hb0) hn hT hK
  have hm1 := cell_next hm hb0
  have hsz : (w.alloc (.cells (itC it0).toArray 48)).heap.size = w.heap.size + 1 := by simp
  obtain ⟨a, ac, rfl⟩ := h.form
  generalize itA (fieldB (nodes Q) i) (linkB (nodes Q) i) r3339C most = o at hen ⊢
  clear h
  replace hr := Lib.hid hr
  replace hb0 := Lib.hid hb0
  replace hsz := Lib.hid hsz
  unfold itC it0 strV at hen hm1 hr hb0 hsz
  simp only at hen hm1 hr hb0 hsz
  replace hen := Lib.hid hen
  go_enter Tryz.func63, Tryz.ntmps63
  go_wp2_with fail
  refine hen.out.mono ?_
  rintro e w2 hh
  clear hen hm1
  cases o with
  | bad q =>
    obtain ⟨f, rfl, hlow, hfa, hb⟩ := hh
    rw [hsz.out] at hlow
    have hr2 : ArrAt w2 w.heap.size 48 (itC it0) := hr.out.next hb
    have hbw := Lib.hid (hb0.out.andThen hb)
    obtain ⟨⟨g0, k0⟩, ⟨g1, k1⟩, ⟨g2, k2⟩, ⟨g3, k3⟩, ⟨g4, k4⟩, ⟨g5, k5⟩⟩ := row14_zero hr2
    have hz := row14_zero (row14_set hr2 it0)
    unfold it0 strV at hz
    simp only at hz
    replace hz := Lib.hid hz
    replace hfa := Lib.hid hfa
    replace hr2 := Lib.hid hr2
    clear hb hr hb0 hsz
    unfold itV faultV itC it0 strV
    simp only
    go_wp2_with fail
    obtain ⟨⟨z0, -⟩, ⟨z1, -⟩, ⟨z2, -⟩, ⟨z3, -⟩, ⟨z4, -⟩, ⟨z5, -⟩⟩ := hz.out
    (try simp only [Exit.inBlock, Exit.then])
    refine bodyPost_ret (v := .tuple #[.agg #[.string ⟨#[]⟩, .string ⟨#[]⟩, .string ⟨#[]⟩, .string ⟨#[]⟩, .int .i64 0, .bool false], _]) (by simp [results, Tryz.results63, go_sem, z0, z1, z2, z3, z4, z5]; rfl) rfl ?_
    exact bad_end hbw.out (Nat.le_refl _) hr2.out hfa.out (by omega)
  | it x =>
    obtain ⟨rfl, hb⟩ := hh
    have hr2 : ArrAt w2 w.heap.size 48 (itC it0) := hr.out.next hb
    have hbw := Lib.hid (hb0.out.andThen hb)
    obtain ⟨⟨g0, k0⟩, ⟨g1, k1⟩, ⟨g2, k2⟩, ⟨g3, k3⟩, ⟨g4, k4⟩, ⟨g5, k5⟩⟩ := row14_zero hr2
    obtain ⟨xg, xt, xl, xb, xd, xk⟩ := x
    have hz := row14 (row14_set hr2 ⟨xg, xt, xl, xb, xd, xk⟩)
    unfold strV at hz
    simp only at hz
    replace hz := Lib.hid hz
    replace hr2 := Lib.hid hr2
    clear hb hr hb0 hsz
    unfold itV itC strV
    simp only
    go_wp2_with fail
    obtain ⟨⟨z0, -⟩, ⟨z1, -⟩, ⟨z2, -⟩, ⟨z3, -⟩, ⟨z4, -⟩, ⟨z5, -⟩⟩ := hz.out
    (try simp only [Exit.inBlock, Exit.then])
    refine bodyPost_ret (v := .tuple #[itV ⟨xg, xt, xl, xb, xd, xk⟩, .nilIface]) (by simp [results, Tryz.results63, go_sem, z0, z1, z2, z3, z4, z5]; rfl) rfl ?_
    exact it_end _ hbw.out (Nat.le_refl _)

set_option maxRecDepth 100000 in
set_option maxHeartbeats 2000000 in
theorem items15_any (P : List (Nd × Value)) (v : Value) (many most : Int) (w : World) (h : NdSl w v P) (hn : P.length ≤ 1000000) (hT : sumT (nodes P) ≤ 2000000) (hK : ∀ x ∈ nodes P, AtOk x.attrs) (hY : EnvT w) :
    Calls Tryz.prog 38 #[v, .int .i64 many, .int .i64 most] w (ItsPost w (itsA (nodes P) r3339C many most)) := by
  obtain ⟨o, ho⟩ : ∃ o, itsA (nodes P) r3339C many most = o := ⟨_, rfl⟩
  rw [ho]
  unfold itsA at ho
  have hbx : Below w.heap.size w (w.alloc (.cells #[.int .i64 most] 3)) := (Below.refl _ _).alloc (Nat.le_refl _) _
  have hm := (arrAt_new w 3 [.int .i64 most]).cell 0
  by_cases h0 : P = []
  · subst h0
    obtain ⟨a, c, rfl⟩ := h.form
    rw [if_pos (Or.inl (show nodes [] = [] from rfl))] at ho
    subst ho
    clear h hm
    replace hbx := Lib.hid hbx
    go_enter Tryz.func38, Tryz.ntmps38
    go_wp2_with fail
    refine (fault14_any 5 _).mono ?_
    rintro e w2 ⟨rfl, hf, hb2⟩
    have hb3 := Lib.hid (hbx.out.andThen hb2)
    replace hf := Lib.hid hf
    clear hb2
    go_wp2_with fail
    go_ret2
    exact ItsPost.bad (by simpa using hf.out) hb3.out
  have hp0 : 0 < P.length := List.length_pos_iff.2 h0
  have hread := 
      read14_any AtOk (fun l i => itA (fieldB l i) (linkB l i) r3339C most) 63 #[.pointer (some ⟨w.heap.size, 0, none⟩)] P v 0 entryL many _ (h.next hbx) hn hT (hY.below hbx) hp0 hK Tryz.call63
        (fun q j l i t => itA_told t r3339C most) (fun l i => itA_cases _ _ _ _)
        (fun Q u i W2 hQ h1 h2 h3 hb2 => one15_any Q u i most w.heap.size W2 hQ h1 h2 h3 (cell_next hm hb2))
  obtain ⟨b, off, cap, hcap, hbl, rfl, hcl⟩ := (h.next hbx).some hp0
  obtain ⟨d0, _, _, _⟩ := hcl 0 hp0
  have hna : (P[0]'hp0).1 = atN (nodes P) 0 := nodes_at hp0
  rw [hna] at d0
  clear hcl hna
  have hne : nodes P ≠ [] := fun e => h0 (List.map_eq_nil_iff.1 e)
  have hl0 : ((P.length : Int) == 0) = false := by rw [beq_eq_false_iff_ne]; omega
  have hl1 : (P.length == 0) = false := by rw [beq_eq_false_iff_ne]; omega
  have hl2 : (0 : Int) < P.length := by omega
  unfold strV at d0
  rw [Nat.zero_mul, Nat.add_zero] at d0
  replace h := Lib.hid h
  replace h0 := Lib.hid h0
  replace hbx := Lib.hid hbx
  by_cases hq : (atN (nodes P) 0).name = feedL
  · rw [if_neg (by rintro (e | e); exact hne e; exact e hq)] at ho
    rw [show readB (nodes P) ((0 : Nat) : Int) entryL (fun i => itA (fieldB (nodes P) i) (linkB (nodes P) i) r3339C most) many = o from ho] at hread
    rw [hq] at d0
    unfold feedL at d0
    unfold entryL at hread
    replace hread := Lib.hid hread
    replace hq := Lib.hid hq
    clear ho hm
    go_enter Tryz.func38, Tryz.ntmps38
    go_wp2_with fail
    refine hread.out.mono ?_
    rintro e w2 hh
    replace hh := Lib.hid (hh.from hbx.out)
    cases o with
    | bad q =>
      obtain ⟨f, rfl, hf⟩ := hh.out
      replace hf := Lib.hid hf
      clear hh
      go_wp2_with fail
      go_ret2
      exact ⟨f, rfl, hf.out⟩
    | its l =>
      obtain ⟨u, rfl, hu⟩ := hh.out
      replace hu := Lib.hid hu
      clear hh
      go_wp2_with fail
      go_ret2
      exact ⟨u, rfl, hu.out⟩
  · rw [if_pos (Or.inr hq)] at ho
    subst ho
    have hq1 : ((atN (nodes P) 0).name == [102, 101, 101, 100]) = false := by rw [beq_eq_false_iff_ne]; exact hq
    generalize (atN (nodes P) 0).name = nm at d0 hq1
    clear hread hm
    replace hq := Lib.hid hq
    go_enter Tryz.func38, Tryz.ntmps38
    go_wp2_with fail
    refine (fault14_any 5 _).mono ?_
    rintro e w2 ⟨rfl, hf, hb2⟩
    have hb3 := Lib.hid (hbx.out.andThen hb2)
    replace hf := Lib.hid hf
    clear hb2
    go_wp2_with fail
    go_ret2
    exact ItsPost.bad (by simpa using hf.out) hb3.out
end Go.Proofs.YtkgjbamkinfmeaaGreatDoor

/- Layer 14: entries in memory, one by one. -/
namespace Go.Proofs.YtkgjbamkinfmeaaGreatDoor
open Go.RowKit

theorem cellsI_at : ∀ (l : List It) (j : Nat) (h : j < l.length), (cellsI l)[j * 6]? = some (strV (l[j]'h).guid) ∧ (cellsI l)[j * 6 + 1]? = some (strV (l[j]'h).title) ∧ (cellsI l)[j * 6 + 2]? = some (strV (l[j]'h).link) ∧ (cellsI l)[j * 6 + 3]? = some (strV (l[j]'h).body) ∧ (cellsI l)[j * 6 + 4]? = some (.int .i64 (l[j]'h).date) ∧ (cellsI l)[j * 6 + 5]? = some (.bool (l[j]'h).dated)
  | [], j, h => by simp at h
  | x :: t, 0, _ => ⟨rfl, rfl, rfl, rfl, rfl, rfl⟩
  | x :: t, j + 1, h => by
    have := cellsI_at t j (by simpa using h)
    have e : cellsI (x :: t) = strV x.guid :: strV x.title :: strV x.link :: strV x.body :: .int .i64 x.date :: .bool x.dated :: cellsI t := rfl
    have e1 : ∀ i, (cellsI (x :: t))[(j + 1) * 6 + i]? = (cellsI t)[j * 6 + i]? := fun i => by
      rw [e, show (j + 1) * 6 + i = (j * 6 + i) + 1 + 1 + 1 + 1 + 1 + 1 by omega]; simp only [List.getElem?_cons_succ]
    have e0 := e1 0
    rw [Nat.add_zero, Nat.add_zero] at e0
    rw [e0, e1, e1, e1, e1, e1]
    simpa using this
/-- An entry in memory. -/
structure ItAt (w : World) (b o : Nat) (x : It) : Prop where
  c0 : w.cell? ⟨b, o, none⟩ = some (strV x.guid)
  c1 : w.cell? ⟨b, o + 1, none⟩ = some (strV x.title)
  c2 : w.cell? ⟨b, o + 2, none⟩ = some (strV x.link)
  c3 : w.cell? ⟨b, o + 3, none⟩ = some (strV x.body)
  c4 : w.cell? ⟨b, o + 4, none⟩ = some (.int .i64 x.date)
  c5 : w.cell? ⟨b, o + 5, none⟩ = some (.bool x.dated)
theorem OwnI.at {w : World} {B : Nat} {v : Value} {l : List It} (h : OwnI w B v l) {j : Nat} (hj : j < l.length) : ∃ g cap, v = .slice (some ⟨g, 0, none⟩) l.length cap ∧ l.length ≤ cap ∧ v.ownBlock = some g ∧ ItAt w g (j * 6) (l[j]'hj) := by
  have hcg := fun g hv => World.ownsRow.cells h (g := g) hv
  rcases h.2 with ⟨_, hn⟩ | ⟨g, cap, cur, hv, _, _, hcap, _⟩
  · omega
  · have hob : v.ownBlock = some g := by rw [hv]; rfl
    obtain ⟨e0, e1, e2, e3, e4, e5⟩ := cellsI_at l j hj
    have hadd : ∀ i, (⟨g, 0, none⟩ : Addr).add i = ⟨g, i, none⟩ := fun i => by unfold Addr.add; split <;> simp_all
    have h0 := hcg g hob _ _ e0
    have h1 := hcg g hob _ _ e1
    have h2 := hcg g hob _ _ e2
    have h3 := hcg g hob _ _ e3
    have h4 := hcg g hob _ _ e4
    have h5 := hcg g hob _ _ e5
    rw [hadd] at h0 h1 h2 h3 h4 h5
    exact ⟨g, cap, hv, hcap, hob, h0, h1, h2, h3, h4, h5⟩
theorem OwnI.all {w : World} {B : Nat} {v : Value} {l : List It} (h : OwnI w B v l) : ∃ a c, v = .slice a l.length c ∧ l.length ≤ c ∧ ∀ j (hj : j < l.length), ∃ g, a = some ⟨g, 0, none⟩ ∧ ItAt w g (j * 6) (l[j]'hj) := by
  obtain ⟨a, c, rfl, hc⟩ := own_cap h
  refine ⟨a, c, rfl, hc, fun j hj => ?_⟩
  obtain ⟨g, cap, hv, _, _, hat⟩ := h.at hj
  injection hv with e _ _
  exact ⟨g, e, hat⟩
theorem ItAt.drawn {w : World} {b o : Nat} {x : It} (h : ItAt w b o x) (n : Nat) : ItAt (w.drewN n) b o x := ⟨by simpa using h.c0, by simpa using h.c1, by simpa using h.c2, by simpa using h.c3, by simpa using h.c4, by simpa using h.c5⟩
theorem ItsPost.one {w w' : World} {x : It} {e : Ending} (h : ItsPost w (.its [x]) e w') : ∃ g c, 1 ≤ c ∧ e = .returned (.tuple #[.slice (some ⟨g, 0, none⟩) 1 c, .nilIface]) ∧ ItAt w' g 0 x ∧ Below w.heap.size w w' := by
  obtain ⟨v, h1, h2, h3⟩ := h
  obtain ⟨g, c, rfl, hc, _, hat⟩ := h2.at (j := 0) (by simp)
  exact ⟨g, c, hc, h1, by simpa using hat, h3⟩
theorem ItsPost.no {w w' : World} {q : Int} {e : Ending} (h : ItsPost w (.bad q) e w') : ∃ f, e = .returned (.tuple #[.slice none 0 0, faultV f]) ∧ FaultAt w' f 0 (codeV q) ∧ Below w.heap.size w w' := h
theorem ItAt.next {w w' : World} {b o : Nat} {x : It} (h : ItAt w b o x) (hb : Below w.heap.size w w') : ItAt w' b o x := by
  have hlt := World.block_lt_of_cell? w ⟨b, o, none⟩ h.c0
  have hc : ∀ k, w'.cell? ⟨b, k, none⟩ = w.cell? ⟨b, k, none⟩ := fun k => hb.cell (p := ⟨b, k, none⟩) hlt
  exact ⟨(hc _).trans h.c0, (hc _).trans h.c1, (hc _).trans h.c2, (hc _).trans h.c3, (hc _).trans h.c4, (hc _).trans h.c5⟩
end Go.Proofs.YtkgjbamkinfmeaaGreatDoor

/- From a law's walk to its row: the plain words, for every law of plain data that answers true and leaves what was there alone. -/
namespace Go.Proofs.YtkgjbamkinfmeaaGreatDoor
open Go.ChangeShapes Go.WideShapes Go.ChangeAt Go.RowKit

theorem own : ownKnob Tryz.prog.godebug = none := by kernel_rfl
theorem laidOut : laidOutB Tryz.prog = true := by kernel_rfl

section
variable {H : Type} {enc : TypeId × Value → H} {P : Program}

/-- What was read reads as it did, where nothing old has turned. -/
theorem trodAll_below (hl : laidOutB P = true) {W W' : World} (hb : Below W.heap.size W W') : ∀ (ts : List TypeId), (∀ t ∈ ts, P.readableRec t = true ∧ t < P.types.size) → ∀ (vs : List Value) (ds : List (DataW H)) (ps : List MemPlace),
    (∀ x ∈ ps, x.block < W.heap.size) → DataW.TrodAll enc P W 0 (fun _ => true) true ts vs ds ps → DataW.TrodAll enc P W' 0 (fun b => decide (b < W.heap.size)) true ts vs ds ps
  | [], _, vs, ds, ps, _, h => by
    obtain ⟨rfl, rfl, rfl⟩ := trodAll_nil h
    exact trodAll_mk0
  | t :: ts, hr, vs, ds, ps, hlt, h => by
    obtain ⟨v, vs', d, ds', p, q, rfl, rfl, rfl, h1, h2⟩ := trodAll_cons h
    have hrt := hr t (List.mem_cons_self ..)
    exact trodAll_cons_mk (Below.trod hl hrt.1 hrt.2 h1 hb fun x hx => hlt x (List.mem_append_left _ hx))
      (trodAll_below hl hb ts (fun t ht => hr t (List.mem_cons_of_mem _ ht)) vs' ds' q (fun x hx => hlt x (List.mem_append_right _ hx)) h2)

/-- A law's post: true, the arguments as they were. -/
theorem law_post {f : Func} {s : ChangeSpec} {W W' : World} {args : Array Value} {ds gs : List (DataW H)} {before : List MemPlace} {T : TypeId} (hl : laidOutB P = true)
    (hW : DataW.Whole enc P f.params.toList s.vars false W args.toList ds gs before) (hT : f.resultTypes = #[T]) (hu : P.underlying T = some .bool)
    (hr : ∀ t ∈ f.params.toList, P.readableRec t = true ∧ t < P.types.size) (hv : s.vars = []) (h1 : (s.fn H (ds ++ gs)).results = [.lit (.bool true)]) (h2 : (s.fn H (ds ++ gs)).args = ds) (h3 : (s.fn H (ds ++ gs)).vars = [])
    (hb : Below W.heap.size W W') : s.post enc P f false true false false W args (.bool true) W' := by
  have hlt := hW.lt
  obtain ⟨p, q, hA, hV, rfl, hfz, hnd⟩ := id hW
  rw [hv] at hV
  obtain ⟨rfl, rfl⟩ := trodVars_none hV
  refine ⟨ds, [], p ++ [], [], p, [], hW, ?_, ?_, ?_, hb.frame _, fun h => by cases h⟩
  · rw [h1, hT]; exact trodAll_mk1 (t := T) (v := .bool true) (shut_bool hu true)
  · rw [h2]; exact trodAll_below hl hb _ hr _ _ _ (fun x hx => hlt x (List.mem_append_left _ hx)) hA
  · rw [h3, hv]; rfl

/-- A string argument, as a list of bytes. -/
theorem open_text {r : Reach} {b0 base : Nat} {sp : Nat → Bool} {held : Bool} {w : World} {t : TypeId} {v : Value} {d : DataW H} {ps : List MemPlace} (ht : P.underlying t = some .string) (hval : Value.okWide P w r b0 t v) (hd : DataW.Trod enc P w base sp held t v d ps) :
    ∃ l : List UInt8, v = .string ⟨l.toArray⟩ ∧ l.length ≤ maxLen := by
  obtain ⟨s, rfl, _, _, hs⟩ := Go.ChangeMaps.open_string ht hval hd
  exact ⟨s.data.toList, rfl, hs⟩

/-- A slice of integers that came in. -/
theorem open_intSl {r : Reach} {b0 : Nat} {w : World} {t e : TypeId} {k : IntKind} {v : Value} {d : DataW H} {ps : List MemPlace} (ht : P.underlying t = some (.slice e)) (he : P.underlying e = some (.int k)) (hc : P.cellsOf e = 1)
    (hval : Value.okWide P w r b0 t v) (hd : DataW.Trod enc P w 0 (fun _ => true) true t v d ps) (hlt : ∀ x ∈ ps, x.block < w.heap.size) :
    ∃ xs : List Int, IntSl k w v xs ∧ SlBelow w.heap.size v ∧ xs.length ≤ maxLen ∧ ∀ n ∈ xs, (Lit.int k n).wf = true := by
  obtain ⟨a0, len, cap, rfl⟩ := okWide_slice ht hval
  obtain ⟨fuel, hf⟩ := hd
  rcases open_ints ht he hc hf with ⟨hcs, _⟩ | ⟨a, len', cap', zs, hcs, _, hl, hm, hz, hx, hcell, hwz⟩
  · simp [Value.cells] at hcs
    obtain ⟨rfl, rfl, rfl⟩ := hcs
    exact ⟨[], Or.inl ⟨rfl, _, _, rfl⟩, fun a n c h => by simp at h, Nat.zero_le _, by simp⟩
  · simp [Value.cells] at hcs
    obtain ⟨rfl, rfl, rfl⟩ := hcs
    simp only [if_true] at hz
    simp only [Prod.mk.injEq] at hx
    obtain ⟨rfl, rfl⟩ := hx
    have hblk : 0 < len → a.spot = none ∧ a.block < w.heap.size := by
      intro h0
      have hc0 := hcell 0 (by omega)
      have hs : a.spot = none := by simpa [Addr.add] using World.cell?_spot hc0
      have := World.block_lt_of_cell? w _ hc0
      refine ⟨hs, ?_⟩
      obtain ⟨b, off, spot⟩ := a
      simp at hs
      subst hs
      simpa [Addr.add] using this
    refine ⟨zs.take len, ?_, ?_, ?_, fun n hn => hwz n (List.mem_of_mem_take hn)⟩
    · by_cases h0 : len = 0
      · subst h0; exact Or.inl ⟨rfl, _, _, rfl⟩
      · obtain ⟨b, off, spot⟩ := a
        have hs := (hblk (by omega)).1
        simp at hs
        subst hs
        have hlen : (zs.take len).length = len := by rw [List.length_take]; omega
        refine Or.inr ⟨b, off, cap, by rw [hlen], fun j hj => ?_⟩
        have hj' : j < len := by omega
        have := hcell j (by omega)
        rw [add_plain] at this
        rw [this]
        simp [List.getD, hj']
    · intro a' n c h h0
      simp at h
      obtain ⟨rfl, rfl, rfl⟩ := h
      exact (hblk h0).2
    · rw [List.length_take]; omega
end
end Go.Proofs.YtkgjbamkinfmeaaGreatDoor

/- From a row's listed variables to what the walks ask: each listed variable by its name, wherever it stands on the list. -/
namespace Go.Proofs.YtkgjbamkinfmeaaGreatDoor
open Go.ChangeShapes Go.WideShapes Go.ChangeAt Go.RowKit

section
variable {P : Program}

theorem laidVars_mem : ∀ (l : List (String × DataW Unit)) (W : World) (ps : List MemPlace), DataW.LaidVars P W l ps → ∀ n d, (n, d) ∈ l →
    ∃ g t cs fuel p, P.globalNamed n = some g ∧ (P.globals[g]?).map (·.type) = some t ∧ W.var? P n = some cs ∧ DataW.trod (fun _ => ()) P W 0 (fun _ => true) false fuel t cs.toList = some (d, p)
  | [], _, _, _, n, d, hm => by simp at hm
  | (n0, d0) :: r, W, ps, h, n, d, hm => by
    obtain ⟨g, t, cs, fuel, p, q, h1, h2, h3, h4, h5, _⟩ := h
    rcases List.mem_cons.1 hm with hm | hm
    · injection hm with e1 e2
      subst e1 e2
      exact ⟨g, t, cs, fuel, p, h1, h2, h3, h4⟩
    · exact laidVars_mem r W q h5 n d hm

/-- A listed variable of one cell: its cell, and what it reads as. -/
theorem laid_one {l : List (String × DataW Unit)} {W : World} (h : laidMet P l W) {n : String} {d : DataW Unit} (hm : (n, d) ∈ l) {g t : Nat} (hg : P.globalNamed n = some g) (ht : (P.globals[g]?).map (·.type) = some t) :
    ∃ cs fuel p, W.var? P n = some cs ∧ DataW.trod (fun _ => ()) P W 0 (fun _ => true) false fuel t cs.toList = some (d, p) := by
  obtain ⟨ps, hl, _⟩ := h
  obtain ⟨g', t', cs, fuel, p, h1, h2, h3, h4⟩ := laidVars_mem l W ps hl n d hm
  obtain rfl := Option.some.inj (hg.symm.trans h1)
  obtain rfl := Option.some.inj (ht.symm.trans h2)
  exact ⟨cs, fuel, p, h3, h4⟩
theorem laid_cell {W : World} {n : String} {g : Nat} {cs : Array Value} {v : Value} (hg : P.globalNamed n = some g) (hv : W.var? P n = some cs) (hc : cs.toList = [v]) : W.cell? ⟨g, 0, none⟩ = some v := by
  have := World.var?_cell hg hv 0
  rw [Array.eq_one_of_toList hc] at this
  simpa using this
end
end Go.Proofs.YtkgjbamkinfmeaaGreatDoor

/- An array of texts that a row lists: its cells. -/
namespace Go.Proofs.YtkgjbamkinfmeaaGreatDoor
open Go.ChangeShapes Go.WideShapes Go.ChangeAt Go.RowKit

/-- Texts as a row lists them: an array. -/
def strD {H : Type} (L : List (List UInt8)) : DataW H := .agg (L.map fun s => .lit (.string s))
theorem cells_of_strs {H : Type} {enc : TypeId × Value → H} {P : Program} {w : World} {base : Nat} {sp : Nat → Bool} {held : Bool} {fuel : Nat} {t e : TypeId} {n : Nat} {cs : List Value} {L : List (List UInt8)} {p : List MemPlace}
    (ht : P.underlying t = some (.array n e)) (he : P.underlying e = some .string) (hce : P.cellsOf e = 1) (hct : P.cellsOf t = n)
    (h : DataW.trod enc P w base sp held fuel t cs = some (strD L, p)) : cs = L.map strV := by
  cases fuel with
  | zero => simp [DataW.trod] at h
  | succ fuel =>
    simp only [DataW.trod, ht, hce, hct, Nat.mul_one] at h
    split at h
    · obtain ⟨xs, hm, hx⟩ := Option.map_eq_some_iff.1 h
      have hxs : xs.map (·.1) = L.map fun s => (DataW.lit (.string s) : DataW H) := by
        have := congrArg Prod.fst hx
        simpa [strD] using this
      have hxl : xs.length = n := by simpa using Lib.mapM_length hm
      have hzl : L.length = n := by
        have := congrArg List.length hxs
        simp at this
        omega
      apply List.ext_getElem?
      intro i
      by_cases hi : i < n
      · obtain ⟨b, hb, hf⟩ := Lib.mapM_at hm i i (by simp [hi])
        obtain ⟨s, hc, rfl, _⟩ := DataW.trod_string he hf
        have h1 : cs[i]? = some (.string s) := by
          have := congrArg (·[0]?) hc
          simpa [List.getElem?_take, List.getElem?_drop] using this
        have h2 : (xs.map (·.1))[i]? = some (DataW.lit (.string s.data.toList) : DataW H) := by simp [hb]
        rw [hxs] at h2
        simp only [List.getElem?_map, Option.map_eq_some_iff, DataW.lit.injEq, Lit.string.injEq] at h2
        obtain ⟨z, hz, ez⟩ := h2
        subst ez
        rw [h1, List.getElem?_map, hz]
        rfl
      · rw [List.getElem?_eq_none (by omega), List.getElem?_eq_none (by simp; omega)]
    · cases h
/-- A listed array of texts lies in memory. -/
theorem range_of_laid {P : Program} {l : List (String × DataW Unit)} {W : World} (h : laidMet P l W) {nm : String} {L : List (List UInt8)} (hm : (nm, strD L) ∈ l) {g t e n : Nat} (hg : P.globalNamed nm = some g) (ht : (P.globals[g]?).map (·.type) = some t)
    (hu : P.underlying t = some (.array n e)) (he : P.underlying e = some .string) (hce : P.cellsOf e = 1) (hct : P.cellsOf t = n) : W.rangeAt g 0 (L.map strV) := by
  obtain ⟨cs, fuel, p, hv, hd⟩ := laid_one h hm hg ht
  have hc := cells_of_strs hu he hce hct hd
  intro j v hj
  have := World.var?_cell hg hv j
  rw [Nat.zero_add, this, ← hj, ← hc]
  simp
/-- A listed array of integers is a table. -/
theorem tab_of_laid13 {P : Program} {l : List (String × DataW Unit)} {W : World} (h : laidMet P l W) {nm : String} {k : IntKind} {zs : List Int} (hm : (nm, Lib.tabData k zs) ∈ l) {g t e n : Nat} (hg : P.globalNamed nm = some g) (ht : (P.globals[g]?).map (·.type) = some t)
    (hu : P.underlying t = some (.array n e)) (he : P.underlying e = some (.int k)) (hce : P.cellsOf e = 1) (hct : P.cellsOf t = n) : Lib.TabIs P W nm k zs := by
  obtain ⟨cs, fuel, p, hv, hd⟩ := laid_one h hm hg ht
  unfold Lib.TabIs
  rw [hv, ← Lib.cells_of_tab hu he hce hct hd]
end Go.Proofs.YtkgjbamkinfmeaaGreatDoor
