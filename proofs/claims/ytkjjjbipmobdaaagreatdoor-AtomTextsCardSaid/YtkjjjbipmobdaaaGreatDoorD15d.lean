/- Layer 15: Items. -/
import Derived.Test.YtkjjjbipmobdaaaGreatDoorD15c
import Derived.Test.YtkjjjbipmobdaaaGreatDoorD14v
namespace Go.Proofs.YtkjjjbipmobdaaaGreatDoor
open Go.RowKit

set_option maxRecDepth 100000 in
set_option maxHeartbeats 2000000 in
/-- What is handed to Read. -/
theorem one15_any (Q : List (Nd × Value)) (u : Value) (i most : Int) (mb : Nat) (w : World) (h : NdSl w u Q) (hn : Q.length ≤ 1000000) (hT : sumT (nodes Q) ≤ 2000000) (hK : ∀ x ∈ nodes Q, AtOk x.attrs) (hm : w.cell? ⟨mb, 0, none⟩ = some (.int .i64 most)) :
    Calls Tryz.prog 31 #[u, .int .i64 i, .pointer (some ⟨mb, 0, none⟩)] w (ItPost w (itA (fieldB (nodes Q) i) (linkB (nodes Q) i) r3339C most)) := by
  have hr := arrAt_new w 40 (itC it0)
  have hb0 : Below w.heap.size w (w.alloc (.cells (itC it0).toArray 40)) := (Below.refl _ _).alloc (Nat.le_refl _) _
  have hen := entry15_any Q u i most _ (h.next hb0) hn hT hK
  have hm1 := cell_next hm hb0
  have hsz : (w.alloc (.cells (itC it0).toArray 40)).heap.size = w.heap.size + 1 := by simp
  obtain ⟨a, ac, rfl⟩ := h.form
  generalize itA (fieldB (nodes Q) i) (linkB (nodes Q) i) r3339C most = o at hen ⊢
  clear h
  replace hr := Lib.hid hr
  replace hb0 := Lib.hid hb0
  replace hsz := Lib.hid hsz
  unfold itC it0 strV at hen hm1 hr hb0 hsz
  simp only at hen hm1 hr hb0 hsz
  replace hen := Lib.hid hen
  go_enter Tryz.func31, Tryz.ntmps31
  go_wp2_with fail
  refine hen.out.mono ?_
  rintro e w2 hh
  clear hen hm1
  cases o with
  | bad q =>
    obtain ⟨f, rfl, hlow, hfa, hb⟩ := hh
    rw [hsz.out] at hlow
    have hr2 : ArrAt w2 w.heap.size 40 (itC it0) := hr.out.next hb
    have hbw := Lib.hid (hb0.out.andThen hb)
    obtain ⟨⟨g0, k0⟩, ⟨g1, k1⟩, ⟨g2, k2⟩, ⟨g3, k3⟩, ⟨g4, k4⟩, ⟨g5, k5⟩⟩ := row14_zero hr2
    have hz := row14_zero (row14_set hr2 it0)
    unfold it0 strV at hz
    simp only at hz
    replace hz := Lib.hid hz
    replace hfa := Lib.hid hfa
    replace hr2 := Lib.hid hr2
    clear hb hr hb0 hsz
    unfold itV faultV itC it0 strV
    simp only
    go_wp2_with fail
    obtain ⟨⟨z0, -⟩, ⟨z1, -⟩, ⟨z2, -⟩, ⟨z3, -⟩, ⟨z4, -⟩, ⟨z5, -⟩⟩ := hz.out
    (try simp only [Exit.inBlock, Exit.then])
    refine bodyPost_ret (v := .tuple #[.agg #[.string ⟨#[]⟩, .string ⟨#[]⟩, .string ⟨#[]⟩, .string ⟨#[]⟩, .int .i64 0, .bool false], _]) (by simp [results, Tryz.results31, go_sem, z0, z1, z2, z3, z4, z5]; rfl) rfl ?_
    exact bad_end hbw.out (Nat.le_refl _) hr2.out hfa.out (by omega)
  | it x =>
    obtain ⟨rfl, hb⟩ := hh
    have hr2 : ArrAt w2 w.heap.size 40 (itC it0) := hr.out.next hb
    have hbw := Lib.hid (hb0.out.andThen hb)
    obtain ⟨⟨g0, k0⟩, ⟨g1, k1⟩, ⟨g2, k2⟩, ⟨g3, k3⟩, ⟨g4, k4⟩, ⟨g5, k5⟩⟩ := row14_zero hr2
    obtain ⟨xg, xt, xl, xb, xd, xk⟩ := x
    have hz := row14 (row14_set hr2 ⟨xg, xt, xl, xb, xd, xk⟩)
    unfold strV at hz
    simp only at hz
    replace hz := Lib.hid hz
    replace hr2 := Lib.hid hr2
    clear hb hr hb0 hsz
    unfold itV itC strV
    simp only
    go_wp2_with fail
    obtain ⟨⟨z0, -⟩, ⟨z1, -⟩, ⟨z2, -⟩, ⟨z3, -⟩, ⟨z4, -⟩, ⟨z5, -⟩⟩ := hz.out
    (try simp only [Exit.inBlock, Exit.then])
    refine bodyPost_ret (v := .tuple #[itV ⟨xg, xt, xl, xb, xd, xk⟩, .nilIface]) (by simp [results, Tryz.results31, go_sem, z0, z1, z2, z3, z4, z5]; rfl) rfl ?_
    exact it_end _ hbw.out (Nat.le_refl _)

set_option maxRecDepth 100000 in
set_option maxHeartbeats 2000000 in
theorem items15_any (P : List (Nd × Value)) (v : Value) (many most : Int) (w : World) (h : NdSl w v P) (hn : P.length ≤ 1000000) (hT : sumT (nodes P) ≤ 2000000) (hK : ∀ x ∈ nodes P, AtOk x.attrs) (hY : EnvT w) :
    Calls Tryz.prog 11 #[v, .int .i64 many, .int .i64 most] w (ItsPost w (itsA (nodes P) r3339C many most)) := by
  obtain ⟨o, ho⟩ : ∃ o, itsA (nodes P) r3339C many most = o := ⟨_, rfl⟩
  rw [ho]
  unfold itsA at ho
  have hbx : Below w.heap.size w (w.alloc (.cells #[.int .i64 most] 3)) := (Below.refl _ _).alloc (Nat.le_refl _) _
  have hm := (arrAt_new w 3 [.int .i64 most]).cell 0
  by_cases h0 : P = []
  · subst h0
    obtain ⟨a, c, rfl⟩ := h.form
    rw [if_pos (Or.inl (show nodes [] = [] from rfl))] at ho
    subst ho
    clear h hm
    replace hbx := Lib.hid hbx
    go_enter Tryz.func11, Tryz.ntmps11
    go_wp2_with fail
    refine (fault14_any 5 _).mono ?_
    rintro e w2 ⟨rfl, hf, hb2⟩
    have hb3 := Lib.hid (hbx.out.andThen hb2)
    replace hf := Lib.hid hf
    clear hb2
    go_wp2_with fail
    go_ret2
    exact ItsPost.bad (by simpa using hf.out) hb3.out
  have hp0 : 0 < P.length := List.length_pos_iff.2 h0
  have hread := 
      read14_any AtOk (fun l i => itA (fieldB l i) (linkB l i) r3339C most) 31 #[.pointer (some ⟨w.heap.size, 0, none⟩)] P v 0 entryL many _ (h.next hbx) hn hT (hY.below hbx) hp0 hK Tryz.call31
        (fun q j l i t => itA_told t r3339C most) (fun l i => itA_cases _ _ _ _)
        (fun Q u i W2 hQ h1 h2 h3 hb2 => one15_any Q u i most w.heap.size W2 hQ h1 h2 h3 (cell_next hm hb2))
  obtain ⟨b, off, cap, hcap, hbl, rfl, hcl⟩ := (h.next hbx).some hp0
  obtain ⟨d0, _, _, _⟩ := hcl 0 hp0
  have hna : (P[0]'hp0).1 = atN (nodes P) 0 := nodes_at hp0
  rw [hna] at d0
  clear hcl hna
  have hne : nodes P ≠ [] := fun e => h0 (List.map_eq_nil_iff.1 e)
  have hl0 : ((P.length : Int) == 0) = false := by rw [beq_eq_false_iff_ne]; omega
  have hl1 : (P.length == 0) = false := by rw [beq_eq_false_iff_ne]; omega
  have hl2 : (0 : Int) < P.length := by omega
  unfold strV at d0
  rw [Nat.zero_mul, Nat.add_zero] at d0
  replace h := Lib.hid h
  replace h0 := Lib.hid h0
  replace hbx := Lib.hid hbx
  by_cases hq : (atN (nodes P) 0).name = feedL
  · rw [if_neg (by rintro (e | e); exact hne e; exact e hq)] at ho
    rw [show readB (nodes P) ((0 : Nat) : Int) entryL (fun i => itA (fieldB (nodes P) i) (linkB (nodes P) i) r3339C most) many = o from ho] at hread
    rw [hq] at d0
    unfold feedL at d0
    unfold entryL at hread
    replace hread := Lib.hid hread
    replace hq := Lib.hid hq
    clear ho hm
    go_enter Tryz.func11, Tryz.ntmps11
    go_wp2_with fail
    refine hread.out.mono ?_
    rintro e w2 hh
    replace hh := Lib.hid (hh.from hbx.out)
    cases o with
    | bad q =>
      obtain ⟨f, rfl, hf⟩ := hh.out
      replace hf := Lib.hid hf
      clear hh
      go_wp2_with fail
      go_ret2
      exact ⟨f, rfl, hf.out⟩
    | its l =>
      obtain ⟨u, rfl, hu⟩ := hh.out
      replace hu := Lib.hid hu
      clear hh
      go_wp2_with fail
      go_ret2
      exact ⟨u, rfl, hu.out⟩
  · rw [if_pos (Or.inr hq)] at ho
    subst ho
    have hq1 : ((atN (nodes P) 0).name == [102, 101, 101, 100]) = false := by rw [beq_eq_false_iff_ne]; exact hq
    generalize (atN (nodes P) 0).name = nm at d0 hq1
    clear hread hm
    replace hq := Lib.hid hq
    go_enter Tryz.func11, Tryz.ntmps11
    go_wp2_with fail
    refine (fault14_any 5 _).mono ?_
    rintro e w2 ⟨rfl, hf, hb2⟩
    have hb3 := Lib.hid (hbx.out.andThen hb2)
    replace hf := Lib.hid hf
    clear hb2
    go_wp2_with fail
    go_ret2
    exact ItsPost.bad (by simpa using hf.out) hb3.out
end Go.Proofs.YtkjjjbipmobdaaaGreatDoor
