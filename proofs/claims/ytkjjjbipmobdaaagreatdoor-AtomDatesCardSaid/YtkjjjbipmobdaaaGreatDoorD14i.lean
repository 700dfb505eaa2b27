/- Layer 14: Items. -/
import Derived.Test.YtkjjjbipmobdaaaGreatDoorD14v
import Derived.Test.YtkjjjbipmobdaaaGreatDoorD14g
namespace Go.Proofs.YtkjjjbipmobdaaaGreatDoor
open Go.RowKit

set_option maxRecDepth 100000 in
set_option maxHeartbeats 2000000 in
/-- What is handed to Read. -/
theorem one14_any (Q : List (Nd × Value)) (u : Value) (i most : Int) (mb : Nat) (w : World) (h : NdSl w u Q) (hn : Q.length ≤ 1000000) (hT : sumT (nodes Q) ≤ 2000000) (hE : Env13 w) (hm : w.cell? ⟨mb, 0, none⟩ = some (.int .i64 most)) :
    Calls Tryz.prog 43 #[u, .int .i64 i, .pointer (some ⟨mb, 0, none⟩)] w (ItPost w (itO (fieldB (nodes Q) i) r822C most)) := by
  have hr := arrAt_new w 40 (itC it0)
  have hb0 : Below w.heap.size w (w.alloc (.cells (itC it0).toArray 40)) := (Below.refl _ _).alloc (Nat.le_refl _) _
  have hen := entry14_any Q u i most _ (h.next hb0) hn hT (hE.below hb0)
  have hm1 := cell_next hm hb0
  have hsz : (w.alloc (.cells (itC it0).toArray 40)).heap.size = w.heap.size + 1 := by simp
  obtain ⟨a, ac, rfl⟩ := h.form
  generalize itO (fieldB (nodes Q) i) r822C most = o at hen ⊢
  clear h hE
  replace hr := Lib.hid hr
  replace hb0 := Lib.hid hb0
  replace hsz := Lib.hid hsz
  unfold itC it0 strV at hen hm1 hr hb0 hsz
  simp only at hen hm1 hr hb0 hsz
  replace hen := Lib.hid hen
  go_enter Tryz.func43, Tryz.ntmps43
  go_wp2_with fail
  refine hen.out.mono ?_
  rintro e w2 hh
  clear hen hm1
  cases o with
  | bad q =>
    obtain ⟨f, rfl, hlow, hfa, hb⟩ := hh
    rw [hsz.out] at hlow
    have hr2 : ArrAt w2 w.heap.size 40 (itC it0) := hr.out.next hb
    have hbw := Lib.hid (hb0.out.andThen hb)
    obtain ⟨⟨g0, k0⟩, ⟨g1, k1⟩, ⟨g2, k2⟩, ⟨g3, k3⟩, ⟨g4, k4⟩, ⟨g5, k5⟩⟩ := row14_zero hr2
    have hz := row14_zero (row14_set hr2 it0)
    unfold it0 strV at hz
    simp only at hz
    replace hz := Lib.hid hz
    replace hfa := Lib.hid hfa
    replace hr2 := Lib.hid hr2
    clear hb hr hb0 hsz
    unfold itV faultV itC it0 strV
    simp only
    go_wp2_with fail
    obtain ⟨⟨z0, -⟩, ⟨z1, -⟩, ⟨z2, -⟩, ⟨z3, -⟩, ⟨z4, -⟩, ⟨z5, -⟩⟩ := hz.out
    (try simp only [Exit.inBlock, Exit.then])
    refine bodyPost_ret (v := .tuple #[.agg #[.string ⟨#[]⟩, .string ⟨#[]⟩, .string ⟨#[]⟩, .string ⟨#[]⟩, .int .i64 0, .bool false], _]) (by simp [results, Tryz.results43, go_sem, z0, z1, z2, z3, z4, z5]; rfl) rfl ?_
    exact bad_end hbw.out (Nat.le_refl _) hr2.out hfa.out (by omega)
  | it x =>
    obtain ⟨rfl, hb⟩ := hh
    have hr2 : ArrAt w2 w.heap.size 40 (itC it0) := hr.out.next hb
    have hbw := Lib.hid (hb0.out.andThen hb)
    obtain ⟨⟨g0, k0⟩, ⟨g1, k1⟩, ⟨g2, k2⟩, ⟨g3, k3⟩, ⟨g4, k4⟩, ⟨g5, k5⟩⟩ := row14_zero hr2
    obtain ⟨xg, xt, xl, xb, xd, xk⟩ := x
    have hz := row14 (row14_set hr2 ⟨xg, xt, xl, xb, xd, xk⟩)
    unfold strV at hz
    simp only at hz
    replace hz := Lib.hid hz
    replace hr2 := Lib.hid hr2
    clear hb hr hb0 hsz
    unfold itV itC strV
    simp only
    go_wp2_with fail
    obtain ⟨⟨z0, -⟩, ⟨z1, -⟩, ⟨z2, -⟩, ⟨z3, -⟩, ⟨z4, -⟩, ⟨z5, -⟩⟩ := hz.out
    (try simp only [Exit.inBlock, Exit.then])
    refine bodyPost_ret (v := .tuple #[itV ⟨xg, xt, xl, xb, xd, xk⟩, .nilIface]) (by simp [results, Tryz.results43, go_sem, z0, z1, z2, z3, z4, z5]; rfl) rfl ?_
    exact it_end _ hbw.out (Nat.le_refl _)

set_option maxRecDepth 100000 in
set_option maxHeartbeats 2000000 in
theorem items14_any (P : List (Nd × Value)) (v : Value) (many most : Int) (w : World) (h : NdSl w v P) (hn : P.length ≤ 1000000) (hT : sumT (nodes P) ≤ 2000000) (hE : Env13 w) (hY : EnvT w) :
    Calls Tryz.prog 20 #[v, .int .i64 many, .int .i64 most] w (ItsPost w (itsB (nodes P) r822C many most)) := by
  obtain ⟨o, ho⟩ : ∃ o, itsB (nodes P) r822C many most = o := ⟨_, rfl⟩
  rw [ho]
  unfold itsB at ho
  have hbx : Below w.heap.size w (w.alloc (.cells #[.int .i64 most] 3)) := (Below.refl _ _).alloc (Nat.le_refl _) _
  have hm := (arrAt_new w 3 [.int .i64 most]).cell 0
  have hch := channel14_any P v _ (h.next hbx) hn
  obtain ⟨a, ac, hv⟩ := h.form
  replace hbx := Lib.hid hbx
  cases hcB : chanB (nodes P) with
  | none =>
    rw [hcB] at hch ho
    subst ho
    replace hch := Lib.hid hch
    clear h
    subst hv
    go_enter Tryz.func20, Tryz.ntmps20
    go_wp2_with fail
    refine hch.out.mono ?_
    rintro e w1 ⟨rfl, hb⟩
    replace hb := Lib.hid (hbx.out.andThen hb)
    clear hm
    go_wp2_with fail
    refine (fault14_any 5 _).mono ?_
    rintro e w2 ⟨rfl, hf, hb2⟩
    have hb3 := Lib.hid (hb.out.andThen hb2)
    replace hf := Lib.hid hf
    clear hb2
    go_wp2_with fail
    go_ret2
    exact ItsPost.bad hf.out hb3.out
  | some c =>
    rw [hcB] at hch ho
    simp only at ho
    have hcp := chanB_place hcB
    rw [nodes_len] at hcp
    obtain ⟨cn, rfl⟩ : ∃ cn : Nat, c = (cn : Int) := ⟨c.toNat, by omega⟩
    have hcl : cn < P.length := by omega
    have hread := fun W (hb : Below w.heap.size w W) (hmW : W.cell? ⟨w.heap.size, 0, none⟩ = some (.int .i64 most)) =>
      read14_any (fun _ => True) (fun l i => itO (fieldB l i) r822C most) 43 #[.pointer (some ⟨w.heap.size, 0, none⟩)] P v cn itemL many W (h.next hb) hn hT (hY.below hb) hcl (fun _ _ => trivial) Tryz.call43
        (fun q j l i t => by show itO _ _ _ = itO _ _ _; rw [show fieldB q j = fieldB l i from funext t.field]) (fun l i => itO_cases _ _ _)
        (fun Q u i W2 hQ h1 h2 _ hb2 => one14_any Q u i most w.heap.size W2 hQ h1 h2 ((hE.below hb).below hb2) (cell_next hmW hb2))
    rw [show readB (nodes P) (cn : Int) itemL (fun i => itO (fieldB (nodes P) i) r822C most) many = o from ho] at hread
    unfold itemL at hread
    replace hch := Lib.hid hch
    replace hread := Lib.hid hread
    clear h ho hcB hcp
    subst hv
    go_enter Tryz.func20, Tryz.ntmps20
    go_wp2_with fail
    refine hch.out.mono ?_
    rintro e w1 ⟨rfl, hb⟩
    have hm1 := cell_next hm hb
    have hb3 := hbx.out.andThen hb
    have hrd := Lib.hid (hread.out w1 hb3 hm1)
    replace hb3 := Lib.hid hb3
    clear hm hm1 hb hread hch
    go_wp2_with fail
    refine hrd.out.mono ?_
    rintro e w2 hh
    replace hh := Lib.hid (hh.from hb3.out)
    cases o with
    | bad q =>
      obtain ⟨f, rfl, hf⟩ := hh.out
      replace hf := Lib.hid hf
      clear hh
      go_wp2_with fail
      go_ret2
      exact ⟨f, rfl, hf.out⟩
    | its l =>
      obtain ⟨u, rfl, hu⟩ := hh.out
      replace hu := Lib.hid hu
      clear hh
      go_wp2_with fail
      go_ret2
      exact ⟨u, rfl, hu.out⟩
end Go.Proofs.YtkjjjbipmobdaaaGreatDoor
