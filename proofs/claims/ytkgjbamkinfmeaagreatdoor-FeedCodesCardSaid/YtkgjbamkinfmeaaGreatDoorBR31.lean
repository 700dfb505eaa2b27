/- Layer 14: Items. -/
import Derived.Test.YtkgjbamkinfmeaaGreatDoorBR30
import Derived.Test.YtkgjbamkinfmeaaGreatDoorBR27
import Derived.Test.YtkgjbamkinfmeaaGreatDoorBR16
import Derived.Test.YtkgjbamkinfmeaaGreatDoorBR17
import Derived.Test.YtkgjbamkinfmeaaGreatDoorBR18
import Derived.Test.YtkgjbamkinfmeaaGreatDoorBR19
import Derived.Test.YtkgjbamkinfmeaaGreatDoorBR20
namespace Go.Proofs.YtkgjbamkinfmeaaGreatDoor
open Go.RowKit

set_option maxRecDepth 100000 in
set_option maxHeartbeats 2000000 in
/-- What is handed to Read. -/
theorem one14_any (Q : List (Nd × Value)) (u : Value) (i most : Int) (mb : Nat) (w : World) (h : NdSl w u Q) (hn : Q.length ≤ 1000000) (hT : sumT (nodes Q) ≤ 2000000) (hE : Env13 w) (hm : w.cell? ⟨mb, 0, none⟩ = some (.int .i64 most)) :
    Calls Tryz.prog 66 #[u, .int .i64 i, .pointer (some ⟨mb, 0, none⟩)] w (ItPost w (itO (fieldB (nodes Q) i) r822C most)) := by
  have hr := arrAt_new w 48 (itC it0)
  have hb0 : Below w.heap.size w (w.alloc (.cells (itC it0).toArray 48)) := (Below.refl _ _).alloc (Nat.le_refl _) _
  have hen := entry14_any Q u i most _ (h.next hb0) hn hT (hE.below hb0)
  have hm1 := cell_next hm hb0
  have hsz : (w.alloc (.cells (itC it0).toArray 48)).heap.size = w.heap.size + 1 := by simp
  obtain ⟨a, ac, rfl⟩ := h.form
  generalize itO (fieldB (nodes Q) i) r822C most = o at hen ⊢
  clear h hE
  replace hr := Lib.hid hr
  replace hb0 := Lib.hid hb0
  replace hsz := Lib.hid hsz
  unfold itC it0 strV at hen hm1 hr hb0 hsz
  simp only at hen hm1 hr hb0 hsz
  replace hen := Lib.hid hen
  go_enter Tryz.func66, Tryz.ntmps66
  go_wp2_with fail
  refine hen.out.mono ?_
  rintro e w2 hh
  clear hen hm1
  cases o with
  | bad q =>
    obtain ⟨f, rfl, hlow, hfa, hb⟩ := hh
    rw [hsz.out] at hlow
    have hr2 : ArrAt w2 w.heap.size 48 (itC it0) := hr.out.next hb
    have hbw := Lib.hid (hb0.out.andThen hb)
    obtain ⟨⟨g0, k0⟩, ⟨g1, k1⟩, ⟨g2, k2⟩, ⟨g3, k3⟩, ⟨g4, k4⟩, ⟨g5, k5⟩⟩ := row14_zero hr2
    have hz := row14_zero (row14_set hr2 it0)
    unfold it0 strV at hz
    simp only at hz
    replace hz := Lib.hid hz
    replace hfa := Lib.hid hfa
    replace hr2 := Lib.hid hr2
    clear hb hr hb0 hsz
    unfold itV faultV itC it0 strV
    simp only
    go_wp2_with fail
    obtain ⟨⟨z0, -⟩, ⟨z1, -⟩, ⟨z2, -⟩, ⟨z3, -⟩, ⟨z4, -⟩, ⟨z5, -⟩⟩ := hz.out
    (try simp only [Exit.inBlock, Exit.then])
    refine bodyPost_ret (v := .tuple #[.agg #[.string ⟨#[]⟩, .string ⟨#[]⟩, .string ⟨#[]⟩, .string ⟨#[]⟩, .int .i64 0, .bool false], _]) (by simp [results, Tryz.results66, go_sem, z0, z1, z2, z3, z4, z5]; rfl) rfl ?_
    exact bad_end hbw.out (Nat.le_refl _) hr2.out hfa.out (by omega)
  | it x =>
    obtain ⟨rfl, hb⟩ := hh
    have hr2 : ArrAt w2 w.heap.size 48 (itC it0) := hr.out.next hb
    have hbw := Lib.hid (hb0.out.andThen hb)
    obtain ⟨⟨g0, k0⟩, ⟨g1, k1⟩, ⟨g2, k2⟩, ⟨g3, k3⟩, ⟨g4, k4⟩, ⟨g5, k5⟩⟩ := row14_zero hr2
    obtain ⟨xg, xt, xl, xb, xd, xk⟩ := x
    have hz := row14 (row14_set hr2 ⟨xg, xt, xl, xb, xd, xk⟩)
    unfold strV at hz
    simp only at hz
    replace hz := Lib.hid hz
    replace hr2 := Lib.hid hr2
    clear hb hr hb0 hsz
    unfold itV itC strV
    simp only
    go_wp2_with fail
    obtain ⟨⟨z0, -⟩, ⟨z1, -⟩, ⟨z2, -⟩, ⟨z3, -⟩, ⟨z4, -⟩, ⟨z5, -⟩⟩ := hz.out
    (try simp only [Exit.inBlock, Exit.then])
    refine bodyPost_ret (v := .tuple #[itV ⟨xg, xt, xl, xb, xd, xk⟩, .nilIface]) (by simp [results, Tryz.results66, go_sem, z0, z1, z2, z3, z4, z5]; rfl) rfl ?_
    exact it_end _ hbw.out (Nat.le_refl _)

set_option maxRecDepth 100000 in
set_option maxHeartbeats 2000000 in
theorem items14_any (P : List (Nd × Value)) (v : Value) (many most : Int) (w : World) (h : NdSl w v P) (hn : P.length ≤ 1000000) (hT : sumT (nodes P) ≤ 2000000) (hE : Env13 w) (hY : EnvT w) :
    Calls Tryz.prog 39 #[v, .int .i64 many, .int .i64 most] w (ItsPost w (itsB (nodes P) r822C many most)) := by
  obtain ⟨o, ho⟩ : ∃ o, itsB (nodes P) r822C many most = o := ⟨_, rfl⟩
  rw [ho]
  unfold itsB at ho
  have hbx : Below w.heap.size w (w.alloc (.cells #[.int .i64 most] 3)) := (Below.refl _ _).alloc (Nat.le_refl _) _
  have hm := (arrAt_new w 3 [.int .i64 most]).cell 0
  have hch := channel14_any P v _ (h.next hbx) hn
  obtain ⟨a, ac, hv⟩ := h.form
  replace hbx := Lib.hid hbx
  cases hcB : chanB (nodes P) with
  | none =>
    rw [hcB] at hch ho
    subst ho
    replace hch := Lib.hid hch
    clear h
    subst hv
    go_enter Tryz.func39, Tryz.ntmps39
    go_wp2_with fail
    refine hch.out.mono ?_
    rintro e w1 ⟨rfl, hb⟩
    replace hb := Lib.hid (hbx.out.andThen hb)
    clear hm
    go_wp2_with fail
    refine (fault14_any 5 _).mono ?_
    rintro e w2 ⟨rfl, hf, hb2⟩
    have hb3 := Lib.hid (hb.out.andThen hb2)
    replace hf := Lib.hid hf
    clear hb2
    go_wp2_with fail
    go_ret2
    exact ItsPost.bad hf.out hb3.out
  | some c =>
    rw [hcB] at hch ho
    simp only at ho
    have hcp := chanB_place hcB
    rw [nodes_len] at hcp
    obtain ⟨cn, rfl⟩ : ∃ cn : Nat, c = (cn : Int) := ⟨c.toNat, by omega⟩
    have hcl : cn < P.length := by omega
    have hread := fun W (hb : Below w.heap.size w W) (hmW : W.cell? ⟨w.heap.size, 0, none⟩ = some (.int .i64 most)) =>
      read14_any (fun _ => True) (fun l i => itO (fieldB l i) r822C most) 66 #[.pointer (some ⟨w.heap.size, 0, none⟩)] P v cn itemL many W (h.next hb) hn hT (hY.below hb) hcl (fun _ _ => trivial) Tryz.call66
        (fun q j l i t => by show itO _ _ _ = itO _ _ _; rw [show fieldB q j = fieldB l i from funext t.field]) (fun l i => itO_cases _ _ _)
        (fun Q u i W2 hQ h1 h2 _ hb2 => one14_any Q u i most w.heap.size W2 hQ h1 h2 ((hE.below hb).below hb2) (cell_next hmW hb2))
    rw [show readB (nodes P) (cn : Int) itemL (fun i => itO (fieldB (nodes P) i) r822C most) many = o from ho] at hread
    unfold itemL at hread
    replace hch := Lib.hid hch
    replace hread := Lib.hid hread
    clear h ho hcB hcp
    subst hv
    go_enter Tryz.func39, Tryz.ntmps39
    go_wp2_with fail
    refine hch.out.mono ?_
    rintro e w1 ⟨rfl, hb⟩
    have hm1 := cell_next hm hb
    have hb3 := hbx.out.andThen hb
    have hrd := Lib.hid (hread.out w1 hb3 hm1)
    replace hb3 := Lib.hid hb3
    clear hm hm1 hb hread hch
    go_wp2_with fail
    refine hrd.out.mono ?_
    rintro e w2 hh
    replace hh := Lib.hid (hh.from hb3.out)
    cases o with
    | bad q =>
      obtain ⟨f, rfl, hf⟩ := hh.out
      replace hf := Lib.hid hf
      clear hh
      go_wp2_with fail
      go_ret2
      exact ⟨f, rfl, hf.out⟩
    | its l =>
      obtain ⟨u, rfl, hu⟩ := hh.out
      replace hu := Lib.hid hu
      clear hh
      go_wp2_with fail
      go_ret2
      exact ⟨u, rfl, hu.out⟩
end Go.Proofs.YtkgjbamkinfmeaaGreatDoor

/- Layer 15: Link, and the reference's. -/
namespace Go.Proofs.YtkgjbamkinfmeaaGreatDoor
open Go.RowKit

/-- Attributes that can be gone through, and whose values can be cleaned. -/
def AtOk (l : List At) : Prop := l.length ≤ 9223372036854775807 ∧ ∀ a ∈ l, a.2.length ≤ 2000000
theorem attrB_bd {l : List At} {N : Nat} (h : ∀ a ∈ l, a.2.length ≤ N) (nm : List UInt8) : (attrB l nm).1.length ≤ N := by
  unfold attrB
  cases e : l.find? fun a => a.1 == nm with
  | none => simp
  | some a => exact h a (List.mem_of_find?_eq_some e)
theorem lead_yes {a : List At} {t : List (List At)} (h : goodA a = true) : leadB (a :: t) = some (cleanB (attrB a hrefL).1) := by
  unfold leadB
  rw [List.find?_cons_of_pos h]; rfl
theorem lead_no {a : List At} {t : List (List At)} (h : goodA a = false) : leadB (a :: t) = leadB t := by
  unfold leadB
  rw [List.find?_cons_of_neg (by rw [h]; decide)]
theorem good_is {a : List At} {s1 s2 : List UInt8} {b1 b2 : Bool} (h1 : attrB a hrefL = (s1, b1)) (h2 : attrB a relL = (s2, b2)) : goodA a = (b1 && (!b2 || s2 == altL)) := by
  unfold goodA; rw [h1, h2]
/-- A node of a list, to be loaded whole. -/
structure OneAt (w : World) (b o : Nat) (x : Nd) (va : Value) : Prop where
  c0 : w.cell? ⟨b, o, none⟩ = some (.string ⟨x.name.toArray⟩)
  c1 : w.cell? ⟨b, o + 1, none⟩ = some va
  c2 : w.cell? ⟨b, o + 2, none⟩ = some (.string ⟨x.text.toArray⟩)
  c3 : w.cell? ⟨b, o + 3, none⟩ = some (.int .i64 x.up)
  ats : AtSl w va x.attrs
theorem NdSl.one {w : World} {v : Value} {P : List (Nd × Value)} (h : NdSl w v P) {x : Int} (hx : placeB (nodes P) x = true) : ∃ (b off cap n : Nat) (va : Value), x = (n : Int) ∧ n < P.length ∧ P.length ≤ cap ∧ v = .slice (Option.some ⟨b, off, none⟩) P.length cap ∧ OneAt w b (off + n * 4) (atN (nodes P) x) va ∧ atN (nodes P) x ∈ nodes P := by
  have hp := place_iff.1 hx
  rw [nodes_len] at hp
  obtain ⟨n, rfl⟩ : ∃ n : Nat, x = (n : Int) := ⟨x.toNat, by omega⟩
  have hn : n < P.length := by omega
  obtain ⟨b, off, cap, h1, _, h2, h3⟩ := h.some (by omega)
  have hc := h3 n hn
  have ha := h.atsAt n hn
  have hm : P[n].1 ∈ nodes P := List.mem_map.2 ⟨_, List.getElem_mem hn, rfl⟩
  rw [nodes_at hn] at hc ha hm
  exact ⟨b, off, cap, n, _, rfl, hn, h1, h2, ⟨hc.c0, hc.c1, hc.c2, hc.c3, ha⟩, hm⟩

set_option maxRecDepth 100000 in
set_option maxHeartbeats 2000000 in
theorem link15_any (P : List (Nd × Value)) (v : Value) (i : Int) (w : World) (h : NdSl w v P) (hn : P.length ≤ 1000000) (hK : ∀ x ∈ nodes P, AtOk x.attrs) :
    Calls Tryz.prog 90 #[v, .int .i64 i] w (FldPost w (linkB (nodes P) i)) := by
  have hnm := named12_any P v i linkL w h hn
  unfold linkB linksB
  have hpl : ∀ j ∈ namedB (nodes P) i linkL, placeB (nodes P) j = true := fun j hj => (namedB_bd hj).1
  have hlen := namedB_len (nodes P) i linkL
  rw [nodes_len] at hlen
  generalize namedB (nodes P) i linkL = xs at hnm hpl hlen
  obtain ⟨o, ho⟩ : ∃ o, leadB (xs.map fun j => (atN (nodes P) j).attrs) = o := ⟨_, rfl⟩
  rw [ho]
  obtain ⟨a, ac, hv⟩ := h.form
  have hnx := fun W (hb : Below w.heap.size w W) => h.next hb
  unfold linkL at hnm
  subst hv
  replace hnm := Lib.hid hnm
  replace hnx := Lib.hid hnx
  replace hpl := Lib.hid hpl
  replace hK := Lib.hid hK
  replace h := Lib.hid h
  replace ho := Lib.hid ho
  go_enter Tryz.func90, Tryz.ntmps90
  go_wp2_with fail
  refine hnm.out.mono ?_
  rintro e w0 ⟨u, rfl, hu, hb⟩
  have hrd := hu.rd
  obtain ⟨ua, uc, rfl⟩ := own_form hu
  have hcells : ∀ W, Below w0.heap.size w0 W → ∀ j, j < xs.length → ∃ ub uo, ua = some ⟨ub, uo, none⟩ ∧ W.cell? ⟨ub, uo + j, none⟩ = some (.int .i64 (xs.getD j 0)) := fun W hb j hj => by
    rcases (hrd.next hb).sl with ⟨rfl, _⟩ | ⟨ub, uo, c, e, hc⟩
    · simp at hj
    · injection e with e1 e2 e3
      exact ⟨ub, uo, e1, hc j hj⟩
  replace hcells := Lib.hid hcells
  replace hb := Lib.hid hb
  clear hnm hu hrd
  go_wp2_with fail
  go_loopw [16] (fun ii wr => ∃ k : Nat, ii = .int .i64 k ∧ k ≤ xs.length ∧ Hid (leadB ((xs.drop k).map fun j => (atN (nodes P) j).attrs) = o) ∧ Hid (Below w0.heap.size w0 wr)) (fun ii _ => xs.length - (intOf ii).toNat)
  case atStart => exact ⟨0, rfl, Nat.zero_le _, ho, Below.refl _ _⟩
  case round =>
    clear ho
    obtain ⟨k, rfl, hk, ho, hbl⟩ := hrel
    by_cases hlt : k < xs.length
    · have hlt1 : (k : Int) < xs.length := by omega
      have hkm : (k : Int) + 1 ≤ 9223372036854775807 := by omega
      obtain ⟨ub, uo, rfl, i0⟩ := hcells.out wr hbl.out k hlt
      have hxm : xs.getD k 0 ∈ xs := by
        have : xs.getD k 0 = xs[k]'hlt := by simp [List.getD, hlt]
        rw [this]; exact List.getElem_mem hlt
      have hdr := drop_at xs 0 k hlt
      have hnd := hnx.out wr (hb.out.andThen hbl.out)
      obtain ⟨nb, no, nc, n, va, hn1, hn2, hn3, hn4, hO, hm⟩ := hnd.one (hpl.out _ hxm)
      injection hn4 with hn5 hn6 hn7
      have hA := hK.out _ hm
      have hol : Hid (leadB ((atN (nodes P) (xs.getD k 0)).attrs :: (xs.drop (k + 1)).map fun j => (atN (nodes P) j).attrs) = o) := by
        have := ho.out
        rw [hdr] at this
        exact this
      clear ho hm hdr hxm
      rw [hn1] at i0
      generalize atN (nodes P) (xs.getD k 0) = x at hO hA hol
      clear hn1
      subst hn5
      obtain ⟨x0, x1, x2, x3, hats⟩ := hO
      have hn4' : (n : Int) < P.length := by omega
      obtain ⟨⟨s1, b1⟩, h1⟩ : ∃ p, attrB x.attrs hrefL = p := ⟨_, rfl⟩
      obtain ⟨⟨s2, b2⟩, h2⟩ : ∃ p, attrB x.attrs relL = p := ⟨_, rfl⟩
      have hsb := attrB_bd hA.2 hrefL
      rw [h1] at hsb
      have hgd := good_is h1 h2
      have q1 := fun W (hW : AtSl W va x.attrs) => attr12_any x va hrefL W hW hA.1
      have q2 := fun W (hW : AtSl W va x.attrs) => attr12_any x va relL W hW hA.1
      rw [h1] at q1
      rw [h2] at q2
      unfold ndA at q1 q2
      unfold hrefL at q1
      unfold relL at q2
      have hsa := Lib.hid ((congrArg (fun p => some (cleanB p.1)) h1 : some (cleanB (attrB x.attrs hrefL).1) = some (cleanB s1)))
      clear h1 h2
      have hO2 := fun W (hW : Below wr.heap.size wr W) => And.intro (cell_next x0 hW) (And.intro (cell_next x1 hW) (And.intro (cell_next x2 hW) (And.intro (cell_next x3 hW) (hats.next hW))))
      have hi2 := fun W (hW : Below wr.heap.size wr W) => cell_next i0 hW
      replace hO2 := Lib.hid hO2
      replace hi2 := Lib.hid hi2
      replace q1 := Lib.hid q1
      replace q2 := Lib.hid q2
      replace hA := Lib.hid hA
      have hats2 := Lib.hid hats
      clear hats hnd hn6 hn7
      go_wp2_with fail
      refine (q1.out _ hats2.out).mono ?_
      rintro e w2 ⟨rfl, hb2⟩
      obtain ⟨y0, y1, y2, y3, hats3⟩ := hO2.out w2 hb2
      have i1 := hi2.out w2 hb2
      replace hb2 := Lib.hid hb2
      replace hats3 := Lib.hid hats3
      clear x0 x1 x2 x3 i0
      go_wp2_with fail
      refine (q2.out _ hats3.out).mono ?_
      rintro e w3 ⟨rfl, hb3⟩
      have hb4 := Lib.hid (hb2.out.andThen hb3)
      clear hb3 hb2 y0 y1 y2 y3 i1
      replace hgd := Lib.hid hgd
      have hno : goodA x.attrs = false → Hid (leadB ((xs.drop (k + 1)).map fun j => (atN (nodes P) j).attrs) = o) := fun e => by
        have := hol.out
        rw [lead_no e] at this
        exact this
      have hyes : goodA x.attrs = true → Hid (some (cleanB s1) = o) := fun e => by
        have := hol.out
        rw [lead_yes e] at this
        exact hsa.out.symm.trans this
      replace hno := Lib.hid hno
      replace hyes := Lib.hid hyes
      have hbe := Lib.hid (hbl.out.andThen hb4.out)
      clear hb4 hbl hol hsa hats2 hats3 hO2 hi2 q1 q2
      cases b1 with
      | false =>
        have hf := hno.out (by rw [hgd.out]; rfl)
        clear hyes hno hgd
        cases b2 with
        | false =>
          go_wp2_with fail
          exact ⟨⟨k + 1, by go_num, by omega, hf, hbe⟩, by simp [intOf]; omega⟩
        | true =>
          go_wp2_with fail
          exact ⟨⟨k + 1, by go_num, by omega, hf, hbe⟩, by simp [intOf]; omega⟩
      | true =>
        cases b2 with
        | false =>
          have hf := hyes.out (by rw [hgd.out]; rfl)
          clear hyes hno hgd
          go_wp2_with fail
          refine (clean_any s1 _ hsb).mono ?_
          rintro e w5 ⟨rfl, hb5⟩
          have hbf := Lib.hid (hb.out.andThen (hbe.out.andThen hb5))
          clear hb5
          go_wp2_with fail
          go_ret2
          rw [← hf.out]
          exact ⟨rfl, hbf.out⟩
        | true =>
          by_cases hq : s2 = altL
          · have hf := hyes.out (by rw [hgd.out, hq]; rfl)
            clear hyes hno hgd
            subst hq
            unfold altL
            go_wp2_with fail
            refine (clean_any s1 _ hsb).mono ?_
            rintro e w5 ⟨rfl, hb5⟩
            have hbf := Lib.hid (hb.out.andThen (hbe.out.andThen hb5))
            clear hb5
            go_wp2_with fail
            go_ret2
            rw [← hf.out]
            exact ⟨rfl, hbf.out⟩
          · have hq1 : (s2 == altL) = false := by rw [beq_eq_false_iff_ne]; exact hq
            have hf := hno.out (by rw [hgd.out, hq1]; rfl)
            clear hyes hno hgd
            replace hq := Lib.hid hq
            unfold altL at hq1
            go_wp2_with fail
            exact ⟨⟨k + 1, by go_num, by omega, hf, hbe⟩, by simp [intOf]; omega⟩
    · have hlt2 : ¬ ((k : Int) < xs.length) := by omega
      have hof := ho.out
      rw [List.drop_eq_nil_of_le (by omega)] at hof
      have hbf := Lib.hid (hb.out.andThen hbl.out)
      replace hof := Lib.hid hof
      clear ho
      go_wp2_with fail
      go_ret2
      rw [← hof.out]
      exact ⟨rfl, hbf.out⟩
set_option maxRecDepth 100000 in
set_option maxHeartbeats 2000000 in
theorem reflink15_any (P : List (Nd × Value)) (v : Value) (i : Int) (w : World) (h : NdSl w v P) (hn : P.length ≤ 1000000) (hK : ∀ x ∈ nodes P, AtOk x.attrs) :
    Calls Tryz.prog 70 #[v, .int .i64 i] w (FldPost w (linkB (nodes P) i)) := by
  have hnm := refnamed12_any P v i linkL w h hn
  unfold linkB linksB
  have hpl : ∀ j ∈ namedB (nodes P) i linkL, placeB (nodes P) j = true := fun j hj => (namedB_bd hj).1
  have hlen := namedB_len (nodes P) i linkL
  rw [nodes_len] at hlen
  generalize namedB (nodes P) i linkL = xs at hnm hpl hlen
  obtain ⟨o, ho⟩ : ∃ o, leadB (xs.map fun j => (atN (nodes P) j).attrs) = o := ⟨_, rfl⟩
  rw [ho]
  obtain ⟨a, ac, hv⟩ := h.form
  have hnx := fun W (hb : Below w.heap.size w W) => h.next hb
  unfold linkL at hnm
  subst hv
  replace hnm := Lib.hid hnm
  replace hnx := Lib.hid hnx
  replace hpl := Lib.hid hpl
  replace hK := Lib.hid hK
  replace h := Lib.hid h
  replace ho := Lib.hid ho
  go_enter Tryz.func70, Tryz.ntmps70
  go_wp2_with fail
  refine hnm.out.mono ?_
  rintro e w0 ⟨u, rfl, hu, hb⟩
  have hrd := hu.rd
  obtain ⟨ua, uc, rfl⟩ := own_form hu
  have hcells : ∀ W, Below w0.heap.size w0 W → ∀ j, j < xs.length → ∃ ub uo, ua = some ⟨ub, uo, none⟩ ∧ W.cell? ⟨ub, uo + j, none⟩ = some (.int .i64 (xs.getD j 0)) := fun W hb j hj => by
    rcases (hrd.next hb).sl with ⟨rfl, _⟩ | ⟨ub, uo, c, e, hc⟩
    · simp at hj
    · injection e with e1 e2 e3
      exact ⟨ub, uo, e1, hc j hj⟩
  replace hcells := Lib.hid hcells
  replace hb := Lib.hid hb
  clear hnm hu hrd
  go_wp2_with fail
  go_loopw [7] (fun ii wr => ∃ k : Nat, ii = .int .i64 k ∧ k ≤ xs.length ∧ Hid (leadB ((xs.drop k).map fun j => (atN (nodes P) j).attrs) = o) ∧ Hid (Below w0.heap.size w0 wr)) (fun ii _ => xs.length - (intOf ii).toNat)
  case atStart => exact ⟨0, rfl, Nat.zero_le _, ho, Below.refl _ _⟩
  case round =>
    clear ho
    obtain ⟨k, rfl, hk, ho, hbl⟩ := hrel
    by_cases hlt : k < xs.length
    · have hlt1 : (k : Int) < xs.length := by omega
      have hkm : (k : Int) + 1 ≤ 9223372036854775807 := by omega
      obtain ⟨ub, uo, rfl, i0⟩ := hcells.out wr hbl.out k hlt
      have hxm : xs.getD k 0 ∈ xs := by
        have : xs.getD k 0 = xs[k]'hlt := by simp [List.getD, hlt]
        rw [this]; exact List.getElem_mem hlt
      have hdr := drop_at xs 0 k hlt
      have hnd := hnx.out wr (hb.out.andThen hbl.out)
      obtain ⟨nb, no, nc, n, va, hn1, hn2, hn3, hn4, hO, hm⟩ := hnd.one (hpl.out _ hxm)
      injection hn4 with hn5 hn6 hn7
      have hA := hK.out _ hm
      have hol : Hid (leadB ((atN (nodes P) (xs.getD k 0)).attrs :: (xs.drop (k + 1)).map fun j => (atN (nodes P) j).attrs) = o) := by
        have := ho.out
        rw [hdr] at this
        exact this
      clear ho hm hdr hxm
      rw [hn1] at i0
      generalize atN (nodes P) (xs.getD k 0) = x at hO hA hol
      clear hn1
      subst hn5
      obtain ⟨x0, x1, x2, x3, hats⟩ := hO
      have hn4' : (n : Int) < P.length := by omega
      obtain ⟨⟨s1, b1⟩, h1⟩ : ∃ p, attrB x.attrs hrefL = p := ⟨_, rfl⟩
      obtain ⟨⟨s2, b2⟩, h2⟩ : ∃ p, attrB x.attrs relL = p := ⟨_, rfl⟩
      have hsb := attrB_bd hA.2 hrefL
      rw [h1] at hsb
      have hgd := good_is h1 h2
      have q1 := fun W (hW : AtSl W va x.attrs) => refattr12_any x va hrefL W hW hA.1
      have q2 := fun W (hW : AtSl W va x.attrs) => refattr12_any x va relL W hW hA.1
      rw [h1] at q1
      rw [h2] at q2
      unfold ndA at q1 q2
      unfold hrefL at q1
      unfold relL at q2
      have hsa := Lib.hid ((congrArg (fun p => some (cleanB p.1)) h1 : some (cleanB (attrB x.attrs hrefL).1) = some (cleanB s1)))
      clear h1 h2
      have hO2 := fun W (hW : Below wr.heap.size wr W) => And.intro (cell_next x0 hW) (And.intro (cell_next x1 hW) (And.intro (cell_next x2 hW) (And.intro (cell_next x3 hW) (hats.next hW))))
      have hi2 := fun W (hW : Below wr.heap.size wr W) => cell_next i0 hW
      replace hO2 := Lib.hid hO2
      replace hi2 := Lib.hid hi2
      replace q1 := Lib.hid q1
      replace q2 := Lib.hid q2
      replace hA := Lib.hid hA
      have hats2 := Lib.hid hats
      clear hats hnd hn6 hn7
      go_wp2_with fail
      refine (q2.out _ hats2.out).mono ?_
      rintro e w2 ⟨rfl, hb2⟩
      obtain ⟨y0, y1, y2, y3, hats3⟩ := hO2.out w2 hb2
      have i1 := hi2.out w2 hb2
      replace hb2 := Lib.hid hb2
      replace hats3 := Lib.hid hats3
      clear x0 x1 x2 x3 i0
      go_wp2_with fail
      refine (q1.out _ hats3.out).mono ?_
      rintro e w3 ⟨rfl, hb3⟩
      have hb4 := Lib.hid (hb2.out.andThen hb3)
      clear hb3 hb2 y0 y1 y2 y3 i1
      replace hgd := Lib.hid hgd
      have hno : goodA x.attrs = false → Hid (leadB ((xs.drop (k + 1)).map fun j => (atN (nodes P) j).attrs) = o) := fun e => by
        have := hol.out
        rw [lead_no e] at this
        exact this
      have hyes : goodA x.attrs = true → Hid (some (cleanB s1) = o) := fun e => by
        have := hol.out
        rw [lead_yes e] at this
        exact hsa.out.symm.trans this
      replace hno := Lib.hid hno
      replace hyes := Lib.hid hyes
      have hbe := Lib.hid (hbl.out.andThen hb4.out)
      clear hb4 hbl hol hsa hats2 hats3 hO2 hi2 q1 q2
      cases b1 with
      | false =>
        have hf := hno.out (by rw [hgd.out]; rfl)
        clear hyes hno hgd
        cases b2 with
        | false =>
          go_wp2_with fail
          exact ⟨⟨k + 1, by go_num, by omega, hf, hbe⟩, by simp [intOf]; omega⟩
        | true =>
          go_wp2_with fail
          exact ⟨⟨k + 1, by go_num, by omega, hf, hbe⟩, by simp [intOf]; omega⟩
      | true =>
        cases b2 with
        | false =>
          have hf := hyes.out (by rw [hgd.out]; rfl)
          clear hyes hno hgd
          go_wp2_with fail
          refine (refclean_any s1 _ hsb).mono ?_
          rintro e w5 ⟨rfl, hb5⟩
          have hbf := Lib.hid (hb.out.andThen (hbe.out.andThen hb5))
          clear hb5
          go_wp2_with fail
          go_ret2
          rw [← hf.out]
          exact ⟨rfl, hbf.out⟩
        | true =>
          by_cases hq : s2 = altL
          · have hf := hyes.out (by rw [hgd.out, hq]; rfl)
            clear hyes hno hgd
            subst hq
            unfold altL
            go_wp2_with fail
            refine (refclean_any s1 _ hsb).mono ?_
            rintro e w5 ⟨rfl, hb5⟩
            have hbf := Lib.hid (hb.out.andThen (hbe.out.andThen hb5))
            clear hb5
            go_wp2_with fail
            go_ret2
            rw [← hf.out]
            exact ⟨rfl, hbf.out⟩
          · have hq1 : (s2 == altL) = false := by rw [beq_eq_false_iff_ne]; exact hq
            have hf := hno.out (by rw [hgd.out, hq1]; rfl)
            clear hyes hno hgd
            replace hq := Lib.hid hq
            unfold altL at hq1
            go_wp2_with fail
            exact ⟨⟨k + 1, by go_num, by omega, hf, hbe⟩, by simp [intOf]; omega⟩
    · have hlt2 : ¬ ((k : Int) < xs.length) := by omega
      have hof := ho.out
      rw [List.drop_eq_nil_of_le (by omega)] at hof
      have hbf := Lib.hid (hb.out.andThen hbl.out)
      replace hof := Lib.hid hof
      clear ho
      go_wp2_with fail
      go_ret2
      rw [← hof.out]
      exact ⟨rfl, hbf.out⟩
end Go.Proofs.YtkgjbamkinfmeaaGreatDoor

/- Layer 15: a field of several names; the reference's either. -/
namespace Go.Proofs.YtkgjbamkinfmeaaGreatDoor
open Go.RowKit

/-- The first of the fields of these names that is there. -/
def fieldsB (F : List UInt8 → Option (List UInt8)) : List (List UInt8) → Option (List UInt8)
  | [] => none
  | a :: t => match F a with
    | some s => some s
    | none => fieldsB F t
theorem fieldsB_one (F : List UInt8 → Option (List UInt8)) (a : List UInt8) : fieldsB F [a] = F a := by
  unfold fieldsB
  cases F a <;> rfl
theorem fieldsB_two (F : List UInt8 → Option (List UInt8)) (a b : List UInt8) : fieldsB F [a, b] = orB (F a) (F b) := by
  unfold fieldsB orB
  rw [fieldsB_one]
  cases F a <;> rfl
/-- Names in memory. -/
def NmAt (w : World) (b : Nat) (ns : List (List UInt8)) : Prop := ∀ j, j < ns.length → w.cell? ⟨b, j, none⟩ = some (.string ⟨(ns.getD j []).toArray⟩)
theorem NmAt.next {w w' : World} {b : Nat} {ns : List (List UInt8)} (h : NmAt w b ns) (hb : Below w.heap.size w w') : NmAt w' b ns := fun j hj => cell_next (h j hj) hb
theorem nmAt_one (w : World) (s : List UInt8) : NmAt (w.alloc (.cells #[.string ⟨s.toArray⟩] 9)) w.heap.size [s] := fun j hj => by
  have h := arrAt_new w 9 [.string ⟨s.toArray⟩]
  obtain rfl : j = 0 := by simp at hj; omega
  exact h.cell 0
theorem nmAt_two (w : World) (s t : List UInt8) : NmAt (w.alloc (.cells #[.string ⟨s.toArray⟩, .string ⟨t.toArray⟩] 9)) w.heap.size [s, t] := fun j hj => by
  have h := arrAt_new w 9 [.string ⟨s.toArray⟩, .string ⟨t.toArray⟩]
  have hj2 : j = 0 ∨ j = 1 := by simp at hj; omega
  rcases hj2 with rfl | rfl
  · exact h.cell 0
  · exact h.cell 1
set_option maxHeartbeats 1000000 in
theorem field15_any (P : List (Nd × Value)) (v : Value) (i : Int) (ns : List (List UInt8)) (b : Nat) (w : World) (h : NdSl w v P) (hn : P.length ≤ 1000000) (hT : sumT (nodes P) ≤ 2000000) (hm : NmAt w b ns) (hl : ns.length ≤ 1000) :
    Calls Tryz.prog 89 #[v, .int .i64 i, .slice (some ⟨b, 0, none⟩) ns.length ns.length] w (TextPost w ((fieldsB (fieldB (nodes P) i) ns).getD [])) := by
  have hf := fun W nm (hb : Below w.heap.size w W) => field14_any P v i nm W (h.next hb) hn hT
  have hcl := fun W (hb : Below w.heap.size w W) => hm.next hb
  generalize fieldB (nodes P) i = F at hf ⊢
  obtain ⟨a, c, hv⟩ := h.form
  obtain ⟨o, ho⟩ : ∃ o, fieldsB F ns = o := ⟨_, rfl⟩
  rw [ho]
  clear h hm
  subst hv
  replace hf := Lib.hid hf
  replace hcl := Lib.hid hcl
  replace ho := Lib.hid ho
  go_enter Tryz.func89, Tryz.ntmps89
  go_wp2_with fail
  go_loopw [13] (fun ii wr => ∃ k : Nat, ii = .int .i64 k ∧ k ≤ ns.length ∧ Hid (fieldsB F (ns.drop k) = o) ∧ Hid (Below w.heap.size w wr)) (fun ii _ => ns.length - (intOf ii).toNat)
  case atStart => exact ⟨0, rfl, Nat.zero_le _, ho, Below.refl _ _⟩
  case round =>
    clear ho
    obtain ⟨k, rfl, hk, ho, hbl⟩ := hrel
    by_cases hlt : k < ns.length
    · have hlt1 : (k : Int) < ns.length := by omega
      have hkm : (k : Int) + 1 ≤ 9223372036854775807 := by omega
      have c0 := hcl.out wr hbl.out k hlt
      have hfd := hf.out wr (ns.getD k []) hbl.out
      have hof := ho.out
      rw [drop_at ns [] k hlt] at hof
      unfold fieldsB at hof
      generalize ns.getD k [] = nm at c0 hfd hof
      generalize F nm = r at hfd hof
      replace hfd := Lib.hid hfd
      clear ho
      cases r with
      | some s =>
        replace hof := Lib.hid hof
        go_wp2_with fail
        refine hfd.out.mono ?_
        rintro e w2 ⟨rfl, hb2⟩
        have hb3 := Lib.hid (hbl.out.andThen hb2)
        clear hb2 hfd
        go_wp2_with fail
        go_ret
        rw [← hof.out]
        exact ⟨rfl, hb3.out⟩
      | none =>
        have ho : Hid (fieldsB F (ns.drop (k + 1)) = o) := hof
        clear hof
        go_wp2_with fail
        refine hfd.out.mono ?_
        rintro e w2 ⟨rfl, hb2⟩
        have hb3 := Lib.hid (hbl.out.andThen hb2)
        clear hb2 hfd
        go_wp2_with fail
        exact ⟨⟨k + 1, by go_num, by omega, ho, hb3⟩, by simp [intOf]; omega⟩
    · have hlt2 : ¬ ((k : Int) < ns.length) := by omega
      have hof := ho.out
      rw [List.drop_eq_nil_of_le (by omega)] at hof
      replace hof := Lib.hid hof
      clear ho
      go_wp2_with fail
      go_ret
      rw [← hof.out]
      exact ⟨rfl, hbl.out⟩

set_option maxHeartbeats 1000000 in
theorem refeither15_any (P : List (Nd × Value)) (v : Value) (i : Int) (na nb : List UInt8) (w : World) (h : NdSl w v P) (hn : P.length ≤ 1000000) (hT : sumT (nodes P) ≤ 2000000) :
    Calls Tryz.prog 71 #[v, .int .i64 i, .string ⟨na.toArray⟩, .string ⟨nb.toArray⟩] w (FldPost w (orB (fieldB (nodes P) i na) (fieldB (nodes P) i nb))) := by
  have hf := reffield14_any P v i na w h hn hT
  have hg := fun W (hb : Below w.heap.size w W) => reffield14_any P v i nb W (h.next hb) hn hT
  generalize fieldB (nodes P) i na = oa at hf ⊢
  generalize fieldB (nodes P) i nb = ob at hg ⊢
  obtain ⟨a, c, hv⟩ := h.form
  subst hv
  clear h
  replace hf := Lib.hid hf
  replace hg := Lib.hid hg
  go_enter Tryz.func71, Tryz.ntmps71
  go_wp2_with fail
  refine hf.out.mono ?_
  rintro e w2 ⟨rfl, hb2⟩
  cases oa with
  | some s =>
    replace hb2 := Lib.hid hb2
    go_wp2_with fail
    go_ret2
    exact ⟨rfl, hb2.out⟩
  | none =>
    have hg2 := Lib.hid (hg.out w2 hb2)
    replace hb2 := Lib.hid hb2
    go_wp2_with fail
    refine hg2.out.mono ?_
    rintro e w3 ⟨rfl, hb3⟩
    have hb4 := Lib.hid (hb2.out.andThen hb3)
    clear hb3
    go_wp2_with fail
    go_ret2
    exact ⟨rfl, hb4.out⟩
end Go.Proofs.YtkgjbamkinfmeaaGreatDoor
