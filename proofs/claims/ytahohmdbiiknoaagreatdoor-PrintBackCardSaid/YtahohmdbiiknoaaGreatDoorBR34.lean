/- Layer 14: dates read alike; the reference's Same; the law's code. -/
import Derived.Test.YtahohmdbiiknoaaGreatDoorBR31
import Derived.Test.YtahohmdbiiknoaaGreatDoorBR18
import Derived.Test.YtahohmdbiiknoaaGreatDoorBR33
import Derived.BigQuiet
import Derived.Test.YtahohmdbiiknoaaGreatDoorBR15
import Derived.Test.YtahohmdbiiknoaaGreatDoorBR08
import Derived.Test.YtahohmdbiiknoaaGreatDoorBR09
import Derived.Test.YtahohmdbiiknoaaGreatDoorBR12
import Derived.Test.YtahohmdbiiknoaaGreatDoorBR13
namespace Go.Proofs.YtahohmdbiiknoaaGreatDoor
open Go.RowKit

theorem itO_alike (F : List UInt8 → Option (List UInt8)) (most : Int) : itO F r822C most = itO F r822R most := by
  rw [itO_is rfl rfl rfl rfl, itO_is rfl rfl rfl rfl]
  cases F pubL with
  | none => rfl
  | some s =>
    obtain ⟨h1, h2⟩ := r822_alike s
    simp only
    cases hk : (r822C s).2 with
    | false => rw [← h1, hk]; simp
    | true => rw [← h1, hk, h2 hk]
theorem itsB_alike (l : List Nd) (many most : Int) : itsB l r822C many most = itsB l r822R many most := by
  unfold itsB readB
  have e : ∀ i, itO (fieldB l i) r822C most = itO (fieldB l i) r822R most := fun i => itO_alike _ _
  simp only [e]

set_option maxRecDepth 100000 in
set_option maxHeartbeats 2000000 in
theorem same14_any (l : List It) (u v : Value) (A B : Nat) (w : World) (h1 : OwnI w A u l) (h2 : OwnI w B v l) (hl : l.length ≤ 1000000) :
    Calls Tryz.prog 13 #[u, v] w fun e w' => e = .returned (.bool true) ∧ Drawn w w' := by
  obtain ⟨a, c, rfl, hac, h1⟩ := h1.all
  obtain ⟨b, d, rfl, hbd, h2⟩ := h2.all
  have hne : ((l.length : Int) != (l.length : Int)) = false := by simp
  replace h1 := Lib.hid h1
  replace h2 := Lib.hid h2
  go_enter Tryz.func13, Tryz.ntmps13
  go_wp2_with fail
  go_loopw [5] (fun i wr => ∃ k : Nat, i = .int .i64 k ∧ k ≤ l.length ∧ Drawn w wr) (fun i _ => l.length - (intOf i).toNat)
  case atStart => exact ⟨0, rfl, Nat.zero_le _, Drawn.refl _⟩
  case round =>
    obtain ⟨k, rfl, hk, n0, rfl⟩ := hrel
    by_cases hlt : k < l.length
    · have hlt1 : (k : Int) < l.length := by omega
      obtain ⟨g1, rfl, m1⟩ := h1.out k hlt
      obtain ⟨g2, rfl, m2⟩ := h2.out k hlt
      obtain ⟨x0, x1, x2, x3, x4, x5⟩ := m1
      obtain ⟨y0, y1, y2, y3, y4, y5⟩ := m2
      generalize l[k]'hlt = x at *
      obtain ⟨xg, xt, xl, xb, xd, xk⟩ := x
      unfold strV at x0 x1 x2 x3 y0 y1 y2 y3
      simp only at x0 x1 x2 x3 x4 x5 y0 y1 y2 y3 y4 y5
      have hkc : (k : Int) < c := by omega
      have hkd : (k : Int) < d := by omega
      have hkm : (k : Int) + 1 ≤ 9223372036854775807 := by omega
      go_wp2_with fail
      go_quiet (fail)
      go_wp2_with fail
      exact ⟨⟨k + 1, by go_num, by omega, ⟨_, rfl⟩⟩, by simp [intOf]; omega⟩
    · have hlt2 : ¬ ((k : Int) < l.length) := by omega
      go_wp2_with fail
      go_ret
      exact ⟨rfl, ⟨_, rfl⟩⟩

end Go.Proofs.YtahohmdbiiknoaaGreatDoor

/- Layer 15: Link, and the reference's. -/
namespace Go.Proofs.YtahohmdbiiknoaaGreatDoor
open Go.RowKit

/-- Attributes that can be gone through, and whose values can be cleaned. -/
def AtOk (l : List At) : Prop := l.length ≤ 9223372036854775807 ∧ ∀ a ∈ l, a.2.length ≤ 2000000
theorem attrB_bd {l : List At} {N : Nat} (h : ∀ a ∈ l, a.2.length ≤ N) (nm : List UInt8) : (attrB l nm).1.length ≤ N := by
  unfold attrB
  cases e : l.find? fun a => a.1 == nm with
  | none => simp
  | some a => exact h a (List.mem_of_find?_eq_some e)
theorem lead_yes {a : List At} {t : List (List At)} (h : goodA a = true) : leadB (a :: t) = some (cleanB (attrB a hrefL).1) := by
  unfold leadB
  rw [List.find?_cons_of_pos h]; rfl
theorem lead_no {a : List At} {t : List (List At)} (h : goodA a = false) : leadB (a :: t) = leadB t := by
  unfold leadB
  rw [List.find?_cons_of_neg (by rw [h]; decide)]
theorem good_is {a : List At} {s1 s2 : List UInt8} {b1 b2 : Bool} (h1 : attrB a hrefL = (s1, b1)) (h2 : attrB a relL = (s2, b2)) : goodA a = (b1 && (!b2 || s2 == altL)) := by
  unfold goodA; rw [h1, h2]
/-- A node of a list, to be loaded whole. -/
structure OneAt (w : World) (b o : Nat) (x : Nd) (va : Value) : Prop where
  c0 : w.cell? ⟨b, o, none⟩ = some (.string ⟨x.name.toArray⟩)
  c1 : w.cell? ⟨b, o + 1, none⟩ = some va
  c2 : w.cell? ⟨b, o + 2, none⟩ = some (.string ⟨x.text.toArray⟩)
  c3 : w.cell? ⟨b, o + 3, none⟩ = some (.int .i64 x.up)
  ats : AtSl w va x.attrs
theorem NdSl.one {w : World} {v : Value} {P : List (Nd × Value)} (h : NdSl w v P) {x : Int} (hx : placeB (nodes P) x = true) : ∃ (b off cap n : Nat) (va : Value), x = (n : Int) ∧ n < P.length ∧ P.length ≤ cap ∧ v = .slice (Option.some ⟨b, off, none⟩) P.length cap ∧ OneAt w b (off + n * 4) (atN (nodes P) x) va ∧ atN (nodes P) x ∈ nodes P := by
  have hp := place_iff.1 hx
  rw [nodes_len] at hp
  obtain ⟨n, rfl⟩ : ∃ n : Nat, x = (n : Int) := ⟨x.toNat, by omega⟩
  have hn : n < P.length := by omega
  obtain ⟨b, off, cap, h1, _, h2, h3⟩ := h.some (by omega)
  have hc := h3 n hn
  have ha := h.atsAt n hn
  have hm : P[n].1 ∈ nodes P := List.mem_map.2 ⟨_, List.getElem_mem hn, rfl⟩
  rw [nodes_at hn] at hc ha hm
  exact ⟨b, off, cap, n, _, rfl, hn, h1, h2, ⟨hc.c0, hc.c1, hc.c2, hc.c3, ha⟩, hm⟩

set_option maxRecDepth 100000 in
set_option maxHeartbeats 2000000 in
theorem reflink15_any (P : List (Nd × Value)) (v : Value) (i : Int) (w : World) (h : NdSl w v P) (hn : P.length ≤ 1000000) (hK : ∀ x ∈ nodes P, AtOk x.attrs) :
    Calls Tryz.prog 56 #[v, .int .i64 i] w (FldPost w (linkB (nodes P) i)) := by
  have hnm := refnamed12_any P v i linkL w h hn
  unfold linkB linksB
  have hpl : ∀ j ∈ namedB (nodes P) i linkL, placeB (nodes P) j = true := fun j hj => (namedB_bd hj).1
  have hlen := namedB_len (nodes P) i linkL
  rw [nodes_len] at hlen
  generalize namedB (nodes P) i linkL = xs at hnm hpl hlen
  obtain ⟨o, ho⟩ : ∃ o, leadB (xs.map fun j => (atN (nodes P) j).attrs) = o := ⟨_, rfl⟩
  rw [ho]
  obtain ⟨a, ac, hv⟩ := h.form
  have hnx := fun W (hb : Below w.heap.size w W) => h.next hb
  unfold linkL at hnm
  subst hv
  replace hnm := Lib.hid hnm
  replace hnx := Lib.hid hnx
  replace hpl := Lib.hid hpl
  replace hK := Lib.hid hK
  replace h := Lib.hid h
  replace ho := Lib.hid ho
  go_enter Tryz.func56, Tryz.ntmps56
  go_wp2_with fail
  refine hnm.out.mono ?_
  rintro e w0 ⟨u, rfl, hu, hb⟩
  have hrd := hu.rd
  obtain ⟨ua, uc, rfl⟩ := own_form hu
  have hcells : ∀ W, Below w0.heap.size w0 W → ∀ j, j < xs.length → ∃ ub uo, ua = some ⟨ub, uo, none⟩ ∧ W.cell? ⟨ub, uo + j, none⟩ = some (.int .i64 (xs.getD j 0)) := fun W hb j hj => by
    rcases (hrd.next hb).sl with ⟨rfl, _⟩ | ⟨ub, uo, c, e, hc⟩
    · simp at hj
    · injection e with e1 e2 e3
      exact ⟨ub, uo, e1, hc j hj⟩
  replace hcells := Lib.hid hcells
  replace hb := Lib.hid hb
  clear hnm hu hrd
  go_wp2_with fail
  go_loopw [7] (fun ii wr => ∃ k : Nat, ii = .int .i64 k ∧ k ≤ xs.length ∧ Hid (leadB ((xs.drop k).map fun j => (atN (nodes P) j).attrs) = o) ∧ Hid (Below w0.heap.size w0 wr)) (fun ii _ => xs.length - (intOf ii).toNat)
  case atStart => exact ⟨0, rfl, Nat.zero_le _, ho, Below.refl _ _⟩
  case round =>
    clear ho
    obtain ⟨k, rfl, hk, ho, hbl⟩ := hrel
    by_cases hlt : k < xs.length
    · have hlt1 : (k : Int) < xs.length := by omega
      have hkm : (k : Int) + 1 ≤ 9223372036854775807 := by omega
      obtain ⟨ub, uo, rfl, i0⟩ := hcells.out wr hbl.out k hlt
      have hxm : xs.getD k 0 ∈ xs := by
        have : xs.getD k 0 = xs[k]'hlt := by simp [List.getD, hlt]
        rw [this]; exact List.getElem_mem hlt
      have hdr := drop_at xs 0 k hlt
      have hnd := hnx.out wr (hb.out.andThen hbl.out)
      obtain ⟨nb, no, nc, n, va, hn1, hn2, hn3, hn4, hO, hm⟩ := hnd.one (hpl.out _ hxm)
      injection hn4 with hn5 hn6 hn7
      have hA := hK.out _ hm
      have hol : Hid (leadB ((atN (nodes P) (xs.getD k 0)).attrs :: (xs.drop (k + 1)).map fun j => (atN (nodes P) j).attrs) = o) := by
        have := ho.out
        rw [hdr] at this
        exact this
      clear ho hm hdr hxm
      rw [hn1] at i0
      generalize atN (nodes P) (xs.getD k 0) = x at hO hA hol
      clear hn1
      subst hn5
      obtain ⟨x0, x1, x2, x3, hats⟩ := hO
      have hn4' : (n : Int) < P.length := by omega
      obtain ⟨⟨s1, b1⟩, h1⟩ : ∃ p, attrB x.attrs hrefL = p := ⟨_, rfl⟩
      obtain ⟨⟨s2, b2⟩, h2⟩ : ∃ p, attrB x.attrs relL = p := ⟨_, rfl⟩
      have hsb := attrB_bd hA.2 hrefL
      rw [h1] at hsb
      have hgd := good_is h1 h2
      have q1 := fun W (hW : AtSl W va x.attrs) => refattr12_any x va hrefL W hW hA.1
      have q2 := fun W (hW : AtSl W va x.attrs) => refattr12_any x va relL W hW hA.1
      rw [h1] at q1
      rw [h2] at q2
      unfold ndA at q1 q2
      unfold hrefL at q1
      unfold relL at q2
      have hsa := Lib.hid ((congrArg (fun p => some (cleanB p.1)) h1 : some (cleanB (attrB x.attrs hrefL).1) = some (cleanB s1)))
      clear h1 h2
      have hO2 := fun W (hW : Below wr.heap.size wr W) => And.intro (cell_next x0 hW) (And.intro (cell_next x1 hW) (And.intro (cell_next x2 hW) (And.intro (cell_next x3 hW) (hats.next hW))))
      have hi2 := fun W (hW : Below wr.heap.size wr W) => cell_next i0 hW
      replace hO2 := Lib.hid hO2
      replace hi2 := Lib.hid hi2
      replace q1 := Lib.hid q1
      replace q2 := Lib.hid q2
      replace hA := Lib.hid hA
      have hats2 := Lib.hid hats
      clear hats hnd hn6 hn7
      go_wp2_with fail
      refine (q2.out _ hats2.out).mono ?_
      rintro e w2 ⟨rfl, hb2⟩
      obtain ⟨y0, y1, y2, y3, hats3⟩ := hO2.out w2 hb2
      have i1 := hi2.out w2 hb2
      replace hb2 := Lib.hid hb2
      replace hats3 := Lib.hid hats3
      clear x0 x1 x2 x3 i0
      go_wp2_with fail
      refine (q1.out _ hats3.out).mono ?_
      rintro e w3 ⟨rfl, hb3⟩
      have hb4 := Lib.hid (hb2.out.andThen hb3)
      clear hb3 hb2 y0 y1 y2 y3 i1
      replace hgd := Lib.hid hgd
      have hno : goodA x.attrs = false → Hid (leadB ((xs.drop (k + 1)).map fun j => (atN (nodes P) j).attrs) = o) := fun e => by
        have := hol.out
        rw [lead_no e] at this
        exact this
      have hyes : goodA x.attrs = true → Hid (some (cleanB s1) = o) := fun e => by
        have := hol.out
        rw [lead_yes e] at this
        exact hsa.out.symm.trans this
      replace hno := Lib.hid hno
      replace hyes := Lib.hid hyes
      have hbe := Lib.hid (hbl.out.andThen hb4.out)
      clear hb4 hbl hol hsa hats2 hats3 hO2 hi2 q1 q2
      cases b1 with
      | false =>
        have hf := hno.out (by rw [hgd.out]; rfl)
        clear hyes hno hgd
        cases b2 with
        | false =>
          go_wp2_with fail
          exact ⟨⟨k + 1, by go_num, by omega, hf, hbe⟩, by simp [intOf]; omega⟩
        | true =>
          go_wp2_with fail
          exact ⟨⟨k + 1, by go_num, by omega, hf, hbe⟩, by simp [intOf]; omega⟩
      | true =>
        cases b2 with
        | false =>
          have hf := hyes.out (by rw [hgd.out]; rfl)
          clear hyes hno hgd
          go_wp2_with fail
          refine (refclean_any s1 _ hsb).mono ?_
          rintro e w5 ⟨rfl, hb5⟩
          have hbf := Lib.hid (hb.out.andThen (hbe.out.andThen hb5))
          clear hb5
          go_wp2_with fail
          go_ret2
          rw [← hf.out]
          exact ⟨rfl, hbf.out⟩
        | true =>
          by_cases hq : s2 = altL
          · have hf := hyes.out (by rw [hgd.out, hq]; rfl)
            clear hyes hno hgd
            subst hq
            unfold altL
            go_wp2_with fail
            refine (refclean_any s1 _ hsb).mono ?_
            rintro e w5 ⟨rfl, hb5⟩
            have hbf := Lib.hid (hb.out.andThen (hbe.out.andThen hb5))
            clear hb5
            go_wp2_with fail
            go_ret2
            rw [← hf.out]
            exact ⟨rfl, hbf.out⟩
          · have hq1 : (s2 == altL) = false := by rw [beq_eq_false_iff_ne]; exact hq
            have hf := hno.out (by rw [hgd.out, hq1]; rfl)
            clear hyes hno hgd
            replace hq := Lib.hid hq
            unfold altL at hq1
            go_wp2_with fail
            exact ⟨⟨k + 1, by go_num, by omega, hf, hbe⟩, by simp [intOf]; omega⟩
    · have hlt2 : ¬ ((k : Int) < xs.length) := by omega
      have hof := ho.out
      rw [List.drop_eq_nil_of_le (by omega)] at hof
      have hbf := Lib.hid (hb.out.andThen hbl.out)
      replace hof := Lib.hid hof
      clear ho
      go_wp2_with fail
      go_ret2
      rw [← hof.out]
      exact ⟨rfl, hbf.out⟩
end Go.Proofs.YtahohmdbiiknoaaGreatDoor

/- Layer 15: a field of several names; the reference's either. -/
namespace Go.Proofs.YtahohmdbiiknoaaGreatDoor
open Go.RowKit

/-- The first of the fields of these names that is there. -/
def fieldsB (F : List UInt8 → Option (List UInt8)) : List (List UInt8) → Option (List UInt8)
  | [] => none
  | a :: t => match F a with
    | some s => some s
    | none => fieldsB F t
theorem fieldsB_one (F : List UInt8 → Option (List UInt8)) (a : List UInt8) : fieldsB F [a] = F a := by
  unfold fieldsB
  cases F a <;> rfl
theorem fieldsB_two (F : List UInt8 → Option (List UInt8)) (a b : List UInt8) : fieldsB F [a, b] = orB (F a) (F b) := by
  have h := fieldsB_one F b
  unfold fieldsB orB
  cases F a with
  | none => exact h
  | some s => rfl
/-- Names in memory. -/
def NmAt (w : World) (b : Nat) (ns : List (List UInt8)) : Prop := ∀ j, j < ns.length → w.cell? ⟨b, j, none⟩ = some (.string ⟨(ns.getD j []).toArray⟩)
theorem NmAt.next {w w' : World} {b : Nat} {ns : List (List UInt8)} (h : NmAt w b ns) (hb : Below w.heap.size w w') : NmAt w' b ns := fun j hj => cell_next (h j hj) hb
theorem nmAt_one (w : World) (s : List UInt8) : NmAt (w.alloc (.cells #[.string ⟨s.toArray⟩] 9)) w.heap.size [s] := fun j hj => by
  have h := arrAt_new w 9 [.string ⟨s.toArray⟩]
  obtain rfl : j = 0 := by simp at hj; omega
  exact h.cell 0
theorem nmAt_two (w : World) (s t : List UInt8) : NmAt (w.alloc (.cells #[.string ⟨s.toArray⟩, .string ⟨t.toArray⟩] 9)) w.heap.size [s, t] := fun j hj => by
  have h := arrAt_new w 9 [.string ⟨s.toArray⟩, .string ⟨t.toArray⟩]
  have hj2 : j = 0 ∨ j = 1 := by simp at hj; omega
  rcases hj2 with rfl | rfl
  · exact h.cell 0
  · exact h.cell 1
set_option maxHeartbeats 1000000 in
theorem refeither15_any (P : List (Nd × Value)) (v : Value) (i : Int) (na nb : List UInt8) (w : World) (h : NdSl w v P) (hn : P.length ≤ 1000000) (hT : sumT (nodes P) ≤ 2000000) :
    Calls Tryz.prog 57 #[v, .int .i64 i, .string ⟨na.toArray⟩, .string ⟨nb.toArray⟩] w (FldPost w (orB (fieldB (nodes P) i na) (fieldB (nodes P) i nb))) := by
  have hf := reffield14_any P v i na w h hn hT
  have hg := fun W (hb : Below w.heap.size w W) => reffield14_any P v i nb W (h.next hb) hn hT
  generalize fieldB (nodes P) i na = oa at hf ⊢
  generalize fieldB (nodes P) i nb = ob at hg ⊢
  obtain ⟨a, c, hv⟩ := h.form
  subst hv
  clear h
  replace hf := Lib.hid hf
  replace hg := Lib.hid hg
  go_enter Tryz.func57, Tryz.ntmps57
  go_wp2_with fail
  refine hf.out.mono ?_
  rintro e w2 ⟨rfl, hb2⟩
  cases oa with
  | some s =>
    replace hb2 := Lib.hid hb2
    go_wp2_with fail
    go_ret2
    exact ⟨rfl, hb2.out⟩
  | none =>
    have hg2 := Lib.hid (hg.out w2 hb2)
    replace hb2 := Lib.hid hb2
    go_wp2_with fail
    refine hg2.out.mono ?_
    rintro e w3 ⟨rfl, hb3⟩
    have hb4 := Lib.hid (hb2.out.andThen hb3)
    clear hb3
    go_wp2_with fail
    go_ret2
    exact ⟨rfl, hb4.out⟩
end Go.Proofs.YtahohmdbiiknoaaGreatDoor
