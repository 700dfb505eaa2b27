/- Layer 12: Build. -/
import Derived.Test.YtodocdbnflmgnaaDoorD12i
namespace Go.Proofs.YtodocdbnflmgnaaDoor
open Go.RowKit

theorem take12_any (B R : Nat) (s : Bs) (P : List (Nd × Value)) (v : Value) (x : Tk) (va : Value) (A : Addr) (w : World) (h : BdM w B R s P v) (hE : Env12 w B A) (ha : AtSl w va x.attrs) (hn : P.length ≤ 1000000) (hx : x.attrs.length * 32 ≤ 140737488355328) (hs : BsOk s) :
    Calls Tryd.prog 21 #[.pointer (some ⟨R, 0, none⟩), tkA x va] w (TakePost w B R A (takeB s x)) := by
  by_cases hu : s.up = -1
  · exact take12_out B R s P v x va A w h hE ha hn hx hu
  · exact take12_in B R s P v x va A w h hE ha hn hx hu hs
/-- What lies there of the program's own variables. -/
structure Laid12 (w : World) (A : Addr) : Prop where
  ende : w.cell? ⟨0, 0, none⟩ = some (openV A)
  ty : EnvT w
theorem Laid12.env {w : World} {A : Addr} (h : Laid12 w A) : Env12 w w.heap.size A := ⟨h.ende, World.block_lt_of_cell? w ⟨0, 0, none⟩ h.ende⟩
theorem Laid12.below {w w' : World} {A : Addr} (h : Laid12 w A) (hb : Below w.heap.size w w') : Laid12 w' A := ⟨(h.env.below hb).ende, h.ty.below hb⟩
theorem foldB_app : ∀ (l m : List Tk) (s : Bs), foldB s (l ++ m) = match foldB s l with | none => none | some s' => foldB s' m
  | [], m, s => rfl
  | x :: t, m, s => by
    rw [List.cons_append, foldB, foldB]
    cases takeB s x with
    | none => rfl
    | some s' => exact foldB_app t m s'
theorem foldB_next (l : List Tk) (k : Nat) (h : k < l.length) {s : Bs} (e : foldB bs0 (l.take k) = some s) : foldB bs0 (l.take (k + 1)) = takeB s (l[k]'h) := by
  rw [List.take_add_one, List.getElem?_eq_getElem h, Option.toList_some, foldB_app, e]
  show foldB s [l[k]] = _
  rw [foldB]
  cases takeB s l[k] with
  | none => rfl
  | some s' => rfl
theorem buildB_bad (l : List Tk) (k : Nat) (e : foldB bs0 (l.take k) = none) : buildB l = none := by
  have h := foldB_app (l.take k) (l.drop k) bs0
  rw [List.take_append_drop, e] at h
  unfold buildB
  rw [h]
theorem buildB_end (l : List Tk) {s : Bs} (e : foldB bs0 (l.take l.length) = some s) : buildB l = if s.up = -1 ∧ s.nds ≠ [] then some s.nds else none := by
  rw [List.take_length] at e
  unfold buildB
  rw [e]
/-- What Build comes to. -/
def BuildPost (w : World) : Option (List Nd) → Ending → World → Prop
  | some l, e, w' => ∃ v P, e = .returned (.tuple #[v, .nilIface]) ∧ NdSl w' v P ∧ nodes P = l ∧ Below w.heap.size w w'
  | none, e, w' => ∃ f q, e = .returned (.tuple #[.slice none 0 0, faultV f]) ∧ FaultAt w' f q formV ∧ Below w.heap.size w w'
theorem BuildPost.ok {w w' : World} {o : Option (List Nd)} {l : List Nd} {v : Value} {P : List (Nd × Value)} (ho : o = some l) (h : NdSl w' v P) (hP : nodes P = l) (hb : Below w.heap.size w w') : BuildPost w o (.returned (.tuple #[v, .nilIface])) w' := by subst ho; exact ⟨v, P, rfl, h, hP, hb⟩
theorem BuildPost.no {w w' : World} {o : Option (List Nd)} {f q : Nat} (ho : o = none) (h : FaultAt w' f q formV) (hb : Below w.heap.size w w') : BuildPost w o (.returned (.tuple #[.slice none 0 0, .iface 55 (.pointer (some ⟨f, 0, none⟩))])) w' := by subst ho; exact ⟨f, q, rfl, h, hb⟩
/-- What the loop of Build keeps. -/
structure BuildAt (l : List Tk) (A : Addr) (w : World) (k : Nat) (s : Bs) (u : Value) (wr : World) : Prop where
  fold : foldB bs0 (l.take k) = some s
  ok : BsOk s
  len : s.nds.length ≤ k
  err : u = if k = 0 then openV A else sayV A s.up
  mem : BdE wr w.heap.size w.heap.size s
  below : Below w.heap.size w wr
  ne : 0 < k → s.nds ≠ []
theorem bdM_new (w : World) : BdM (w.alloc (.cells #[.slice none 0 0, .int .i64 (-1)] 53)) w.heap.size w.heap.size bs0 [] (.slice none 0 0) :=
  ⟨arrAt_new w _ [.slice none 0 0, .int .i64 (-1)], ownN_nil _ _, rfl, fun p h => by simp at h, Nat.le_refl _⟩
/-- A fault outlives what errors.As does. -/
theorem fault_kept {w w1 : World} {f q p : Nat} {v x : Value} (h : FaultAt w f q v) (hb : Below (w.heap.size + 1) (w.alloc (.cells #[.pointer none] 55)) w1) (hp : p = w.heap.size) : FaultAt (w1.setCell ⟨p, 0, none⟩ x) f q v := by
  subst hp
  have hlt := ArrAt.lt h
  have h1 : ArrAt (w.alloc (.cells #[.pointer none] 55)) f 81 [.int .i64 q, v] := ArrAt.next h ((Below.refl _ _).alloc (Nat.le_refl _) _)
  have h2 : ArrAt w1 f 81 [.int .i64 q, v] := h1.below hb (by omega)
  exact h2.far 0 x (by omega)

set_option maxRecDepth 100000 in
set_option maxHeartbeats 8000000 in
theorem build12_any (PT : List (Tk × Value)) (v : Value) (A : Addr) (w : World) (h : TkSl w v PT) (hL : Laid12 w A) (hn : PT.length ≤ 100000) (hx : ∀ p ∈ PT, p.1.attrs.length * 32 ≤ 140737488355328) :
    Calls Tryd.prog 8 #[v] w (BuildPost w (buildB (PT.map Prod.fst))) := by
  obtain ⟨o, ho⟩ : ∃ o, buildB (PT.map Prod.fst) = o := ⟨_, rfl⟩
  rw [ho]
  obtain ⟨l, hl⟩ : ∃ l, PT.map Prod.fst = l := ⟨_, rfl⟩
  rw [hl] at ho
  have hll : l.length = PT.length := by rw [← hl]; simp
  have hb0 : Below w.heap.size w (w.alloc (.cells #[.slice none 0 0, .int .i64 (-1)] 53)) := (Below.refl _ _).alloc (Nat.le_refl _) _
  have hm0 := bdM_new w
  have hst : BuildAt l A w 0 bs0 (openV A) (w.alloc (.cells #[.slice none 0 0, .int .i64 (-1)] 53)) :=
    ⟨rfl, bsOk_0, Nat.le_refl _, by simp, ⟨_, _, hm0⟩, hb0, fun e => by omega⟩
  have hends := (hL.below hb0).ende
  obtain ⟨va, vc, rfl⟩ := h.form
  unfold openV at hst hends
  clear hm0
  replace hst := Lib.hid hst
  replace hb0 := Lib.hid hb0
  replace hL := Lib.hid hL
  replace h := Lib.hid h
  replace hx := Lib.hid hx
  replace hl := Lib.hid hl
  replace hll := Lib.hid hll
  replace ho := Lib.hid ho
  go_enter Tryd.func8, Tryd.ntmps8
  go_wp2_with fail
  clear hends
  go_loopw [5, 14] (fun u ii wr => ∃ (k : Nat) (s : Bs), ii = .int .i64 k ∧ k ≤ PT.length ∧ Hid (BuildAt l A w k s u wr)) (fun _ ii _ => PT.length - (intOf ii).toNat)
  case atStart => exact ⟨0, bs0, rfl, Nat.zero_le _, hst⟩
  case round =>
    clear hst hb0
    obtain ⟨k, s, rfl, hk, hB⟩ := hrel
    by_cases hlt : k < PT.length
    · have hlt1 : (k : Int) < PT.length := by omega
      obtain ⟨b, off, cap, hcap, hbl, hve, hcl⟩ := h.out.some (by omega)
      injection hve with hve1 hve2 hve3
      clear hve2
      subst hve1 hve3
      have hsz := hB.out.below.size
      have hbw : b < wr.heap.size := by omega
      obtain ⟨d0, d1, d2, d3⟩ := (hcl k hlt).next hB.out.below
      have ats := (h.out.atsAt k hlt).next hB.out.below
      have hxk := hx.out _ (List.getElem_mem hlt)
      have hnext := foldB_next l k (by rw [hll.out]; exact hlt) hB.out.fold
      rw [show l[k]'(by rw [hll.out]; exact hlt) = (PT[k]'hlt).1 by simp [← hl.out]] at hnext
      clear hcl
      generalize PT[k]'hlt = p at d0 d1 d2 d3 ats hxk hnext
      obtain ⟨t, tv⟩ := p
      simp only at d0 d1 d2 d3 ats hxk hnext
      obtain ⟨ta, tc, rfl⟩ := ats.form
      unfold strV at d1 d3
      have hbW : Below wr.heap.size wr (wr.alloc (.cells #[.int .i64 t.kind, .string ⟨t.name.toArray⟩, .slice ta t.attrs.length tc, .string ⟨t.text.toArray⟩] 47)) := (Below.refl _ _).alloc (Nat.le_refl _) _
      obtain ⟨P, bv, m⟩ := hB.out.mem
      have mW := m.below hbW
      have envW := (hL.out.env.below hB.out.below).below (hbW.mono hsz)
      have atsW := ats.next hbW
      have hPl : P.length ≤ 1000000 := by rw [m.plen]; have := hB.out.len; omega
      have htake := take12_any w.heap.size w.heap.size s P bv t (.slice ta t.attrs.length tc) A _ mW envW atsW hPl hxk hB.out.ok
      have hbWw := hB.out.below.trans (hbW.mono hsz)
      clear m mW envW atsW ats hbW hPl hxk
      unfold tkA at htake
      replace hbWw := Lib.hid hbWw
      cases htk : takeB s t with
      | none =>
        rw [htk] at htake hnext
        have hon := Lib.hid (ho.out.symm.trans (buildB_bad l (k + 1) hnext))
        clear hnext
        replace htake := Lib.hid htake
        replace htk := Lib.hid htk
        go_wp2_with fail
        refine htake.out.mono ?_; rintro e w1 ⟨f, q, rfl, hfa, hb1⟩
        have hbw1 := hbWw.out.trans hb1
        have hT1 := (hL.out.ty.below hbw1).below ((Below.refl w1.heap.size w1).alloc (Nat.le_refl _) (.cells #[.pointer none] 55))
        have hF := arrAt_new w1 55 [.pointer none]
        have hF0 : (w1.alloc (.cells #[.pointer none] 55)).cell? ⟨w1.heap.size, 0, none⟩ = some (.pointer none) := by rw [show (#[Value.pointer none] : Array Value) = [Value.pointer none].toArray from rfl, hF.cell]; rfl
        have hF1 : (w1.alloc (.cells #[.pointer none] 55)).frozen? ⟨w1.heap.size, 0, none⟩ = false := hF.soft 0
        have hs1 := hbw1.size
        clear hF htake
        replace hfa := Lib.hid hfa
        replace hbw1 := Lib.hid hbw1
        replace hb1 := Lib.hid hb1
        replace hT1 := Lib.hid hT1
        replace hF0 := Lib.hid hF0
        replace hF1 := Lib.hid hF1
        unfold faultV
        go_wp2_with fail
        refine (as11_fault f w1.heap.size _ (.pointer none) hF0.out hF1.out hT1.out).mono ?_; rintro e w' ⟨rfl, w2, hb2, rfl⟩
        have hsz1 : (w1.alloc (.cells #[.pointer none] 55)).heap.size = w1.heap.size + 1 := by simp
        rw [hsz1] at hb2
        have hfk := fault_kept (x := .pointer (some ⟨f, 0, none⟩)) hfa.out hb2 rfl
        have hc0 : (w2.setCell ⟨w1.heap.size, 0, none⟩ (.pointer (some ⟨f, 0, none⟩))).cell? ⟨w1.heap.size, 0, none⟩ = some (.pointer (some ⟨f, 0, none⟩)) := by
          have h1 : w2.cell? ⟨w1.heap.size, 0, none⟩ = some (.pointer none) := (hb2.cell (p := ⟨w1.heap.size, 0, none⟩) (by show w1.heap.size < _; omega)).trans hF0.out
          simp [go_sem, h1]
        have hbz : Below w.heap.size w (w2.setCell ⟨w1.heap.size, 0, none⟩ (.pointer (some ⟨f, 0, none⟩))) :=
          ((hbw1.out.alloc hs1 (.cells #[.pointer none] 55)).trans (hb2.mono (by omega))).setCell (p := ⟨w1.heap.size, 0, none⟩) hs1 _
        clear hb2 hfa hT1 hF0 hF1
        generalize w2.setCell ⟨w1.heap.size, 0, none⟩ (.pointer (some ⟨f, 0, none⟩)) = W3 at hfk hc0 hbz ⊢
        replace hfk := Lib.hid hfk
        replace hbz := Lib.hid hbz
        go_wp2_with fail
        go_quiet (fail)
        go_wp2_with fail
        go_ret2
        exact BuildPost.no hon.out (hfk.out.below ((drawn_drewN W3 nq).below _)) (hbz.out.trans ((drawn_drewN W3 nq).below _))
      | some s' =>
        rw [htk] at htake hnext
        obtain ⟨hok, hne, hlen⟩ := takeB_ok hB.out.ok htk
        have hlen2 : s'.nds.length ≤ k + 1 := by have := hB.out.len; omega
        by_cases hu : s'.up = -1
        · have hsay : sayV A s'.up = .nilIface := by unfold sayV; rw [if_pos hu]
          replace hnext := Lib.hid hnext
          replace hlen := Lib.hid hlen
          replace htake := Lib.hid htake
          replace htk := Lib.hid htk
          replace hok := Lib.hid hok
          replace hne := Lib.hid hne
          replace hu := Lib.hid hu
          replace hsay := Lib.hid hsay
          go_wp2_with fail
          refine htake.out.mono ?_; rintro e w1 ⟨he, ⟨P2, v2, m2⟩, hb1⟩
          rw [hsay.out] at he
          subst he
          have hbw1 := hbWw.out.trans hb1
          have hs1 := hbw1.size
          clear htake
          replace hbw1 := Lib.hid hbw1
          replace hb1 := Lib.hid hb1
          replace m2 := Lib.hid m2
          go_wp2_with fail
          refine (as11_nil _ _).mono ?_; rintro e w2 ⟨rfl, rfl⟩
          go_wp2_with fail
          exact ⟨⟨k + 1, s', by go_num, by omega, ⟨hnext.out, hok.out, hlen2, by rw [if_neg (by omega), hsay.out], ⟨P2, v2, m2.out.below ((Below.refl _ _).alloc (Nat.le_refl _) _)⟩, hbw1.out.alloc hs1 _, fun _ => hne.out⟩⟩, by simp [intOf]; omega⟩
        · have hsay : sayV A s'.up = openV A := by unfold sayV; rw [if_neg hu]
          replace hnext := Lib.hid hnext
          replace hlen := Lib.hid hlen
          replace htake := Lib.hid htake
          replace htk := Lib.hid htk
          replace hok := Lib.hid hok
          replace hne := Lib.hid hne
          replace hu := Lib.hid hu
          replace hsay := Lib.hid hsay
          go_wp2_with fail
          refine htake.out.mono ?_; rintro e w1 ⟨he, ⟨P2, v2, m2⟩, hb1⟩
          rw [hsay.out] at he
          subst he
          have hbw1 := hbWw.out.trans hb1
          have hs1 := hbw1.size
          have hT1 := (hL.out.ty.below hbw1).below ((Below.refl w1.heap.size w1).alloc (Nat.le_refl _) (.cells #[.pointer none] 55))
          have hF := arrAt_new w1 55 [.pointer none]
          have hF0 : (w1.alloc (.cells #[.pointer none] 55)).cell? ⟨w1.heap.size, 0, none⟩ = some (.pointer none) := by rw [show (#[Value.pointer none] : Array Value) = [Value.pointer none].toArray from rfl, hF.cell]; rfl
          clear htake hF
          replace hbw1 := Lib.hid hbw1
          replace hb1 := Lib.hid hb1
          replace m2 := Lib.hid m2
          replace hT1 := Lib.hid hT1
          replace hF0 := Lib.hid hF0
          unfold openV
          go_wp2_with fail
          refine (as11_end A w1.heap.size _ (.pointer none) hF0.out hT1.out).mono ?_; rintro e w2 ⟨rfl, hb2⟩
          have hm3 := (m2.out.below ((Below.refl _ _).alloc (Nat.le_refl _) _)).below hb2
          have hbz := (hbw1.out.alloc hs1 (.cells #[.pointer none] 55)).trans (hb2.mono (by simp; omega))
          clear hb2 m2
          replace hm3 := Lib.hid hm3
          replace hbz := Lib.hid hbz
          go_wp2_with fail
          exact ⟨⟨k + 1, s', by go_num, by omega, ⟨hnext.out, hok.out, hlen2, by rw [if_neg (by omega), hsay.out]; rfl, ⟨P2, v2, hm3.out⟩, hbz.out, fun _ => hne.out⟩⟩, by simp [intOf]; omega⟩
    · have hlt2 : ¬ ((k : Int) < PT.length) := by omega
      obtain rfl : k = PT.length := by omega
      have hfold := hB.out.fold
      rw [← hll.out] at hfold
      have hbe := buildB_end l hfold
      rw [ho.out] at hbe
      have hE := (hL.out.below hB.out.below).ende
      unfold openV at hE
      have herr := hB.out.err
      obtain ⟨P, bv, m⟩ := hB.out.mem
      have hs1 := hB.out.below.size
      have hbf := hB.out.below
      have hbase : Below w.heap.size w (wr.alloc (.cells #[.int .i64 0, .iface 29 (.int .i64 2)] 81)) := hbf.alloc hs1 _
      replace hbf := Lib.hid hbf
      replace hbase := Lib.hid hbase
      by_cases hgood : 0 < PT.length ∧ s.up = -1
      · rw [if_neg (by omega)] at herr
        have hsay := herr.trans (show sayV A s.up = .nilIface by unfold sayV; rw [if_pos hgood.2])
        have hoo := Lib.hid (hbe.trans (if_pos ⟨hgood.2, hB.out.ne hgood.1⟩))
        clear herr hB
        subst hsay
        obtain ⟨ba, bc, rfl⟩ := own_form m.row
        have c0 := m.c0
        have hsl := OwnN.sl m.row fun p hp => (m.ats p hp).sl
        have hnds := m.nds
        clear m hbe hfold hgood
        replace hsl := Lib.hid hsl
        replace hnds := Lib.hid hnds
        go_wp2_with fail
        refine (is11_nil A _).mono ?_; rintro e w2 ⟨rfl, rfl⟩
        go_wp2_with fail
        go_ret2
        exact BuildPost.ok hoo.out hsl.out hnds.out hbf.out
      · have hsay := herr.trans (show (if PT.length = 0 then openV A else sayV A s.up) = .iface 97 (.pointer (some A)) by
          by_cases h0 : PT.length = 0
          · rw [if_pos h0]; rfl
          · rw [if_neg h0]
            unfold sayV
            rw [if_neg (fun e => hgood ⟨by omega, e⟩)]
            rfl)
        have hoo : o = none := by
          rw [hbe]
          by_cases h0 : PT.length = 0
          · have hl0 : l = [] := List.length_eq_zero_iff.1 (by rw [hll.out, h0])
            rw [hl0] at hfold
            injection hfold with hfold
            rw [if_neg (fun e => e.2 (by rw [← hfold]; rfl))]
          · rw [if_neg (fun e => hgood ⟨by omega, e.1⟩)]
        clear herr hB m hbe hfold hgood
        replace hoo := Lib.hid hoo
        subst hsay
        go_wp2_with fail
        refine (is11_same A _).mono ?_; rintro e w2 ⟨rfl, rfl⟩
        go_wp2_with fail
        refine (fault12_any _).mono ?_; rintro e w' ⟨rfl, rfl⟩
        go_wp2_with fail
        go_ret2
        exact BuildPost.no hoo.out (fault_new _ _ rfl) hbase.out
end Go.Proofs.YtodocdbnflmgnaaDoor
