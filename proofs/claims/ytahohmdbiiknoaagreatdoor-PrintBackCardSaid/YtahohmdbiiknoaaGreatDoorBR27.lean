/- The reference of layer 11: Tokens. -/
import Derived.Test.YtahohmdbiiknoaaGreatDoorBR26
namespace Go.Proofs.YtahohmdbiiknoaaGreatDoor
open Go.RowKit

theorem stepR_code {dep : Int} {s : Sc} {d : List UInt8} {q : Int} (h : stepR dep s d = .bad q) : q = 3 ∨ q = 4 := by
  have hB : beginR dep s d = .bad q → q = 3 ∨ q = 4 := fun e => by
    unfold beginR at e
    repeat' split at e
    all_goals first | (injection e with e; omega) | cases e
  have hE : endR s d = .bad q → q = 3 ∨ q = 4 := fun e => by
    unfold endR at e
    repeat' split at e
    all_goals first | (injection e with e; omega) | cases e
  unfold stepR at h
  split at h
  · cases h
  split at h
  · unfold outerR at h
    repeat' split at h
    all_goals first | exact hB h | (injection h with h; omega) | cases h
  · unfold innerR at h
    repeat' split at h
    all_goals first | exact hB h | exact hE h | (injection h with h; omega) | cases h
theorem stepR_not {dep : Int} {s : Sc} {d : List UInt8} (h : d ≠ []) : stepR dep s d = if s.opn = [] then outerR dep s d else innerR dep s d := by unfold stepR; rw [if_neg h]
theorem stepR_go {dep : Int} {s : Sc} {d : List UInt8} (h : d ≠ []) : stepR dep s d ≠ .stop := by
  rw [stepR_not h]
  have hB : beginR dep s d ≠ .stop := fun e => by
    unfold beginR at e
    repeat' split at e
    all_goals cases e
  have hE : endR s d ≠ .stop := fun e => by
    unfold endR at e
    repeat' split at e
    all_goals cases e
  intro e
  split at e
  · unfold outerR at e
    repeat' split at e
    all_goals first | exact hB e | cases e
  · unfold innerR at e
    repeat' split at e
    all_goals first | exact hB e | exact hE e | cases e
/-- What Tokens comes to. -/
def TrPost (w : World) : OutR → Ending → World → Prop
  | .toks t, e, w' => (∃ v P, e = .returned (.tuple #[v, .int .i64 0]) ∧ Tks w' w.heap.size v P ∧ P.map Prod.fst = t) ∧ Below w.heap.size w w'
  | .bad q, e, w' => e = .returned (.tuple #[.slice none 0 0, .int .i64 q]) ∧ Below w.heap.size w w'
section
variable {w w' : World} {r : OutR}
theorem TrPost.bad {q : Int} (hr : r = .bad q) (hb : Below w.heap.size w w') : TrPost w r (.returned (.tuple #[.slice none 0 0, .int .i64 q])) w' := by subst hr; exact ⟨rfl, hb⟩
theorem TrPost.ok {t : List Tk} {v : Value} {P : List (Tk × Value)} (hr : r = .toks t) (h : Tks w' w.heap.size v P) (hP : P.map Prod.fst = t) (hb : Below w.heap.size w w') : TrPost w r (.returned (.tuple #[v, .int .i64 0])) w' := by subst hr; exact ⟨⟨v, P, rfl, h, hP⟩, hb⟩
end
theorem snM_new (l : List UInt8) (dep : Int) (w : World) : Hid (SnM (w.alloc (.cells #[.string ⟨l.toArray⟩, .int .i64 0, .int .i64 dep, .slice none 0 0, .string ⟨#[]⟩, .slice none 0 0, .bool false] 62)) w.heap.size w.heap.size ⟨l, dep, .slice none 0 0, [], .slice none 0 0, false⟩ 0 sc0 []) :=
  ⟨arrAt_new w _ _, rfl, rfl, World.ownsRow_nil _ _ _ _, tks_nil _ _, rfl, Nat.le_refl _⟩
/-- The loop's state. -/
structure LpR (w0 w : World) (R : Nat) (l : List UInt8) (dep : Int) (m k : Nat) (s : Sc) (c : SC) (P : List (Tk × Value)) : Prop where
  cl : c.l = l
  cd : c.dep = dep
  mem : Hid (SnM w w0.heap.size R c k s P)
  dr : DrAt dep l m k s
  below : Below w0.heap.size w0 w
theorem LpR.drawn {w0 w : World} {R : Nat} {l : List UInt8} {dep : Int} {m k : Nat} {s : Sc} {c : SC} {P : List (Tk × Value)} (h : LpR w0 w R l dep m k s c P) (n : Nat) : LpR w0 (w.drewN n) R l dep m k s c P :=
  ⟨h.cl, h.cd, SnM.below h.mem (Drawn.below (drawn_drewN _ _) _), h.dr, h.below.trans (Drawn.below (drawn_drewN _ _) _)⟩
theorem pre5 (l : List UInt8) (m : Nat) : (0 < spanN blI (l.drop (m + 5))) ↔ m + 5 < l.length ∧ blI (bt l (m + 5)) = true := by
  by_cases h : m + 5 < l.length
  · rw [List.drop_eq_getElem_cons h, spanN]
    have e : bt l (m + 5) = ((l[m + 5]'h).toNat : Int) := by unfold bt; simp [List.getD, h]
    rw [e]
    split
    · rename_i h2; simp [h, h2]
    · rename_i h2; simp [h2]
  · rw [List.drop_eq_nil_of_le (by omega)]
    simp [spanN, h]

/-- What follows the head. -/
def tailR (dep : Int) (l d : List UInt8) (g : Nat) : Option Nat → OutR
  | none => .bad 3
  | some m =>
    match loopK (stepR dep) sc0 (d.drop m) m with
    | (some q, _, _) => .bad q
    | (none, s, _) => if g < l.length ∨ s.rooted = false ∨ s.opn ≠ [] then .bad 3 else .toks s.toks
/-- The head, behind so many bytes. -/
def preX (d : List UInt8) (M : Nat) : Option Nat :=
  if Lib.hasPrefix (d.drop M) [60, 63, 120, 109, 108] = true ∧ 0 < spanN blI (d.drop (M + 5)) then
    match untilR [63, 62] (d.drop M) with
    | none => none
    | some (_, n) => some (M + n)
  else some M
theorem tokR_eq (dep : Int) (l : List UInt8) : tokR dep l = tailR dep l (l.take (goodN l)) (goodN l) (preX (l.take (goodN l)) (if Lib.hasPrefix (l.take (goodN l)) [239, 187, 191] then 3 else 0)) := by
  unfold tokR
  rw [show preR (l.take (goodN l)) = preX (l.take (goodN l)) (if Lib.hasPrefix (l.take (goodN l)) [239, 187, 191] then 3 else 0) from rfl]
  cases preX (l.take (goodN l)) (if Lib.hasPrefix (l.take (goodN l)) [239, 187, 191] then 3 else 0) <;> rfl
theorem LpR.start {w0 w : World} {R : Nat} {l : List UInt8} {dep : Int} {m : Nat} {c : SC} (h : Hid (SnM w w0.heap.size R c m sc0 [])) (hc : c.l = l ∧ c.dep = dep) (hm : m ≤ l.length) (hb : Below w0.heap.size w0 w) : Hid (LpR w0 w R l dep m m sc0 c []) :=
  ⟨hc.1, hc.2, h, DrAt.zero hm, hb⟩
theorem LpR.end_ {w0 w : World} {R : Nat} {l d : List UInt8} {dep : Int} {m k g : Nat} {s : Sc} {c : SC} {P : List (Tk × Value)} {o : OutR} (h : LpR w0 w R d dep m k s c P) (hk : k = d.length) (hP : o = tailR dep l d g (some m)) :
    o = if g < l.length ∨ s.rooted = false ∨ s.opn ≠ [] then .bad 3 else .toks s.toks := by
  rw [hP]; unfold tailR; simp only [h.dr.stop hk]
theorem LpR.bad {w0 w : World} {R : Nat} {l d : List UInt8} {dep : Int} {m k g : Nat} {s : Sc} {c : SC} {P : List (Tk × Value)} {o : OutR} {q : Int} (h : LpR w0 w R d dep m k s c P) (e : stepR dep s (d.drop k) = .bad q) (hP : o = tailR dep l d g (some m)) : o = .bad q := by
  rw [hP]; unfold tailR; simp only [h.dr.bad e]

set_option maxRecDepth 100000 in
set_option maxHeartbeats 8000000 in
theorem rtokens_any (l : List UInt8) (dep : Int) (w : World) (hl : l.length ≤ 100000) :
    Calls Tryz.prog 21 #[.string ⟨l.toArray⟩, .int .i64 dep] w (TrPost w (tokR dep l)) := by
  have hP := tokR_eq dep l
  generalize hoo : tokR dep l = o at hP
  replace hoo := Lib.hid hoo
  have hg := rgood_any l w hl
  obtain ⟨g, hgd⟩ : ∃ g, goodN l = g := ⟨_, rfl⟩
  have hgl : g ≤ l.length := by rw [← hgd]; unfold goodN; have := (loopK_le goodF_steps () l 0).2; omega
  rw [hgd] at hg hP
  replace hgd := Lib.hid hgd
  obtain ⟨d, hd⟩ : ∃ d, l.take g = d := ⟨_, rfl⟩
  rw [hd] at hP
  have hdl : d.length = g := by rw [← hd, List.length_take]; omega
  have hdl2 : d.length ≤ 100000 := by omega
  have hg0 : (0 : Int) ≤ g := by omega
  have hg1 : (g : Int) ≤ l.length := by omega
  replace hP := Lib.hid hP
  replace hg := Lib.hid hg
  replace hdl := Lib.hid hdl
  go_enter Tryz.func21, Tryz.ntmps21
  go_wp2_with fail
  refine hg.out.mono ?_; rintro e w1 ⟨rfl, n1, rfl⟩
  have s0 := snM_new d dep (w.drewN n1)
  have b0 : Hid (Below w.heap.size w ((w.drewN n1).alloc (.cells #[.string ⟨d.toArray⟩, .int .i64 0, .int .i64 dep, .slice none 0 0, .string ⟨#[]⟩, .slice none 0 0, .bool false] 62))) := ((drawn_drewN w n1).below _).trans ((Below.refl w.heap.size (w.drewN n1)).alloc (Nat.le_refl _) _)
  obtain ⟨c, hc⟩ : ∃ c : SC, (⟨d, dep, .slice none 0 0, [], .slice none 0 0, false⟩ : SC) = c := ⟨_, rfl⟩
  rw [hc] at s0
  have hcl : c.l = d ∧ c.dep = dep := by subst hc; exact ⟨rfl, rfl⟩
  have hc0 : c.l.length ≤ 100000 := by rw [hcl.1]; exact hdl2
  replace hc := Lib.hid hc
  clear hg
  go_wp2_with fail
  have s0' : Hid (SnM ((w.drewN n1).alloc (.cells #[.string ⟨d.toArray⟩, .int .i64 0, .int .i64 dep, .slice none 0 0, .string ⟨#[]⟩, .slice none 0 0, .bool false] 62)) w.heap.size w.heap.size c 0 sc0 []) := s0
  clear s0
  have hh := sf_has (SnM.sf s0') [239, 187, 191] (Nat.zero_le _) hc0 (by decide)
  rw [hcl.1, List.drop_zero] at hh
  refine hh.mono ?_
  rintro e w2 ⟨rfl, r2⟩
  have s2 := SnM.call s0' r2.out
  have b2 := Lib.hid (b0.out.trans (SnM.toBelow s0' r2.out))
  clear r2 s0' b0 hh
  cases hbm : Lib.hasPrefix d [239, 187, 191]
  case false =>
    obtain ⟨M, hM⟩ : ∃ M : Nat, M = 0 := ⟨_, rfl⟩
    replace hP : Hid (o = tailR dep l d g (preX d M)) := by rw [hM]; exact hP.out.trans (by rw [hbm]; rfl)
    rw [← hM] at s2
    have hMd : M ≤ d.length := by omega
    have hM3 : M ≤ 3 := by omega
    replace hM := Lib.hid hM
    replace hbm := Lib.hid hbm
    go_wp2_with fail
    have c0 := s2.out.rd.c0
    rw [hcl.1] at c0
    have c1 := s2.out.rd.c1
    cases ph : Lib.hasPrefix (d.drop M) [60, 63, 120, 109, 108]
    case false =>
      replace hP := Lib.hid (hP.out.trans (by unfold preX; rw [if_neg (by rintro ⟨e, _⟩; rw [ph] at e; cases e)]))
      have hh := rhas_at (SnM.sf s2) [60, 63, 120, 109, 108] (by rw [hcl.1]; exact hMd) hc0 (by decide) false (by rw [hcl.1]; exact ph)
      replace hh := Lib.hid hh
      replace ph := Lib.hid ph
      obtain ⟨m0, hm0⟩ : ∃ m0, M = m0 := ⟨_, rfl⟩
      rw [hm0] at hP
      replace hm0 := Lib.hid hm0
      go_wp2_with fail
      go_quiet ((go_at_call 32; exact hh.out _))
      go_wp2_with fail
      have hL : Hid (LpR w (w2.drewN nq) w.heap.size d dep m0 m0 sc0 c []) := by
        rw [← hm0.out]
        exact LpR.start (SnM.below s2 (Drawn.below (drawn_drewN _ _) _)) hcl hMd (b2.out.trans (Drawn.below (drawn_drewN _ _) _))

      go_loopw [10] (fun _ wr => ∃ (k : Nat) (s : Sc) (c' : SC) (P : List (Tk × Value)), k ≤ d.length ∧ Hid (LpR w wr w.heap.size d dep m0 k s c' P)) (fun _ wr => d.length - (intOf ((wr.cell? ⟨w.heap.size, 1, none⟩).getD undef)).toNat)
      case atStart => exact ⟨m0, sc0, c, [], hL.out.dr.le, hL⟩
      case round =>
        clear hL c0 c1 s2 b2
        obtain ⟨k, s, c', P, hk, hl'⟩ := hrel
        have c0 := hl'.out.mem.out.rd.c0
        rw [hl'.out.cl] at c0
        have c1 := hl'.out.mem.out.rd.c1
        have c3 := hl'.out.mem.out.rd.c3
        have c6 := hl'.out.mem.out.rd.c6
        rw [hl'.out.mem.out.rt] at c6
        obtain ⟨va, vc, hv⟩ := own_form hl'.out.mem.out.opn
        rw [hv] at c3
        replace hv := Lib.hid hv
        have memd := fun n => (hl'.out.drawn n).mem
        have hcl' := hl'.out.cl
        have hcd' := hl'.out.cd
        have ok1 := hl'.out.dr.ok.txt
        have ok2 := hl'.out.dr.ok.tok
        have ok3 := hl'.out.dr.ok.opn
        by_cases hlt : k < d.length
        · have hlt1 : (k : Int) < d.length := by omega
          have hd0 : d.drop k ≠ [] := go_step hlt
          have hst := stepR_not (dep := dep) (s := s) hd0
          by_cases hop : s.opn = []
          · rw [if_pos hop] at hst
            have hopl : s.opn.length = 0 := by rw [hop]; rfl
            rw [hopl] at c3
            replace hop := Lib.hid hop
            replace hopl := Lib.hid hopl
            replace hd0 := Lib.hid hd0
            have hcall := fun n : Nat => router_any w.heap.size w.heap.size c' k s P (wr.drewN n) (memd n) (by rw [hcl']; exact hlt) (by rw [hcl']; exact hdl2) (by omega) (by omega)
            rw [hcl', hcd'] at hcall
            obtain ⟨r, hr⟩ : ∃ r, outerR dep s (d.drop k) = r := ⟨_, rfl⟩
            rw [hr] at hcall hst
            replace hcall := Lib.hid hcall
            replace hr := Lib.hid hr
            go_wp2_with fail
            go_quiet (fail)
            go_wp2_with fail
            refine (hcall.out _).mono ?_
            clear hcall c0 c1 c3 c6
            cases r with
            | bad q =>
              have hP2 := Lib.hid (hl'.out.bad hst hP.out)
              have hq0 : q ≠ 0 := by have := stepR_code hst; omega
              have hq1 : (q == 0) = false := by rw [beq_eq_false_iff_ne]; exact hq0
              have hq2 : (q != 0) = true := by rw [bne_iff_ne]; exact hq0
              rintro e w6 ⟨rfl, b6⟩
              have b7 := Lib.hid ((hl'.out.drawn _).below.trans b6)
              clear b6
              replace hst := Lib.hid hst
              go_wp2_with fail
              go_ret2
              exact TrPost.bad hP2.out b7.out
            | stop => exact fun e w2 h => h.elim
            | go s' n =>
              have hdr := hl'.out.dr.step hst
              rintro e w6 ⟨rfl, ⟨c2, P2, e1, e2, s6⟩, b6⟩
              have hL2 : Hid (LpR w w6 w.heap.size d dep m0 (k + n) s' c2 P2) := ⟨e1, e2, s6, hdr.1, (hl'.out.drawn _).below.trans b6⟩
              have hle2 := hdr.1.le
              have hn1 := hdr.2
              have d1 := s6.out.rd.c1
              have c1 := hl'.out.mem.out.rd.c1
              clear b6 hdr
              replace hst := Lib.hid hst
              go_wp2_with fail
              exact ⟨⟨k + n, s', c2, P2, hle2, hL2⟩, by rw [c1, d1]; simp [intOf]; omega⟩

          · rw [if_neg hop] at hst
            have hopl : 0 < s.opn.length := List.length_pos_iff.2 hop
            have hopl1 : (0 : Int) < s.opn.length := by omega
            replace hop := Lib.hid hop
            replace hd0 := Lib.hid hd0
            have hcall := fun n : Nat => rinner_any w.heap.size w.heap.size c' k s P (wr.drewN n) (memd n) (by rw [hcl']; exact hlt) (by rw [hcl']; exact hdl2) (by omega) (by omega) (by omega)
            rw [hcl', hcd'] at hcall
            obtain ⟨r, hr⟩ : ∃ r, innerR dep s (d.drop k) = r := ⟨_, rfl⟩
            rw [hr] at hcall hst
            replace hcall := Lib.hid hcall
            replace hr := Lib.hid hr
            go_wp2_with fail
            go_quiet (fail)
            go_wp2_with fail
            refine (hcall.out _).mono ?_
            clear hcall c0 c1 c3 c6
            cases r with
            | bad q =>
              have hP2 := Lib.hid (hl'.out.bad hst hP.out)
              have hq0 : q ≠ 0 := by have := stepR_code hst; omega
              have hq1 : (q == 0) = false := by rw [beq_eq_false_iff_ne]; exact hq0
              have hq2 : (q != 0) = true := by rw [bne_iff_ne]; exact hq0
              rintro e w6 ⟨rfl, b6⟩
              have b7 := Lib.hid ((hl'.out.drawn _).below.trans b6)
              clear b6
              replace hst := Lib.hid hst
              go_wp2_with fail
              go_ret2
              exact TrPost.bad hP2.out b7.out
            | stop => exact fun e w2 h => h.elim
            | go s' n =>
              have hdr := hl'.out.dr.step hst
              rintro e w6 ⟨rfl, ⟨c2, P2, e1, e2, s6⟩, b6⟩
              have hL2 : Hid (LpR w w6 w.heap.size d dep m0 (k + n) s' c2 P2) := ⟨e1, e2, s6, hdr.1, (hl'.out.drawn _).below.trans b6⟩
              have hle2 := hdr.1.le
              have hn1 := hdr.2
              have d1 := s6.out.rd.c1
              have c1 := hl'.out.mem.out.rd.c1
              clear b6 hdr
              replace hst := Lib.hid hst
              go_wp2_with fail
              exact ⟨⟨k + n, s', c2, P2, hle2, hL2⟩, by rw [c1, d1]; simp [intOf]; omega⟩

        · have hlt1 : decide ((k : Int) < d.length) = false := by rw [decide_eq_false_iff_not]; omega
          have hP2 := hl'.out.end_ (by omega) hP.out
          have hdg := hdl.out
          have hko : k ≤ 100000 := by omega
          have hdr0 := fun n : Nat => hl'.out.drawn n
          have c5 := hl'.out.mem.out.rd.c5
          obtain ⟨ka, kc, hkv⟩ := own_form hl'.out.mem.out.tks.row
          rw [hkv] at c5
          replace hkv := Lib.hid hkv
          clear memd
          replace hdr0 := Lib.hid hdr0
          by_cases hgs : g < l.length
          · have hgs1 : (g : Int) < l.length := by omega
            replace hP2 := Lib.hid (hP2.trans (if_pos (Or.inl hgs)))
            go_wp2_with fail
            go_quiet (fail)
            go_wp2_with fail
            go_ret2
            exact TrPost.bad hP2.out (hdr0.out _).below
          have hgs1 : ¬ ((g : Int) < l.length) := by omega
          have hgs2 : decide ((g : Int) < l.length) = false := by rw [decide_eq_false_iff_not]; exact hgs1
          cases hrt : s.rooted
          case false =>
            replace hP2 := Lib.hid (hP2.trans (if_pos (Or.inr (Or.inl hrt))))
            rw [hrt] at c6
            replace hrt := Lib.hid hrt
            replace hgs := Lib.hid hgs
            go_wp2_with fail
            go_quiet (fail)
            go_wp2_with fail
            go_ret2
            exact TrPost.bad hP2.out (hdr0.out _).below
          case true =>
            rw [hrt] at c6
            by_cases hop : s.opn = []
            · replace hP2 := Lib.hid (hP2.trans (if_neg (by rintro (e | e | e); exact hgs e; rw [hrt] at e; cases e; exact e hop)))
              have hopl : s.opn.length = 0 := by rw [hop]; rfl
              rw [hopl] at c3
              replace hop := Lib.hid hop
              replace hopl := Lib.hid hopl
              replace hrt := Lib.hid hrt
              replace hgs := Lib.hid hgs
              go_wp2_with fail
              go_quiet (fail)
              go_wp2_with fail
              go_ret2
              exact TrPost.ok hP2.out (by show Tks _ _ (.slice ka P.length kc) P; rw [← hkv.out]; exact (hdr0.out _).mem.out.tks) hl'.out.mem.out.ptk (hdr0.out _).below
            · replace hP2 := Lib.hid (hP2.trans (if_pos (Or.inr (Or.inr hop))))
              have hopl : 0 < s.opn.length := List.length_pos_iff.2 hop
              have hopl1 : (0 : Int) < s.opn.length := by omega
              have hopl2 : decide ((0 : Int) < s.opn.length) = true := by rw [decide_eq_true_eq]; exact hopl1
              replace hop := Lib.hid hop
              replace hrt := Lib.hid hrt
              replace hgs := Lib.hid hgs
              go_wp2_with fail
              go_quiet (fail)
              go_wp2_with fail
              go_ret2
              exact TrPost.bad hP2.out (hdr0.out _).below

    case true =>
      have hh := rhas_at (SnM.sf s2) [60, 63, 120, 109, 108] (by rw [hcl.1]; exact hMd) hc0 (by decide) true (by rw [hcl.1]; exact ph)
      replace hh := Lib.hid hh
      by_cases hlt : M + 5 < d.length
      · have hlt1 : (M : Int) + 5 < d.length := by omega
        have hbl := fun W : World => rblank_any (bt d (M + 5)) W
        cases hbb : blI (bt d (M + 5))
        case false =>
          replace hP := Lib.hid (hP.out.trans (by unfold preX; rw [if_neg (by rintro ⟨_, e⟩; rw [pre5, hbb] at e; cases e.2)]))
          rw [hbb] at hbl
          replace hbl := Lib.hid hbl
          replace hbb := Lib.hid hbb
          replace ph := Lib.hid ph
          obtain ⟨m0, hm0⟩ : ∃ m0, M = m0 := ⟨_, rfl⟩
          rw [hm0] at hP
          replace hm0 := Lib.hid hm0
          go_wp2_with fail
          go_quiet (first | (go_at_call 32; exact hh.out _) | (go_at_call 33; exact Calls.drawn_at (hbl.out _)))
          go_wp2_with fail
          have hL : Hid (LpR w (w2.drewN nq) w.heap.size d dep m0 m0 sc0 c []) := by
            rw [← hm0.out]
            exact LpR.start (SnM.below s2 (Drawn.below (drawn_drewN _ _) _)) hcl hMd (b2.out.trans (Drawn.below (drawn_drewN _ _) _))

          go_loopw [10] (fun _ wr => ∃ (k : Nat) (s : Sc) (c' : SC) (P : List (Tk × Value)), k ≤ d.length ∧ Hid (LpR w wr w.heap.size d dep m0 k s c' P)) (fun _ wr => d.length - (intOf ((wr.cell? ⟨w.heap.size, 1, none⟩).getD undef)).toNat)
          case atStart => exact ⟨m0, sc0, c, [], hL.out.dr.le, hL⟩
          case round =>
            clear hL c0 c1 s2 b2
            obtain ⟨k, s, c', P, hk, hl'⟩ := hrel
            have c0 := hl'.out.mem.out.rd.c0
            rw [hl'.out.cl] at c0
            have c1 := hl'.out.mem.out.rd.c1
            have c3 := hl'.out.mem.out.rd.c3
            have c6 := hl'.out.mem.out.rd.c6
            rw [hl'.out.mem.out.rt] at c6
            obtain ⟨va, vc, hv⟩ := own_form hl'.out.mem.out.opn
            rw [hv] at c3
            replace hv := Lib.hid hv
            have memd := fun n => (hl'.out.drawn n).mem
            have hcl' := hl'.out.cl
            have hcd' := hl'.out.cd
            have ok1 := hl'.out.dr.ok.txt
            have ok2 := hl'.out.dr.ok.tok
            have ok3 := hl'.out.dr.ok.opn
            by_cases hlt : k < d.length
            · have hlt1 : (k : Int) < d.length := by omega
              have hd0 : d.drop k ≠ [] := go_step hlt
              have hst := stepR_not (dep := dep) (s := s) hd0
              by_cases hop : s.opn = []
              · rw [if_pos hop] at hst
                have hopl : s.opn.length = 0 := by rw [hop]; rfl
                rw [hopl] at c3
                replace hop := Lib.hid hop
                replace hopl := Lib.hid hopl
                replace hd0 := Lib.hid hd0
                have hcall := fun n : Nat => router_any w.heap.size w.heap.size c' k s P (wr.drewN n) (memd n) (by rw [hcl']; exact hlt) (by rw [hcl']; exact hdl2) (by omega) (by omega)
                rw [hcl', hcd'] at hcall
                obtain ⟨r, hr⟩ : ∃ r, outerR dep s (d.drop k) = r := ⟨_, rfl⟩
                rw [hr] at hcall hst
                replace hcall := Lib.hid hcall
                replace hr := Lib.hid hr
                go_wp2_with fail
                go_quiet (fail)
                go_wp2_with fail
                refine (hcall.out _).mono ?_
                clear hcall c0 c1 c3 c6
                cases r with
                | bad q =>
                  have hP2 := Lib.hid (hl'.out.bad hst hP.out)
                  have hq0 : q ≠ 0 := by have := stepR_code hst; omega
                  have hq1 : (q == 0) = false := by rw [beq_eq_false_iff_ne]; exact hq0
                  have hq2 : (q != 0) = true := by rw [bne_iff_ne]; exact hq0
                  rintro e w6 ⟨rfl, b6⟩
                  have b7 := Lib.hid ((hl'.out.drawn _).below.trans b6)
                  clear b6
                  replace hst := Lib.hid hst
                  go_wp2_with fail
                  go_ret2
                  exact TrPost.bad hP2.out b7.out
                | stop => exact fun e w2 h => h.elim
                | go s' n =>
                  have hdr := hl'.out.dr.step hst
                  rintro e w6 ⟨rfl, ⟨c2, P2, e1, e2, s6⟩, b6⟩
                  have hL2 : Hid (LpR w w6 w.heap.size d dep m0 (k + n) s' c2 P2) := ⟨e1, e2, s6, hdr.1, (hl'.out.drawn _).below.trans b6⟩
                  have hle2 := hdr.1.le
                  have hn1 := hdr.2
                  have d1 := s6.out.rd.c1
                  have c1 := hl'.out.mem.out.rd.c1
                  clear b6 hdr
                  replace hst := Lib.hid hst
                  go_wp2_with fail
                  exact ⟨⟨k + n, s', c2, P2, hle2, hL2⟩, by rw [c1, d1]; simp [intOf]; omega⟩

              · rw [if_neg hop] at hst
                have hopl : 0 < s.opn.length := List.length_pos_iff.2 hop
                have hopl1 : (0 : Int) < s.opn.length := by omega
                replace hop := Lib.hid hop
                replace hd0 := Lib.hid hd0
                have hcall := fun n : Nat => rinner_any w.heap.size w.heap.size c' k s P (wr.drewN n) (memd n) (by rw [hcl']; exact hlt) (by rw [hcl']; exact hdl2) (by omega) (by omega) (by omega)
                rw [hcl', hcd'] at hcall
                obtain ⟨r, hr⟩ : ∃ r, innerR dep s (d.drop k) = r := ⟨_, rfl⟩
                rw [hr] at hcall hst
                replace hcall := Lib.hid hcall
                replace hr := Lib.hid hr
                go_wp2_with fail
                go_quiet (fail)
                go_wp2_with fail
                refine (hcall.out _).mono ?_
                clear hcall c0 c1 c3 c6
                cases r with
                | bad q =>
                  have hP2 := Lib.hid (hl'.out.bad hst hP.out)
                  have hq0 : q ≠ 0 := by have := stepR_code hst; omega
                  have hq1 : (q == 0) = false := by rw [beq_eq_false_iff_ne]; exact hq0
                  have hq2 : (q != 0) = true := by rw [bne_iff_ne]; exact hq0
                  rintro e w6 ⟨rfl, b6⟩
                  have b7 := Lib.hid ((hl'.out.drawn _).below.trans b6)
                  clear b6
                  replace hst := Lib.hid hst
                  go_wp2_with fail
                  go_ret2
                  exact TrPost.bad hP2.out b7.out
                | stop => exact fun e w2 h => h.elim
                | go s' n =>
                  have hdr := hl'.out.dr.step hst
                  rintro e w6 ⟨rfl, ⟨c2, P2, e1, e2, s6⟩, b6⟩
                  have hL2 : Hid (LpR w w6 w.heap.size d dep m0 (k + n) s' c2 P2) := ⟨e1, e2, s6, hdr.1, (hl'.out.drawn _).below.trans b6⟩
                  have hle2 := hdr.1.le
                  have hn1 := hdr.2
                  have d1 := s6.out.rd.c1
                  have c1 := hl'.out.mem.out.rd.c1
                  clear b6 hdr
                  replace hst := Lib.hid hst
                  go_wp2_with fail
                  exact ⟨⟨k + n, s', c2, P2, hle2, hL2⟩, by rw [c1, d1]; simp [intOf]; omega⟩

            · have hlt1 : decide ((k : Int) < d.length) = false := by rw [decide_eq_false_iff_not]; omega
              have hP2 := hl'.out.end_ (by omega) hP.out
              have hdg := hdl.out
              have hko : k ≤ 100000 := by omega
              have hdr0 := fun n : Nat => hl'.out.drawn n
              have c5 := hl'.out.mem.out.rd.c5
              obtain ⟨ka, kc, hkv⟩ := own_form hl'.out.mem.out.tks.row
              rw [hkv] at c5
              replace hkv := Lib.hid hkv
              clear memd
              replace hdr0 := Lib.hid hdr0
              by_cases hgs : g < l.length
              · have hgs1 : (g : Int) < l.length := by omega
                replace hP2 := Lib.hid (hP2.trans (if_pos (Or.inl hgs)))
                go_wp2_with fail
                go_quiet (fail)
                go_wp2_with fail
                go_ret2
                exact TrPost.bad hP2.out (hdr0.out _).below
              have hgs1 : ¬ ((g : Int) < l.length) := by omega
              have hgs2 : decide ((g : Int) < l.length) = false := by rw [decide_eq_false_iff_not]; exact hgs1
              cases hrt : s.rooted
              case false =>
                replace hP2 := Lib.hid (hP2.trans (if_pos (Or.inr (Or.inl hrt))))
                rw [hrt] at c6
                replace hrt := Lib.hid hrt
                replace hgs := Lib.hid hgs
                go_wp2_with fail
                go_quiet (fail)
                go_wp2_with fail
                go_ret2
                exact TrPost.bad hP2.out (hdr0.out _).below
              case true =>
                rw [hrt] at c6
                by_cases hop : s.opn = []
                · replace hP2 := Lib.hid (hP2.trans (if_neg (by rintro (e | e | e); exact hgs e; rw [hrt] at e; cases e; exact e hop)))
                  have hopl : s.opn.length = 0 := by rw [hop]; rfl
                  rw [hopl] at c3
                  replace hop := Lib.hid hop
                  replace hopl := Lib.hid hopl
                  replace hrt := Lib.hid hrt
                  replace hgs := Lib.hid hgs
                  go_wp2_with fail
                  go_quiet (fail)
                  go_wp2_with fail
                  go_ret2
                  exact TrPost.ok hP2.out (by show Tks _ _ (.slice ka P.length kc) P; rw [← hkv.out]; exact (hdr0.out _).mem.out.tks) hl'.out.mem.out.ptk (hdr0.out _).below
                · replace hP2 := Lib.hid (hP2.trans (if_pos (Or.inr (Or.inr hop))))
                  have hopl : 0 < s.opn.length := List.length_pos_iff.2 hop
                  have hopl1 : (0 : Int) < s.opn.length := by omega
                  have hopl2 : decide ((0 : Int) < s.opn.length) = true := by rw [decide_eq_true_eq]; exact hopl1
                  replace hop := Lib.hid hop
                  replace hrt := Lib.hid hrt
                  replace hgs := Lib.hid hgs
                  go_wp2_with fail
                  go_quiet (fail)
                  go_wp2_with fail
                  go_ret2
                  exact TrPost.bad hP2.out (hdr0.out _).below

        case true =>
          rw [hbb] at hbl
          replace hP := Lib.hid (hP.out.trans (by unfold preX; rw [if_pos ⟨ph, (pre5 d M).2 ⟨hlt, hbb⟩⟩]))
          have hun := fun n : Nat => runtil_any w.heap.size c M [63, 62] (w2.drewN n) (SnM.below s2 (Drawn.below (drawn_drewN _ _) _)).out.rd (by rw [hcl.1]; exact hMd) hc0 (by decide)
          rw [hcl.1] at hun
          have hul := fun x n => untilR_le (t := [63, 62]) (d := d.drop M) (x := x) (n := n)
          rw [List.length_drop] at hul
          obtain ⟨r, hr⟩ : ∃ r, untilR [63, 62] (d.drop M) = r := ⟨_, rfl⟩
          rw [hr] at hun hul
          replace hP := Lib.hid (hP.out.trans (by rw [hr]))
          replace hbl := Lib.hid hbl
          replace hbb := Lib.hid hbb
          replace ph := Lib.hid ph
          replace hr := Lib.hid hr
          replace hun := Lib.hid hun
          go_wp2_with fail
          go_quiet (first | (go_at_call 32; exact hh.out _) | (go_at_call 33; exact Calls.drawn_at (hbl.out _)))
          go_wp2_with fail
          refine (hun.out _).mono ?_
          clear hun
          cases r with
          | none =>
            rintro e w3 ⟨⟨x, rfl, _⟩, k3, r3⟩
            have b3 := Lib.hid (((b2.out.trans (Drawn.below (drawn_drewN _ _) _))).trans (SnM.toBelow (SnM.below s2 (Drawn.below (drawn_drewN _ _) _)) r3))
            clear r3 hul
            go_wp2_with fail
            go_ret2
            exact TrPost.bad (hP.out.trans rfl) b3.out
          | some y =>
            obtain ⟨x, n⟩ := y
            obtain ⟨_, u2, _⟩ := hul x n rfl
            clear hul
            rintro e w3 ⟨rfl, r3⟩
            have s3 := SnM.call (SnM.below s2 (Drawn.below (drawn_drewN _ _) _)) r3
            have b3 := Lib.hid (((b2.out.trans (Drawn.below (drawn_drewN _ _) _))).trans (SnM.toBelow (SnM.below s2 (Drawn.below (drawn_drewN _ _) _)) r3))
            clear r3
            obtain ⟨m0, hm0⟩ : ∃ m0, M + n = m0 := ⟨_, rfl⟩
            replace hP : Hid (o = tailR dep l d g (some m0)) := by rw [← hm0]; exact hP.out
            rw [hm0] at s3
            have hL : Hid (LpR w w3 w.heap.size d dep m0 m0 sc0 c []) := LpR.start s3 hcl (by omega) b3.out
            replace hm0 := Lib.hid hm0
            clear s3 b3
            go_wp2_with fail
            go_loopw [10] (fun _ wr => ∃ (k : Nat) (s : Sc) (c' : SC) (P : List (Tk × Value)), k ≤ d.length ∧ Hid (LpR w wr w.heap.size d dep m0 k s c' P)) (fun _ wr => d.length - (intOf ((wr.cell? ⟨w.heap.size, 1, none⟩).getD undef)).toNat)
            case atStart => exact ⟨m0, sc0, c, [], hL.out.dr.le, hL⟩
            case round =>
              clear hL c0 c1 s2 b2
              obtain ⟨k, s, c', P, hk, hl'⟩ := hrel
              have c0 := hl'.out.mem.out.rd.c0
              rw [hl'.out.cl] at c0
              have c1 := hl'.out.mem.out.rd.c1
              have c3 := hl'.out.mem.out.rd.c3
              have c6 := hl'.out.mem.out.rd.c6
              rw [hl'.out.mem.out.rt] at c6
              obtain ⟨va, vc, hv⟩ := own_form hl'.out.mem.out.opn
              rw [hv] at c3
              replace hv := Lib.hid hv
              have memd := fun n => (hl'.out.drawn n).mem
              have hcl' := hl'.out.cl
              have hcd' := hl'.out.cd
              have ok1 := hl'.out.dr.ok.txt
              have ok2 := hl'.out.dr.ok.tok
              have ok3 := hl'.out.dr.ok.opn
              by_cases hlt : k < d.length
              · have hlt1 : (k : Int) < d.length := by omega
                have hd0 : d.drop k ≠ [] := go_step hlt
                have hst := stepR_not (dep := dep) (s := s) hd0
                by_cases hop : s.opn = []
                · rw [if_pos hop] at hst
                  have hopl : s.opn.length = 0 := by rw [hop]; rfl
                  rw [hopl] at c3
                  replace hop := Lib.hid hop
                  replace hopl := Lib.hid hopl
                  replace hd0 := Lib.hid hd0
                  have hcall := fun n : Nat => router_any w.heap.size w.heap.size c' k s P (wr.drewN n) (memd n) (by rw [hcl']; exact hlt) (by rw [hcl']; exact hdl2) (by omega) (by omega)
                  rw [hcl', hcd'] at hcall
                  obtain ⟨r, hr⟩ : ∃ r, outerR dep s (d.drop k) = r := ⟨_, rfl⟩
                  rw [hr] at hcall hst
                  replace hcall := Lib.hid hcall
                  replace hr := Lib.hid hr
                  go_wp2_with fail
                  go_quiet (fail)
                  go_wp2_with fail
                  refine (hcall.out _).mono ?_
                  clear hcall c0 c1 c3 c6
                  cases r with
                  | bad q =>
                    have hP2 := Lib.hid (hl'.out.bad hst hP.out)
                    have hq0 : q ≠ 0 := by have := stepR_code hst; omega
                    have hq1 : (q == 0) = false := by rw [beq_eq_false_iff_ne]; exact hq0
                    have hq2 : (q != 0) = true := by rw [bne_iff_ne]; exact hq0
                    rintro e w6 ⟨rfl, b6⟩
                    have b7 := Lib.hid ((hl'.out.drawn _).below.trans b6)
                    clear b6
                    replace hst := Lib.hid hst
                    go_wp2_with fail
                    go_ret2
                    exact TrPost.bad hP2.out b7.out
                  | stop => exact fun e w2 h => h.elim
                  | go s' n =>
                    have hdr := hl'.out.dr.step hst
                    rintro e w6 ⟨rfl, ⟨c2, P2, e1, e2, s6⟩, b6⟩
                    have hL2 : Hid (LpR w w6 w.heap.size d dep m0 (k + n) s' c2 P2) := ⟨e1, e2, s6, hdr.1, (hl'.out.drawn _).below.trans b6⟩
                    have hle2 := hdr.1.le
                    have hn1 := hdr.2
                    have d1 := s6.out.rd.c1
                    have c1 := hl'.out.mem.out.rd.c1
                    clear b6 hdr
                    replace hst := Lib.hid hst
                    go_wp2_with fail
                    exact ⟨⟨k + n, s', c2, P2, hle2, hL2⟩, by rw [c1, d1]; simp [intOf]; omega⟩

                · rw [if_neg hop] at hst
                  have hopl : 0 < s.opn.length := List.length_pos_iff.2 hop
                  have hopl1 : (0 : Int) < s.opn.length := by omega
                  replace hop := Lib.hid hop
                  replace hd0 := Lib.hid hd0
                  have hcall := fun n : Nat => rinner_any w.heap.size w.heap.size c' k s P (wr.drewN n) (memd n) (by rw [hcl']; exact hlt) (by rw [hcl']; exact hdl2) (by omega) (by omega) (by omega)
                  rw [hcl', hcd'] at hcall
                  obtain ⟨r, hr⟩ : ∃ r, innerR dep s (d.drop k) = r := ⟨_, rfl⟩
                  rw [hr] at hcall hst
                  replace hcall := Lib.hid hcall
                  replace hr := Lib.hid hr
                  go_wp2_with fail
                  go_quiet (fail)
                  go_wp2_with fail
                  refine (hcall.out _).mono ?_
                  clear hcall c0 c1 c3 c6
                  cases r with
                  | bad q =>
                    have hP2 := Lib.hid (hl'.out.bad hst hP.out)
                    have hq0 : q ≠ 0 := by have := stepR_code hst; omega
                    have hq1 : (q == 0) = false := by rw [beq_eq_false_iff_ne]; exact hq0
                    have hq2 : (q != 0) = true := by rw [bne_iff_ne]; exact hq0
                    rintro e w6 ⟨rfl, b6⟩
                    have b7 := Lib.hid ((hl'.out.drawn _).below.trans b6)
                    clear b6
                    replace hst := Lib.hid hst
                    go_wp2_with fail
                    go_ret2
                    exact TrPost.bad hP2.out b7.out
                  | stop => exact fun e w2 h => h.elim
                  | go s' n =>
                    have hdr := hl'.out.dr.step hst
                    rintro e w6 ⟨rfl, ⟨c2, P2, e1, e2, s6⟩, b6⟩
                    have hL2 : Hid (LpR w w6 w.heap.size d dep m0 (k + n) s' c2 P2) := ⟨e1, e2, s6, hdr.1, (hl'.out.drawn _).below.trans b6⟩
                    have hle2 := hdr.1.le
                    have hn1 := hdr.2
                    have d1 := s6.out.rd.c1
                    have c1 := hl'.out.mem.out.rd.c1
                    clear b6 hdr
                    replace hst := Lib.hid hst
                    go_wp2_with fail
                    exact ⟨⟨k + n, s', c2, P2, hle2, hL2⟩, by rw [c1, d1]; simp [intOf]; omega⟩

              · have hlt1 : decide ((k : Int) < d.length) = false := by rw [decide_eq_false_iff_not]; omega
                have hP2 := hl'.out.end_ (by omega) hP.out
                have hdg := hdl.out
                have hko : k ≤ 100000 := by omega
                have hdr0 := fun n : Nat => hl'.out.drawn n
                have c5 := hl'.out.mem.out.rd.c5
                obtain ⟨ka, kc, hkv⟩ := own_form hl'.out.mem.out.tks.row
                rw [hkv] at c5
                replace hkv := Lib.hid hkv
                clear memd
                replace hdr0 := Lib.hid hdr0
                by_cases hgs : g < l.length
                · have hgs1 : (g : Int) < l.length := by omega
                  replace hP2 := Lib.hid (hP2.trans (if_pos (Or.inl hgs)))
                  go_wp2_with fail
                  go_quiet (fail)
                  go_wp2_with fail
                  go_ret2
                  exact TrPost.bad hP2.out (hdr0.out _).below
                have hgs1 : ¬ ((g : Int) < l.length) := by omega
                have hgs2 : decide ((g : Int) < l.length) = false := by rw [decide_eq_false_iff_not]; exact hgs1
                cases hrt : s.rooted
                case false =>
                  replace hP2 := Lib.hid (hP2.trans (if_pos (Or.inr (Or.inl hrt))))
                  rw [hrt] at c6
                  replace hrt := Lib.hid hrt
                  replace hgs := Lib.hid hgs
                  go_wp2_with fail
                  go_quiet (fail)
                  go_wp2_with fail
                  go_ret2
                  exact TrPost.bad hP2.out (hdr0.out _).below
                case true =>
                  rw [hrt] at c6
                  by_cases hop : s.opn = []
                  · replace hP2 := Lib.hid (hP2.trans (if_neg (by rintro (e | e | e); exact hgs e; rw [hrt] at e; cases e; exact e hop)))
                    have hopl : s.opn.length = 0 := by rw [hop]; rfl
                    rw [hopl] at c3
                    replace hop := Lib.hid hop
                    replace hopl := Lib.hid hopl
                    replace hrt := Lib.hid hrt
                    replace hgs := Lib.hid hgs
                    go_wp2_with fail
                    go_quiet (fail)
                    go_wp2_with fail
                    go_ret2
                    exact TrPost.ok hP2.out (by show Tks _ _ (.slice ka P.length kc) P; rw [← hkv.out]; exact (hdr0.out _).mem.out.tks) hl'.out.mem.out.ptk (hdr0.out _).below
                  · replace hP2 := Lib.hid (hP2.trans (if_pos (Or.inr (Or.inr hop))))
                    have hopl : 0 < s.opn.length := List.length_pos_iff.2 hop
                    have hopl1 : (0 : Int) < s.opn.length := by omega
                    have hopl2 : decide ((0 : Int) < s.opn.length) = true := by rw [decide_eq_true_eq]; exact hopl1
                    replace hop := Lib.hid hop
                    replace hrt := Lib.hid hrt
                    replace hgs := Lib.hid hgs
                    go_wp2_with fail
                    go_quiet (fail)
                    go_wp2_with fail
                    go_ret2
                    exact TrPost.bad hP2.out (hdr0.out _).below

      · have hlt1 : decide ((M : Int) + 5 < d.length) = false := by rw [decide_eq_false_iff_not]; omega
        have hlt2 : decide ((M : Int) + 5 < g) = false := by rw [decide_eq_false_iff_not]; have := hdl.out; omega
        replace hP := Lib.hid (hP.out.trans (by unfold preX; rw [if_neg (by rintro ⟨_, e⟩; rw [pre5] at e; exact hlt e.1)]))
        replace ph := Lib.hid ph
        replace hlt := Lib.hid hlt
        obtain ⟨m0, hm0⟩ : ∃ m0, M = m0 := ⟨_, rfl⟩
        rw [hm0] at hP
        replace hm0 := Lib.hid hm0
        go_wp2_with fail
        go_quiet ((go_at_call 32; exact hh.out _))
        go_wp2_with fail
        have hL : Hid (LpR w (w2.drewN nq) w.heap.size d dep m0 m0 sc0 c []) := by
          rw [← hm0.out]
          exact LpR.start (SnM.below s2 (Drawn.below (drawn_drewN _ _) _)) hcl hMd (b2.out.trans (Drawn.below (drawn_drewN _ _) _))

        go_loopw [10] (fun _ wr => ∃ (k : Nat) (s : Sc) (c' : SC) (P : List (Tk × Value)), k ≤ d.length ∧ Hid (LpR w wr w.heap.size d dep m0 k s c' P)) (fun _ wr => d.length - (intOf ((wr.cell? ⟨w.heap.size, 1, none⟩).getD undef)).toNat)
        case atStart => exact ⟨m0, sc0, c, [], hL.out.dr.le, hL⟩
        case round =>
          clear hL c0 c1 s2 b2
          obtain ⟨k, s, c', P, hk, hl'⟩ := hrel
          have c0 := hl'.out.mem.out.rd.c0
          rw [hl'.out.cl] at c0
          have c1 := hl'.out.mem.out.rd.c1
          have c3 := hl'.out.mem.out.rd.c3
          have c6 := hl'.out.mem.out.rd.c6
          rw [hl'.out.mem.out.rt] at c6
          obtain ⟨va, vc, hv⟩ := own_form hl'.out.mem.out.opn
          rw [hv] at c3
          replace hv := Lib.hid hv
          have memd := fun n => (hl'.out.drawn n).mem
          have hcl' := hl'.out.cl
          have hcd' := hl'.out.cd
          have ok1 := hl'.out.dr.ok.txt
          have ok2 := hl'.out.dr.ok.tok
          have ok3 := hl'.out.dr.ok.opn
          by_cases hlt : k < d.length
          · have hlt1 : (k : Int) < d.length := by omega
            have hd0 : d.drop k ≠ [] := go_step hlt
            have hst := stepR_not (dep := dep) (s := s) hd0
            by_cases hop : s.opn = []
            · rw [if_pos hop] at hst
              have hopl : s.opn.length = 0 := by rw [hop]; rfl
              rw [hopl] at c3
              replace hop := Lib.hid hop
              replace hopl := Lib.hid hopl
              replace hd0 := Lib.hid hd0
              have hcall := fun n : Nat => router_any w.heap.size w.heap.size c' k s P (wr.drewN n) (memd n) (by rw [hcl']; exact hlt) (by rw [hcl']; exact hdl2) (by omega) (by omega)
              rw [hcl', hcd'] at hcall
              obtain ⟨r, hr⟩ : ∃ r, outerR dep s (d.drop k) = r := ⟨_, rfl⟩
              rw [hr] at hcall hst
              replace hcall := Lib.hid hcall
              replace hr := Lib.hid hr
              go_wp2_with fail
              go_quiet (fail)
              go_wp2_with fail
              refine (hcall.out _).mono ?_
              clear hcall c0 c1 c3 c6
              cases r with
              | bad q =>
                have hP2 := Lib.hid (hl'.out.bad hst hP.out)
                have hq0 : q ≠ 0 := by have := stepR_code hst; omega
                have hq1 : (q == 0) = false := by rw [beq_eq_false_iff_ne]; exact hq0
                have hq2 : (q != 0) = true := by rw [bne_iff_ne]; exact hq0
                rintro e w6 ⟨rfl, b6⟩
                have b7 := Lib.hid ((hl'.out.drawn _).below.trans b6)
                clear b6
                replace hst := Lib.hid hst
                go_wp2_with fail
                go_ret2
                exact TrPost.bad hP2.out b7.out
              | stop => exact fun e w2 h => h.elim
              | go s' n =>
                have hdr := hl'.out.dr.step hst
                rintro e w6 ⟨rfl, ⟨c2, P2, e1, e2, s6⟩, b6⟩
                have hL2 : Hid (LpR w w6 w.heap.size d dep m0 (k + n) s' c2 P2) := ⟨e1, e2, s6, hdr.1, (hl'.out.drawn _).below.trans b6⟩
                have hle2 := hdr.1.le
                have hn1 := hdr.2
                have d1 := s6.out.rd.c1
                have c1 := hl'.out.mem.out.rd.c1
                clear b6 hdr
                replace hst := Lib.hid hst
                go_wp2_with fail
                exact ⟨⟨k + n, s', c2, P2, hle2, hL2⟩, by rw [c1, d1]; simp [intOf]; omega⟩

            · rw [if_neg hop] at hst
              have hopl : 0 < s.opn.length := List.length_pos_iff.2 hop
              have hopl1 : (0 : Int) < s.opn.length := by omega
              replace hop := Lib.hid hop
              replace hd0 := Lib.hid hd0
              have hcall := fun n : Nat => rinner_any w.heap.size w.heap.size c' k s P (wr.drewN n) (memd n) (by rw [hcl']; exact hlt) (by rw [hcl']; exact hdl2) (by omega) (by omega) (by omega)
              rw [hcl', hcd'] at hcall
              obtain ⟨r, hr⟩ : ∃ r, innerR dep s (d.drop k) = r := ⟨_, rfl⟩
              rw [hr] at hcall hst
              replace hcall := Lib.hid hcall
              replace hr := Lib.hid hr
              go_wp2_with fail
              go_quiet (fail)
              go_wp2_with fail
              refine (hcall.out _).mono ?_
              clear hcall c0 c1 c3 c6
              cases r with
              | bad q =>
                have hP2 := Lib.hid (hl'.out.bad hst hP.out)
                have hq0 : q ≠ 0 := by have := stepR_code hst; omega
                have hq1 : (q == 0) = false := by rw [beq_eq_false_iff_ne]; exact hq0
                have hq2 : (q != 0) = true := by rw [bne_iff_ne]; exact hq0
                rintro e w6 ⟨rfl, b6⟩
                have b7 := Lib.hid ((hl'.out.drawn _).below.trans b6)
                clear b6
                replace hst := Lib.hid hst
                go_wp2_with fail
                go_ret2
                exact TrPost.bad hP2.out b7.out
              | stop => exact fun e w2 h => h.elim
              | go s' n =>
                have hdr := hl'.out.dr.step hst
                rintro e w6 ⟨rfl, ⟨c2, P2, e1, e2, s6⟩, b6⟩
                have hL2 : Hid (LpR w w6 w.heap.size d dep m0 (k + n) s' c2 P2) := ⟨e1, e2, s6, hdr.1, (hl'.out.drawn _).below.trans b6⟩
                have hle2 := hdr.1.le
                have hn1 := hdr.2
                have d1 := s6.out.rd.c1
                have c1 := hl'.out.mem.out.rd.c1
                clear b6 hdr
                replace hst := Lib.hid hst
                go_wp2_with fail
                exact ⟨⟨k + n, s', c2, P2, hle2, hL2⟩, by rw [c1, d1]; simp [intOf]; omega⟩

          · have hlt1 : decide ((k : Int) < d.length) = false := by rw [decide_eq_false_iff_not]; omega
            have hP2 := hl'.out.end_ (by omega) hP.out
            have hdg := hdl.out
            have hko : k ≤ 100000 := by omega
            have hdr0 := fun n : Nat => hl'.out.drawn n
            have c5 := hl'.out.mem.out.rd.c5
            obtain ⟨ka, kc, hkv⟩ := own_form hl'.out.mem.out.tks.row
            rw [hkv] at c5
            replace hkv := Lib.hid hkv
            clear memd
            replace hdr0 := Lib.hid hdr0
            by_cases hgs : g < l.length
            · have hgs1 : (g : Int) < l.length := by omega
              replace hP2 := Lib.hid (hP2.trans (if_pos (Or.inl hgs)))
              go_wp2_with fail
              go_quiet (fail)
              go_wp2_with fail
              go_ret2
              exact TrPost.bad hP2.out (hdr0.out _).below
            have hgs1 : ¬ ((g : Int) < l.length) := by omega
            have hgs2 : decide ((g : Int) < l.length) = false := by rw [decide_eq_false_iff_not]; exact hgs1
            cases hrt : s.rooted
            case false =>
              replace hP2 := Lib.hid (hP2.trans (if_pos (Or.inr (Or.inl hrt))))
              rw [hrt] at c6
              replace hrt := Lib.hid hrt
              replace hgs := Lib.hid hgs
              go_wp2_with fail
              go_quiet (fail)
              go_wp2_with fail
              go_ret2
              exact TrPost.bad hP2.out (hdr0.out _).below
            case true =>
              rw [hrt] at c6
              by_cases hop : s.opn = []
              · replace hP2 := Lib.hid (hP2.trans (if_neg (by rintro (e | e | e); exact hgs e; rw [hrt] at e; cases e; exact e hop)))
                have hopl : s.opn.length = 0 := by rw [hop]; rfl
                rw [hopl] at c3
                replace hop := Lib.hid hop
                replace hopl := Lib.hid hopl
                replace hrt := Lib.hid hrt
                replace hgs := Lib.hid hgs
                go_wp2_with fail
                go_quiet (fail)
                go_wp2_with fail
                go_ret2
                exact TrPost.ok hP2.out (by show Tks _ _ (.slice ka P.length kc) P; rw [← hkv.out]; exact (hdr0.out _).mem.out.tks) hl'.out.mem.out.ptk (hdr0.out _).below
              · replace hP2 := Lib.hid (hP2.trans (if_pos (Or.inr (Or.inr hop))))
                have hopl : 0 < s.opn.length := List.length_pos_iff.2 hop
                have hopl1 : (0 : Int) < s.opn.length := by omega
                have hopl2 : decide ((0 : Int) < s.opn.length) = true := by rw [decide_eq_true_eq]; exact hopl1
                replace hop := Lib.hid hop
                replace hrt := Lib.hid hrt
                replace hgs := Lib.hid hgs
                go_wp2_with fail
                go_quiet (fail)
                go_wp2_with fail
                go_ret2
                exact TrPost.bad hP2.out (hdr0.out _).below
  case true =>
    have hpl := prefix_len hbm
    obtain ⟨M, hM⟩ : ∃ M : Nat, M = 3 := ⟨_, rfl⟩
    replace hP : Hid (o = tailR dep l d g (preX d M)) := by rw [hM]; exact hP.out.trans (by rw [hbm]; rfl)
    have hMd : M ≤ d.length := by simp at hpl; omega
    have hM3 : M ≤ 3 := by omega
    have c1 := s2.out.rd.c1
    have f1 := s2.out.rd.fz 1
    have s3 := SnM.call s2 (sf_put (SnM.sf s2) 3 (x := 3) rfl).out
    have b3 := Lib.hid (b2.out.trans (SnM.toBelow s2 (sf_put (SnM.sf s2) 3 (x := 3) rfl).out))
    clear s2 b2 hpl
    replace hbm := Lib.hid hbm
    go_wp2_with fail
    obtain ⟨W2, hW2⟩ : ∃ W2, w2.setCell ⟨w.heap.size, 1, none⟩ (.int .i64 3) = W2 := ⟨_, rfl⟩
    rw [hW2] at s3 b3
    rw [hW2]
    have s2 : Hid (SnM W2 w.heap.size w.heap.size c M sc0 []) := by rw [hM]; exact s3
    have b2 := b3
    clear s3 b3 c1 f1
    replace hW2 := Lib.hid hW2
    replace hM := Lib.hid hM
    have c0 := s2.out.rd.c0
    rw [hcl.1] at c0
    have c1 := s2.out.rd.c1
    cases ph : Lib.hasPrefix (d.drop M) [60, 63, 120, 109, 108]
    case false =>
      replace hP := Lib.hid (hP.out.trans (by unfold preX; rw [if_neg (by rintro ⟨e, _⟩; rw [ph] at e; cases e)]))
      have hh := rhas_at (SnM.sf s2) [60, 63, 120, 109, 108] (by rw [hcl.1]; exact hMd) hc0 (by decide) false (by rw [hcl.1]; exact ph)
      replace hh := Lib.hid hh
      replace ph := Lib.hid ph
      obtain ⟨m0, hm0⟩ : ∃ m0, M = m0 := ⟨_, rfl⟩
      rw [hm0] at hP
      replace hm0 := Lib.hid hm0
      go_wp2_with fail
      go_quiet ((go_at_call 32; exact hh.out _))
      go_wp2_with fail
      have hL : Hid (LpR w (W2.drewN nq) w.heap.size d dep m0 m0 sc0 c []) := by
        rw [← hm0.out]
        exact LpR.start (SnM.below s2 (Drawn.below (drawn_drewN _ _) _)) hcl hMd (b2.out.trans (Drawn.below (drawn_drewN _ _) _))

      go_loopw [10] (fun _ wr => ∃ (k : Nat) (s : Sc) (c' : SC) (P : List (Tk × Value)), k ≤ d.length ∧ Hid (LpR w wr w.heap.size d dep m0 k s c' P)) (fun _ wr => d.length - (intOf ((wr.cell? ⟨w.heap.size, 1, none⟩).getD undef)).toNat)
      case atStart => exact ⟨m0, sc0, c, [], hL.out.dr.le, hL⟩
      case round =>
        clear hL c0 c1 s2 b2
        obtain ⟨k, s, c', P, hk, hl'⟩ := hrel
        have c0 := hl'.out.mem.out.rd.c0
        rw [hl'.out.cl] at c0
        have c1 := hl'.out.mem.out.rd.c1
        have c3 := hl'.out.mem.out.rd.c3
        have c6 := hl'.out.mem.out.rd.c6
        rw [hl'.out.mem.out.rt] at c6
        obtain ⟨va, vc, hv⟩ := own_form hl'.out.mem.out.opn
        rw [hv] at c3
        replace hv := Lib.hid hv
        have memd := fun n => (hl'.out.drawn n).mem
        have hcl' := hl'.out.cl
        have hcd' := hl'.out.cd
        have ok1 := hl'.out.dr.ok.txt
        have ok2 := hl'.out.dr.ok.tok
        have ok3 := hl'.out.dr.ok.opn
        by_cases hlt : k < d.length
        · have hlt1 : (k : Int) < d.length := by omega
          have hd0 : d.drop k ≠ [] := go_step hlt
          have hst := stepR_not (dep := dep) (s := s) hd0
          by_cases hop : s.opn = []
          · rw [if_pos hop] at hst
            have hopl : s.opn.length = 0 := by rw [hop]; rfl
            rw [hopl] at c3
            replace hop := Lib.hid hop
            replace hopl := Lib.hid hopl
            replace hd0 := Lib.hid hd0
            have hcall := fun n : Nat => router_any w.heap.size w.heap.size c' k s P (wr.drewN n) (memd n) (by rw [hcl']; exact hlt) (by rw [hcl']; exact hdl2) (by omega) (by omega)
            rw [hcl', hcd'] at hcall
            obtain ⟨r, hr⟩ : ∃ r, outerR dep s (d.drop k) = r := ⟨_, rfl⟩
            rw [hr] at hcall hst
            replace hcall := Lib.hid hcall
            replace hr := Lib.hid hr
            go_wp2_with fail
            go_quiet (fail)
            go_wp2_with fail
            refine (hcall.out _).mono ?_
            clear hcall c0 c1 c3 c6
            cases r with
            | bad q =>
              have hP2 := Lib.hid (hl'.out.bad hst hP.out)
              have hq0 : q ≠ 0 := by have := stepR_code hst; omega
              have hq1 : (q == 0) = false := by rw [beq_eq_false_iff_ne]; exact hq0
              have hq2 : (q != 0) = true := by rw [bne_iff_ne]; exact hq0
              rintro e w6 ⟨rfl, b6⟩
              have b7 := Lib.hid ((hl'.out.drawn _).below.trans b6)
              clear b6
              replace hst := Lib.hid hst
              go_wp2_with fail
              go_ret2
              exact TrPost.bad hP2.out b7.out
            | stop => exact fun e w2 h => h.elim
            | go s' n =>
              have hdr := hl'.out.dr.step hst
              rintro e w6 ⟨rfl, ⟨c2, P2, e1, e2, s6⟩, b6⟩
              have hL2 : Hid (LpR w w6 w.heap.size d dep m0 (k + n) s' c2 P2) := ⟨e1, e2, s6, hdr.1, (hl'.out.drawn _).below.trans b6⟩
              have hle2 := hdr.1.le
              have hn1 := hdr.2
              have d1 := s6.out.rd.c1
              have c1 := hl'.out.mem.out.rd.c1
              clear b6 hdr
              replace hst := Lib.hid hst
              go_wp2_with fail
              exact ⟨⟨k + n, s', c2, P2, hle2, hL2⟩, by rw [c1, d1]; simp [intOf]; omega⟩

          · rw [if_neg hop] at hst
            have hopl : 0 < s.opn.length := List.length_pos_iff.2 hop
            have hopl1 : (0 : Int) < s.opn.length := by omega
            replace hop := Lib.hid hop
            replace hd0 := Lib.hid hd0
            have hcall := fun n : Nat => rinner_any w.heap.size w.heap.size c' k s P (wr.drewN n) (memd n) (by rw [hcl']; exact hlt) (by rw [hcl']; exact hdl2) (by omega) (by omega) (by omega)
            rw [hcl', hcd'] at hcall
            obtain ⟨r, hr⟩ : ∃ r, innerR dep s (d.drop k) = r := ⟨_, rfl⟩
            rw [hr] at hcall hst
            replace hcall := Lib.hid hcall
            replace hr := Lib.hid hr
            go_wp2_with fail
            go_quiet (fail)
            go_wp2_with fail
            refine (hcall.out _).mono ?_
            clear hcall c0 c1 c3 c6
            cases r with
            | bad q =>
              have hP2 := Lib.hid (hl'.out.bad hst hP.out)
              have hq0 : q ≠ 0 := by have := stepR_code hst; omega
              have hq1 : (q == 0) = false := by rw [beq_eq_false_iff_ne]; exact hq0
              have hq2 : (q != 0) = true := by rw [bne_iff_ne]; exact hq0
              rintro e w6 ⟨rfl, b6⟩
              have b7 := Lib.hid ((hl'.out.drawn _).below.trans b6)
              clear b6
              replace hst := Lib.hid hst
              go_wp2_with fail
              go_ret2
              exact TrPost.bad hP2.out b7.out
            | stop => exact fun e w2 h => h.elim
            | go s' n =>
              have hdr := hl'.out.dr.step hst
              rintro e w6 ⟨rfl, ⟨c2, P2, e1, e2, s6⟩, b6⟩
              have hL2 : Hid (LpR w w6 w.heap.size d dep m0 (k + n) s' c2 P2) := ⟨e1, e2, s6, hdr.1, (hl'.out.drawn _).below.trans b6⟩
              have hle2 := hdr.1.le
              have hn1 := hdr.2
              have d1 := s6.out.rd.c1
              have c1 := hl'.out.mem.out.rd.c1
              clear b6 hdr
              replace hst := Lib.hid hst
              go_wp2_with fail
              exact ⟨⟨k + n, s', c2, P2, hle2, hL2⟩, by rw [c1, d1]; simp [intOf]; omega⟩

        · have hlt1 : decide ((k : Int) < d.length) = false := by rw [decide_eq_false_iff_not]; omega
          have hP2 := hl'.out.end_ (by omega) hP.out
          have hdg := hdl.out
          have hko : k ≤ 100000 := by omega
          have hdr0 := fun n : Nat => hl'.out.drawn n
          have c5 := hl'.out.mem.out.rd.c5
          obtain ⟨ka, kc, hkv⟩ := own_form hl'.out.mem.out.tks.row
          rw [hkv] at c5
          replace hkv := Lib.hid hkv
          clear memd
          replace hdr0 := Lib.hid hdr0
          by_cases hgs : g < l.length
          · have hgs1 : (g : Int) < l.length := by omega
            replace hP2 := Lib.hid (hP2.trans (if_pos (Or.inl hgs)))
            go_wp2_with fail
            go_quiet (fail)
            go_wp2_with fail
            go_ret2
            exact TrPost.bad hP2.out (hdr0.out _).below
          have hgs1 : ¬ ((g : Int) < l.length) := by omega
          have hgs2 : decide ((g : Int) < l.length) = false := by rw [decide_eq_false_iff_not]; exact hgs1
          cases hrt : s.rooted
          case false =>
            replace hP2 := Lib.hid (hP2.trans (if_pos (Or.inr (Or.inl hrt))))
            rw [hrt] at c6
            replace hrt := Lib.hid hrt
            replace hgs := Lib.hid hgs
            go_wp2_with fail
            go_quiet (fail)
            go_wp2_with fail
            go_ret2
            exact TrPost.bad hP2.out (hdr0.out _).below
          case true =>
            rw [hrt] at c6
            by_cases hop : s.opn = []
            · replace hP2 := Lib.hid (hP2.trans (if_neg (by rintro (e | e | e); exact hgs e; rw [hrt] at e; cases e; exact e hop)))
              have hopl : s.opn.length = 0 := by rw [hop]; rfl
              rw [hopl] at c3
              replace hop := Lib.hid hop
              replace hopl := Lib.hid hopl
              replace hrt := Lib.hid hrt
              replace hgs := Lib.hid hgs
              go_wp2_with fail
              go_quiet (fail)
              go_wp2_with fail
              go_ret2
              exact TrPost.ok hP2.out (by show Tks _ _ (.slice ka P.length kc) P; rw [← hkv.out]; exact (hdr0.out _).mem.out.tks) hl'.out.mem.out.ptk (hdr0.out _).below
            · replace hP2 := Lib.hid (hP2.trans (if_pos (Or.inr (Or.inr hop))))
              have hopl : 0 < s.opn.length := List.length_pos_iff.2 hop
              have hopl1 : (0 : Int) < s.opn.length := by omega
              have hopl2 : decide ((0 : Int) < s.opn.length) = true := by rw [decide_eq_true_eq]; exact hopl1
              replace hop := Lib.hid hop
              replace hrt := Lib.hid hrt
              replace hgs := Lib.hid hgs
              go_wp2_with fail
              go_quiet (fail)
              go_wp2_with fail
              go_ret2
              exact TrPost.bad hP2.out (hdr0.out _).below

    case true =>
      have hh := rhas_at (SnM.sf s2) [60, 63, 120, 109, 108] (by rw [hcl.1]; exact hMd) hc0 (by decide) true (by rw [hcl.1]; exact ph)
      replace hh := Lib.hid hh
      by_cases hlt : M + 5 < d.length
      · have hlt1 : (M : Int) + 5 < d.length := by omega
        have hbl := fun W : World => rblank_any (bt d (M + 5)) W
        cases hbb : blI (bt d (M + 5))
        case false =>
          replace hP := Lib.hid (hP.out.trans (by unfold preX; rw [if_neg (by rintro ⟨_, e⟩; rw [pre5, hbb] at e; cases e.2)]))
          rw [hbb] at hbl
          replace hbl := Lib.hid hbl
          replace hbb := Lib.hid hbb
          replace ph := Lib.hid ph
          obtain ⟨m0, hm0⟩ : ∃ m0, M = m0 := ⟨_, rfl⟩
          rw [hm0] at hP
          replace hm0 := Lib.hid hm0
          go_wp2_with fail
          go_quiet (first | (go_at_call 32; exact hh.out _) | (go_at_call 33; exact Calls.drawn_at (hbl.out _)))
          go_wp2_with fail
          have hL : Hid (LpR w (W2.drewN nq) w.heap.size d dep m0 m0 sc0 c []) := by
            rw [← hm0.out]
            exact LpR.start (SnM.below s2 (Drawn.below (drawn_drewN _ _) _)) hcl hMd (b2.out.trans (Drawn.below (drawn_drewN _ _) _))

          go_loopw [10] (fun _ wr => ∃ (k : Nat) (s : Sc) (c' : SC) (P : List (Tk × Value)), k ≤ d.length ∧ Hid (LpR w wr w.heap.size d dep m0 k s c' P)) (fun _ wr => d.length - (intOf ((wr.cell? ⟨w.heap.size, 1, none⟩).getD undef)).toNat)
          case atStart => exact ⟨m0, sc0, c, [], hL.out.dr.le, hL⟩
          case round =>
            clear hL c0 c1 s2 b2
            obtain ⟨k, s, c', P, hk, hl'⟩ := hrel
            have c0 := hl'.out.mem.out.rd.c0
            rw [hl'.out.cl] at c0
            have c1 := hl'.out.mem.out.rd.c1
            have c3 := hl'.out.mem.out.rd.c3
            have c6 := hl'.out.mem.out.rd.c6
            rw [hl'.out.mem.out.rt] at c6
            obtain ⟨va, vc, hv⟩ := own_form hl'.out.mem.out.opn
            rw [hv] at c3
            replace hv := Lib.hid hv
            have memd := fun n => (hl'.out.drawn n).mem
            have hcl' := hl'.out.cl
            have hcd' := hl'.out.cd
            have ok1 := hl'.out.dr.ok.txt
            have ok2 := hl'.out.dr.ok.tok
            have ok3 := hl'.out.dr.ok.opn
            by_cases hlt : k < d.length
            · have hlt1 : (k : Int) < d.length := by omega
              have hd0 : d.drop k ≠ [] := go_step hlt
              have hst := stepR_not (dep := dep) (s := s) hd0
              by_cases hop : s.opn = []
              · rw [if_pos hop] at hst
                have hopl : s.opn.length = 0 := by rw [hop]; rfl
                rw [hopl] at c3
                replace hop := Lib.hid hop
                replace hopl := Lib.hid hopl
                replace hd0 := Lib.hid hd0
                have hcall := fun n : Nat => router_any w.heap.size w.heap.size c' k s P (wr.drewN n) (memd n) (by rw [hcl']; exact hlt) (by rw [hcl']; exact hdl2) (by omega) (by omega)
                rw [hcl', hcd'] at hcall
                obtain ⟨r, hr⟩ : ∃ r, outerR dep s (d.drop k) = r := ⟨_, rfl⟩
                rw [hr] at hcall hst
                replace hcall := Lib.hid hcall
                replace hr := Lib.hid hr
                go_wp2_with fail
                go_quiet (fail)
                go_wp2_with fail
                refine (hcall.out _).mono ?_
                clear hcall c0 c1 c3 c6
                cases r with
                | bad q =>
                  have hP2 := Lib.hid (hl'.out.bad hst hP.out)
                  have hq0 : q ≠ 0 := by have := stepR_code hst; omega
                  have hq1 : (q == 0) = false := by rw [beq_eq_false_iff_ne]; exact hq0
                  have hq2 : (q != 0) = true := by rw [bne_iff_ne]; exact hq0
                  rintro e w6 ⟨rfl, b6⟩
                  have b7 := Lib.hid ((hl'.out.drawn _).below.trans b6)
                  clear b6
                  replace hst := Lib.hid hst
                  go_wp2_with fail
                  go_ret2
                  exact TrPost.bad hP2.out b7.out
                | stop => exact fun e w2 h => h.elim
                | go s' n =>
                  have hdr := hl'.out.dr.step hst
                  rintro e w6 ⟨rfl, ⟨c2, P2, e1, e2, s6⟩, b6⟩
                  have hL2 : Hid (LpR w w6 w.heap.size d dep m0 (k + n) s' c2 P2) := ⟨e1, e2, s6, hdr.1, (hl'.out.drawn _).below.trans b6⟩
                  have hle2 := hdr.1.le
                  have hn1 := hdr.2
                  have d1 := s6.out.rd.c1
                  have c1 := hl'.out.mem.out.rd.c1
                  clear b6 hdr
                  replace hst := Lib.hid hst
                  go_wp2_with fail
                  exact ⟨⟨k + n, s', c2, P2, hle2, hL2⟩, by rw [c1, d1]; simp [intOf]; omega⟩

              · rw [if_neg hop] at hst
                have hopl : 0 < s.opn.length := List.length_pos_iff.2 hop
                have hopl1 : (0 : Int) < s.opn.length := by omega
                replace hop := Lib.hid hop
                replace hd0 := Lib.hid hd0
                have hcall := fun n : Nat => rinner_any w.heap.size w.heap.size c' k s P (wr.drewN n) (memd n) (by rw [hcl']; exact hlt) (by rw [hcl']; exact hdl2) (by omega) (by omega) (by omega)
                rw [hcl', hcd'] at hcall
                obtain ⟨r, hr⟩ : ∃ r, innerR dep s (d.drop k) = r := ⟨_, rfl⟩
                rw [hr] at hcall hst
                replace hcall := Lib.hid hcall
                replace hr := Lib.hid hr
                go_wp2_with fail
                go_quiet (fail)
                go_wp2_with fail
                refine (hcall.out _).mono ?_
                clear hcall c0 c1 c3 c6
                cases r with
                | bad q =>
                  have hP2 := Lib.hid (hl'.out.bad hst hP.out)
                  have hq0 : q ≠ 0 := by have := stepR_code hst; omega
                  have hq1 : (q == 0) = false := by rw [beq_eq_false_iff_ne]; exact hq0
                  have hq2 : (q != 0) = true := by rw [bne_iff_ne]; exact hq0
                  rintro e w6 ⟨rfl, b6⟩
                  have b7 := Lib.hid ((hl'.out.drawn _).below.trans b6)
                  clear b6
                  replace hst := Lib.hid hst
                  go_wp2_with fail
                  go_ret2
                  exact TrPost.bad hP2.out b7.out
                | stop => exact fun e w2 h => h.elim
                | go s' n =>
                  have hdr := hl'.out.dr.step hst
                  rintro e w6 ⟨rfl, ⟨c2, P2, e1, e2, s6⟩, b6⟩
                  have hL2 : Hid (LpR w w6 w.heap.size d dep m0 (k + n) s' c2 P2) := ⟨e1, e2, s6, hdr.1, (hl'.out.drawn _).below.trans b6⟩
                  have hle2 := hdr.1.le
                  have hn1 := hdr.2
                  have d1 := s6.out.rd.c1
                  have c1 := hl'.out.mem.out.rd.c1
                  clear b6 hdr
                  replace hst := Lib.hid hst
                  go_wp2_with fail
                  exact ⟨⟨k + n, s', c2, P2, hle2, hL2⟩, by rw [c1, d1]; simp [intOf]; omega⟩

            · have hlt1 : decide ((k : Int) < d.length) = false := by rw [decide_eq_false_iff_not]; omega
              have hP2 := hl'.out.end_ (by omega) hP.out
              have hdg := hdl.out
              have hko : k ≤ 100000 := by omega
              have hdr0 := fun n : Nat => hl'.out.drawn n
              have c5 := hl'.out.mem.out.rd.c5
              obtain ⟨ka, kc, hkv⟩ := own_form hl'.out.mem.out.tks.row
              rw [hkv] at c5
              replace hkv := Lib.hid hkv
              clear memd
              replace hdr0 := Lib.hid hdr0
              by_cases hgs : g < l.length
              · have hgs1 : (g : Int) < l.length := by omega
                replace hP2 := Lib.hid (hP2.trans (if_pos (Or.inl hgs)))
                go_wp2_with fail
                go_quiet (fail)
                go_wp2_with fail
                go_ret2
                exact TrPost.bad hP2.out (hdr0.out _).below
              have hgs1 : ¬ ((g : Int) < l.length) := by omega
              have hgs2 : decide ((g : Int) < l.length) = false := by rw [decide_eq_false_iff_not]; exact hgs1
              cases hrt : s.rooted
              case false =>
                replace hP2 := Lib.hid (hP2.trans (if_pos (Or.inr (Or.inl hrt))))
                rw [hrt] at c6
                replace hrt := Lib.hid hrt
                replace hgs := Lib.hid hgs
                go_wp2_with fail
                go_quiet (fail)
                go_wp2_with fail
                go_ret2
                exact TrPost.bad hP2.out (hdr0.out _).below
              case true =>
                rw [hrt] at c6
                by_cases hop : s.opn = []
                · replace hP2 := Lib.hid (hP2.trans (if_neg (by rintro (e | e | e); exact hgs e; rw [hrt] at e; cases e; exact e hop)))
                  have hopl : s.opn.length = 0 := by rw [hop]; rfl
                  rw [hopl] at c3
                  replace hop := Lib.hid hop
                  replace hopl := Lib.hid hopl
                  replace hrt := Lib.hid hrt
                  replace hgs := Lib.hid hgs
                  go_wp2_with fail
                  go_quiet (fail)
                  go_wp2_with fail
                  go_ret2
                  exact TrPost.ok hP2.out (by show Tks _ _ (.slice ka P.length kc) P; rw [← hkv.out]; exact (hdr0.out _).mem.out.tks) hl'.out.mem.out.ptk (hdr0.out _).below
                · replace hP2 := Lib.hid (hP2.trans (if_pos (Or.inr (Or.inr hop))))
                  have hopl : 0 < s.opn.length := List.length_pos_iff.2 hop
                  have hopl1 : (0 : Int) < s.opn.length := by omega
                  have hopl2 : decide ((0 : Int) < s.opn.length) = true := by rw [decide_eq_true_eq]; exact hopl1
                  replace hop := Lib.hid hop
                  replace hrt := Lib.hid hrt
                  replace hgs := Lib.hid hgs
                  go_wp2_with fail
                  go_quiet (fail)
                  go_wp2_with fail
                  go_ret2
                  exact TrPost.bad hP2.out (hdr0.out _).below

        case true =>
          rw [hbb] at hbl
          replace hP := Lib.hid (hP.out.trans (by unfold preX; rw [if_pos ⟨ph, (pre5 d M).2 ⟨hlt, hbb⟩⟩]))
          have hun := fun n : Nat => runtil_any w.heap.size c M [63, 62] (W2.drewN n) (SnM.below s2 (Drawn.below (drawn_drewN _ _) _)).out.rd (by rw [hcl.1]; exact hMd) hc0 (by decide)
          rw [hcl.1] at hun
          have hul := fun x n => untilR_le (t := [63, 62]) (d := d.drop M) (x := x) (n := n)
          rw [List.length_drop] at hul
          obtain ⟨r, hr⟩ : ∃ r, untilR [63, 62] (d.drop M) = r := ⟨_, rfl⟩
          rw [hr] at hun hul
          replace hP := Lib.hid (hP.out.trans (by rw [hr]))
          replace hbl := Lib.hid hbl
          replace hbb := Lib.hid hbb
          replace ph := Lib.hid ph
          replace hr := Lib.hid hr
          replace hun := Lib.hid hun
          go_wp2_with fail
          go_quiet (first | (go_at_call 32; exact hh.out _) | (go_at_call 33; exact Calls.drawn_at (hbl.out _)))
          go_wp2_with fail
          refine (hun.out _).mono ?_
          clear hun
          cases r with
          | none =>
            rintro e w3 ⟨⟨x, rfl, _⟩, k3, r3⟩
            have b3 := Lib.hid (((b2.out.trans (Drawn.below (drawn_drewN _ _) _))).trans (SnM.toBelow (SnM.below s2 (Drawn.below (drawn_drewN _ _) _)) r3))
            clear r3 hul
            go_wp2_with fail
            go_ret2
            exact TrPost.bad (hP.out.trans rfl) b3.out
          | some y =>
            obtain ⟨x, n⟩ := y
            obtain ⟨_, u2, _⟩ := hul x n rfl
            clear hul
            rintro e w3 ⟨rfl, r3⟩
            have s3 := SnM.call (SnM.below s2 (Drawn.below (drawn_drewN _ _) _)) r3
            have b3 := Lib.hid (((b2.out.trans (Drawn.below (drawn_drewN _ _) _))).trans (SnM.toBelow (SnM.below s2 (Drawn.below (drawn_drewN _ _) _)) r3))
            clear r3
            obtain ⟨m0, hm0⟩ : ∃ m0, M + n = m0 := ⟨_, rfl⟩
            replace hP : Hid (o = tailR dep l d g (some m0)) := by rw [← hm0]; exact hP.out
            rw [hm0] at s3
            have hL : Hid (LpR w w3 w.heap.size d dep m0 m0 sc0 c []) := LpR.start s3 hcl (by omega) b3.out
            replace hm0 := Lib.hid hm0
            clear s3 b3
            go_wp2_with fail
            go_loopw [10] (fun _ wr => ∃ (k : Nat) (s : Sc) (c' : SC) (P : List (Tk × Value)), k ≤ d.length ∧ Hid (LpR w wr w.heap.size d dep m0 k s c' P)) (fun _ wr => d.length - (intOf ((wr.cell? ⟨w.heap.size, 1, none⟩).getD undef)).toNat)
            case atStart => exact ⟨m0, sc0, c, [], hL.out.dr.le, hL⟩
            case round =>
              clear hL c0 c1 s2 b2
              obtain ⟨k, s, c', P, hk, hl'⟩ := hrel
              have c0 := hl'.out.mem.out.rd.c0
              rw [hl'.out.cl] at c0
              have c1 := hl'.out.mem.out.rd.c1
              have c3 := hl'.out.mem.out.rd.c3
              have c6 := hl'.out.mem.out.rd.c6
              rw [hl'.out.mem.out.rt] at c6
              obtain ⟨va, vc, hv⟩ := own_form hl'.out.mem.out.opn
              rw [hv] at c3
              replace hv := Lib.hid hv
              have memd := fun n => (hl'.out.drawn n).mem
              have hcl' := hl'.out.cl
              have hcd' := hl'.out.cd
              have ok1 := hl'.out.dr.ok.txt
              have ok2 := hl'.out.dr.ok.tok
              have ok3 := hl'.out.dr.ok.opn
              by_cases hlt : k < d.length
              · have hlt1 : (k : Int) < d.length := by omega
                have hd0 : d.drop k ≠ [] := go_step hlt
                have hst := stepR_not (dep := dep) (s := s) hd0
                by_cases hop : s.opn = []
                · rw [if_pos hop] at hst
                  have hopl : s.opn.length = 0 := by rw [hop]; rfl
                  rw [hopl] at c3
                  replace hop := Lib.hid hop
                  replace hopl := Lib.hid hopl
                  replace hd0 := Lib.hid hd0
                  have hcall := fun n : Nat => router_any w.heap.size w.heap.size c' k s P (wr.drewN n) (memd n) (by rw [hcl']; exact hlt) (by rw [hcl']; exact hdl2) (by omega) (by omega)
                  rw [hcl', hcd'] at hcall
                  obtain ⟨r, hr⟩ : ∃ r, outerR dep s (d.drop k) = r := ⟨_, rfl⟩
                  rw [hr] at hcall hst
                  replace hcall := Lib.hid hcall
                  replace hr := Lib.hid hr
                  go_wp2_with fail
                  go_quiet (fail)
                  go_wp2_with fail
                  refine (hcall.out _).mono ?_
                  clear hcall c0 c1 c3 c6
                  cases r with
                  | bad q =>
                    have hP2 := Lib.hid (hl'.out.bad hst hP.out)
                    have hq0 : q ≠ 0 := by have := stepR_code hst; omega
                    have hq1 : (q == 0) = false := by rw [beq_eq_false_iff_ne]; exact hq0
                    have hq2 : (q != 0) = true := by rw [bne_iff_ne]; exact hq0
                    rintro e w6 ⟨rfl, b6⟩
                    have b7 := Lib.hid ((hl'.out.drawn _).below.trans b6)
                    clear b6
                    replace hst := Lib.hid hst
                    go_wp2_with fail
                    go_ret2
                    exact TrPost.bad hP2.out b7.out
                  | stop => exact fun e w2 h => h.elim
                  | go s' n =>
                    have hdr := hl'.out.dr.step hst
                    rintro e w6 ⟨rfl, ⟨c2, P2, e1, e2, s6⟩, b6⟩
                    have hL2 : Hid (LpR w w6 w.heap.size d dep m0 (k + n) s' c2 P2) := ⟨e1, e2, s6, hdr.1, (hl'.out.drawn _).below.trans b6⟩
                    have hle2 := hdr.1.le
                    have hn1 := hdr.2
                    have d1 := s6.out.rd.c1
                    have c1 := hl'.out.mem.out.rd.c1
                    clear b6 hdr
                    replace hst := Lib.hid hst
                    go_wp2_with fail
                    exact ⟨⟨k + n, s', c2, P2, hle2, hL2⟩, by rw [c1, d1]; simp [intOf]; omega⟩

                · rw [if_neg hop] at hst
                  have hopl : 0 < s.opn.length := List.length_pos_iff.2 hop
                  have hopl1 : (0 : Int) < s.opn.length := by omega
                  replace hop := Lib.hid hop
                  replace hd0 := Lib.hid hd0
                  have hcall := fun n : Nat => rinner_any w.heap.size w.heap.size c' k s P (wr.drewN n) (memd n) (by rw [hcl']; exact hlt) (by rw [hcl']; exact hdl2) (by omega) (by omega) (by omega)
                  rw [hcl', hcd'] at hcall
                  obtain ⟨r, hr⟩ : ∃ r, innerR dep s (d.drop k) = r := ⟨_, rfl⟩
                  rw [hr] at hcall hst
                  replace hcall := Lib.hid hcall
                  replace hr := Lib.hid hr
                  go_wp2_with fail
                  go_quiet (fail)
                  go_wp2_with fail
                  refine (hcall.out _).mono ?_
                  clear hcall c0 c1 c3 c6
                  cases r with
                  | bad q =>
                    have hP2 := Lib.hid (hl'.out.bad hst hP.out)
                    have hq0 : q ≠ 0 := by have := stepR_code hst; omega
                    have hq1 : (q == 0) = false := by rw [beq_eq_false_iff_ne]; exact hq0
                    have hq2 : (q != 0) = true := by rw [bne_iff_ne]; exact hq0
                    rintro e w6 ⟨rfl, b6⟩
                    have b7 := Lib.hid ((hl'.out.drawn _).below.trans b6)
                    clear b6
                    replace hst := Lib.hid hst
                    go_wp2_with fail
                    go_ret2
                    exact TrPost.bad hP2.out b7.out
                  | stop => exact fun e w2 h => h.elim
                  | go s' n =>
                    have hdr := hl'.out.dr.step hst
                    rintro e w6 ⟨rfl, ⟨c2, P2, e1, e2, s6⟩, b6⟩
                    have hL2 : Hid (LpR w w6 w.heap.size d dep m0 (k + n) s' c2 P2) := ⟨e1, e2, s6, hdr.1, (hl'.out.drawn _).below.trans b6⟩
                    have hle2 := hdr.1.le
                    have hn1 := hdr.2
                    have d1 := s6.out.rd.c1
                    have c1 := hl'.out.mem.out.rd.c1
                    clear b6 hdr
                    replace hst := Lib.hid hst
                    go_wp2_with fail
                    exact ⟨⟨k + n, s', c2, P2, hle2, hL2⟩, by rw [c1, d1]; simp [intOf]; omega⟩

              · have hlt1 : decide ((k : Int) < d.length) = false := by rw [decide_eq_false_iff_not]; omega
                have hP2 := hl'.out.end_ (by omega) hP.out
                have hdg := hdl.out
                have hko : k ≤ 100000 := by omega
                have hdr0 := fun n : Nat => hl'.out.drawn n
                have c5 := hl'.out.mem.out.rd.c5
                obtain ⟨ka, kc, hkv⟩ := own_form hl'.out.mem.out.tks.row
                rw [hkv] at c5
                replace hkv := Lib.hid hkv
                clear memd
                replace hdr0 := Lib.hid hdr0
                by_cases hgs : g < l.length
                · have hgs1 : (g : Int) < l.length := by omega
                  replace hP2 := Lib.hid (hP2.trans (if_pos (Or.inl hgs)))
                  go_wp2_with fail
                  go_quiet (fail)
                  go_wp2_with fail
                  go_ret2
                  exact TrPost.bad hP2.out (hdr0.out _).below
                have hgs1 : ¬ ((g : Int) < l.length) := by omega
                have hgs2 : decide ((g : Int) < l.length) = false := by rw [decide_eq_false_iff_not]; exact hgs1
                cases hrt : s.rooted
                case false =>
                  replace hP2 := Lib.hid (hP2.trans (if_pos (Or.inr (Or.inl hrt))))
                  rw [hrt] at c6
                  replace hrt := Lib.hid hrt
                  replace hgs := Lib.hid hgs
                  go_wp2_with fail
                  go_quiet (fail)
                  go_wp2_with fail
                  go_ret2
                  exact TrPost.bad hP2.out (hdr0.out _).below
                case true =>
                  rw [hrt] at c6
                  by_cases hop : s.opn = []
                  · replace hP2 := Lib.hid (hP2.trans (if_neg (by rintro (e | e | e); exact hgs e; rw [hrt] at e; cases e; exact e hop)))
                    have hopl : s.opn.length = 0 := by rw [hop]; rfl
                    rw [hopl] at c3
                    replace hop := Lib.hid hop
                    replace hopl := Lib.hid hopl
                    replace hrt := Lib.hid hrt
                    replace hgs := Lib.hid hgs
                    go_wp2_with fail
                    go_quiet (fail)
                    go_wp2_with fail
                    go_ret2
                    exact TrPost.ok hP2.out (by show Tks _ _ (.slice ka P.length kc) P; rw [← hkv.out]; exact (hdr0.out _).mem.out.tks) hl'.out.mem.out.ptk (hdr0.out _).below
                  · replace hP2 := Lib.hid (hP2.trans (if_pos (Or.inr (Or.inr hop))))
                    have hopl : 0 < s.opn.length := List.length_pos_iff.2 hop
                    have hopl1 : (0 : Int) < s.opn.length := by omega
                    have hopl2 : decide ((0 : Int) < s.opn.length) = true := by rw [decide_eq_true_eq]; exact hopl1
                    replace hop := Lib.hid hop
                    replace hrt := Lib.hid hrt
                    replace hgs := Lib.hid hgs
                    go_wp2_with fail
                    go_quiet (fail)
                    go_wp2_with fail
                    go_ret2
                    exact TrPost.bad hP2.out (hdr0.out _).below

      · have hlt1 : decide ((M : Int) + 5 < d.length) = false := by rw [decide_eq_false_iff_not]; omega
        have hlt2 : decide ((M : Int) + 5 < g) = false := by rw [decide_eq_false_iff_not]; have := hdl.out; omega
        replace hP := Lib.hid (hP.out.trans (by unfold preX; rw [if_neg (by rintro ⟨_, e⟩; rw [pre5] at e; exact hlt e.1)]))
        replace ph := Lib.hid ph
        replace hlt := Lib.hid hlt
        obtain ⟨m0, hm0⟩ : ∃ m0, M = m0 := ⟨_, rfl⟩
        rw [hm0] at hP
        replace hm0 := Lib.hid hm0
        go_wp2_with fail
        go_quiet ((go_at_call 32; exact hh.out _))
        go_wp2_with fail
        have hL : Hid (LpR w (W2.drewN nq) w.heap.size d dep m0 m0 sc0 c []) := by
          rw [← hm0.out]
          exact LpR.start (SnM.below s2 (Drawn.below (drawn_drewN _ _) _)) hcl hMd (b2.out.trans (Drawn.below (drawn_drewN _ _) _))

        go_loopw [10] (fun _ wr => ∃ (k : Nat) (s : Sc) (c' : SC) (P : List (Tk × Value)), k ≤ d.length ∧ Hid (LpR w wr w.heap.size d dep m0 k s c' P)) (fun _ wr => d.length - (intOf ((wr.cell? ⟨w.heap.size, 1, none⟩).getD undef)).toNat)
        case atStart => exact ⟨m0, sc0, c, [], hL.out.dr.le, hL⟩
        case round =>
          clear hL c0 c1 s2 b2
          obtain ⟨k, s, c', P, hk, hl'⟩ := hrel
          have c0 := hl'.out.mem.out.rd.c0
          rw [hl'.out.cl] at c0
          have c1 := hl'.out.mem.out.rd.c1
          have c3 := hl'.out.mem.out.rd.c3
          have c6 := hl'.out.mem.out.rd.c6
          rw [hl'.out.mem.out.rt] at c6
          obtain ⟨va, vc, hv⟩ := own_form hl'.out.mem.out.opn
          rw [hv] at c3
          replace hv := Lib.hid hv
          have memd := fun n => (hl'.out.drawn n).mem
          have hcl' := hl'.out.cl
          have hcd' := hl'.out.cd
          have ok1 := hl'.out.dr.ok.txt
          have ok2 := hl'.out.dr.ok.tok
          have ok3 := hl'.out.dr.ok.opn
          by_cases hlt : k < d.length
          · have hlt1 : (k : Int) < d.length := by omega
            have hd0 : d.drop k ≠ [] := go_step hlt
            have hst := stepR_not (dep := dep) (s := s) hd0
            by_cases hop : s.opn = []
            · rw [if_pos hop] at hst
              have hopl : s.opn.length = 0 := by rw [hop]; rfl
              rw [hopl] at c3
              replace hop := Lib.hid hop
              replace hopl := Lib.hid hopl
              replace hd0 := Lib.hid hd0
              have hcall := fun n : Nat => router_any w.heap.size w.heap.size c' k s P (wr.drewN n) (memd n) (by rw [hcl']; exact hlt) (by rw [hcl']; exact hdl2) (by omega) (by omega)
              rw [hcl', hcd'] at hcall
              obtain ⟨r, hr⟩ : ∃ r, outerR dep s (d.drop k) = r := ⟨_, rfl⟩
              rw [hr] at hcall hst
              replace hcall := Lib.hid hcall
              replace hr := Lib.hid hr
              go_wp2_with fail
              go_quiet (fail)
              go_wp2_with fail
              refine (hcall.out _).mono ?_
              clear hcall c0 c1 c3 c6
              cases r with
              | bad q =>
                have hP2 := Lib.hid (hl'.out.bad hst hP.out)
                have hq0 : q ≠ 0 := by have := stepR_code hst; omega
                have hq1 : (q == 0) = false := by rw [beq_eq_false_iff_ne]; exact hq0
                have hq2 : (q != 0) = true := by rw [bne_iff_ne]; exact hq0
                rintro e w6 ⟨rfl, b6⟩
                have b7 := Lib.hid ((hl'.out.drawn _).below.trans b6)
                clear b6
                replace hst := Lib.hid hst
                go_wp2_with fail
                go_ret2
                exact TrPost.bad hP2.out b7.out
              | stop => exact fun e w2 h => h.elim
              | go s' n =>
                have hdr := hl'.out.dr.step hst
                rintro e w6 ⟨rfl, ⟨c2, P2, e1, e2, s6⟩, b6⟩
                have hL2 : Hid (LpR w w6 w.heap.size d dep m0 (k + n) s' c2 P2) := ⟨e1, e2, s6, hdr.1, (hl'.out.drawn _).below.trans b6⟩
                have hle2 := hdr.1.le
                have hn1 := hdr.2
                have d1 := s6.out.rd.c1
                have c1 := hl'.out.mem.out.rd.c1
                clear b6 hdr
                replace hst := Lib.hid hst
                go_wp2_with fail
                exact ⟨⟨k + n, s', c2, P2, hle2, hL2⟩, by rw [c1, d1]; simp [intOf]; omega⟩

            · rw [if_neg hop] at hst
              have hopl : 0 < s.opn.length := List.length_pos_iff.2 hop
              have hopl1 : (0 : Int) < s.opn.length := by omega
              replace hop := Lib.hid hop
              replace hd0 := Lib.hid hd0
              have hcall := fun n : Nat => rinner_any w.heap.size w.heap.size c' k s P (wr.drewN n) (memd n) (by rw [hcl']; exact hlt) (by rw [hcl']; exact hdl2) (by omega) (by omega) (by omega)
              rw [hcl', hcd'] at hcall
              obtain ⟨r, hr⟩ : ∃ r, innerR dep s (d.drop k) = r := ⟨_, rfl⟩
              rw [hr] at hcall hst
              replace hcall := Lib.hid hcall
              replace hr := Lib.hid hr
              go_wp2_with fail
              go_quiet (fail)
              go_wp2_with fail
              refine (hcall.out _).mono ?_
              clear hcall c0 c1 c3 c6
              cases r with
              | bad q =>
                have hP2 := Lib.hid (hl'.out.bad hst hP.out)
                have hq0 : q ≠ 0 := by have := stepR_code hst; omega
                have hq1 : (q == 0) = false := by rw [beq_eq_false_iff_ne]; exact hq0
                have hq2 : (q != 0) = true := by rw [bne_iff_ne]; exact hq0
                rintro e w6 ⟨rfl, b6⟩
                have b7 := Lib.hid ((hl'.out.drawn _).below.trans b6)
                clear b6
                replace hst := Lib.hid hst
                go_wp2_with fail
                go_ret2
                exact TrPost.bad hP2.out b7.out
              | stop => exact fun e w2 h => h.elim
              | go s' n =>
                have hdr := hl'.out.dr.step hst
                rintro e w6 ⟨rfl, ⟨c2, P2, e1, e2, s6⟩, b6⟩
                have hL2 : Hid (LpR w w6 w.heap.size d dep m0 (k + n) s' c2 P2) := ⟨e1, e2, s6, hdr.1, (hl'.out.drawn _).below.trans b6⟩
                have hle2 := hdr.1.le
                have hn1 := hdr.2
                have d1 := s6.out.rd.c1
                have c1 := hl'.out.mem.out.rd.c1
                clear b6 hdr
                replace hst := Lib.hid hst
                go_wp2_with fail
                exact ⟨⟨k + n, s', c2, P2, hle2, hL2⟩, by rw [c1, d1]; simp [intOf]; omega⟩

          · have hlt1 : decide ((k : Int) < d.length) = false := by rw [decide_eq_false_iff_not]; omega
            have hP2 := hl'.out.end_ (by omega) hP.out
            have hdg := hdl.out
            have hko : k ≤ 100000 := by omega
            have hdr0 := fun n : Nat => hl'.out.drawn n
            have c5 := hl'.out.mem.out.rd.c5
            obtain ⟨ka, kc, hkv⟩ := own_form hl'.out.mem.out.tks.row
            rw [hkv] at c5
            replace hkv := Lib.hid hkv
            clear memd
            replace hdr0 := Lib.hid hdr0
            by_cases hgs : g < l.length
            · have hgs1 : (g : Int) < l.length := by omega
              replace hP2 := Lib.hid (hP2.trans (if_pos (Or.inl hgs)))
              go_wp2_with fail
              go_quiet (fail)
              go_wp2_with fail
              go_ret2
              exact TrPost.bad hP2.out (hdr0.out _).below
            have hgs1 : ¬ ((g : Int) < l.length) := by omega
            have hgs2 : decide ((g : Int) < l.length) = false := by rw [decide_eq_false_iff_not]; exact hgs1
            cases hrt : s.rooted
            case false =>
              replace hP2 := Lib.hid (hP2.trans (if_pos (Or.inr (Or.inl hrt))))
              rw [hrt] at c6
              replace hrt := Lib.hid hrt
              replace hgs := Lib.hid hgs
              go_wp2_with fail
              go_quiet (fail)
              go_wp2_with fail
              go_ret2
              exact TrPost.bad hP2.out (hdr0.out _).below
            case true =>
              rw [hrt] at c6
              by_cases hop : s.opn = []
              · replace hP2 := Lib.hid (hP2.trans (if_neg (by rintro (e | e | e); exact hgs e; rw [hrt] at e; cases e; exact e hop)))
                have hopl : s.opn.length = 0 := by rw [hop]; rfl
                rw [hopl] at c3
                replace hop := Lib.hid hop
                replace hopl := Lib.hid hopl
                replace hrt := Lib.hid hrt
                replace hgs := Lib.hid hgs
                go_wp2_with fail
                go_quiet (fail)
                go_wp2_with fail
                go_ret2
                exact TrPost.ok hP2.out (by show Tks _ _ (.slice ka P.length kc) P; rw [← hkv.out]; exact (hdr0.out _).mem.out.tks) hl'.out.mem.out.ptk (hdr0.out _).below
              · replace hP2 := Lib.hid (hP2.trans (if_pos (Or.inr (Or.inr hop))))
                have hopl : 0 < s.opn.length := List.length_pos_iff.2 hop
                have hopl1 : (0 : Int) < s.opn.length := by omega
                have hopl2 : decide ((0 : Int) < s.opn.length) = true := by rw [decide_eq_true_eq]; exact hopl1
                replace hop := Lib.hid hop
                replace hrt := Lib.hid hrt
                replace hgs := Lib.hid hgs
                go_wp2_with fail
                go_quiet (fail)
                go_wp2_with fail
                go_ret2
                exact TrPost.bad hP2.out (hdr0.out _).below
end Go.Proofs.YtahohmdbiiknoaaGreatDoor
