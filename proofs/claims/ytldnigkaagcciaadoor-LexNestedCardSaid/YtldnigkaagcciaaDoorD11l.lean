/- Layer 11's laws: awake. -/
import Derived.Test.YtldnigkaagcciaaDoorD11x
namespace Go.Proofs.YtldnigkaagcciaaDoor
open Go.RowKit

def exA : List UInt8 := [60, 63, 120, 109, 108, 32, 118, 101, 114, 115, 105, 111, 110, 61, 39, 49, 46, 48, 39, 63, 62, 10, 60, 97, 32, 98, 61, 34, 49, 32, 38, 97, 109, 112, 59, 32, 50, 34, 62, 120, 60, 33, 45, 45, 32, 99, 32, 45, 45, 62, 60, 99, 47, 62, 38, 108, 116, 59, 60, 33, 91, 67, 68, 65, 84, 65, 91, 60, 121, 62, 93, 93, 62, 60, 47, 97, 62]
def exB : List UInt8 := [60, 97, 62, 60, 98, 62, 60, 47, 97, 62]
def exC : List UInt8 := [60, 97, 62, 60, 98, 62, 60, 99, 32, 120]
theorem exA_tok : tokB 2 exA = .toks [⟨1, [97], [([98], [49, 32, 38, 32, 50])], []⟩, ⟨4, [], [], [120]⟩, ⟨3, [99], [], []⟩, ⟨4, [], [], [60, 60, 121, 62]⟩, ⟨2, [97], [], []⟩] := by kernel_rfl
theorem exB_tok : tokB 5 exB = .syn := by kernel_rfl
theorem exC_tok : tokB 2 exC = .deep := by kernel_rfl
theorem map_five {α β : Type} {f : α → β} {a b c d e : β} {P : List α} (h : P.map f = [a, b, c, d, e]) : ∃ p q r s t, P = [p, q, r, s, t] ∧ f p = a ∧ f q = b ∧ f r = c ∧ f s = d ∧ f t = e := by
  match P with
  | [] => simp at h
  | [_] => simp at h
  | [_, _] => simp at h
  | [_, _, _] => simp at h
  | [_, _, _, _] => simp at h
  | [p, q, r, s, t] => simp at h; exact ⟨p, q, r, s, t, rfl, h⟩
  | _ :: _ :: _ :: _ :: _ :: _ :: _ => simp at h
set_option maxRecDepth 100000 in
set_option maxHeartbeats 4000000 in
theorem awake11_any (A : Addr) (w : World) (hL : Laid11 w A) : Calls Tryd.prog 8 #[] w (LawPost w) := by
  have c1 : Calls _ _ _ _ _ := tokens11_any exA 2 A w hL (by decide)
  rw [exA_tok] at c1
  have c2 := fun (W : World) (hW : Laid11 W A) => tokens11_any exB 5 A W hW (by decide)
  rw [exB_tok] at c2
  have c3 := fun (W : World) (hW : Laid11 W A) => tokens11_any exC 2 A W hW (by decide)
  rw [exC_tok] at c3
  have n1 := fun W : World => name11_any [97, 45, 49] W
  have n2 := fun W : World => name11_any [49, 97] W
  rw [show nameB [97, 45, 49] = true by kernel_rfl] at n1
  rw [show nameB [49, 97] = false by kernel_rfl] at n2
  replace c1 := Lib.hid c1
  replace c2 := Lib.hid c2
  replace c3 := Lib.hid c3
  replace n1 := Lib.hid n1
  replace n2 := Lib.hid n2
  replace hL := Lib.hid hL
  go_enter Tryd.func8, Tryd.ntmps8
  go_wp2_with fail
  refine c1.out.mono ?_; rintro e w1 ⟨v, P, rfl, ht, hP, b1⟩
  have hL1 := hL.out.below b1
  replace b1 := Lib.hid b1
  replace ht := Lib.hid ht
  replace hP := Lib.hid hP
  replace hL1 := Lib.hid hL1
  clear c1 hL
  go_wp2_with fail
  refine (c2.out w1 hL1.out).mono ?_; rintro e w2 ⟨f2, q2, rfl, hf2, fa2, b2⟩
  have hL2 := hL1.out.below b2
  have ht2 := ht.out.below b2
  have bb := b1.out.andThen b2
  replace bb := Lib.hid bb
  replace ht2 := Lib.hid ht2
  replace fa2 := Lib.hid fa2
  replace hL2 := Lib.hid hL2
  clear c2 hL1 ht b1 b2 hf2
  unfold faultV
  go_wp2_with fail
  refine (c3.out w2 hL2.out).mono ?_; rintro e w3 ⟨f3, q3, rfl, hf3, fa3, b3⟩
  have ht3 := (ht2.out.below b3).mono (Nat.zero_le _)
  have bb3 := bb.out.andThen b3
  have k2 := code11_fault f2 q2 3 w3 (fa2.out.below b3) (by omega) (by omega)
  have k3 := code11_fault f3 q3 4 w3 fa3 (by omega) (by omega)
  obtain ⟨p0, p1, p2, p3, p4, rfl, e0, e1, e2, e3, e4⟩ := map_five hP.out
  obtain ⟨g, cap, rfl, hg, hc⟩ := ht3.cells (by simp)
  obtain ⟨_, _, x0, _⟩ := hc 0 (by simp)
  obtain ⟨y0, _, _, _⟩ := hc 2 (by simp)
  obtain ⟨_, _, _, z0⟩ := hc 3 (by simp)
  have hA := ht3.atsAt 0 (by simp)
  simp only [List.getElem_cons_zero, List.getElem_cons_succ] at x0 y0 z0 hA
  rw [e0] at hA
  obtain ⟨ga, ca, ea, hga, _, hca⟩ := hA.cells (by simp)
  obtain ⟨_, y1⟩ := hca 0 (by simp)
  rw [e2] at y0
  rw [e3] at z0
  rw [ea] at x0
  unfold strV at y1 z0
  simp only [List.getD_cons_zero, Nat.zero_mul, Nat.zero_add, List.length_cons, List.length_nil] at x0 y0 z0 y1 
  replace bb3 := Lib.hid bb3
  replace k2 := Lib.hid k2
  replace k3 := Lib.hid k3
  clear c3 hL2 ht2 ht3 hc hca hA e0 e1 e2 e3 e4 ea hP bb b3 fa2 fa3
  unfold faultV
  unfold faultV at k2 k3
  go_wp2_with fail
  refine k2.out.mono ?_; rintro e w' ⟨rfl, rfl⟩
  go_wp2_with fail
  refine k3.out.mono ?_; rintro e w' ⟨rfl, rfl⟩
  go_wp2_with fail
  refine (n1.out _).mono ?_; rintro e w' ⟨rfl, rfl⟩
  go_wp2_with fail
  refine (n2.out _).mono ?_; rintro e w' ⟨rfl, rfl⟩
  go_wp2_with fail
  go_ret
  exact ⟨rfl, bb3.out⟩
/-- The law LexNames. -/
theorem names11_law (l : List UInt8) (w : World) (_ : l.length ≤ maxLen) (A : Addr) (hL : Laid11 w A) : Calls Tryd.prog 3 #[.string ⟨l.toArray⟩] w (LawPost w) := by
  have ha := Lib.hid (awake11_any A w hL)
  have hn := Lib.hid (fun W : World => name11_any l W)
  by_cases hl : l.length ≤ 3000
  · have hr := Lib.hid (fun W : World => refname11_any l W (by omega))
    have hl2 : ¬ (3000 < (l.length : Int)) := by omega
    cases hq : nameB l
    all_goals
      rw [hq] at hn hr
      replace hn := Lib.hid hn.out
      replace hr := Lib.hid hr.out
      clear hq hL
      go_enter Tryd.func3, Tryd.ntmps3
      go_wp2_with fail
      refine ha.out.mono ?_; rintro e w1 ⟨rfl, hb⟩
      replace hb := Lib.hid hb
      go_wp2_with fail
      refine (hn.out _).mono ?_; rintro e w' ⟨rfl, rfl⟩
      go_wp2_with fail
      refine (hr.out _).mono ?_; rintro e w' ⟨rfl, rfl⟩
      go_wp2_with fail
      go_ret
      exact ⟨rfl, hb.out⟩
  · have hl2 : 3000 < (l.length : Int) := by omega
    clear hL ha hn
    go_enter Tryd.func3, Tryd.ntmps3
    go_wp2_with fail
    go_ret
    exact ⟨rfl, Below.refl _ _⟩
end Go.Proofs.YtldnigkaagcciaaDoor

/- Layer 11's laws: what Tokens comes to, as one; LexDepth. -/
namespace Go.Proofs.YtldnigkaagcciaaDoor
open Go.RowKit

def Out.ts : Out → List Tk
  | .toks t => t
  | _ => []
def Out.code : Out → Int
  | .toks _ => 0
  | .syn => 3
  | .deep => 4
/-- An error of that number. -/
def ErrAt (w : World) (v : Value) (c : Int) : Prop := v = .nilIface ∧ c = 0 ∨ ∃ f q, v = faultV f ∧ FaultAt w f q (.iface 29 (.int .i64 c)) ∧ 1 ≤ c ∧ c ≤ 15
theorem ErrAt.below {w w' : World} {v : Value} {c : Int} (h : ErrAt w v c) (hb : Below w.heap.size w w') : ErrAt w' v c := by
  rcases h with h | ⟨f, q, h1, h2, h3⟩
  · exact Or.inl h
  · exact Or.inr ⟨f, q, h1, h2.below hb, h3⟩
theorem ErrAt.calls {w : World} {v : Value} {c : Int} (h : ErrAt w v c) : Calls Tryd.prog 12 #[v] w fun e w' => e = .returned (.int .i64 c) ∧ w = w' := by
  rcases h with ⟨rfl, rfl⟩ | ⟨f, q, rfl, h2, h3, h4⟩
  · exact code11_nil w
  · exact code11_fault f q c w h2 h3 h4
/-- What lies there when Tokens has come to its end. -/
structure ResAt (w' : World) (B : Nat) (o : Out) (a : Option Addr) (n cap : Nat) (ev : Value) (P : List (Tk × Value)) : Prop where
  len : n = P.length
  tks : Tks w' B (.slice a n cap) P
  fst : P.map Prod.fst = o.ts
  err : ErrAt w' ev o.code
def ResPost (w : World) (o : Out) (e : Ending) (w' : World) : Prop :=
  ∃ a n cap ev P, e = .returned (.tuple #[.slice a n cap, ev]) ∧ ResAt w' w.heap.size o a n cap ev P ∧ Below w.heap.size w w'
theorem ResAt.below {w w' : World} {B : Nat} {o : Out} {a : Option Addr} {n cap : Nat} {ev : Value} {P : List (Tk × Value)} (h : ResAt w B o a n cap ev P) (hb : Below w.heap.size w w') : ResAt w' B o a n cap ev P :=
  ⟨h.len, h.tks.below hb, h.fst, h.err.below hb⟩
theorem res11_any (l : List UInt8) (dep : Int) (A : Addr) (w : World) (hL : Laid11 w A) (hl : l.length ≤ 20000) :
    Calls Tryd.prog 11 #[.string ⟨l.toArray⟩, .int .i64 dep] w (ResPost w (tokB dep l)) := by
  refine (tokens11_any l dep A w hL hl).mono ?_
  intro e w' h
  cases hq : tokB dep l with
  | toks t =>
    rw [hq] at h
    obtain ⟨v, P, rfl, ht, hP, hb⟩ := h
    obtain ⟨a, c, rfl⟩ := ht.form
    exact ⟨a, _, c, _, P, rfl, ⟨rfl, ht, hP, Or.inl ⟨rfl, rfl⟩⟩, hb⟩
  | syn =>
    rw [hq] at h
    obtain ⟨f, q, rfl, _, hf, hb⟩ := h
    exact ⟨none, 0, 0, _, [], rfl, ⟨rfl, tks_nil _ _, rfl, Or.inr ⟨f, q, rfl, hf, by decide, by decide⟩⟩, hb⟩
  | deep =>
    rw [hq] at h
    obtain ⟨f, q, rfl, _, hf, hb⟩ := h
    exact ⟨none, 0, 0, _, [], rfl, ⟨rfl, tks_nil _ _, rfl, Or.inr ⟨f, q, rfl, hf, by decide, by decide⟩⟩, hb⟩
theorem docB_len {dep : Int} {l : List UInt8} {t : List Tk} (h : docB dep l = .toks t) : t.length ≤ 2 * l.length := by
  unfold docB at h
  cases hm : headP l with
  | none => rw [hm] at h; cases h
  | some m =>
    rw [hm] at h
    simp only at h
    have ho := loopK_off (docF_steps dep) sc0 (l.drop m) 0 m
    have hi := loopK_inv (docF_steps dep) (I := fun s k => s.toks.length ≤ 2 * k) (fun s d s' n k e hk => by have := docF_step e; have := this.toks; have := (docF_step e).lo; omega) sc0 (l.drop m) 0 (by simp [sc0])
    have hle := loopK_le (docF_steps dep) sc0 (l.drop m) 0
    rw [Nat.add_zero] at ho
    rw [ho] at h
    generalize loopK (docF dep) sc0 (l.drop m) 0 = r at h hi hle
    obtain ⟨x, s, k⟩ := r
    rw [List.length_drop] at hle
    simp only at h hi hle
    cases x with
    | none => cases h
    | some x =>
      cases x with
      | syn => cases h
      | deep => cases h
      | fin =>
        simp only at h
        split at h
        · injection h with h
          subst h
          omega
        · cases h
theorem tokB_len {dep : Int} {l : List UInt8} : (tokB dep l).ts.length ≤ 2 * l.length := by
  cases h : tokB dep l with
  | syn => simp [Out.ts]
  | deep => simp [Out.ts]
  | toks t =>
    show t.length ≤ _
    unfold tokB at h
    split at h
    · rename_i t' hd _
      injection h with h
      subst h
      exact docB_len hd
    · cases h
    · cases h
    · cases h
    · split at h <;> cases h
theorem docF_up {dep dep' : Int} (hd : dep ≤ dep') (s : Sc) (d : List UInt8) : docF dep s d = .bad .deep ∨ docF dep' s d = docF dep s d := by
  by_cases h4 : dep ≤ (s.opn.length : Int)
  · unfold docF
    split
    · exact Or.inr rfl
    · split
      · exact Or.inr rfl
      · split
        · split
          · exact Or.inr rfl
          · exact Or.inl rfl
        · exact Or.inr rfl
  · have h5 : ¬ (dep' ≤ (s.opn.length : Int)) := by omega
    right
    unfold docF
    simp only [if_neg h4, if_neg h5]
theorem loop_up {dep dep' : Int} (hd : dep ≤ dep') : ∀ s d k, (∃ s' k', loopK (docF dep) s d k = (some .deep, s', k') ∧ k' ≤ (loopK (docF dep') s d k).2.2) ∨ loopK (docF dep') s d k = loopK (docF dep) s d k := by
  refine loopK_ind (docF_steps dep) (P := fun s d => ∀ k, (∃ s' k', loopK (docF dep) s d k = (some .deep, s', k') ∧ k' ≤ (loopK (docF dep') s d k).2.2) ∨ loopK (docF dep') s d k = loopK (docF dep) s d k) ?_ ?_ ?_
  · intro s d x e k
    rcases docF_up hd s d with h | h
    · exact Or.inl ⟨s, k, loopK_bad k h, (loopK_le (docF_steps dep') s d k).1⟩
    · exact Or.inr (by rw [loopK_bad k (h.trans e), loopK_bad k e])
  · intro s d e k
    rcases docF_up hd s d with h | h
    · rw [h] at e; cases e
    · exact Or.inr (by rw [loopK_stop k (h.trans e), loopK_stop k e])
  · intro s d s' n e ih k
    rcases docF_up hd s d with h | h
    · rw [h] at e; cases e
    · rw [loopK_go (docF_steps _) k (h.trans e), loopK_go (docF_steps _) k e]
      exact ih _
theorem tokB_up {dep dep' : Int} (hd : dep ≤ dep') (l : List UInt8) : tokB dep l = .deep ∨ tokB dep' l = tokB dep l := by
  have hdoc : (∃ k, docB dep l = .deep k ∧ ((∃ t, docB dep' l = .toks t) ∨ docB dep' l = .syn ∨ ∃ k', k ≤ k' ∧ docB dep' l = .deep k')) ∨ docB dep' l = docB dep l := by
    unfold docB
    cases hm : headP l with
    | none => exact Or.inr rfl
    | some m =>
      simp only
      rcases loop_up hd sc0 (l.drop m) m with ⟨s', k', h1, h2⟩ | h
      · left
        rw [h1]
        refine ⟨k', rfl, ?_⟩
        generalize loopK (docF dep') sc0 (l.drop m) m = r at h2
        obtain ⟨x, s, k⟩ := r
        simp only at h2
        cases x with
        | none => exact Or.inr (Or.inl rfl)
        | some x =>
          cases x with
          | syn => exact Or.inr (Or.inl rfl)
          | deep => exact Or.inr (Or.inr ⟨k, h2, rfl⟩)
          | fin =>
            simp only
            split
            · exact Or.inl ⟨_, rfl⟩
            · exact Or.inr (Or.inl rfl)
      · right; rw [h]
  rcases hdoc with ⟨k, h1, h2⟩ | h
  · unfold tokB
    rw [h1]
    cases hr : runesB l with
    | none => exact Or.inl rfl
    | some q =>
      simp only
      by_cases hq : q < k
      · right
        rw [if_pos hq]
        rcases h2 with ⟨t, h⟩ | h | ⟨k', hk, h⟩
        · rw [h]
        · rw [h]
        · rw [h]; simp only; rw [if_pos (by omega)]
      · left; rw [if_neg hq]
  · right; unfold tokB; rw [h]
theorem u8_bd11 {n : Int} (h : (Lit.int .u8 n).wf = true) : 0 ≤ n ∧ n ≤ 255 := by
  simp [Lit.wf, IntKind.min, IntKind.max, IntKind.bits, IntKind.signed] at h
  omega
set_option maxHeartbeats 1000000 in
/-- The law LexDepth. -/
theorem depth11_law (l : List UInt8) (d m : Int) (w : World) (_ : l.length ≤ maxLen) (hd : (Lit.int .u8 d).wf = true) (hm : (Lit.int .u8 m).wf = true) (A : Addr) (hL : Laid11 w A) :
    Calls Tryd.prog 4 #[.string ⟨l.toArray⟩, .int .u8 d, .int .u8 m] w (LawPost w) := by
  obtain ⟨hd0, hd1⟩ := u8_bd11 hd
  obtain ⟨hm0, hm1⟩ := u8_bd11 hm
  clear hd hm
  by_cases hl : l.length ≤ 3000
  · have hl2 : ¬ (3000 < (l.length : Int)) := by omega
    have r1 := Lib.hid (res11_any l d A w hL (by omega))
    have r2 := Lib.hid (fun (W : World) (hW : Laid11 W A) => res11_any l (d + m) A W hW (by omega))
    have hup := tokB_up (show d ≤ d + m by omega) l
    have hlen := tokB_len (dep := d) (l := l)
    have ha := Lib.hid (fun (W : World) (hW : Laid11 W A) => awake11_any A W hW)
    generalize tokB d l = o at r1 hup hlen
    generalize tokB (d + m) l = o2 at r2 hup
    replace hL := Lib.hid hL
    by_cases h4 : o.code = 4
    · clear hup hlen
      replace h4 := Lib.hid h4
      go_enter Tryd.func4, Tryd.ntmps4
      go_wp2_with fail
      refine r1.out.mono ?_; rintro e w1 ⟨a, n, cap, ev, P, rfl, q1, b1⟩
      have hL1 := Lib.hid (hL.out.below b1)
      have q1 := Lib.hid q1
      replace b1 := Lib.hid b1
      clear hL r1
      go_wp2_with fail
      refine (r2.out w1 hL1.out).mono ?_; rintro e w2 ⟨a2, n2, cap2, ev2, P2, rfl, q2, b2⟩
      have hL2 := Lib.hid (hL1.out.below b2)
      have k1 := ((q1.out.below b2).err).calls
      rw [h4.out] at k1
      replace k1 := Lib.hid k1
      have bb := Lib.hid (b1.out.andThen b2)
      clear q1 b1 b2 q2 hL1 r2
      go_wp2_with fail
      refine k1.out.mono ?_; rintro e w' ⟨rfl, rfl⟩
      go_wp2_with fail
      refine (ha.out _ hL2.out).mono ?_; rintro e w3 ⟨rfl, b3⟩
      have bb3 := Lib.hid (bb.out.andThen b3)
      clear bb b3
      go_wp2_with fail
      go_ret
      exact ⟨rfl, bb3.out⟩
    · obtain rfl : o2 = o := hup.resolve_left (fun e => h4 (by rw [e]; rfl))
      clear hup
      replace h4 := Lib.hid h4
      go_enter Tryd.func4, Tryd.ntmps4
      go_wp2_with fail
      refine r1.out.mono ?_; rintro e w1 ⟨a, n, cap, ev, P, rfl, q1, b1⟩
      have hL1 := Lib.hid (hL.out.below b1)
      have q1 := Lib.hid q1
      replace b1 := Lib.hid b1
      clear hL r1
      go_wp2_with fail
      refine (r2.out w1 hL1.out).mono ?_; rintro e w2 ⟨a2, n2, cap2, ev2, P2, rfl, q2, b2⟩
      have hL2 := Lib.hid (hL1.out.below b2)
      have q1' := q1.out.below b2
      have k1 := Lib.hid q1'.err.calls
      have bb := Lib.hid (b1.out.andThen b2)
      replace q1' := Lib.hid q1'
      replace q2 := Lib.hid q2
      clear q1 b1 b2 hL1 r2
      generalize hcc : o2.code = cc at k1 h4
      replace hcc := Lib.hid hcc
      have h4' := h4.out
      go_wp2_with fail
      refine k1.out.mono ?_; rintro e w' ⟨rfl, rfl⟩
      go_wp2_with fail
      refine (ha.out _ hL2.out).mono ?_; rintro e w3 ⟨rfl, b3⟩
      have bb3 := Lib.hid (bb.out.andThen b3)
      have u1 := q1'.out.below b3
      have u2 := q2.out.below b3
      have k1 := u1.err.calls
      have k2 := u2.err.calls
      rw [hcc.out] at k1 k2
      replace k1 := Lib.hid k1
      replace k2 := Lib.hid k2
      have ks := Lib.hid (same11_any _ _ _ _ P P2 w3 u1.tks u2.tks (u1.fst.trans u2.fst.symm) (by have := congrArg List.length u1.fst; rw [List.length_map] at this; omega))
      clear bb b3 u1 u2 q1' q2 h4
      go_wp2_with fail
      refine k1.out.mono ?_; rintro e w' ⟨rfl, rfl⟩
      go_wp2_with fail
      refine k2.out.mono ?_; rintro e w' ⟨rfl, rfl⟩
      go_wp2_with fail
      refine ks.out.mono ?_; rintro e w4 ⟨rfl, hd4⟩
      have bb4 := Lib.hid (bb3.out.trans (hd4.below _))
      clear bb3 hd4
      go_wp2_with fail
      go_ret
      exact ⟨rfl, bb4.out⟩
  · have hl2 : 3000 < (l.length : Int) := by omega
    have ha := Lib.hid (awake11_any A w hL)
    clear hL
    go_enter Tryd.func4, Tryd.ntmps4
    go_wp2_with fail
    refine ha.out.mono ?_; rintro e w1 ⟨rfl, hb⟩
    replace hb := Lib.hid hb
    go_wp2_with fail
    go_ret
    exact ⟨rfl, hb.out⟩
end Go.Proofs.YtldnigkaagcciaaDoor
