/- Layer 11: gap, step. -/
import Derived.Test.YtldnigkaagcciaaDoorD11k
namespace Go.Proofs.YtldnigkaagcciaaDoor
open Go.RowKit

section
variable {σ ε : Type}
theorem loopK_inv {f : σ → List UInt8 → Rs σ ε} (h : Steps f) {I : σ → Nat → Prop} (hi : ∀ s d s' n k, f s d = .go s' n → I s k → I s' (k + n)) : ∀ s d k, I s k → I (loopK f s d k).2.1 (loopK f s d k).2.2 := by
  refine loopK_ind h (P := fun s d => ∀ k, I s k → I (loopK f s d k).2.1 (loopK f s d k).2.2) ?_ ?_ ?_
  · intro s d x e k hk; rw [loopK_bad k e]; exact hk
  · intro s d e k hk; rw [loopK_stop k e]; exact hk
  · intro s d s' n e ih k hk; rw [loopK_go h k e]; exact ih _ (hi s d s' n k e hk)
end
theorem runF_len {ends acc d acc' : List UInt8} {n : Nat} (h : runF ends acc d = .go acc' n) : acc'.length ≤ acc.length + 4 * n := by
  cases d with
  | nil => cases h
  | cons c t =>
    rw [runF] at h
    split at h
    · cases h
    · split at h
      · injection h with h1 h; subst h h1; simp
      · revert h
        cases e : refP (c :: t) with
        | none => intro h; cases h
        | some y =>
          obtain ⟨x, m⟩ := y
          intro h
          injection h with h1 h
          subst h h1
          have := refP_bd e
          simp; omega
theorem runP_len {ends d x : List UInt8} {n : Nat} (h : runP ends d = some (x, n)) : x.length ≤ 4 * n := by
  unfold runP at h
  have h1 := loopK_inv (runF_steps ends) (I := fun s k => s.length ≤ 4 * k) (fun s d s' n k e hk => by have := runF_len e; omega) [] d 0 (by simp)
  cases e : loopK (runF ends) [] d 0 with
  | mk o y =>
    rw [e] at h h1
    cases o with
    | some _ => cases h
    | none =>
      obtain ⟨y1, y2⟩ := y
      injection h with h
      injection h with h2 h
      subst h h2
      exact h1
theorem untilP_bd {p bar d x : List UInt8} {n : Nat} (h : untilP p bar d = some (x, n)) : x.length ≤ d.length ∧ n ≤ d.length := by
  unfold untilP at h
  have hr := Lib.index_room d p
  split at h
  · cases h
  · split at h
    · cases h
    · injection h with h
      injection h with h1 h
      subst h h1
      rw [List.length_take]
      omega

section
variable {dep : Int} {s : Sc} {d : List UInt8}
theorem docF_nil : docF dep s [] = .bad .fin := by unfold docF; rw [if_pos rfl]
theorem docF_comment (h0 : d ≠ []) (h1 : Lib.hasPrefix d [60, 33, 45, 45] = true) : docF dep s d = match untilP [45, 45, 62] [45, 45] (d.drop 4) with | none => .bad .syn | some (_, n) => .go s (4 + n) := by
  unfold docF; rw [if_neg h0, if_pos h1]; cases untilP [45, 45, 62] [45, 45] (d.drop 4) <;> rfl
theorem docF_two (h0 : d ≠ []) (h1 : Lib.hasPrefix d [60, 33, 45, 45] = false) (h2 : elemB d = true) (h3 : s.rooted = true ∧ s.opn = []) : docF dep s d = .bad .syn := by
  unfold docF; rw [if_neg h0, if_neg (by rw [h1]; decide), if_pos h2, if_pos h3]
theorem docF_deep (h0 : d ≠ []) (h1 : Lib.hasPrefix d [60, 33, 45, 45] = false) (h2 : elemB d = true) (h3 : ¬ (s.rooted = true ∧ s.opn = [])) (h4 : dep ≤ s.opn.length) : docF dep s d = .bad .deep := by
  unfold docF; rw [if_neg h0, if_neg (by rw [h1]; decide), if_pos h2, if_neg h3, if_pos h4]
theorem docF_begin (h0 : d ≠ []) (h1 : Lib.hasPrefix d [60, 33, 45, 45] = false) (h2 : elemB d = true) (h3 : ¬ (s.rooted = true ∧ s.opn = [])) (h4 : ¬ dep ≤ s.opn.length) : docF dep s d = match beginP (d.drop 1) with
    | none => .bad .syn
    | some ((nm, l, true), n) => .go ⟨true, s.opn, [], addT s.text s.toks ⟨3, nm, l, []⟩⟩ (1 + n)
    | some ((nm, l, false), n) => .go ⟨true, s.opn ++ [nm], [], addT s.text s.toks ⟨1, nm, l, []⟩⟩ (1 + n) := by
  unfold docF; rw [if_neg h0, if_neg (by rw [h1]; decide), if_pos h2, if_neg h3, if_neg h4]
  rcases beginP (d.drop 1) with _ | ⟨⟨nm, l, b⟩, n⟩
  · rfl
  · cases b <;> rfl
theorem docF_gap (h0 : d ≠ []) (h1 : Lib.hasPrefix d [60, 33, 45, 45] = false) (h2 : elemB d = false) (h3 : s.opn = []) : docF dep s d = if spanN blI d = 0 then .bad .syn else .go s (spanN blI d) := by
  unfold docF; rw [if_neg h0, if_neg (by rw [h1]; decide), if_neg (by rw [h2]; decide), if_pos h3]
theorem docF_end (h0 : d ≠ []) (h1 : Lib.hasPrefix d [60, 33, 45, 45] = false) (h2 : elemB d = false) (h3 : s.opn ≠ []) (h4 : Lib.hasPrefix d [60, 47] = true) : docF dep s d = match endP (s.opn.getLastD []) (d.drop 2) with
    | none => .bad .syn
    | some n => .go ⟨s.rooted, s.opn.dropLast, [], addT s.text s.toks ⟨2, s.opn.getLastD [], [], []⟩⟩ (2 + n) := by
  unfold docF; rw [if_neg h0, if_neg (by rw [h1]; decide), if_neg (by rw [h2]; decide), if_neg h3, if_pos h4]
  cases endP (s.opn.getLastD []) (d.drop 2) <;> rfl
theorem docF_cdata (h0 : d ≠ []) (h1 : Lib.hasPrefix d [60, 33, 45, 45] = false) (h2 : elemB d = false) (h3 : s.opn ≠ []) (h4 : Lib.hasPrefix d [60, 47] = false) (h5 : Lib.hasPrefix d [60, 33, 91, 67, 68, 65, 84, 65, 91] = true) : docF dep s d = match untilP [93, 93, 62] [93, 93, 62] (d.drop 9) with
    | none => .bad .syn
    | some (x, n) => .go ⟨s.rooted, s.opn, s.text ++ x, s.toks⟩ (9 + n) := by
  unfold docF; rw [if_neg h0, if_neg (by rw [h1]; decide), if_neg (by rw [h2]; decide), if_neg h3, if_neg (by rw [h4]; decide), if_pos h5]
  cases untilP [93, 93, 62] [93, 93, 62] (d.drop 9) <;> rfl
theorem docF_lt (h0 : d ≠ []) (h1 : Lib.hasPrefix d [60, 33, 45, 45] = false) (h2 : elemB d = false) (h3 : s.opn ≠ []) (h4 : Lib.hasPrefix d [60, 47] = false) (h5 : Lib.hasPrefix d [60, 33, 91, 67, 68, 65, 84, 65, 91] = false) (h6 : Lib.hasPrefix d [60] = true) : docF dep s d = .bad .syn := by
  unfold docF; rw [if_neg h0, if_neg (by rw [h1]; decide), if_neg (by rw [h2]; decide), if_neg h3, if_neg (by rw [h4]; decide), if_neg (by rw [h5]; decide), if_pos h6]
theorem docF_run (h0 : d ≠ []) (h1 : Lib.hasPrefix d [60, 33, 45, 45] = false) (h2 : elemB d = false) (h3 : s.opn ≠ []) (h4 : Lib.hasPrefix d [60, 47] = false) (h5 : Lib.hasPrefix d [60, 33, 91, 67, 68, 65, 84, 65, 91] = false) (h6 : Lib.hasPrefix d [60] = false) : docF dep s d = match runP [60] d with
    | none => .bad .syn
    | some (x, n) => .go ⟨s.rooted, s.opn, s.text ++ x, s.toks⟩ n := by
  unfold docF; rw [if_neg h0, if_neg (by rw [h1]; decide), if_neg (by rw [h2]; decide), if_neg h3, if_neg (by rw [h4]; decide), if_neg (by rw [h5]; decide), if_neg (by rw [h6]; decide)]
  cases runP [60] d <;> rfl
end
/-- What lies there of the program's own variables: the library's number, and the error that tells the text's end. -/
structure Env (w : World) (B : Nat) (A : Addr) : Prop where
  maxl : MaxL w
  ende : w.cell? ⟨0, 0, none⟩ = some (.iface 123 (.pointer (some A)))
  lowm : 2 < B
  lowe : 0 < B
theorem Env.below {w w' : World} {B : Nat} {A : Addr} (h : Env w B A) (hb : Below B w w') : Env w' B A := by
  obtain ⟨m, hm⟩ := h.maxl
  exact ⟨⟨m, (hb.cell (p := ⟨2, 0, none⟩) h.lowm).trans hm⟩, (hb.cell (p := ⟨0, 0, none⟩) h.lowe).trans h.ende, h.lowm, h.lowe⟩
def endV (A : Addr) : Value := .iface 123 (.pointer (some A))
/-- What step comes to. -/
def StepPost (w : World) (B R : Nat) (l : List UInt8) (dep : Int) (k : Nat) (s : Sc) (A : Addr) : Rs Sc Flt → Ending → World → Prop
  | .go s' n, e, w' => NilPost w B R l dep (k + n) s' e w'
  | .bad .fin, e, w' => e = .returned (endV A) ∧ (∃ c' P', c'.l = l ∧ c'.dep = dep ∧ RdM w' B R c' k s P') ∧ Below B w w'
  | .bad .syn, e, w' => ErrPost w B R l synV (fun _ => True) e w'
  | .bad .deep, e, w' => ErrPost w B R l deepV (fun k' => k' = k) e w'
  | .stop, _, _ => False
section
variable {w w' : World} {B R : Nat} {l : List UInt8} {dep : Int} {k : Nat} {s s' : Sc} {A : Addr} {o : Rs Sc Flt} {e : Ending}
theorem StepPost.go {n : Nat} (ho : o = .go s' n) (h : NilPost w B R l dep (k + n) s' e w') : StepPost w B R l dep k s A o e w' := by subst ho; exact h
theorem StepPost.syn (ho : o = .bad .syn) (h : ErrPost w B R l synV (fun _ => True) e w') : StepPost w B R l dep k s A o e w' := by subst ho; exact h
theorem StepPost.deep (ho : o = .bad .deep) (h : ErrPost w B R l deepV (fun k' => k' = k) e w') : StepPost w B R l dep k s A o e w' := by subst ho; exact h
theorem NilPost.from {w0 : World} (hb : Below B w0 w) (h : NilPost w B R l dep k s e w') : NilPost w0 B R l dep k s e w' := ⟨h.1, h.2.1, hb.trans h.2.2⟩
theorem ErrPost.from {w0 : World} {v : Value} {Q : Nat → Prop} (hb : Below B w0 w) (h : ErrPost w B R l v Q e w') : ErrPost w0 B R l v Q e w' := ⟨h.1, h.2.1, hb.trans h.2.2⟩
end

theorem gap11_any (R : Nat) (c : RC) (k : Nat) (w : World) (h : Rd w R c k) (hk : k ≤ c.l.length) (hl : c.l.length ≤ 100000) :
    Calls Tryd.prog 39 #[.pointer (some ⟨R, 0, none⟩)] w fun e w' => e = .returned (if 0 < spanN blI (c.l.drop k) then .nilIface else synV) ∧ Rd w' R c (k + spanN blI (c.l.drop k)) ∧ Turned (fun b => b = R) w w' := by
  have hbl := blanks11_any R c k w h hk hl
  clear h
  by_cases h0 : 0 < spanN blI (c.l.drop k)
  · rw [decide_eq_true h0] at hbl
    rw [if_pos h0]
    replace hbl := Lib.hid hbl
    replace h0 := Lib.hid h0
    go_enter Tryd.func39, Tryd.ntmps39
    go_wp2_with fail
    refine hbl.out.mono ?_; rintro e w1 ⟨rfl, r1, t1⟩
    replace r1 := Lib.hid r1
    replace t1 := Lib.hid t1
    go_wp2_with fail
    go_ret
    exact ⟨rfl, r1.out, t1.out⟩
  · rw [decide_eq_false h0] at hbl
    rw [if_neg h0]
    replace hbl := Lib.hid hbl
    replace h0 := Lib.hid h0
    go_enter Tryd.func39, Tryd.ntmps39
    go_wp2_with fail
    refine hbl.out.mono ?_; rintro e w1 ⟨rfl, r1, t1⟩
    replace r1 := Lib.hid r1
    replace t1 := Lib.hid t1
    go_wp2_with fail
    go_ret
    exact ⟨rfl, r1.out, t1.out⟩
end Go.Proofs.YtldnigkaagcciaaDoor
