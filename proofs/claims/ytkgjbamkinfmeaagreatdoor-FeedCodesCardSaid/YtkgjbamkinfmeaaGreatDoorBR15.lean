/- The walks of Decode and Valid, of the program and of the reference; and of same. -/
import Derived.Test.YtkgjbamkinfmeaaGreatDoorBR14
import Derived.Test.YtkgjbamkinfmeaaGreatDoorBR02
import Derived.Test.YtkgjbamkinfmeaaGreatDoorBR08
import Derived.Test.YtkgjbamkinfmeaaGreatDoorBR06
namespace Go.Proofs.YtkgjbamkinfmeaaGreatDoor
open Go.RowKit

theorem info_rune : (Tryz.prog.info? 21).map (fun i => (i.zero, i.size, i.bytes)) = some (some (.int .i32 0), 1, 4) := by kernel_rfl

/-- A slice of runes that the call itself made. -/
def Runes (w : World) (B : Nat) (v : Value) (xs : List Int) : Prop := w.ownsRow B 21 1 v xs.length (xs.map (Value.int .i32))

/-- What a loop that decodes keeps. -/
structure DecAt (l : List UInt8) (w : World) (d : List UInt8) (v : Value) (acc : List Int) (wr : World) : Prop where
  own : Runes wr w.heap.size v acc
  below : Below w.heap.size w wr
  eq : acc ++ dec d = dec l
  len : acc.length + d.length ≤ l.length

theorem DecAt.step {l : List UInt8} {w : World} {d : List UInt8} {v v' : Value} {acc : List Int} {wr wr' : World} (h : DecAt l w d v acc wr) (hd : d ≠ [])
    (ho : wr'.ownsRow w.heap.size 21 1 v' (acc.length + 1) (acc.map (Value.int .i32) ++ [.int .i32 (cutS d).1])) (hb : Below w.heap.size w wr') :
    DecAt l w (d.drop (cutN d)) v' (acc ++ [(cutS d).1]) wr' := by
  refine ⟨?_, hb, ?_, ?_⟩
  · unfold Runes; rw [List.length_append, List.map_append]; exact ho
  · rw [← h.eq, dec_cons d hd, List.append_assoc]; rfl
  · have := drop_lt d hd; have := h.len; simp at *; omega

theorem take_drop_eq {d : List UInt8} {n : Int} (hn : n = (cutN d : Int)) : d.drop n.toNat = d.drop (cutN d) := by rw [hn]; simp

def DecPost (l : List UInt8) (w : World) (e : Ending) (w' : World) : Prop := ∃ v, e = .returned v ∧ Runes w' w.heap.size v (dec l) ∧ Below w.heap.size w w'

set_option maxHeartbeats 400000 in
theorem valid_any (l : List UInt8) (w : World) (hs : l.length ≤ 20000) :
    Calls Tryz.prog 85 #[.string ⟨l.toArray⟩] w fun e w' => e = .returned (.bool (val l)) ∧ Drawn w w' := by
  go_enter Tryz.func85, Tryz.ntmps85
  go_wp2_with fail
  go_loopw [0, 3, 4, 5] (fun s _ _ _ wr => ∃ d : List UInt8, s = .string ⟨d.toArray⟩ ∧ d.length ≤ l.length ∧ Hid (val d = val l) ∧ Drawn w wr) (fun s _ _ _ _ => strLen s)
  case atStart => exact ⟨l, rfl, Nat.le_refl _, rfl, Drawn.refl _⟩
  case round =>
    obtain ⟨d, rfl, hlen, hc, hw⟩ := hrel
    replace hw := Lib.hid hw
    by_cases hd : d = []
    · subst hd
      go_wp2_with fail
      go_ret
      exact ⟨by rw [← hc.out]; rfl, hw.out⟩
    · have he : d.isEmpty = false := by cases d <;> simp_all
      replace hd := Lib.hid hd
      go_wp2_with fail
      refine (cut_any d _ (by unfold maxLen; omega)).mono ?_; rintro e w' ⟨rfl, hw'⟩
      obtain ⟨n0, rfl⟩ := hw.out
      obtain ⟨nq, rfl⟩ := hw'
      have hb := cutN_bd d hd.out
      cases hg : (cutS d).2.2
      · go_wp2_with fail
        go_ret
        exact ⟨by rw [← hc.out, val_cons d hd.out, hg]; rfl, ⟨_, rfl⟩⟩
      · go_wp2_with fail
        exact ⟨⟨_, rfl, by have := drop_lt d hd.out; simp at this ⊢; omega, by rw [← hc.out, val_cons d hd.out, hg]; rfl, ⟨_, rfl⟩⟩, by rw [strLen_mk, strLen_mk]; exact drop_lt d hd.out⟩

theorem take_eq {xs ys : List Int} {k : Nat} (h1 : k < xs.length) (h2 : k < ys.length) (h : xs.take k = ys.take k) (he : (xs[k] != ys[k]) = false) : xs.take (k + 1) = ys.take (k + 1) := by
  have e : xs[k] = ys[k] := by simpa using he
  rw [List.take_succ_eq_append_getElem h1, List.take_succ_eq_append_getElem h2, h, e]
theorem take_ne {xs ys : List Int} {k : Nat} (h1 : k < xs.length) (h2 : k < ys.length) (he : (xs[k] != ys[k]) = true) : decide (xs = ys) = false := by
  simp at he ⊢
  intro h; subst h; exact he rfl

end Go.Proofs.YtkgjbamkinfmeaaGreatDoor

/- Layer 11: runes. -/
namespace Go.Proofs.YtkgjbamkinfmeaaGreatDoor
open Go.RowKit

theorem val_take (d : List UInt8) (h : d ≠ []) : val (d.take (cutN d)) = (cutS d).2.2 := by
  have hb := cutN_bd d h
  have hne : d.take (cutN d) ≠ [] := by
    intro e
    have h2 : (d.take (cutN d)).length = 0 := by rw [e]; rfl
    rw [List.length_take] at h2
    omega
  cases hg : (cutS d).2.2
  · rw [val_cons _ hne]
    cases hg2 : (cutS (d.take (cutN d))).2.2
    · rfl
    · have := cut_app (d.take (cutN d)) (d.drop (cutN d)) hne hg2
      rw [List.take_append_drop] at this
      rw [this, hg2] at hg; cases hg
  · have h1 := enc_cut d h hg
    rw [← h1.2]
    have := (dec_enc [(cutS d).1]).2
    simp [encAll] at this
    exact this
theorem runeF_steps : Steps runeF := by
  intro s d s' n h
  unfold runeF at h
  split at h
  · cases h
  · rename_i h0
    split at h
    · injection h with _ h
      have := cutN_bd d h0
      omega
    · cases h
/-- What runes comes to. -/
def RunesPost (w : World) : Option Nat → Ending → World → Prop
  | none, e, w' => e = .returned .nilIface ∧ Below w.heap.size w w'
  | some q, e, w' => ∃ f, e = .returned (faultV f) ∧ w.heap.size ≤ f ∧ FaultAt w' f q synV ∧ Below w.heap.size w w'
theorem RunesPost.ok {w w' : World} {o : Option Nat} {e : Ending} (ho : o = none) (h : e = .returned .nilIface ∧ Below w.heap.size w w') : RunesPost w o e w' := by subst ho; exact h
theorem RunesPost.bad {w w' : World} {o : Option Nat} {e : Ending} {q f : Nat} (ho : o = some q) (he : e = .returned (faultV f)) (hf : w.heap.size ≤ f) (h : FaultAt w' f q synV) (hb : Below w.heap.size w w') : RunesPost w o e w' := by subst ho; exact ⟨f, he, hf, h, hb⟩
theorem runes_stop {l : List UInt8} {k : Nat} (h : loopK runeF () l 0 = loopK runeF () (l.drop k) k) (e : runeF () (l.drop k) = .stop) : runesB l = none := by
  unfold runesB; rw [h, loopK_stop _ e]
theorem runes_bad {l : List UInt8} {k : Nat} (h : loopK runeF () l 0 = loopK runeF () (l.drop k) k) (e : runeF () (l.drop k) = .bad ()) : runesB l = some k := by
  unfold runesB; rw [h, loopK_bad _ e]

set_option maxHeartbeats 1000000 in
theorem runes11_any (l : List UInt8) (w : World) (hl : l.length ≤ 20000) :
    Calls Tryz.prog 58 #[.string ⟨l.toArray⟩] w (RunesPost w (runesB l)) := by
  obtain ⟨o, ho⟩ : ∃ o, runesB l = o := ⟨_, rfl⟩
  rw [ho]
  replace ho := Lib.hid ho
  go_enter Tryz.func58, Tryz.ntmps58
  go_wp2_with fail
  go_loopw [3, 4, 5] (fun i _ _ wr => ∃ k : Nat, i = .int .i64 k ∧ k ≤ l.length ∧ Hid (loopK runeF () l 0 = loopK runeF () (l.drop k) k) ∧ Drawn w wr) (fun i _ _ _ => l.length - (intOf i).toNat)
  case atStart => exact ⟨0, rfl, Nat.zero_le _, by show _ = _; simp, Drawn.refl _⟩
  case round =>
    obtain ⟨k, rfl, hk, hq, n0, rfl⟩ := hrel
    by_cases hlt : k < l.length
    · have hd0 : l.drop k ≠ [] := by intro e; have := congrArg List.length e; rw [List.length_drop] at this; simp at this; omega
      have hb := cutN_bd (l.drop k) hd0
      obtain ⟨hb1, hb2, hb3, hb4⟩ := hb
      rw [List.length_drop] at hb2
      have hvt := val_take (l.drop k) hd0
      have hnx := fun W : World => next_any (l.drop k) W (by rw [List.length_drop]; unfold maxLen; omega)
      have hch := fun W : World => char_any (cutS (l.drop k)).1 W
      have hva := fun W : World => valid_any ((l.drop k).take (cutN (l.drop k))) W (by rw [List.length_take, List.length_drop]; omega)
      rw [hvt] at hva
      rw [hb4] at hnx
      have htd : (l.take (k + cutN (l.drop k))).drop k = (l.drop k).take (cutN (l.drop k)) := by rw [List.drop_take, show k + cutN (l.drop k) - k = cutN (l.drop k) by omega]
      have hF : runeF () (l.drop k) = if charB (cutS (l.drop k)).1 && (cutS (l.drop k)).2.2 then .go () (cutN (l.drop k)) else .bad () := by unfold runeF; rw [if_neg hd0]
      have hnext := fun n (e : runeF () (l.drop k) = .go () n) => hq.out.trans (loopK_go runeF_steps k e)
      generalize (cutS (l.drop k)).1 = r at hnx hch hF
      generalize cutN (l.drop k) = n at hnx hva htd hF hb1 hb2 hb3
      generalize (l.drop k).take n = x at hva htd
      replace hd0 := Lib.hid hd0
      replace hb4 := Lib.hid hb4
      replace hvt := Lib.hid hvt
      replace hnext := Lib.hid hnext
      generalize (cutS (l.drop k)).2.2 = g at hva hF
      cases hc : charB r
      · rw [hc] at hch hF
        have hP := Lib.hid (ho.out.symm.trans (runes_bad hq.out hF))
        replace hF := Lib.hid hF
        replace hc := Lib.hid hc
        replace hch := Lib.hid hch
        replace hnx := Lib.hid hnx
        replace htd := Lib.hid htd
        go_wp2_with fail
        refine (hnx.out _).mono ?_; rintro e w' ⟨rfl, n1, rfl⟩
        go_wp2_with fail
        refine (hch.out _).mono ?_; rintro e w' ⟨rfl, rfl⟩
        go_wp2_with fail
        go_ret
        exact RunesPost.bad hP.out rfl (Nat.le_refl _) (arrAt_new (w.drewN (n0 + n1)) 40 [.int .i64 k, synV]) ((Drawn.below (drawn_drewN w (n0 + n1)) _).alloc (Nat.le_refl _) _)
      · rw [hc, Bool.true_and] at hF
        rw [hc] at hch
        replace hc := Lib.hid hc
        replace hch := Lib.hid hch
        replace hnx := Lib.hid hnx
        cases g
        · have hP := Lib.hid (ho.out.symm.trans (runes_bad hq.out hF))
          replace hF := Lib.hid hF
          replace hva := Lib.hid hva
          go_wp2_with fail
          refine (hnx.out _).mono ?_; rintro e w' ⟨rfl, n1, rfl⟩
          go_wp2_with fail
          refine (hch.out _).mono ?_; rintro e w' ⟨rfl, rfl⟩
          go_wp2_with fail
          refine (hva.out _).mono ?_; rintro e w' ⟨rfl, n2, rfl⟩
          go_wp2_with fail
          go_ret
          exact RunesPost.bad hP.out rfl (Nat.le_refl _) (arrAt_new (w.drewN (n0 + n1 + n2)) 40 [.int .i64 k, synV]) ((Drawn.below (drawn_drewN w (n0 + n1 + n2)) _).alloc (Nat.le_refl _) _)
        · have hnx2 := Lib.hid (hnext.out n hF)
          replace hF := Lib.hid hF
          replace hva := Lib.hid hva
          go_wp2_with fail
          refine (hnx.out _).mono ?_; rintro e w' ⟨rfl, n1, rfl⟩
          go_wp2_with fail
          refine (hch.out _).mono ?_; rintro e w' ⟨rfl, rfl⟩
          go_wp2_with fail
          refine (hva.out _).mono ?_; rintro e w' ⟨rfl, n2, rfl⟩
          go_wp2_with fail
          exact ⟨⟨k + n, by go_num, by omega, by have := hnx2.out; rw [List.drop_drop] at this; exact this, ⟨n0 + n1 + n2, by simp [Nat.add_assoc]⟩⟩, by simp [intOf]; omega⟩
    · have hF : runeF () (l.drop k) = .stop := by unfold runeF; rw [if_pos (List.drop_eq_nil_of_le (by omega))]
      have hP := Lib.hid (ho.out.symm.trans (runes_stop hq.out hF))
      replace hF := Lib.hid hF
      have hlt2 : ¬ ((k : Int) < l.length) := by omega
      go_wp2_with fail
      go_ret
      exact RunesPost.ok hP.out ⟨rfl, Drawn.below ⟨_, rfl⟩ _⟩
end Go.Proofs.YtkgjbamkinfmeaaGreatDoor

/- Layer 11: a document's steps, plain. -/
namespace Go.Proofs.YtkgjbamkinfmeaaGreatDoor

theorem beginP_le {d nm : List UInt8} {a : List At} {b : Bool} {n : Nat} (h : beginP d = some ((nm, a, b), n)) : n ≤ d.length ∧ nameB nm = true ∧ ¬ (nm = []) := by
  unfold beginP at h
  cases e : nameP d with
  | none => rw [e] at h; cases h
  | some y =>
    obtain ⟨nm', n1⟩ := y
    rw [e] at h
    have h1 := nameP_le e
    simp only at h
    cases e2 : attrsP (d.drop n1) with
    | none => rw [e2] at h; cases h
    | some z =>
      obtain ⟨l, m⟩ := z
      rw [e2] at h
      have h2 := attrsP_le e2
      rw [List.length_drop] at h2
      simp only at h
      have hnm : nameB nm' = true ∧ ¬ (nm' = []) := ⟨h1.2.2.2, fun e => by have := h1.2.2.2; rw [e] at this; cases this⟩
      split at h
      · rename_i hp
        have := prefix_len hp
        rw [List.length_drop] at this
        injection h with h
        injection h with h3 h
        injection h3 with h3 _
        subst h h3
        simp at this
        exact ⟨by omega, hnm⟩
      · split at h
        · rename_i hp
          have := prefix_len hp
          rw [List.length_drop] at this
          injection h with h
          injection h with h3 h
          injection h3 with h3 _
          subst h h3
          simp at this
          exact ⟨by omega, hnm⟩
        · cases h
theorem endP_le {nm d : List UInt8} {n : Nat} (h : endP nm d = some n) : n ≤ d.length := by
  unfold endP at h
  split at h
  · cases h
  · split at h
    · rename_i hp
      have := prefix_len hp
      rw [List.length_drop] at this
      injection h with h
      subst h
      simp at this
      omega
    · cases h
theorem addT_len (t : List UInt8) (l : List Tk) (x : Tk) : (addT t l x).length ≤ l.length + 2 := by
  unfold addT; split <;> simp
/-- What a step of a document that goes on has done. -/
structure DocStep (s : Sc) (d : List UInt8) (s' : Sc) (n : Nat) : Prop where
  lo : 1 ≤ n
  hi : n ≤ d.length
  toks : s'.toks.length ≤ s.toks.length + 2
  text : s'.text.length ≤ s.text.length + 4 * n
  opn : s'.opn.length ≤ s.opn.length + 1
theorem drop_len2 {d : List UInt8} {p : List UInt8} {n : Nat} (hp : Lib.hasPrefix d p = true) (h : n ≤ (d.drop p.length).length) : p.length + n ≤ d.length := by
  have := prefix_len hp
  rw [List.length_drop] at h
  omega
theorem docF_step {dep : Int} {s s' : Sc} {d : List UInt8} {n : Nat} (h : docF dep s d = .go s' n) : DocStep s d s' n := by
  by_cases h0 : d = []
  · subst h0; rw [docF_nil] at h; cases h
  have hl : 0 < d.length := List.length_pos_iff.2 h0
  cases h1 : Lib.hasPrefix d [60, 33, 45, 45]
  case true =>
    rw [docF_comment h0 h1] at h
    cases e : untilP [45, 45, 62] [45, 45] (d.drop 4) with
    | none => rw [e] at h; cases h
    | some y =>
      obtain ⟨x, m⟩ := y
      rw [e] at h
      injection h with ha hb
      subst ha hb
      have := drop_len2 h1 (untilP_bd e).2
      exact ⟨by omega, this, by omega, by omega, by omega⟩
  cases h2 : elemB d
  case true =>
    have hl2 : 1 ≤ d.length := by omega
    by_cases h3 : s.rooted = true ∧ s.opn = []
    · rw [docF_two h0 h1 h2 h3] at h; cases h
    by_cases h4 : dep ≤ s.opn.length
    · rw [docF_deep h0 h1 h2 h3 h4] at h; cases h
    rw [docF_begin h0 h1 h2 h3 h4] at h
    rcases e : beginP (d.drop 1) with _ | ⟨⟨nm, l, b⟩, m⟩
    · rw [e] at h; cases h
    have hle := (beginP_le e).1
    rw [List.length_drop] at hle
    rw [e] at h
    cases b
    · injection h with ha hb
      subst ha hb
      exact ⟨by omega, by omega, addT_len _ _ _, by simp, by simp⟩
    · injection h with ha hb
      subst ha hb
      exact ⟨by omega, by omega, addT_len _ _ _, by simp, by simp⟩
  by_cases h3 : s.opn = []
  · rw [docF_gap h0 h1 h2 h3] at h
    split at h
    · cases h
    · injection h with ha hb
      subst ha hb
      have := spanN_le blI d
      exact ⟨by omega, this, by omega, by omega, by omega⟩
  cases h4 : Lib.hasPrefix d [60, 47]
  case true =>
    rw [docF_end h0 h1 h2 h3 h4] at h
    cases e : endP (s.opn.getLastD []) (d.drop 2) with
    | none => rw [e] at h; cases h
    | some m =>
      rw [e] at h
      injection h with ha hb
      subst ha hb
      have := drop_len2 h4 (endP_le e)
      exact ⟨by omega, this, addT_len _ _ _, by simp, by simp; omega⟩
  cases h5 : Lib.hasPrefix d [60, 33, 91, 67, 68, 65, 84, 65, 91]
  case true =>
    rw [docF_cdata h0 h1 h2 h3 h4 h5] at h
    cases e : untilP [93, 93, 62] [93, 93, 62] (d.drop 9) with
    | none => rw [e] at h; cases h
    | some y =>
      obtain ⟨x, m⟩ := y
      rw [e] at h
      injection h with ha hb
      subst ha hb
      have hb2 := untilP_bd e
      have := drop_len2 h5 hb2.2
      have h9 : x.length ≤ 4 * (9 + m) := by
        unfold untilP at e
        split at e
        · cases e
        · split at e
          · cases e
          · injection e with e
            injection e with e1 e2
            subst e1 e2
            rw [List.length_take]
            omega
      exact ⟨by omega, this, by simp, by simp; omega, by simp⟩
  cases h6 : Lib.hasPrefix d [60]
  case true => rw [docF_lt h0 h1 h2 h3 h4 h5 h6] at h; cases h
  rw [docF_run h0 h1 h2 h3 h4 h5 h6] at h
  cases e : runP [60] d with
  | none => rw [e] at h; cases h
  | some y =>
    obtain ⟨x, m⟩ := y
    rw [e] at h
    injection h with ha hb
    subst ha hb
    have h7 := runP_len e
    have h8 := runP_le e
    refine ⟨?_, h8, by simp, by simp; omega, by simp⟩
    -- something is read: what stands here is no <
    rcases Nat.eq_zero_or_pos m with hm | hm
    · exfalso
      subst hm
      unfold runP at e
      cases d with
      | nil => exact h0 rfl
      | cons cc t =>
        have hne : cc ≠ 60 := by
          intro e2
          subst e2
          simp [Lib.hasPrefix, List.isPrefixOf] at h6
        have hix : Lib.indexByte [60] cc = -1 := by
          have : (60 == cc) = false := by simpa using fun e => hne e.symm
          simp [Lib.indexByte, this]
        have hgo : ∃ acc k, 1 ≤ k ∧ runF [60] [] (cc :: t) = .go acc k ∨ runF [60] [] (cc :: t) = .bad () := by
          rw [runF, hix, if_neg (by decide)]
          split
          · exact ⟨_, 1, Or.inl ⟨Nat.le_refl _, rfl⟩⟩
          · cases e3 : refP (cc :: t) with
            | none => exact ⟨[], 1, Or.inr rfl⟩
            | some y => obtain ⟨x', n'⟩ := y; exact ⟨_, n', Or.inl ⟨(refP_bd e3).1, rfl⟩⟩
        obtain ⟨acc, k, ⟨hk, hg⟩ | hg⟩ := hgo
        · rw [loopK_go (runF_steps _) 0 hg] at e
          have := loopK_le (runF_steps [60]) acc ((cc :: t).drop k) (0 + k)
          cases e4 : loopK (runF [60]) acc ((cc :: t).drop k) (0 + k) with
          | mk o y =>
            rw [e4] at e this
            cases o with
            | some _ => cases e
            | none =>
              obtain ⟨y1, y2⟩ := y
              injection e with e
              injection e with _ e
              simp at this
              omega
        · rw [loopK_bad 0 hg] at e; cases e
    · exact hm
theorem docF_steps (dep : Int) : Steps (docF dep) := fun _ _ _ _ h => ⟨(docF_step h).lo, (docF_step h).hi⟩
end Go.Proofs.YtkgjbamkinfmeaaGreatDoor

/- Layer 16, plain: what Tokens gives: few and short attributes, no more text than the document has. -/
namespace Go.Proofs.YtkgjbamkinfmeaaGreatDoor
open Go.RowKit

theorem attrsF_few {N : Nat} {l l' : List At} {d : List UInt8} {n : Nat} (h : attrsF l d = .go l' n) (hd : d.length ≤ N) (hl : AtFew N l) : AtFew N l' := by
  unfold attrsF at h
  split at h
  · split at h
    · cases h
    · rename_i x m e
      have := attrP_long e
      rw [List.length_drop] at this
      split at h
      · cases h
      · rename_i h16
        injection h with ha hb
        subst ha
        have h1 := hl.1
        refine ⟨?_, fun a ha => ?_⟩
        · rw [List.length_append]
          have : l.length ≠ 16 := fun e => h16 (Or.inl e)
          simp
          omega
        · rcases List.mem_append.1 ha with ha | ha
          · exact hl.2 a ha
          · rw [List.mem_singleton] at ha
            subst ha
            omega
  · cases h
theorem attrsP_few {N : Nat} {d : List UInt8} {l : List At} {n : Nat} (h : attrsP d = some (l, n)) (hd : d.length ≤ N) : AtFew N l := by
  have key : ∀ s d, ∀ k, d.length ≤ N → AtFew N s → AtFew N (loopK attrsF s d k).2.1 := by
    refine loopK_ind attrsF_steps (P := fun s d => ∀ k, d.length ≤ N → AtFew N s → AtFew N (loopK attrsF s d k).2.1) ?_ ?_ ?_
    · intro s d x e k _ hs; rw [loopK_bad _ e]; exact hs
    · intro s d e k _ hs; rw [loopK_stop _ e]; exact hs
    · intro s d s' n e ih k hd hs
      rw [loopK_go attrsF_steps _ e]
      exact ih (k + n) (by rw [List.length_drop]; omega) (attrsF_few e hd hs)
  have hk := key [] d 0 hd (AtFew.nil N)
  unfold attrsP at h
  revert h hk
  cases e : loopK attrsF [] d 0 with
  | mk o y =>
    obtain ⟨z, k⟩ := y
    intro h hk
    cases o with
    | some _ => cases h
    | none =>
      simp only at h hk
      injection h with h
      injection h with h1 h2
      subst h1
      exact hk
theorem beginP_few {N : Nat} {d nm : List UInt8} {a : List At} {b : Bool} {n : Nat} (h : beginP d = some ((nm, a, b), n)) (hd : d.length ≤ N) : AtFew N a := by
  unfold beginP at h
  split at h
  · cases h
  split at h
  · cases h
  · rename_i l m e
    have := attrsP_few e (N := N) (by rw [List.length_drop]; omega)
    split at h
    · injection h with h
      injection h with h1 _
      injection h1 with _ h1
      injection h1 with h1 _
      subst h1
      exact this
    split at h
    · injection h with h
      injection h with h1 _
      injection h1 with _ h1
      injection h1 with h1 _
      subst h1
      exact this
    · cases h
theorem docF_tk {N : Nat} {dep : Int} {s s' : Sc} {d : List UInt8} {n : Nat} (h : docF dep s d = .go s' n) (hd : d.length ≤ N) : (TkFew N s.toks → TkFew N s'.toks) ∧ s'.text.length + sumK s'.toks ≤ s.text.length + sumK s.toks + 4 * n := by
  by_cases h0 : d = []
  · subst h0; rw [docF_nil] at h; cases h
  cases h1 : Lib.hasPrefix d [60, 33, 45, 45]
  case true =>
    rw [docF_comment h0 h1] at h
    cases e : untilP [45, 45, 62] [45, 45] (d.drop 4) with
    | none => rw [e] at h; cases h
    | some y =>
      rw [e] at h
      injection h with ha hb
      subst ha
      exact ⟨id, by omega⟩
  cases h2 : elemB d
  case true =>
    by_cases h3 : s.rooted = true ∧ s.opn = []
    · rw [docF_two h0 h1 h2 h3] at h; cases h
    by_cases h4 : dep ≤ s.opn.length
    · rw [docF_deep h0 h1 h2 h3 h4] at h; cases h
    rw [docF_begin h0 h1 h2 h3 h4] at h
    rcases e : beginP (d.drop 1) with _ | ⟨⟨nm, l, b⟩, m⟩
    · rw [e] at h; cases h
    have hf := beginP_few e (N := N) (by rw [List.length_drop]; omega)
    rw [e] at h
    cases b
    · injection h with ha hb
      subst ha hb
      refine ⟨fun hs => addT_few hs hf, ?_⟩
      have := (addT_sum (text := s.text) (toks := s.toks) (x := ⟨1, nm, l, []⟩) rfl).1
      simp only [List.length_nil]
      omega
    · injection h with ha hb
      subst ha hb
      refine ⟨fun hs => addT_few hs hf, ?_⟩
      have := (addT_sum (text := s.text) (toks := s.toks) (x := ⟨3, nm, l, []⟩) rfl).1
      simp only [List.length_nil]
      omega
  by_cases h3 : s.opn = []
  · rw [docF_gap h0 h1 h2 h3] at h
    split at h
    · cases h
    · injection h with ha hb
      subst ha
      exact ⟨id, by omega⟩
  cases h4 : Lib.hasPrefix d [60, 47]
  case true =>
    rw [docF_end h0 h1 h2 h3 h4] at h
    cases e : endP (s.opn.getLastD []) (d.drop 2) with
    | none => rw [e] at h; cases h
    | some m =>
      rw [e] at h
      injection h with ha hb
      subst ha hb
      refine ⟨fun hs => addT_few hs (AtFew.nil N), ?_⟩
      have := (addT_sum (text := s.text) (toks := s.toks) (x := ⟨2, s.opn.getLastD [], [], []⟩) rfl).1
      simp only [List.length_nil]
      omega
  cases h5 : Lib.hasPrefix d [60, 33, 91, 67, 68, 65, 84, 65, 91]
  case true =>
    rw [docF_cdata h0 h1 h2 h3 h4 h5] at h
    cases e : untilP [93, 93, 62] [93, 93, 62] (d.drop 9) with
    | none => rw [e] at h; cases h
    | some y =>
      obtain ⟨x, m⟩ := y
      rw [e] at h
      injection h with ha hb
      subst ha hb
      have h9 : x.length ≤ 4 * (9 + m) := by
        unfold untilP at e
        split at e
        · cases e
        · split at e
          · cases e
          · injection e with e
            injection e with e1 e2
            subst e1 e2
            rw [List.length_take]
            omega
      exact ⟨id, by simp only [List.length_append]; omega⟩
  cases h6 : Lib.hasPrefix d [60]
  case true => rw [docF_lt h0 h1 h2 h3 h4 h5 h6] at h; cases h
  rw [docF_run h0 h1 h2 h3 h4 h5 h6] at h
  cases e : runP [60] d with
  | none => rw [e] at h; cases h
  | some y =>
    obtain ⟨x, m⟩ := y
    rw [e] at h
    injection h with ha hb
    subst ha hb
    have h7 := runP_len e
    exact ⟨id, by simp only [List.length_append]; omega⟩
theorem docB_tk {dep : Int} {l : List UInt8} {t : List Tk} (h : docB dep l = .toks t) : TkFew l.length t ∧ sumK t ≤ 4 * l.length := by
  have hno : TkFew l.length [] := fun t ht => by cases ht
  have key : ∀ s d, ∀ k, d.length ≤ l.length → TkFew l.length s.toks → TkFew l.length (loopK (docF dep) s d k).2.1.toks ∧ (loopK (docF dep) s d k).2.1.text.length + sumK (loopK (docF dep) s d k).2.1.toks + 4 * k ≤ s.text.length + sumK s.toks + 4 * (loopK (docF dep) s d k).2.2 := by
    refine loopK_ind (docF_steps dep) (P := fun s d => ∀ k, d.length ≤ l.length → TkFew l.length s.toks → TkFew l.length (loopK (docF dep) s d k).2.1.toks ∧ (loopK (docF dep) s d k).2.1.text.length + sumK (loopK (docF dep) s d k).2.1.toks + 4 * k ≤ s.text.length + sumK s.toks + 4 * (loopK (docF dep) s d k).2.2) ?_ ?_ ?_
    · intro s d x e k _ hs; rw [loopK_bad _ e]; exact ⟨hs, Nat.le_refl _⟩
    · intro s d e k _ hs; rw [loopK_stop _ e]; exact ⟨hs, Nat.le_refl _⟩
    · intro s d s' n e ih k hd hs
      rw [loopK_go (docF_steps dep) _ e]
      have h1 := docF_tk e hd
      have h2 := ih (k + n) (by rw [List.length_drop]; omega) (h1.1 hs)
      exact ⟨h2.1, by have := h1.2; have := h2.2; omega⟩
  unfold docB at h
  cases hm : headP l with
  | none => rw [hm] at h; cases h
  | some m =>
    rw [hm] at h
    simp only at h
    have hk := key sc0 (l.drop m) 0 (by rw [List.length_drop]; omega) hno
    have hle := loopK_le (docF_steps dep) sc0 (l.drop m) 0
    have ho := loopK_off (docF_steps dep) sc0 (l.drop m) 0 m
    rw [Nat.add_zero] at ho
    rw [ho] at h
    generalize loopK (docF dep) sc0 (l.drop m) 0 = r at h hk hle
    obtain ⟨x, s, k⟩ := r
    rw [List.length_drop] at hle
    simp only at h hk hle
    cases x with
    | none => cases h
    | some x =>
      cases x with
      | syn => cases h
      | deep => cases h
      | fin =>
        simp only at h
        split at h
        · injection h with h
          subst h
          refine ⟨hk.1, ?_⟩
          have := hk.2
          have h0 : sc0.text.length + sumK sc0.toks = 0 := by simp [sc0, sumK]
          omega
        · cases h
end Go.Proofs.YtkgjbamkinfmeaaGreatDoor
