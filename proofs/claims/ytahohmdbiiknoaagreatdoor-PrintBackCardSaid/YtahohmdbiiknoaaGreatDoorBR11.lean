/- Layer 10's walks of names: numbered, Named; the program's and the reference's. -/
import Derived.Test.YtahohmdbiiknoaaGreatDoorBR03
import Derived.Test.YtahohmdbiiknoaaGreatDoorBR10
import Derived.Lib.AppendStr
import Derived.Test.YtahohmdbiiknoaaGreatDoorBR02
namespace Go.Proofs.YtahohmdbiiknoaaGreatDoor
open Go.RowKit

/-- What Named answers: the text, where there is one. -/
def NamedPost (w : World) (o : Option (List UInt8)) (e : Ending) (w' : World) : Prop :=
  ∃ t : List UInt8, e = .returned (.tuple #[.string ⟨t.toArray⟩, .bool o.isSome]) ∧ (∀ x, o = some x → t = x) ∧ Below w.heap.size w w' ∧ t.length ≤ 4
theorem named_some {w w' : World} {o : Option (List UInt8)} {e : Ending} (t : List UInt8) (ho : o = some t) (he : e = .returned (.tuple #[.string ⟨t.toArray⟩, .bool true])) (hb : Below w.heap.size w w') (hl : t.length ≤ 4 := by first | decide | exact encR_len _) : NamedPost w o e w' :=
  ⟨t, by rw [ho]; exact he, (fun x h => by rw [ho] at h; injection h), hb, hl⟩
theorem named_none {w w' : World} {o : Option (List UInt8)} {e : Ending} (t : List UInt8) (ho : o = none) (he : e = .returned (.tuple #[.string ⟨t.toArray⟩, .bool false])) (hb : Below w.heap.size w w') (hl : t.length ≤ 4 := by first | decide | exact encR_len _) : NamedPost w o e w' :=
  ⟨t, by rw [ho]; exact he, (fun x h => by rw [ho] at h; cases h), hb, hl⟩
/-- None of the five. -/
def OtherN (l : List UInt8) : Prop := (l == ltL) = false ∧ (l == gtL) = false ∧ (l == ampL) = false ∧ (l == quotL) = false ∧ (l == aposL) = false
theorem other_named {l : List UInt8} (h : OtherN l) : namedS l = if charB (numI l) then some (enc (numI l)) else none := by
  obtain ⟨h1, h2, h3, h4, h5⟩ := h
  unfold namedS
  rw [if_neg (by simpa using h1), if_neg (by simpa using h2), if_neg (by simpa using h3), if_neg (by simpa using h4), if_neg (by simpa using h5)]

theorem five_ways (l : List UInt8) : l = ltL ∨ l = gtL ∨ l = ampL ∨ l = quotL ∨ l = aposL ∨ OtherN l := by
  by_cases h1 : l = ltL
  · exact Or.inl h1
  by_cases h2 : l = gtL
  · exact Or.inr (Or.inl h2)
  by_cases h3 : l = ampL
  · exact Or.inr (Or.inr (Or.inl h3))
  by_cases h4 : l = quotL
  · exact Or.inr (Or.inr (Or.inr (Or.inl h4)))
  by_cases h5 : l = aposL
  · exact Or.inr (Or.inr (Or.inr (Or.inr (Or.inl h5))))
  · exact Or.inr (Or.inr (Or.inr (Or.inr (Or.inr ⟨by simpa using h1, by simpa using h2, by simpa using h3, by simpa using h4, by simpa using h5⟩))))

end Go.Proofs.YtahohmdbiiknoaaGreatDoor

/- The reference's Named. -/
namespace Go.Proofs.YtahohmdbiiknoaaGreatDoor
open Go.RowKit

theorem numK_charB (b : Int) (hb : b = 10 ∨ b = 16) (l : List UInt8) : numK b l = charB (numC b 0 l) ∧ (numK b l = true → numV b l = numC b 0 l) := by
  have h := numC_numR b hb l 0 (by omega)
  rw [show min (0 : Int) 1114112 = 0 from rfl] at h
  refine ⟨h.1.symm, fun hk => ?_⟩
  unfold numV; rw [h.2 hk]; rfl
/-- What a number stands for. -/
def numO (b : Int) (m : List UInt8) : Option (List UInt8) := if charB (numC b 0 m) = true then some (enc (numC b 0 m)) else none
/-- What the reference's Named makes of a number's rune. -/
theorem named_num {w w' : World} {b : Int} (hb : b = 10 ∨ b = 16) {m : List UInt8} {e : Ending} (he : e = .returned (.tuple #[.string ⟨(enc (numV b m)).toArray⟩, .bool (numK b m)])) (hbl : Below w.heap.size w w') :
    NamedPost w (numO b m) e w' := by
  unfold numO
  obtain ⟨h1, h2⟩ := numK_charB b hb m
  cases hc : charB (numC b 0 m)
  · rw [hc] at h1
    rw [h1] at he
    exact named_none _ rfl he hbl
  · rw [hc] at h1
    rw [h1, h2 h1] at he
    exact named_some _ rfl he hbl

set_option maxHeartbeats 1000000 in
theorem refnamed_other (l : List UInt8) (w : World) (hl : l.length ≤ 100000000) (ho : OtherN l) :
    Calls Tryz.prog 29 #[.string ⟨l.toArray⟩] w (NamedPost w (namedS l)) := by
  rw [other_named ho]
  obtain ⟨h1, h2, h3, h4, h5⟩ := ho
  unfold ltL at h1
  unfold gtL at h2
  unfold ampL at h3
  unfold quotL at h4
  unfold aposL at h5
  by_cases hx : Lib.hasPrefix l [35, 120] = true
  · obtain ⟨m, hlm⟩ : ∃ m, l = 35 :: 120 :: m := by
      match l, hx with
      | [], hx => simp [Lib.hasPrefix, List.isPrefixOf] at hx
      | [c], hx => simp [Lib.hasPrefix, List.isPrefixOf] at hx
      | c :: d :: m, hx => simp [Lib.hasPrefix, List.isPrefixOf] at hx; exact ⟨m, by rw [← hx.1, ← hx.2]⟩
    by_cases hm : m = []
    · subst hm
      subst hlm
      clear hx h1 h2 h3 h4 h5
      rw [show charB (numI [35, 120]) = false from rfl, if_neg (by decide)]
      have hk : numK 10 [120] = false := rfl
      go_enter Tryz.func29, Tryz.ntmps29
      go_wp2_with fail
      refine (refnumber_any 10 (Or.inl rfl) [120] _ (by decide)).mono ?_; rintro e w' ⟨rfl, rfl⟩; rw [hk]
      go_wp2_with fail
      refine (refbytes_any _ _).mono ?_; rintro e w' ⟨rfl, hb⟩
      go_wp2_with fail
      go_ret2
      exact named_none _ rfl rfl hb
    · have hlen := len_pos hm
      have hl2 : (2 : Int) < (l.length : Int) := by rw [hlm]; simp only [List.length_cons]; omega
      have ht : (l.take 2 == [35, 120]) = true := by rw [hlm]; simp
      have hd : l.drop 2 = m := by rw [hlm]; rfl
      have hml : m.length ≤ 100000000 := by rw [← hd, List.length_drop]; omega
      rw [show numI l = numC 16 0 m from by rw [hlm, numI_hex]]
      change Calls _ _ _ _ (NamedPost w (numO 16 m))
      replace hlm := Lib.hid hlm
      replace hm := Lib.hid hm
      clear hx
      go_enter Tryz.func29, Tryz.ntmps29
      go_wp2_with fail
      refine (refnumber_any 16 (Or.inr rfl) m _ hml).mono ?_; rintro e w' ⟨rfl, rfl⟩
      go_wp2_with fail
      refine (refbytes_any _ _).mono ?_; rintro e w' ⟨rfl, hb⟩
      go_wp2_with fail
      go_ret2
      exact named_num (Or.inr rfl) rfl hb
  have ht : (l.take 2 == [35, 120]) = false := by
    rw [beq_eq_false_iff_ne]
    intro e
    refine hx ?_
    match l, e with
    | [], e => simp at e
    | [c], e => simp at e
    | c :: d :: m, e => simp at e; simp [Lib.hasPrefix, List.isPrefixOf, e.1, e.2]
  by_cases h0 : l = []
  · subst h0
    clear hx h1 h2 h3 h4 h5 ht
    rw [show charB (numI []) = false from rfl, if_neg (by decide)]
    go_enter Tryz.func29, Tryz.ntmps29
    go_wp2_with fail
    go_ret2
    exact named_none [] rfl rfl (Below.refl _ _)
  have hlen := len_pos h0
  by_cases hb0 : bt l 0 = 35
  · obtain ⟨m, hlm⟩ : ∃ m, l = 35 :: m := by
      cases l with
      | nil => exact absurd rfl h0
      | cons c t => exact ⟨t, by rw [(bt_u8 c 35 t).1 hb0]⟩
    by_cases hm : m = []
    · subst hm
      subst hlm
      clear hx h1 h2 h3 h4 h5 ht h0 hb0 hlen
      rw [show charB (numI [35]) = false from rfl, if_neg (by decide)]
      go_enter Tryz.func29, Tryz.ntmps29
      go_wp2_with fail
      go_ret2
      exact named_none [] rfl rfl (Below.refl _ _)
    have hl1 : (1 : Int) < (l.length : Int) := by
      have := len_pos hm
      rw [hlm]; simp only [List.length_cons]; omega
    have hd : l.drop 1 = m := by rw [hlm]; rfl
    have hml : m.length ≤ 100000000 := by rw [← hd, List.length_drop]; omega
    have hni : numI l = numC 10 0 m := by
      rw [hlm]
      refine numI_dec m fun e => hx ?_
      cases m with
      | nil => exact absurd rfl hm
      | cons d t => rw [hlm, (bt_u8 d 120 t).1 e]; simp [Lib.hasPrefix, List.isPrefixOf]
    rw [hni]
    change Calls _ _ _ _ (NamedPost w (numO 10 m))
    clear hni hx
    replace hlm := Lib.hid hlm
    replace hm := Lib.hid hm
    replace h0 := Lib.hid h0
    by_cases hl2 : (2 : Int) < (l.length : Int)
    all_goals
      go_enter Tryz.func29, Tryz.ntmps29
      go_wp2_with fail
      refine (refnumber_any 10 (Or.inl rfl) m _ hml).mono ?_; rintro e w' ⟨rfl, rfl⟩
      go_wp2_with fail
      refine (refbytes_any _ _).mono ?_; rintro e w' ⟨rfl, hb⟩
      go_wp2_with fail
      go_ret2
      exact named_num (Or.inl rfl) rfl hb
  · have hni : numI l = -1 := by
      unfold numI
      have hp : Lib.hasPrefix l [35] = false := by
        cases l with
        | nil => rfl
        | cons c t =>
          have : (35 == c) = false := by
            rw [beq_eq_false_iff_ne]; intro e; exact hb0 ((bt_u8 c 35 t).2 e.symm)
          simp [Lib.hasPrefix, List.isPrefixOf, this]
      rw [if_neg hx, if_neg (by rw [hp]; decide)]
    rw [hni, show charB (-1) = false from rfl, if_neg (by decide)]
    have hb1 : (bt l 0 == 35) = false := by simpa using hb0
    clear hb0 hni hx
    replace h0 := Lib.hid h0
    by_cases hl2 : (2 : Int) < (l.length : Int) <;> by_cases hl1 : (1 : Int) < (l.length : Int)
    all_goals first | (exfalso; omega) | skip
    all_goals
      go_enter Tryz.func29, Tryz.ntmps29
      go_wp2_with fail
      go_ret2
      exact named_none [] rfl rfl (Below.refl _ _)

set_option maxHeartbeats 1000000 in
theorem refnamed_any (l : List UInt8) (w : World) (hl : l.length ≤ 100000000) :
    Calls Tryz.prog 29 #[.string ⟨l.toArray⟩] w (NamedPost w (namedS l)) := by
  rcases five_ways l with rfl | rfl | rfl | rfl | rfl | ho
  case inr.inr.inr.inr.inr => exact refnamed_other l w hl ho
  all_goals
    go_enter Tryz.func29, Tryz.ntmps29
    go_wp2_with fail
    go_ret2
    exact named_some _ rfl rfl (Below.refl _ _)
end Go.Proofs.YtahohmdbiiknoaaGreatDoor

/- Layer 10: Space, the program's and the reference's. -/
namespace Go.Proofs.YtahohmdbiiknoaaGreatDoor
open Go.RowKit

theorem nums_take1 (d : List UInt8) (h : d ≠ []) : nums (d.take 1) = [bt d 0] := by
  cases d with
  | nil => exact absurd rfl h
  | cons c t => rfl
theorem txt_one {w : World} {B : Nat} {v : Value} {l m : List UInt8} {x : Int} (hm : nums m = [x]) (h : w.ownsRow B 5 1 v (l.length + 1) ((nums l).map (Value.int .u8) ++ [.int .u8 x])) : Txt w B v (l ++ m) := by
  unfold Txt
  have hl : m.length = 1 := by rw [← nums_len, hm]; rfl
  rw [List.length_append, hl, nums_app, hm, List.map_append]
  exact h
theorem txt_len {w : World} {B : Nat} {v : Value} {l : List UInt8} (h : Txt w B v l) : ∃ a c, v = .slice a l.length c := own_form h

theorem prefix_nb (l : List UInt8) : Lib.hasPrefix l [194, 160] = decide (2 ≤ l.length ∧ bt l 0 = 194 ∧ bt l 1 = 160) := by
  match l with
  | [] => rfl
  | [c] => simp [Lib.hasPrefix, List.isPrefixOf]
  | c :: d :: t =>
    have e1 : (bt (c :: d :: t) 0 = 194) = (c = 194) := propext (bt_u8 c 194 (d :: t))
    have e2 : (bt (c :: d :: t) 1 = 160) = (d = 160) := by rw [bt_succ]; exact propext (bt_u8 d 160 t)
    rw [Bool.eq_iff_iff, decide_eq_true_eq, e1, e2]
    simp only [Lib.hasPrefix, List.isPrefixOf, Bool.and_eq_true, beq_iff_eq, and_true]
    exact ⟨fun h => ⟨by simp, h.1.symm, h.2.symm⟩, fun h => ⟨h.2.1.symm, h.2.2.symm⟩⟩

end Go.Proofs.YtahohmdbiiknoaaGreatDoor

/- Layer 10: Space, the program's and the reference's. -/
namespace Go.Proofs.YtahohmdbiiknoaaGreatDoor
open Go.RowKit

theorem spT_first : ∀ (n : Nat) (l : List UInt8), l.length ≤ n → ∀ g, spT false g 0 l = spT false true 0 l
  | _, [], _, _ => rfl
  | 0, c :: t, h, _ => by simp at h
  | _ + 1, c :: t, _, g => by rw [spT, spT]; simp

/-- What the program's loop keeps: acc is made, d is to come, gf: a blank is due. -/
structure SpAt (l : List UInt8) (w : World) (d acc : List UInt8) (gf : Bool) (wr : World) (v : Value) : Prop where
  own : Txt wr w.heap.size v acc
  below : Below w.heap.size w wr
  eq : acc ++ spT (decide (acc ≠ [])) gf 0 d = spB l
  gap : gf = true → acc ≠ []
  len : acc.length + 2 * d.length ≤ 2 * l.length
theorem SpAt.blank {l : List UInt8} {w : World} {d acc : List UInt8} {gf : Bool} {wr : World} {v : Value} (h : SpAt l w d acc gf wr v) (hd : d ≠ []) (hb : blankN d ≠ 0) {gf' : Bool} (hg : gf' = decide (acc ≠ [])) :
    SpAt l w (d.drop (blankN d)) acc gf' wr v := by
  refine ⟨h.own, h.below, ?_, fun e => by rw [hg] at e; simpa using e, by have := h.len; rw [List.length_drop]; omega⟩
  rw [← h.eq, spT_blank _ _ d hd hb, hg]
  cases ha : decide (acc ≠ [])
  · rw [spT_first _ _ (Nat.le_refl _) false]
  · rfl
theorem SpAt.sign {l : List UInt8} {w : World} {d acc : List UInt8} {wr wr' : World} {v v' : Value} (h : SpAt l w d acc false wr v) (hd : d ≠ []) (hb : blankN d = 0)
    (ho : wr'.ownsRow w.heap.size 5 1 v' (acc.length + 1) ((nums acc).map (Value.int .u8) ++ [.int .u8 (bt d 0)])) (hbl : Below w.heap.size w wr') : SpAt l w (d.drop 1) (acc ++ d.take 1) false wr' v' := by
  have hl := len_pos hd
  have h1 : (d.take 1).length = 1 := by rw [List.length_take]; omega
  refine ⟨txt_one (nums_take1 d hd) ho, hbl, ?_, (fun e => by cases e), by have := h.len; rw [List.length_append, List.length_drop, h1]; omega⟩
  have hne : decide (acc ++ d.take 1 ≠ []) = true := by
    rw [decide_eq_true_eq]; intro e; have := congrArg List.length e; rw [List.length_append, h1] at this; simp at this
  rw [hne, ← h.eq, spT_step _ _ d hd hb]
  simp
theorem SpAt.space {l : List UInt8} {w : World} {d acc : List UInt8} {wr wr' : World} {v v' : Value} (h : SpAt l w d acc true wr v) (hd : d ≠ []) (hb : blankN d = 0)
    (ho : wr'.ownsRow w.heap.size 5 1 v' ((acc ++ [32]).length + 1) ((nums (acc ++ [32])).map (Value.int .u8) ++ [.int .u8 (bt d 0)])) (hbl : Below w.heap.size w wr') : SpAt l w (d.drop 1) (acc ++ [32] ++ d.take 1) false wr' v' := by
  have hl := len_pos hd
  have h1 : (d.take 1).length = 1 := by rw [List.length_take]; omega
  refine ⟨txt_one (nums_take1 d hd) ho, hbl, ?_, (fun e => by cases e), by have := h.len; rw [List.length_append, List.length_append, List.length_drop, h1]; simp; omega⟩
  have hne : decide (acc ++ [32] ++ d.take 1 ≠ []) = true := by
    rw [decide_eq_true_eq]; intro e; have := congrArg List.length e; rw [List.length_append, h1] at this; simp at this
  have hne2 : decide (acc ≠ []) = true := by rw [decide_eq_true_eq]; exact h.gap rfl
  rw [hne, ← h.eq, spT_step _ _ d hd hb, hne2]
  simp

/-- What a text is made into, in a world in which nothing old has turned. -/
def TextPost (w : World) (l : List UInt8) (e : Ending) (w' : World) : Prop := e = .returned (.string ⟨l.toArray⟩) ∧ Below w.heap.size w w'

/-- What the reference's loop keeps. -/
structure SrAt (l : List UInt8) (k : Nat) (out : List UInt8) (wt : Bool) : Prop where
  le : k ≤ l.length
  eq : out ++ spT (decide (out ≠ [])) wt 0 (l.drop k) = spB l
  len : out.length ≤ 2 * k
theorem drop_ne {l : List UInt8} {k : Nat} (h : k < l.length) : l.drop k ≠ [] := by
  intro e; have := congrArg List.length e; rw [List.length_drop] at this; simp at this; omega
theorem SrAt.blank {l : List UInt8} {k : Nat} {out : List UInt8} {wt : Bool} (h : SrAt l k out wt) (hk : k < l.length) (hb : blankN (l.drop k) ≠ 0) : SrAt l (k + blankN (l.drop k)) out true := by
  have := blankN_le (l.drop k)
  rw [List.length_drop] at this
  refine ⟨by omega, ?_, by have := h.len; omega⟩
  rw [← h.eq, spT_blank _ wt _ (drop_ne hk) hb, List.drop_drop]
theorem SrAt.sign {l : List UInt8} {k : Nat} {out : List UInt8} {wt : Bool} (h : SrAt l k out wt) (hk : k < l.length) (hb : blankN (l.drop k) = 0) :
    SrAt l (k + 1) (out ++ (if (decide (out ≠ []) && wt) = true then [32] else []) ++ (l.drop k).take 1) false := by
  have h1 : ((l.drop k).take 1).length = 1 := by rw [List.length_take, List.length_drop]; omega
  refine ⟨by omega, ?_, ?_⟩
  · have hne : decide (out ++ (if (decide (out ≠ []) && wt) = true then [32] else []) ++ (l.drop k).take 1 ≠ []) = true := by
      rw [decide_eq_true_eq]; intro e; have := congrArg List.length e; rw [List.length_append, h1] at this; simp at this
    rw [hne, ← h.eq, spT_step _ wt _ (drop_ne hk) hb, List.drop_drop]
    simp
  · have := h.len
    rw [List.length_append, List.length_append, h1]
    split <;> simp <;> omega
theorem take_drop1 (l : List UInt8) (k : Nat) (_h : k < l.length) : (l.take (k + 1)).drop k = (l.drop k).take 1 := by
  rw [List.drop_take]; simp

set_option maxHeartbeats 1000000 in
theorem refspace_any (l : List UInt8) (w : World) (hl : l.length ≤ 10000000) :
    Calls Tryz.prog 16 #[.string ⟨l.toArray⟩] w fun e w' => e = .returned (.string ⟨(spB l).toArray⟩) ∧ w = w' := by
  go_enter Tryz.func16, Tryz.ntmps16
  go_wp2_with fail
  go_loop [3, 4, 5] (fun s g i => ∃ k out wt, i = .int .i64 (k : Nat) ∧ s = .string ⟨out.toArray⟩ ∧ g = .bool wt ∧ SrAt l k out wt) (fun _ _ i => l.length - (intOf i).toNat)
  case atStart => exact ⟨0, [], false, rfl, rfl, rfl, Nat.zero_le _, rfl, Nat.zero_le _⟩
  case round =>
    obtain ⟨k, out, wt, rfl, rfl, rfl, hc⟩ := hrel
    have hk := hc.le
    have hlen := hc.len
    by_cases hlt : k < l.length
    · by_cases hb : blankN (l.drop k) = 0
      · have hst := hc.sign hlt hb
        have htd := take_drop1 l k hlt
        have h1 : ((l.drop k).take 1).length = 1 := by rw [List.length_take, List.length_drop]; omega
        generalize (l.drop k).take 1 = x at hst htd h1
        clear hc
        cases wt
        · rw [Bool.and_false, if_neg (by decide), List.append_nil] at hst
          replace hst := Lib.hid hst
          go_wp2_with fail
          refine (refblank_any l k _ hlt hl).mono ?_; rintro e w' ⟨rfl, rfl⟩; rw [hb]
          replace hb := Lib.hid hb
          go_wp2_with fail
          exact ⟨⟨k + 1, out ++ x, false, by go_num, by first | rfl | (rw [htd]), rfl, hst.out⟩, by simp [intOf]; omega⟩
        · by_cases ho : out = []
          · subst ho
            simp only [ne_eq, not_true_eq_false, decide_false, Bool.false_and, Bool.false_eq_true, if_false, List.append_nil, List.nil_append] at hst
            replace hst := Lib.hid hst
            go_wp2_with fail
            refine (refblank_any l k _ hlt hl).mono ?_; rintro e w' ⟨rfl, rfl⟩; rw [hb]
            replace hb := Lib.hid hb
            go_wp2_with fail
            exact ⟨⟨k + 1, x, false, by go_num, by first | rfl | (rw [htd]) | simp [htd], rfl, hst.out⟩, by simp [intOf]; omega⟩
          · have he : out.isEmpty = false := by cases out <;> simp_all
            rw [decide_eq_true ho, Bool.true_and, if_pos rfl] at hst
            replace hst := Lib.hid hst
            replace ho := Lib.hid ho
            go_wp2_with fail
            refine (refblank_any l k _ hlt hl).mono ?_; rintro e w' ⟨rfl, rfl⟩; rw [hb]
            replace hb := Lib.hid hb
            go_wp2_with fail
            exact ⟨⟨k + 1, out ++ [32] ++ x, false, by go_num, by simp, rfl, hst.out⟩, by simp [intOf]; omega⟩
      · have hst := hc.blank hlt hb
        have hbl := blankN_le (l.drop k)
        rw [List.length_drop] at hbl
        obtain ⟨n, hn⟩ : ∃ n, blankN (l.drop k) = n := ⟨_, rfl⟩
        rw [hn] at hb hst hbl
        have hb1 : 1 ≤ n := by omega
        clear hb hc
        replace hst := Lib.hid hst
        replace hn := Lib.hid hn
        go_wp2_with fail
        refine (refblank_any l k _ hlt hl).mono ?_; rintro e w' ⟨rfl, rfl⟩; rw [hn.out]
        go_wp2_with fail
        exact ⟨⟨k + n, out, true, by go_num, rfl, rfl, hst.out⟩, by simp [intOf]; omega⟩
    · have hke : ¬ ((k : Int) < l.length) := by omega
      have hq : out = spB l := by
        have := hc.eq
        rw [List.drop_eq_nil_of_le (by omega), spT_nil, List.append_nil] at this
        exact this
      replace hq := Lib.hid hq
      clear hc
      go_wp2_with fail
      go_ret
      exact ⟨ret_str hq.out, rfl⟩
end Go.Proofs.YtahohmdbiiknoaaGreatDoor

/- Layer 10: place, Strip, the program's and the reference's. -/
namespace Go.Proofs.YtahohmdbiiknoaaGreatDoor
open Go.RowKit

/-- Where a byte stands first, from a place on; -1: nowhere. -/
def placeT (l : List UInt8) (c : UInt8) (k : Nat) : Int := if 0 ≤ Lib.indexByte (l.drop k) c then k + Lib.indexByte (l.drop k) c else -1
theorem drop_take1 (l : List UInt8) (k : Nat) (h : k < l.length) : (l.drop k).take 1 = [l.getD k 0] := by
  rw [List.drop_eq_getElem_cons h, List.take_succ_cons, List.take_zero]; simp [List.getD, h]
theorem bt_get0 (l : List UInt8) (k : Nat) : bt l k = ((l.getD k 0).toNat : Int) := rfl

set_option maxHeartbeats 1000000 in
theorem place_any (l : List UInt8) (c : UInt8) (k : Nat) (w : World) (hk : k ≤ l.length) (hl : l.length ≤ 10000000) :
    Calls Tryz.prog 28 #[.string ⟨l.toArray⟩, .string ⟨[c].toArray⟩, .int .i64 k] w fun e w' => e = .returned (.int .i64 (placeT l c k)) ∧ w = w' := by
  go_enter Tryz.func28, Tryz.ntmps28
  go_wp2_with fail
  go_loop [7] (fun i => ∃ m : Nat, i = .int .i64 m ∧ k ≤ m ∧ m ≤ l.length ∧ Hid (∀ j, k ≤ j → j < m → bt l j ≠ (c.toNat : Int))) (fun i => l.length - (intOf i).toNat)
  case atStart => exact ⟨k, rfl, Nat.le_refl _, hk, fun j h1 h2 => by omega⟩
  case round =>
    obtain ⟨m, rfl, hkm, hm, hno⟩ := hrel
    by_cases hlt : m < l.length
    · have htd := take_drop1 l m hlt
      rw [drop_take1 l m hlt] at htd
      have hg := bt_get0 l m
      generalize l.getD m 0 = x at htd hg
      by_cases hx : x = c
      · subst hx
        have hpl : placeT l x k = (m : Int) := by
          unfold placeT
          have := indexByte_at (l.drop k) x (m - k) (by rw [List.length_drop]; omega) (by rw [bt_drop, show k + (m - k) = m from by omega]; exact hg) (fun j hj => by rw [bt_drop]; exact hno.out _ (by omega) (by omega))
          rw [this, if_pos (by omega)]; omega
        have heq : ((l.take (m + 1)).drop m == [x]) = true := by rw [htd]; simp
        replace hpl := Lib.hid hpl
        replace hg := Lib.hid hg
        replace htd := Lib.hid htd
        go_wp2_with fail
        go_ret
        exact ⟨ret_int hpl.out.symm, rfl⟩
      · have heq : ((l.take (m + 1)).drop m == [c]) = false := by rw [htd]; simpa using hx
        have hno2 : Hid (∀ j, k ≤ j → j < m + 1 → bt l j ≠ (c.toNat : Int)) := by
          intro j h1 h2
          by_cases hj : j = m
          · subst hj; rw [hg]; intro e; exact hx (UInt8.toNat_inj.1 (by omega))
          · exact hno.out j h1 (by omega)
        replace hg := Lib.hid hg
        replace htd := Lib.hid htd
        replace hx := Lib.hid hx
        go_wp2_with fail
        exact ⟨⟨m + 1, by go_num, by omega, by omega, hno2⟩, by simp [intOf]; omega⟩
    · have hpl : placeT l c k = -1 := by
        unfold placeT
        rw [indexByte_not (l.drop k) c fun j hj => by rw [bt_drop]; rw [List.length_drop] at hj; exact hno.out _ (by omega) (by omega)]
        rfl
      have hke : ¬ ((m : Int) + 1 ≤ l.length) := by omega
      replace hpl := Lib.hid hpl
      go_wp2_with fail
      go_ret
      exact ⟨ret_int hpl.out.symm, rfl⟩

/-- What the loops of Strip keep: acc is made, from place k on is to come. -/
structure StAt (l : List UInt8) (k : Nat) (acc : List UInt8) : Prop where
  le : k ≤ l.length
  eq : acc ++ stripB (l.drop k) = stripB l
  len : acc.length ≤ k
theorem strip_step (d : List UInt8) (h : d ≠ []) : stripB d = (markF d).1 ++ stripB (d.drop ((markF d).2 + 1)) := walkT_step markF d h
theorem StAt.mark {l : List UInt8} {k n : Nat} {acc : List UInt8} (h : StAt l k acc) (hk : k < l.length) (ho : opensB (l.drop k) = true) (hn : Lib.indexByte (l.drop k) 62 = n) : StAt l (k + n + 1) (acc ++ [32]) := by
  have hlt := indexByte_lt (l.drop k) 62
  rw [hn, List.length_drop] at hlt
  have hm : markF (l.drop k) = ([32], n) := by
    unfold markF
    rw [if_pos ⟨ho, by omega⟩, hn]; simp
  refine ⟨by omega, ?_, by have := h.len; rw [List.length_append]; simp; omega⟩
  rw [← h.eq, strip_step _ (drop_ne hk), hm, List.drop_drop, List.append_assoc, Nat.add_assoc]
theorem StAt.sign {l : List UInt8} {k : Nat} {acc : List UInt8} (h : StAt l k acc) (hk : k < l.length) (ho : opensB (l.drop k) = false ∨ Lib.indexByte (l.drop k) 62 < 0) : StAt l (k + 1) (acc ++ (l.drop k).take 1) := by
  have hm : markF (l.drop k) = ((l.drop k).take 1, 0) := by
    unfold markF
    rw [if_neg]
    rintro ⟨h1, h2⟩
    rcases ho with h3 | h3
    · rw [h1] at h3; cases h3
    · omega
  have h1 : ((l.drop k).take 1).length = 1 := by rw [List.length_take, List.length_drop]; omega
  refine ⟨by omega, ?_, by have := h.len; rw [List.length_append, h1]; omega⟩
  rw [← h.eq, strip_step _ (drop_ne hk), hm, List.drop_drop, List.append_assoc]
theorem StAt.done {l : List UInt8} {k : Nat} {acc : List UInt8} (h : StAt l k acc) (hk : ¬ k < l.length) : acc = stripB l := by
  have := h.eq
  rw [List.drop_eq_nil_of_le (by omega)] at this
  rw [← this]; simp [stripB, walkT]
theorem bt_lit (l : List UInt8) (k : Nat) (hk : k < l.length) : (l.drop k).take 1 = [l.getD k 0] := drop_take1 l k hk

/-- What the last > of a text tells of what stands behind a place. -/
theorem last_ahead (l : List UInt8) (k : Nat) (_hk : k < l.length) (h : (k : Int) < lastB l 62) : k + 2 ≤ l.length ∧ ∃ n : Nat, Lib.indexByte (l.drop k) 62 = n ∧ k + n < l.length := by
  rcases lastB_spec l 62 with ⟨e, _⟩ | ⟨i, h1, e, h3, _⟩
  · omega
  · rw [e] at h
    refine ⟨by omega, ?_⟩
    have hm : 0 ≤ Lib.indexByte (l.drop k) 62 := by
      rcases indexByte_ge0 (l.drop k) 62 with e2 | e2
      · exfalso
        have : (62 : UInt8) ∈ l.drop k := by
          rw [List.mem_iff_getElem]
          refine ⟨i - k, by rw [List.length_drop]; omega, ?_⟩
          rw [List.getElem_drop]
          have h4 : bt l i = ((62 : UInt8).toNat : Int) := h3
          unfold bt at h4
          have h5 : l.getD i 0 = 62 := UInt8.toNat_inj.1 (by omega)
          simp [List.getD, h1] at h5
          rw [← h5]
          congr 1; omega
        have := (indexByte_mem _ _).2 this
        omega
      · exact e2
    have hlt := indexByte_lt (l.drop k) 62
    rw [List.length_drop] at hlt
    exact ⟨(Lib.indexByte (l.drop k) 62).toNat, by omega, by omega⟩
theorem last_behind (l : List UInt8) (k : Nat) (_hk : k < l.length) (h : ¬ (k : Int) < lastB l 62) : opensB (l.drop k) = false ∨ Lib.indexByte (l.drop k) 62 < 0 := by
  cases ho : opensB (l.drop k)
  · exact Or.inl rfl
  · right
    unfold opensB at ho
    simp only [Bool.and_eq_true, beq_iff_eq, bt_drop] at ho
    have hnot : ∀ j, j < l.length → (k : Int) < j → bt l j ≠ 62 := by
      intro j hj hkj
      rcases lastB_spec l 62 with ⟨_, h2⟩ | ⟨i, h1, e, _, h4⟩
      · exact h2 j hj
      · exact h4 j (by omega) hj
    rw [indexByte_not (l.drop k) 62]
    · omega
    · intro j hj
      rw [List.length_drop] at hj
      rw [bt_drop]
      by_cases h0 : j = 0
      · subst h0; rw [ho.2.1]; decide
      · exact hnot _ (by omega) (by omega)

end Go.Proofs.YtahohmdbiiknoaaGreatDoor
