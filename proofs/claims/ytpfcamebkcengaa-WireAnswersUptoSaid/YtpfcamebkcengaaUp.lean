/- Plain mathematics of layer 1 (bytes as runes): nothing of the program. -/
import Derived.Test.YtpfcamebkcengaaBt
namespace Go.Proofs.Ytpfcamebkcengaa

/-- Of a first byte: how many follow, and the ends of the first that does. -/
def fl (c : Int) : Int × Int × Int :=
  if 194 ≤ c ∧ c ≤ 223 then (1, 128, 191)
  else if c = 224 then (2, 160, 191)
  else if c = 237 then (2, 128, 159)
  else if 225 ≤ c ∧ c ≤ 239 then (2, 128, 191)
  else if c = 240 then (3, 144, 191)
  else if 241 ≤ c ∧ c ≤ 243 then (3, 128, 191)
  else if c = 244 then (3, 128, 143)
  else (0, 0, 0)

/-- The bytes behind a lead, one by one: from the i-th on, its ends lo and hi, r gathered so far. -/
def cutGo (l : List UInt8) (n : Int) : Nat → Nat → Int → Int → Int → Int × Int × Bool
  | 0, _, _, _, _ => (0, 0, false)
  | f + 1, i, lo, hi, r =>
    if (i : Int) ≤ n then
      if i = l.length ∨ bt l i < lo ∨ hi < bt l i then (65533, (i : Int), false)
      else cutGo l n f (i + 1) 128 191 (r * 64 + bt l i % 64)
    else (r, n + 1, true)

/-- The first rune, how many bytes it has, and whether they are a rune's. -/
def cutS (l : List UInt8) : Int × Int × Bool :=
  if l = [] then (0, 0, false)
  else if bt l 0 < 128 then (bt l 0, 1, true)
  else if (fl (bt l 0)).1 = 0 then (65533, 1, false)
  else cutGo l (fl (bt l 0)).1 4 1 (fl (bt l 0)).2.1 (fl (bt l 0)).2.2 (bt l 0 % (2 ^ (6 - (fl (bt l 0)).1.toNat) : Nat))

theorem cutGo_done {l : List UInt8} {n : Int} {k : Nat} {lo hi r : Int} (h : n < k) (hk : k ≤ 4) : cutGo l n (5 - k) k lo hi r = (r, n + 1, true) := by
  obtain ⟨f, hf⟩ : ∃ f, 5 - k = f + 1 := ⟨4 - k, by omega⟩
  rw [hf, cutGo, if_neg (by omega)]
theorem cutGo_bad {l : List UInt8} {n : Int} {k : Nat} {lo hi r : Int} (h : (k : Int) ≤ n) (hk : k ≤ 4) (hb : k = l.length ∨ bt l k < lo ∨ hi < bt l k) : cutGo l n (5 - k) k lo hi r = (65533, (k : Int), false) := by
  obtain ⟨f, hf⟩ : ∃ f, 5 - k = f + 1 := ⟨4 - k, by omega⟩
  rw [hf, cutGo, if_pos h, if_pos hb]
theorem cutGo_step {l : List UInt8} {n : Int} {k : Nat} {lo hi r : Int} (h : (k : Int) ≤ n) (hk : k ≤ 4) (h1 : k ≠ l.length) (h2 : lo ≤ bt l k) (h3 : bt l k ≤ hi) :
    cutGo l n (5 - k) k lo hi r = cutGo l n (5 - (k + 1)) (k + 1) 128 191 (r * 64 + bt l k % 64) := by
  obtain ⟨f, hf⟩ : ∃ f, 5 - k = f + 1 := ⟨4 - k, by omega⟩
  rw [hf, cutGo, if_pos h, if_neg (by omega)]
  congr 1
  omega

theorem fl_cases (c : Int) : (fl c = (0, 0, 0) ∧ (c < 194 ∨ 244 < c)) ∨ ∃ n lo hi, fl c = (n, lo, hi) ∧ 194 ≤ c ∧ c ≤ 244 ∧ 128 ≤ lo ∧ lo ≤ 160 ∧ 143 ≤ hi ∧ hi ≤ 191 ∧
    ((n = 1 ∧ c ≤ 223 ∧ lo = 128 ∧ hi = 191) ∨ (n = 2 ∧ 224 ≤ c ∧ c ≤ 239 ∧ (c = 224 → lo = 160) ∧ (c ≠ 224 → lo = 128) ∧ (c = 237 → hi = 159) ∧ (c ≠ 237 → hi = 191)) ∨
     (n = 3 ∧ 240 ≤ c ∧ (c = 240 → lo = 144) ∧ (c ≠ 240 → lo = 128) ∧ (c = 244 → hi = 143) ∧ (c ≠ 244 → hi = 191))) := by
  unfold fl
  split
  · right; refine ⟨_, _, _, rfl, ?_⟩; omega
  split
  · right; refine ⟨_, _, _, rfl, ?_⟩; omega
  split
  · right; refine ⟨_, _, _, rfl, ?_⟩; omega
  split
  · right; refine ⟨_, _, _, rfl, ?_⟩; omega
  split
  · right; refine ⟨_, _, _, rfl, ?_⟩; omega
  split
  · right; refine ⟨_, _, _, rfl, ?_⟩; omega
  split
  · right; refine ⟨_, _, _, rfl, ?_⟩; omega
  · left; exact ⟨rfl, by omega⟩

theorem bt_zero (a : UInt8) (l : List UInt8) : bt (a :: l) 0 = a.toNat := rfl
theorem bt_succ (a : UInt8) (l : List UInt8) (i : Nat) : bt (a :: l) (i + 1) = bt l i := by simp [bt]

/-- What a cut of a list that isn't empty comes to: a rune of 1 to 4 bytes, or none of 1 to 3. -/
structure Cut (l : List UInt8) (r n : Int) (g : Bool) : Prop where
  pos : 1 ≤ n
  le : n ≤ l.length
  four : n ≤ 4
  r0 : 0 ≤ r
  r1 : r ≤ 1114111

theorem cutS_nil : cutS [] = (0, 0, false) := rfl

theorem len_pos {l : List UInt8} (h : l ≠ []) : 0 < l.length := List.length_pos_iff.2 h

/-- The ways of a cut, one by one. -/
theorem cutS_ways (l : List UInt8) (h : l ≠ []) :
    (bt l 0 < 128 ∧ cutS l = (bt l 0, 1, true)) ∨
    (∃ n : Int, 1 ≤ n ∧ n ≤ 3 ∧ n ≤ l.length ∧ cutS l = (65533, n, false)) ∨
    (2 ≤ l.length ∧ 194 ≤ bt l 0 ∧ bt l 0 ≤ 223 ∧ 128 ≤ bt l 1 ∧ bt l 1 ≤ 191 ∧ cutS l = (bt l 0 % 32 * 64 + bt l 1 % 64, 2, true)) ∨
    (3 ≤ l.length ∧ 224 ≤ bt l 0 ∧ bt l 0 ≤ 239 ∧ 128 ≤ bt l 1 ∧ bt l 1 ≤ 191 ∧ (bt l 0 = 224 → 160 ≤ bt l 1) ∧ (bt l 0 = 237 → bt l 1 ≤ 159) ∧ 128 ≤ bt l 2 ∧ bt l 2 ≤ 191 ∧
      cutS l = ((bt l 0 % 16 * 64 + bt l 1 % 64) * 64 + bt l 2 % 64, 3, true)) ∨
    (4 ≤ l.length ∧ 240 ≤ bt l 0 ∧ bt l 0 ≤ 244 ∧ 128 ≤ bt l 1 ∧ bt l 1 ≤ 191 ∧ (bt l 0 = 240 → 144 ≤ bt l 1) ∧ (bt l 0 = 244 → bt l 1 ≤ 143) ∧ 128 ≤ bt l 2 ∧ bt l 2 ≤ 191 ∧ 128 ≤ bt l 3 ∧ bt l 3 ≤ 191 ∧
      cutS l = (((bt l 0 % 8 * 64 + bt l 1 % 64) * 64 + bt l 2 % 64) * 64 + bt l 3 % 64, 4, true)) := by
  have hl := len_pos h
  unfold cutS
  rw [if_neg h]
  by_cases h1 : bt l 0 < 128
  · rw [if_pos h1]; exact Or.inl ⟨h1, rfl⟩
  rw [if_neg h1]
  rcases fl_cases (bt l 0) with ⟨hf, hc⟩ | ⟨n, lo, hi, hf, c1, c2, c3, c4, c5, c6, hn⟩
  · rw [if_pos (by rw [hf])]; exact Or.inr (Or.inl ⟨1, by omega, by omega, by omega, rfl⟩)
  rw [hf]
  rw [if_neg (by simp only; omega)]
  simp only
  rw [show (4 : Nat) = 5 - 1 from rfl]
  by_cases b1 : 1 = l.length ∨ bt l 1 < lo ∨ hi < bt l 1
  · rw [cutGo_bad (by omega) (by omega) b1]; exact Or.inr (Or.inl ⟨1, by omega, by omega, by omega, rfl⟩)
  rw [cutGo_step (by omega) (by omega) (by omega) (by omega) (by omega)]
  rcases hn with ⟨rfl, hn⟩ | ⟨rfl, hn⟩ | ⟨rfl, hn⟩
  · rw [cutGo_done (by omega) (by omega)]
    refine Or.inr (Or.inr (Or.inl ⟨by omega, by omega, by omega, by omega, by omega, ?_⟩))
    rfl
  all_goals
    by_cases b2 : 1 + 1 = l.length ∨ bt l (1 + 1) < 128 ∨ 191 < bt l (1 + 1)
    · rw [cutGo_bad (by omega) (by omega) b2]; exact Or.inr (Or.inl ⟨2, by omega, by omega, by omega, rfl⟩)
    rw [cutGo_step (by omega) (by omega) (by omega) (by omega) (by omega)]
  · rw [cutGo_done (by omega) (by omega)]
    refine Or.inr (Or.inr (Or.inr (Or.inl ⟨by omega, by omega, by omega, by omega, by omega, by omega, by omega, by simp only [Nat.reduceAdd] at b2; omega, by simp only [Nat.reduceAdd] at b2; omega, rfl⟩)))
  · by_cases b3 : 1 + 1 + 1 = l.length ∨ bt l (1 + 1 + 1) < 128 ∨ 191 < bt l (1 + 1 + 1)
    · rw [cutGo_bad (by omega) (by omega) b3]; exact Or.inr (Or.inl ⟨3, by omega, by omega, by omega, rfl⟩)
    rw [cutGo_step (by omega) (by omega) (by omega) (by omega) (by omega), cutGo_done (by omega) (by omega)]
    simp only [Nat.reduceAdd] at b2 b3
    exact Or.inr (Or.inr (Or.inr (Or.inr ⟨by omega, by omega, by omega, by omega, by omega, by omega, by omega, by omega, by omega, by omega, by omega, rfl⟩)))

theorem cutS_bd (l : List UInt8) (h : l ≠ []) : 1 ≤ (cutS l).2.1 ∧ (cutS l).2.1 ≤ l.length ∧ (cutS l).2.1 ≤ 4 ∧ 0 ≤ (cutS l).1 ∧ (cutS l).1 ≤ 1114111 := by
  have hl := len_pos h
  have h0 := bt_lt l 0
  rcases cutS_ways l h with ⟨_, e⟩ | ⟨n, _, _, _, e⟩ | ⟨_, _, _, _, _, e⟩ | ⟨_, _, _, _, _, _, _, _, _, e⟩ | ⟨_, _, _, _, _, _, _, _, _, _, _, e⟩ <;> rw [e] <;> simp only <;> omega

theorem cutS_none (l : List UInt8) (h : (cutS l).2.2 = false) (hl : l ≠ []) : (cutS l).1 = 65533 := by
  rcases cutS_ways l hl with ⟨_, e⟩ | ⟨n, _, _, _, e⟩ | ⟨_, _, _, _, _, e⟩ | ⟨_, _, _, _, _, _, _, _, _, e⟩ | ⟨_, _, _, _, _, _, _, _, _, _, _, e⟩ <;> rw [e] at h ⊢ <;> simp at h ⊢

/-- How many bytes a cut takes, as a Nat. -/
def cutN (l : List UInt8) : Nat := (cutS l).2.1.toNat
theorem cutN_bd (l : List UInt8) (h : l ≠ []) : 1 ≤ cutN l ∧ cutN l ≤ l.length ∧ cutN l ≤ 4 ∧ (cutS l).2.1 = cutN l := by
  have := cutS_bd l h; unfold cutN; omega
theorem drop_lt (l : List UInt8) (h : l ≠ []) : (l.drop (cutN l)).length < l.length := by
  have := cutN_bd l h; have := len_pos h; simp; omega

def decF : Nat → List UInt8 → List Int
  | 0, _ => []
  | f + 1, l => if l = [] then [] else (cutS l).1 :: decF f (l.drop (cutN l))
/-- The runes of bytes. -/
def dec (l : List UInt8) : List Int := decF l.length l
def valF : Nat → List UInt8 → Bool
  | 0, _ => true
  | f + 1, l => if l = [] then true else (cutS l).2.2 && valF f (l.drop (cutN l))
/-- Are bytes those of runes alone? -/
def val (l : List UInt8) : Bool := valF l.length l

theorem decF_more : ∀ (f : Nat) (l : List UInt8), l.length ≤ f → decF f l = dec l := by
  intro f
  induction f using Nat.strongRecOn with
  | _ f ih =>
    intro l hl
    unfold dec
    by_cases h : l = []
    · subst h; cases f <;> simp [decF]
    · have hd := drop_lt l h
      have := len_pos h
      obtain ⟨f', rfl⟩ : ∃ f', f = f' + 1 := ⟨f - 1, by omega⟩
      obtain ⟨m, hm⟩ : ∃ m, l.length = m + 1 := ⟨l.length - 1, by omega⟩
      rw [hm, decF, decF, if_neg h, if_neg h, ih f' (by omega) _ (by omega)]
      congr 1
      by_cases hf : m = f'
      · subst hf; rw [ih m (by omega) _ (by omega)]
      · rw [ih m (by omega) _ (by omega)]
theorem valF_more : ∀ (f : Nat) (l : List UInt8), l.length ≤ f → valF f l = val l := by
  intro f
  induction f using Nat.strongRecOn with
  | _ f ih =>
    intro l hl
    unfold val
    by_cases h : l = []
    · subst h; cases f <;> simp [valF]
    · have hd := drop_lt l h
      have := len_pos h
      obtain ⟨f', rfl⟩ : ∃ f', f = f' + 1 := ⟨f - 1, by omega⟩
      obtain ⟨m, hm⟩ : ∃ m, l.length = m + 1 := ⟨l.length - 1, by omega⟩
      rw [hm, valF, valF, if_neg h, if_neg h, ih f' (by omega) _ (by omega), ih m (by omega) _ (by omega)]
theorem dec_nil : dec [] = [] := rfl
theorem val_nil : val [] = true := rfl
theorem dec_cons (l : List UInt8) (h : l ≠ []) : dec l = (cutS l).1 :: dec (l.drop (cutN l)) := by
  have hd := drop_lt l h
  have := len_pos h
  rw [show dec l = decF (l.length - 1 + 1) l from by unfold dec; congr 1; omega, decF, if_neg h, decF_more _ _ (by omega)]
theorem val_cons (l : List UInt8) (h : l ≠ []) : val l = ((cutS l).2.2 && val (l.drop (cutN l))) := by
  have hd := drop_lt l h
  have := len_pos h
  rw [show val l = valF (l.length - 1 + 1) l from by unfold val; congr 1; omega, valF, if_neg h, valF_more _ _ (by omega)]

theorem list_ind {P : List UInt8 → Prop} (h0 : P []) (h1 : ∀ l, l ≠ [] → P (l.drop (cutN l)) → P l) : ∀ l, P l := by
  intro l
  generalize hn : l.length = n
  induction n using Nat.strongRecOn generalizing l with
  | _ n ih =>
    by_cases h : l = []
    · subst h; exact h0
    · exact h1 l h (ih _ (by rw [← hn]; exact drop_lt l h) _ rfl)

theorem dec_len : ∀ l, (dec l).length ≤ l.length := by
  refine list_ind (by simp [dec_nil]) fun l h ih => ?_
  have hd := drop_lt l h
  rw [dec_cons l h]; simp only [List.length_cons]; omega
theorem dec_bd : ∀ l, ∀ x ∈ dec l, 0 ≤ x ∧ x ≤ 1114111 := by
  refine list_ind (by simp [dec_nil]) fun l h ih => ?_
  rw [dec_cons l h]
  intro x hx
  rcases List.mem_cons.1 hx with rfl | hx
  · have := cutS_bd l h; omega
  · exact ih x hx

theorem cutS_sign (t : List UInt8) : cutS (239 :: 191 :: 189 :: t) = (65533, 3, true) := by
  have b0 : bt (239 :: 191 :: 189 :: t) 0 = 239 := rfl
  have b1 : bt (239 :: 191 :: 189 :: t) 1 = 191 := rfl
  have b2 : bt (239 :: 191 :: 189 :: t) 2 = 189 := rfl
  rcases cutS_ways (239 :: 191 :: 189 :: t) (by simp) with ⟨_, e⟩ | ⟨n, _, _, _, e⟩ | ⟨_, _, _, _, _, e⟩ | ⟨_, _, _, _, _, _, _, _, _, e⟩ | ⟨_, _, _, _, _, _, _, _, _, _, _, e⟩
  · omega
  · unfold cutS at e
    rw [if_neg (by simp), if_neg (by omega), b0, show fl 239 = (2, 128, 191) from rfl, if_neg (by simp), show (4 : Nat) = 5 - 1 from rfl,
      cutGo_step (by simp) (by omega) (by simp) (by rw [b1]; decide) (by rw [b1]; decide), cutGo_step (by simp) (by omega) (by simp) (by show _ ≤ bt _ 2; rw [b2]; decide) (by show bt _ 2 ≤ _; rw [b2]; decide), cutGo_done (by simp) (by omega)] at e
    simp at e
  · omega
  · rw [e, b0, b1, b2]; rfl
  · omega

theorem take_three (l : List UInt8) (h : 3 ≤ l.length) (a b c : UInt8) (h0 : bt l 0 = a.toNat) (h1 : bt l 1 = b.toNat) (h2 : bt l 2 = c.toNat) : l.take 3 = [a, b, c] := by
  match l, h with
  | x :: y :: z :: t, _ =>
    have e (u v : UInt8) (h : (u.toNat : Int) = v.toNat) : u = v := UInt8.toNat_inj.1 (by omega)
    have e0 := e x a h0
    have e1 := e y b h1
    have e2 := e z c h2
    subst e0 e1 e2
    rfl
theorem good_iff (l : List UInt8) (h : l ≠ []) : (cutS l).2.2 = true ↔ ((cutS l).1 = 65533 → l.take (cutN l) = [239, 191, 189]) := by
  constructor
  · intro hg hr
    have h0 := bt_lt l 0
    rcases cutS_ways l h with ⟨_, e⟩ | ⟨n, _, _, _, e⟩ | ⟨_, _, _, _, _, e⟩ | ⟨hl, _, _, _, _, _, _, _, _, e⟩ | ⟨_, _, _, _, _, _, _, _, _, _, _, e⟩
    · rw [e] at hr; simp at hr; omega
    · rw [e] at hg; simp at hg
    · rw [e] at hr; simp at hr; omega
    · rw [e] at hr
      simp at hr
      have : cutN l = 3 := by unfold cutN; rw [e]; rfl
      rw [this]
      exact take_three l hl 239 191 189 (by simp; omega) (by simp; omega) (by simp; omega)
    · rw [e] at hr; simp at hr; omega
  · intro hc
    cases hg : (cutS l).2.2
    · have h1 := hc (cutS_none l hg h)
      have : l = 239 :: 191 :: 189 :: l.drop (cutN l) := by
        have := List.take_append_drop (cutN l) l
        rw [h1] at this
        exact this.symm
      rw [this, cutS_sign] at hg
      simp at hg
    · rfl
theorem good_sign (l : List UInt8) (h : l ≠ []) (h2 : (!List.take (cutN l) l == [239, 191, 189]) = false) : (cutS l).2.2 = true := (good_iff l h).2 fun _ => by simpa using h2
theorem good_other (l : List UInt8) (h : l ≠ []) (h1 : ¬ (cutS l).1 = 65533) : (cutS l).2.2 = true := (good_iff l h).2 fun h2 => absurd h2 h1
theorem bad_sign (l : List UInt8) (h : l ≠ []) (h1 : (cutS l).1 = 65533) (h2 : (!List.take (cutN l) l == [239, 191, 189]) = true) : (cutS l).2.2 = false := by
  cases hg : (cutS l).2.2
  · rfl
  · have := (good_iff l h).1 hg h1
    simp [this] at h2
end Go.Proofs.Ytpfcamebkcengaa
