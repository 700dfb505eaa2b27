/- Plain mathematics of layer 1 (bytes as runes): nothing of the program. -/
import Derived.Test.YtkjjjbipmobdaaaGreatDoorBR01
import Derived.Lib.AppendStr
import Derived.Test.YtkjjjbipmobdaaaGreatDoorBR05
namespace Go.Proofs.YtkjjjbipmobdaaaGreatDoor

/-- Of a first byte: how many follow, and the ends of the first that does. -/
def fl (c : Int) : Int × Int × Int :=
  if 194 ≤ c ∧ c ≤ 223 then (1, 128, 191)
  else if c = 224 then (2, 160, 191)
  else if c = 237 then (2, 128, 159)
  else if 225 ≤ c ∧ c ≤ 239 then (2, 128, 191)
  else if c = 240 then (3, 144, 191)
  else if 241 ≤ c ∧ c ≤ 243 then (3, 128, 191)
  else if c = 244 then (3, 128, 143)
  else (0, 0, 0)

/-- The bytes behind a lead, one by one: from the i-th on, its ends lo and hi, r gathered so far. -/
def cutGo (l : List UInt8) (n : Int) : Nat → Nat → Int → Int → Int → Int × Int × Bool
  | 0, _, _, _, _ => (0, 0, false)
  | f + 1, i, lo, hi, r =>
    if (i : Int) ≤ n then
      if i = l.length ∨ bt l i < lo ∨ hi < bt l i then (65533, (i : Int), false)
      else cutGo l n f (i + 1) 128 191 (r * 64 + bt l i % 64)
    else (r, n + 1, true)

/-- The first rune, how many bytes it has, and whether they are a rune's. -/
def cutS (l : List UInt8) : Int × Int × Bool :=
  if l = [] then (0, 0, false)
  else if bt l 0 < 128 then (bt l 0, 1, true)
  else if (fl (bt l 0)).1 = 0 then (65533, 1, false)
  else cutGo l (fl (bt l 0)).1 4 1 (fl (bt l 0)).2.1 (fl (bt l 0)).2.2 (bt l 0 % (2 ^ (6 - (fl (bt l 0)).1.toNat) : Nat))

theorem cutGo_done {l : List UInt8} {n : Int} {k : Nat} {lo hi r : Int} (h : n < k) (hk : k ≤ 4) : cutGo l n (5 - k) k lo hi r = (r, n + 1, true) := by
  obtain ⟨f, hf⟩ : ∃ f, 5 - k = f + 1 := ⟨4 - k, by omega⟩
  rw [hf, cutGo, if_neg (by omega)]
theorem cutGo_bad {l : List UInt8} {n : Int} {k : Nat} {lo hi r : Int} (h : (k : Int) ≤ n) (hk : k ≤ 4) (hb : k = l.length ∨ bt l k < lo ∨ hi < bt l k) : cutGo l n (5 - k) k lo hi r = (65533, (k : Int), false) := by
  obtain ⟨f, hf⟩ : ∃ f, 5 - k = f + 1 := ⟨4 - k, by omega⟩
  rw [hf, cutGo, if_pos h, if_pos hb]
theorem cutGo_step {l : List UInt8} {n : Int} {k : Nat} {lo hi r : Int} (h : (k : Int) ≤ n) (hk : k ≤ 4) (h1 : k ≠ l.length) (h2 : lo ≤ bt l k) (h3 : bt l k ≤ hi) :
    cutGo l n (5 - k) k lo hi r = cutGo l n (5 - (k + 1)) (k + 1) 128 191 (r * 64 + bt l k % 64) := by
  obtain ⟨f, hf⟩ : ∃ f, 5 - k = f + 1 := ⟨4 - k, by omega⟩
  rw [hf, cutGo, if_pos h, if_neg (by omega)]
  congr 1
  omega

theorem fl_cases (c : Int) : (fl c = (0, 0, 0) ∧ (c < 194 ∨ 244 < c)) ∨ ∃ n lo hi, fl c = (n, lo, hi) ∧ 194 ≤ c ∧ c ≤ 244 ∧ 128 ≤ lo ∧ lo ≤ 160 ∧ 143 ≤ hi ∧ hi ≤ 191 ∧
    ((n = 1 ∧ c ≤ 223 ∧ lo = 128 ∧ hi = 191) ∨ (n = 2 ∧ 224 ≤ c ∧ c ≤ 239 ∧ (c = 224 → lo = 160) ∧ (c ≠ 224 → lo = 128) ∧ (c = 237 → hi = 159) ∧ (c ≠ 237 → hi = 191)) ∨
     (n = 3 ∧ 240 ≤ c ∧ (c = 240 → lo = 144) ∧ (c ≠ 240 → lo = 128) ∧ (c = 244 → hi = 143) ∧ (c ≠ 244 → hi = 191))) := by
  unfold fl
  split
  · right; refine ⟨_, _, _, rfl, ?_⟩; omega
  split
  · right; refine ⟨_, _, _, rfl, ?_⟩; omega
  split
  · right; refine ⟨_, _, _, rfl, ?_⟩; omega
  split
  · right; refine ⟨_, _, _, rfl, ?_⟩; omega
  split
  · right; refine ⟨_, _, _, rfl, ?_⟩; omega
  split
  · right; refine ⟨_, _, _, rfl, ?_⟩; omega
  split
  · right; refine ⟨_, _, _, rfl, ?_⟩; omega
  · left; exact ⟨rfl, by omega⟩

theorem bt_zero (a : UInt8) (l : List UInt8) : bt (a :: l) 0 = a.toNat := rfl
theorem bt_succ (a : UInt8) (l : List UInt8) (i : Nat) : bt (a :: l) (i + 1) = bt l i := by simp [bt]

/-- What a cut of a list that isn't empty comes to: a rune of 1 to 4 bytes, or none of 1 to 3. -/
structure Cut (l : List UInt8) (r n : Int) (g : Bool) : Prop where
  pos : 1 ≤ n
  le : n ≤ l.length
  four : n ≤ 4
  r0 : 0 ≤ r
  r1 : r ≤ 1114111

theorem cutS_nil : cutS [] = (0, 0, false) := rfl

theorem len_pos {l : List UInt8} (h : l ≠ []) : 0 < l.length := List.length_pos_iff.2 h

/-- The ways of a cut, one by one. -/
theorem cutS_ways (l : List UInt8) (h : l ≠ []) :
    (bt l 0 < 128 ∧ cutS l = (bt l 0, 1, true)) ∨
    (∃ n : Int, 1 ≤ n ∧ n ≤ 3 ∧ n ≤ l.length ∧ cutS l = (65533, n, false)) ∨
    (2 ≤ l.length ∧ 194 ≤ bt l 0 ∧ bt l 0 ≤ 223 ∧ 128 ≤ bt l 1 ∧ bt l 1 ≤ 191 ∧ cutS l = (bt l 0 % 32 * 64 + bt l 1 % 64, 2, true)) ∨
    (3 ≤ l.length ∧ 224 ≤ bt l 0 ∧ bt l 0 ≤ 239 ∧ 128 ≤ bt l 1 ∧ bt l 1 ≤ 191 ∧ (bt l 0 = 224 → 160 ≤ bt l 1) ∧ (bt l 0 = 237 → bt l 1 ≤ 159) ∧ 128 ≤ bt l 2 ∧ bt l 2 ≤ 191 ∧
      cutS l = ((bt l 0 % 16 * 64 + bt l 1 % 64) * 64 + bt l 2 % 64, 3, true)) ∨
    (4 ≤ l.length ∧ 240 ≤ bt l 0 ∧ bt l 0 ≤ 244 ∧ 128 ≤ bt l 1 ∧ bt l 1 ≤ 191 ∧ (bt l 0 = 240 → 144 ≤ bt l 1) ∧ (bt l 0 = 244 → bt l 1 ≤ 143) ∧ 128 ≤ bt l 2 ∧ bt l 2 ≤ 191 ∧ 128 ≤ bt l 3 ∧ bt l 3 ≤ 191 ∧
      cutS l = (((bt l 0 % 8 * 64 + bt l 1 % 64) * 64 + bt l 2 % 64) * 64 + bt l 3 % 64, 4, true)) := by
  have hl := len_pos h
  unfold cutS
  rw [if_neg h]
  by_cases h1 : bt l 0 < 128
  · rw [if_pos h1]; exact Or.inl ⟨h1, rfl⟩
  rw [if_neg h1]
  rcases fl_cases (bt l 0) with ⟨hf, hc⟩ | ⟨n, lo, hi, hf, c1, c2, c3, c4, c5, c6, hn⟩
  · rw [if_pos (by rw [hf])]; exact Or.inr (Or.inl ⟨1, by omega, by omega, by omega, rfl⟩)
  rw [hf]
  rw [if_neg (by simp only; omega)]
  simp only
  rw [show (4 : Nat) = 5 - 1 from rfl]
  by_cases b1 : 1 = l.length ∨ bt l 1 < lo ∨ hi < bt l 1
  · rw [cutGo_bad (by omega) (by omega) b1]; exact Or.inr (Or.inl ⟨1, by omega, by omega, by omega, rfl⟩)
  rw [cutGo_step (by omega) (by omega) (by omega) (by omega) (by omega)]
  rcases hn with ⟨rfl, hn⟩ | ⟨rfl, hn⟩ | ⟨rfl, hn⟩
  · rw [cutGo_done (by omega) (by omega)]
    refine Or.inr (Or.inr (Or.inl ⟨by omega, by omega, by omega, by omega, by omega, ?_⟩))
    rfl
  all_goals
    by_cases b2 : 1 + 1 = l.length ∨ bt l (1 + 1) < 128 ∨ 191 < bt l (1 + 1)
    · rw [cutGo_bad (by omega) (by omega) b2]; exact Or.inr (Or.inl ⟨2, by omega, by omega, by omega, rfl⟩)
    rw [cutGo_step (by omega) (by omega) (by omega) (by omega) (by omega)]
  · rw [cutGo_done (by omega) (by omega)]
    refine Or.inr (Or.inr (Or.inr (Or.inl ⟨by omega, by omega, by omega, by omega, by omega, by omega, by omega, by simp only [Nat.reduceAdd] at b2; omega, by simp only [Nat.reduceAdd] at b2; omega, rfl⟩)))
  · by_cases b3 : 1 + 1 + 1 = l.length ∨ bt l (1 + 1 + 1) < 128 ∨ 191 < bt l (1 + 1 + 1)
    · rw [cutGo_bad (by omega) (by omega) b3]; exact Or.inr (Or.inl ⟨3, by omega, by omega, by omega, rfl⟩)
    rw [cutGo_step (by omega) (by omega) (by omega) (by omega) (by omega), cutGo_done (by omega) (by omega)]
    simp only [Nat.reduceAdd] at b2 b3
    exact Or.inr (Or.inr (Or.inr (Or.inr ⟨by omega, by omega, by omega, by omega, by omega, by omega, by omega, by omega, by omega, by omega, by omega, rfl⟩)))

theorem cutS_bd (l : List UInt8) (h : l ≠ []) : 1 ≤ (cutS l).2.1 ∧ (cutS l).2.1 ≤ l.length ∧ (cutS l).2.1 ≤ 4 ∧ 0 ≤ (cutS l).1 ∧ (cutS l).1 ≤ 1114111 := by
  have hl := len_pos h
  have h0 := bt_lt l 0
  rcases cutS_ways l h with ⟨_, e⟩ | ⟨n, _, _, _, e⟩ | ⟨_, _, _, _, _, e⟩ | ⟨_, _, _, _, _, _, _, _, _, e⟩ | ⟨_, _, _, _, _, _, _, _, _, _, _, e⟩ <;> rw [e] <;> simp only <;> omega

theorem cutS_none (l : List UInt8) (h : (cutS l).2.2 = false) (hl : l ≠ []) : (cutS l).1 = 65533 := by
  rcases cutS_ways l hl with ⟨_, e⟩ | ⟨n, _, _, _, e⟩ | ⟨_, _, _, _, _, e⟩ | ⟨_, _, _, _, _, _, _, _, _, e⟩ | ⟨_, _, _, _, _, _, _, _, _, _, _, e⟩ <;> rw [e] at h ⊢ <;> simp at h ⊢

/-- How many bytes a cut takes, as a Nat. -/
def cutN (l : List UInt8) : Nat := (cutS l).2.1.toNat
theorem cutN_bd (l : List UInt8) (h : l ≠ []) : 1 ≤ cutN l ∧ cutN l ≤ l.length ∧ cutN l ≤ 4 ∧ (cutS l).2.1 = cutN l := by
  have := cutS_bd l h; unfold cutN; omega
theorem drop_lt (l : List UInt8) (h : l ≠ []) : (l.drop (cutN l)).length < l.length := by
  have := cutN_bd l h; have := len_pos h; simp; omega

def decF : Nat → List UInt8 → List Int
  | 0, _ => []
  | f + 1, l => if l = [] then [] else (cutS l).1 :: decF f (l.drop (cutN l))
/-- The runes of bytes. -/
def dec (l : List UInt8) : List Int := decF l.length l
def valF : Nat → List UInt8 → Bool
  | 0, _ => true
  | f + 1, l => if l = [] then true else (cutS l).2.2 && valF f (l.drop (cutN l))
/-- Are bytes those of runes alone? -/
def val (l : List UInt8) : Bool := valF l.length l

theorem decF_more : ∀ (f : Nat) (l : List UInt8), l.length ≤ f → decF f l = dec l := by
  intro f
  induction f using Nat.strongRecOn with
  | _ f ih =>
    intro l hl
    unfold dec
    by_cases h : l = []
    · subst h; cases f <;> simp [decF]
    · have hd := drop_lt l h
      have := len_pos h
      obtain ⟨f', rfl⟩ : ∃ f', f = f' + 1 := ⟨f - 1, by omega⟩
      obtain ⟨m, hm⟩ : ∃ m, l.length = m + 1 := ⟨l.length - 1, by omega⟩
      rw [hm, decF, decF, if_neg h, if_neg h, ih f' (by omega) _ (by omega)]
      congr 1
      by_cases hf : m = f'
      · subst hf; rw [ih m (by omega) _ (by omega)]
      · rw [ih m (by omega) _ (by omega)]
theorem valF_more : ∀ (f : Nat) (l : List UInt8), l.length ≤ f → valF f l = val l := by
  intro f
  induction f using Nat.strongRecOn with
  | _ f ih =>
    intro l hl
    unfold val
    by_cases h : l = []
    · subst h; cases f <;> simp [valF]
    · have hd := drop_lt l h
      have := len_pos h
      obtain ⟨f', rfl⟩ : ∃ f', f = f' + 1 := ⟨f - 1, by omega⟩
      obtain ⟨m, hm⟩ : ∃ m, l.length = m + 1 := ⟨l.length - 1, by omega⟩
      rw [hm, valF, valF, if_neg h, if_neg h, ih f' (by omega) _ (by omega), ih m (by omega) _ (by omega)]
theorem dec_nil : dec [] = [] := rfl
theorem val_nil : val [] = true := rfl
theorem dec_cons (l : List UInt8) (h : l ≠ []) : dec l = (cutS l).1 :: dec (l.drop (cutN l)) := by
  have hd := drop_lt l h
  have := len_pos h
  rw [show dec l = decF (l.length - 1 + 1) l from by unfold dec; congr 1; omega, decF, if_neg h, decF_more _ _ (by omega)]
theorem val_cons (l : List UInt8) (h : l ≠ []) : val l = ((cutS l).2.2 && val (l.drop (cutN l))) := by
  have hd := drop_lt l h
  have := len_pos h
  rw [show val l = valF (l.length - 1 + 1) l from by unfold val; congr 1; omega, valF, if_neg h, valF_more _ _ (by omega)]

theorem list_ind {P : List UInt8 → Prop} (h0 : P []) (h1 : ∀ l, l ≠ [] → P (l.drop (cutN l)) → P l) : ∀ l, P l := by
  intro l
  generalize hn : l.length = n
  induction n using Nat.strongRecOn generalizing l with
  | _ n ih =>
    by_cases h : l = []
    · subst h; exact h0
    · exact h1 l h (ih _ (by rw [← hn]; exact drop_lt l h) _ rfl)

theorem dec_len : ∀ l, (dec l).length ≤ l.length := by
  refine list_ind (by simp [dec_nil]) fun l h ih => ?_
  have hd := drop_lt l h
  rw [dec_cons l h]; simp only [List.length_cons]; omega
theorem dec_bd : ∀ l, ∀ x ∈ dec l, 0 ≤ x ∧ x ≤ 1114111 := by
  refine list_ind (by simp [dec_nil]) fun l h ih => ?_
  rw [dec_cons l h]
  intro x hx
  rcases List.mem_cons.1 hx with rfl | hx
  · have := cutS_bd l h; omega
  · exact ih x hx

theorem cutS_sign (t : List UInt8) : cutS (239 :: 191 :: 189 :: t) = (65533, 3, true) := by
  have b0 : bt (239 :: 191 :: 189 :: t) 0 = 239 := rfl
  have b1 : bt (239 :: 191 :: 189 :: t) 1 = 191 := rfl
  have b2 : bt (239 :: 191 :: 189 :: t) 2 = 189 := rfl
  rcases cutS_ways (239 :: 191 :: 189 :: t) (by simp) with ⟨_, e⟩ | ⟨n, _, _, _, e⟩ | ⟨_, _, _, _, _, e⟩ | ⟨_, _, _, _, _, _, _, _, _, e⟩ | ⟨_, _, _, _, _, _, _, _, _, _, _, e⟩
  · omega
  · unfold cutS at e
    rw [if_neg (by simp), if_neg (by omega), b0, show fl 239 = (2, 128, 191) from rfl, if_neg (by simp), show (4 : Nat) = 5 - 1 from rfl,
      cutGo_step (by simp) (by omega) (by simp) (by rw [b1]; decide) (by rw [b1]; decide), cutGo_step (by simp) (by omega) (by simp) (by show _ ≤ bt _ 2; rw [b2]; decide) (by show bt _ 2 ≤ _; rw [b2]; decide), cutGo_done (by simp) (by omega)] at e
    simp at e
  · omega
  · rw [e, b0, b1, b2]; rfl
  · omega

theorem take_three (l : List UInt8) (h : 3 ≤ l.length) (a b c : UInt8) (h0 : bt l 0 = a.toNat) (h1 : bt l 1 = b.toNat) (h2 : bt l 2 = c.toNat) : l.take 3 = [a, b, c] := by
  match l, h with
  | x :: y :: z :: t, _ =>
    have e (u v : UInt8) (h : (u.toNat : Int) = v.toNat) : u = v := UInt8.toNat_inj.1 (by omega)
    have e0 := e x a h0
    have e1 := e y b h1
    have e2 := e z c h2
    subst e0 e1 e2
    rfl
theorem good_iff (l : List UInt8) (h : l ≠ []) : (cutS l).2.2 = true ↔ ((cutS l).1 = 65533 → l.take (cutN l) = [239, 191, 189]) := by
  constructor
  · intro hg hr
    have h0 := bt_lt l 0
    rcases cutS_ways l h with ⟨_, e⟩ | ⟨n, _, _, _, e⟩ | ⟨_, _, _, _, _, e⟩ | ⟨hl, _, _, _, _, _, _, _, _, e⟩ | ⟨_, _, _, _, _, _, _, _, _, _, _, e⟩
    · rw [e] at hr; simp at hr; omega
    · rw [e] at hg; simp at hg
    · rw [e] at hr; simp at hr; omega
    · rw [e] at hr
      simp at hr
      have : cutN l = 3 := by unfold cutN; rw [e]; rfl
      rw [this]
      exact take_three l hl 239 191 189 (by simp; omega) (by simp; omega) (by simp; omega)
    · rw [e] at hr; simp at hr; omega
  · intro hc
    cases hg : (cutS l).2.2
    · have h1 := hc (cutS_none l hg h)
      have : l = 239 :: 191 :: 189 :: l.drop (cutN l) := by
        have := List.take_append_drop (cutN l) l
        rw [h1] at this
        exact this.symm
      rw [this, cutS_sign] at hg
      simp at hg
    · rfl
theorem good_sign (l : List UInt8) (h : l ≠ []) (h2 : (!List.take (cutN l) l == [239, 191, 189]) = false) : (cutS l).2.2 = true := (good_iff l h).2 fun _ => by simpa using h2
theorem good_other (l : List UInt8) (h : l ≠ []) (h1 : ¬ (cutS l).1 = 65533) : (cutS l).2.2 = true := (good_iff l h).2 fun h2 => absurd h2 h1
theorem bad_sign (l : List UInt8) (h : l ≠ []) (h1 : (cutS l).1 = 65533) (h2 : (!List.take (cutN l) l == [239, 191, 189]) = true) : (cutS l).2.2 = false := by
  cases hg : (cutS l).2.2
  · rfl
  · have := (good_iff l h).1 hg h1
    simp [this] at h2
end Go.Proofs.YtkjjjbipmobdaaaGreatDoor

/- Plain mathematics of layer 1: runes as bytes. Nothing of the program. -/
namespace Go.Proofs.YtkjjjbipmobdaaaGreatDoor

/-- May it be a rune? -/
def isR (r : Int) : Bool := decide (0 ≤ r ∧ r ≤ 1114111 ∧ ¬ (55296 ≤ r ∧ r ≤ 57343))
/-- How many bytes follow the first. -/
def folN (r : Int) : Nat := if r < 128 then 0 else if r < 2048 then 1 else if r < 65536 then 2 else 3
/-- The bytes of a rune that may be, as numbers. -/
def encR (r : Int) : List Int :=
  if r < 128 then [r]
  else if r < 2048 then [192 + r / 64, 128 + r % 64]
  else if r < 65536 then [224 + r / 4096, 128 + r / 64 % 64, 128 + r % 64]
  else [240 + r / 262144, 128 + r / 4096 % 64, 128 + r / 64 % 64, 128 + r % 64]
/-- The bytes of any rune. -/
def encI (r : Int) : List Int := if isR r then encR r else encR 65533
/-- A number as a byte. -/
def u8 (n : Int) : UInt8 := UInt8.ofNat n.toNat
def enc (r : Int) : List UInt8 := (encI r).map u8
def encAll (l : List Int) : List UInt8 := (l.flatMap encI).map u8
end Go.Proofs.YtkjjjbipmobdaaaGreatDoor

/- Conversions of bytes into a text. -/
namespace Go.Proofs.YtkjjjbipmobdaaaGreatDoor
open Go.RowKit

theorem run_str {P : Program} (w : World) (src dst e : TypeId) (hs : P.underlying src = some (.slice e)) (he : P.underlying e = some (.int .u8)) (hd : P.underlying dst = some .string) {v : Value} {xs : List Int} (h : IntSl .u8 w v xs) :
    (convert src dst v).run P w = .ok (.string ⟨(xs.map u8).toArray⟩) w := by
  rcases h with ⟨rfl, a, c, rfl⟩ | ⟨b, off, c, rfl, h⟩
  · cases a with
    | none => exact run_convert_bytes_nil w src e hs he 0 c dst hd
    | some a => exact run_convert_bytes_back w src dst e a c [] hs he hd (fun j hj => absurd hj (by simp))
  · exact run_convert_bytes_arg w src e hs he b off xs.length c xs rfl h dst hd

theorem run_str_new {P : Program} (w : World) (src dst e E : TypeId) (hs : P.underlying src = some (.slice e)) (he : P.underlying e = some (.int .u8)) (hd : P.underlying dst = some .string) (xs : List Int) (n c : Nat) (hn : n = xs.length) :
    (convert src dst (.slice (some ⟨w.heap.size, 0, none⟩) n c)).run P (w.alloc (.cells (xs.map (Value.int .u8)).toArray E)) = .ok (.string ⟨(xs.map u8).toArray⟩) (w.alloc (.cells (xs.map (Value.int .u8)).toArray E)) := by
  subst hn
  refine run_str _ src dst e hs he hd (Or.inr ⟨w.heap.size, 0, c, rfl, fun j hj => ?_⟩)
  rw [Nat.zero_add, World.cell?_alloc_mark]
  simp [List.getD, hj]

theorem nums_u8 (l : List UInt8) : (nums l).map u8 = l := by
  unfold nums
  rw [List.map_map]
  have : (u8 ∘ fun c : UInt8 => ((c.toNat : Nat) : Int)) = id := by funext c; simp [u8]
  rw [this]; simp
end Go.Proofs.YtkjjjbipmobdaaaGreatDoor

/- Append of a text's bytes; a slice of bytes that the call itself made, as a text. -/
namespace Go.Proofs.YtkjjjbipmobdaaaGreatDoor
open Go.RowKit

/-- Append of a text's bytes to a slice that the call itself made. -/
theorem wpList_append1s {P : Program} {ops : Array Oper} {rest : List Oper} {o : Oper} {a : Act} {Q : Exit → Act → World → Prop} {w : World} (hgd : o.guard = none) (s x : Operand) (t u e : TypeId)
    (ho : o.op = .call { callee := .builtin .append, args := #[s, x], argTypes := #[t, u] }) (ht : P.underlying t = some (.slice e)) (hu : P.underlying u = some .string)
    (hi : (P.info? e).map (fun i => (i.zero, i.size, i.bytes)) = some (some (.int .u8 0), 1, 1))
    (B : Nat) (v : Value) (l m : List UInt8) (hown : w.ownsRow B e 1 v l.length ((nums l).map (Value.int .u8))) (hs : a.eval s = v) (hx : a.eval x = .string ⟨m.toArray⟩)
    (hn : l.length + m.length ≤ 140737488355328) (hB : B ≤ w.heap.size)
    (h : ∀ v' w', w'.ownsRow B e 1 v' (l ++ m).length ((nums (l ++ m)).map (Value.int .u8)) → Below B w w' → wpList P ops Q rest (a.put o.dst v') w') : wpList P ops Q (o :: rest) a w := by
  obtain ⟨i0, hi, hz0, hz1, hz2⟩ := info_parts hi
  refine Lib.wpList_append_own_string w hgd s x t u ho B e i0 ht hu hi hz0 hz1 hz2 v l.length _ hs hown ⟨m.toArray⟩ hx (by show l.length + m.length ≤ _; unfold maxLen; omega) hn hB ?_
  intro v' w' h1 h2 _
  refine h v' w' ?_ ((Below.refl B w).grown h2 hB fun k hk => (hown.lt k hk).1)
  have e1 : Lib.strCells ⟨m.toArray⟩ = (nums m).map (Value.int .u8) := by simp [Lib.strCells, nums]
  rw [e1, ← List.map_append, ← nums_app] at h1
  rw [List.length_append]
  exact h1

/-- A slice of bytes that the call itself made, as a text. -/
def Txt (w : World) (B : Nat) (v : Value) (l : List UInt8) : Prop := w.ownsRow B 5 1 v l.length ((nums l).map (Value.int .u8))
theorem txt_nil (w : World) (B : Nat) : Txt w B (.slice none 0 0) [] := World.ownsRow_nil _ _ _ _
theorem txt_str {w : World} {B : Nat} {v : Value} {l : List UInt8} (h : Txt w B v l) : (convert 102 9 v).run Tryz.prog w = .ok (.string ⟨l.toArray⟩) w := by
  unfold Txt at h
  have h' : w.ownsRow B 5 1 v (nums l).length ((nums l).map (Value.int .u8)) := by rw [nums_len]; exact h
  have := run_str (P := Tryz.prog) w 102 9 5 Tryz.underlying102 Tryz.underlying5 Tryz.underlying9 (intSl_own h')
  rw [nums_u8] at this
  exact this
theorem info_u8 : (Tryz.prog.info? 5).map (fun i => (i.zero, i.size, i.bytes)) = some (some (.int .u8 0), 1, 1) := by kernel_rfl
end Go.Proofs.YtkjjjbipmobdaaaGreatDoor

/- Layer 12: the text of a node. -/
namespace Go.Proofs.YtkjjjbipmobdaaaGreatDoor
open Go.RowKit

/-- What the loop of Text keeps. -/
structure TxtAt (P : List (Nd × Value)) (i : Int) (w1 : World) (k : Nat) (T : List UInt8) (u : Value) (wr : World) : Prop where
  own : Txt wr w1.heap.size u T
  text : T = textTo (nodes P) i k
  below : Below w1.heap.size w1 wr

set_option maxRecDepth 100000 in
set_option maxHeartbeats 2000000 in
theorem text12_any (P : List (Nd × Value)) (v : Value) (i : Int) (w : World) (h : NdSl w v P) (hn : P.length ≤ 1000000) (hT : sumT (nodes P) ≤ 1000000000) :
    Calls Tryz.prog 47 #[v, .int .i64 i] w (StrPost (textB (nodes P) i) w) := by
  have hplb := place_nodes (P := P) (i := i)
  cases hpl : placeB (nodes P) i
  · have hk : textB (nodes P) i = [] := by unfold textB; rw [if_neg (by rw [hpl]; decide)]
    obtain ⟨a, c, rfl⟩ := h.form
    have hp := fun W : World => place12_any a P.length c i W
    rw [← hplb, hpl] at hp
    clear h hplb hpl hT
    replace hp := Lib.hid hp
    go_enter Tryz.func47, Tryz.ntmps47
    go_wp2_with fail
    refine (hp.out _).mono ?_; rintro e w1 ⟨rfl, rfl⟩
    go_wp2_with fail
    go_ret
    exact StrPost.mk (t := []) hk (Below.refl _ _)
  have hk : textB (nodes P) i = textTo (nodes P) i P.length := by unfold textB; rw [if_pos hpl, nodes_len]
  have hwi := within12_any P v i w h hn hpl
  have hpos : 0 < P.length := by have := place_iff.1 hpl; rw [nodes_len] at this; omega
  obtain ⟨b, off, cap, hcap, hbl, rfl, hcl⟩ := h.some hpos
  have hp := fun W : World => place12_any (some ⟨b, off, none⟩) P.length cap i W
  rw [← hplb, hpl] at hp
  have htl := fun k => textTo_len (nodes P) i k
  rw [nodes_len] at htl
  generalize sumT (nodes P) = S at hT htl
  clear h hplb hpl
  replace hp := Lib.hid hp
  replace hk := Lib.hid hk
  replace hwi := Lib.hid hwi
  replace htl := Lib.hid htl
  replace hcl := Lib.hid hcl
  replace hpos := Lib.hid hpos
  go_enter Tryz.func47, Tryz.ntmps47
  go_wp2_with fail
  refine (hp.out _).mono ?_; rintro e w0 ⟨rfl, rfl⟩
  go_wp2_with fail
  refine hwi.out.mono ?_; rintro e w1 ⟨rfl, hin, hb1⟩
  have hgl := hin.lt
  have hs1 := hb1.size
  clear hwi
  replace hin := Lib.hid hin
  replace hb1 := Lib.hid hb1
  go_wp2_with fail
  go_loopw [5, 16] (fun u ii wr => ∃ (k m : Nat) (T : List UInt8) (a' : Option Addr) (c' : Nat), ii = .int .i64 k ∧ u = .slice a' m c' ∧ k ≤ P.length ∧ m ≤ S ∧ Hid (m = T.length) ∧ Hid (TxtAt P i w1 k T u wr)) (fun _ ii _ => P.length - (intOf ii).toNat)
  case atStart => exact ⟨0, 0, [], none, 0, rfl, rfl, Nat.zero_le _, Nat.zero_le _, rfl, ⟨txt_nil _ _, rfl, Below.refl _ _⟩⟩
  case round =>
    obtain ⟨k, m, T, a', c', rfl, rfl, hkl, hmS, hm, hc⟩ := hrel
    by_cases hlt : k < P.length
    · have hsz := hc.out.below.size
      obtain ⟨d0, d1, d2, d3⟩ := ((hcl.out k hlt).next hb1.out).next hc.out.below
      rw [nodes_at hlt] at d0 d2
      clear d1 d3
      have hi0 : wr.cell? ⟨w.heap.size, k, none⟩ = some (.bool (winB (nodes P) i (k : Int))) := by
        rw [(hin.out.next hc.out.below).cell]
        simp [hlt]
      have hnx := textTo_next (nodes P) i k
      rw [← hc.out.text] at hnx
      have hlt1 : (k : Int) < P.length := by omega
      have hno := bitB_no (l := nodes P) (i := i) (j := k)
      have hyes := bitB_yes (l := nodes P) (i := i) (j := k)
      have htl2 := htl.out (k + 1) (by omega)
      have hbw : b < wr.heap.size := by omega
      have hgw : w.heap.size < wr.heap.size := by omega
      generalize atN (nodes P) (k : Int) = x at d0 d2 hno hyes
      obtain ⟨xn, xa, xt, xu⟩ := x
      unfold strV at d0 d2
      simp only at d0 d2 hno hyes
      cases hwk : winB (nodes P) i (k : Int)
      · rw [hwk] at hi0
        rw [hno (fun e => by rw [hwk] at e; cases e.2), List.append_nil] at hnx
        clear hno hyes
        replace hnx := Lib.hid hnx
        replace hwk := Lib.hid hwk
        go_wp2_with fail
        exact ⟨⟨k + 1, m, T, a', c', by go_num, rfl, by omega, hmS, hm, ⟨hc.out.own, hnx.out.symm, hc.out.below⟩⟩, by simp [intOf]; omega⟩
      · rw [hwk] at hi0
        cases hem : xn.isEmpty
        · have hne : ¬ xn = [] := by simpa using hem
          rw [hno (fun e => hne e.1), List.append_nil] at hnx
          clear hno hyes
          replace hne := Lib.hid hne
          replace hnx := Lib.hid hnx
          replace hwk := Lib.hid hwk
          go_wp2_with fail
          exact ⟨⟨k + 1, m, T, a', c', by go_num, rfl, by omega, hmS, hm, ⟨hc.out.own, hnx.out.symm, hc.out.below⟩⟩, by simp [intOf]; omega⟩
        · have hne : xn = [] := by simpa using hem
          rw [hyes hne hwk] at hnx
          rw [hnx, List.length_append] at htl2
          clear hno hyes
          replace hne := Lib.hid hne
          replace hnx := Lib.hid hnx
          replace hwk := Lib.hid hwk
          go_wp2_with (at_builtin; go_must (refine wpList_append1s rfl _ _ 102 9 5 rfl Tryz.underlying102 Tryz.underlying9 info_u8 w1.heap.size _ T xt hc.out.own rfl rfl (by omega) (by omega) ?_))
          intro v2 w2 ho2 hb2
          replace ho2 : Txt w2 w1.heap.size v2 (T ++ xt) := by unfold Txt; rw [List.length_append]; exact ho2
          obtain ⟨T2, hT2⟩ : ∃ T2, T ++ xt = T2 := ⟨_, rfl⟩
          rw [hT2] at ho2 hnx
          have hl2 : T2.length ≤ S := by rw [← hT2, List.length_append]; exact htl2
          obtain ⟨a2, c2, rfl⟩ := own_form ho2
          replace ho2 := Lib.hid ho2
          have hb12 := Lib.hid (hc.out.below.trans hb2)
          clear hb2 htl2
          replace hT2 := Lib.hid hT2
          go_wp2_with fail
          exact ⟨⟨k + 1, T2.length, T2, a2, c2, by go_num, rfl, by omega, hl2, rfl, ⟨ho2.out, hnx.out.symm, hb12.out⟩⟩, by simp [intOf]; omega⟩
    · have hke : ¬ ((k : Int) < P.length) := by omega
      have hkk := Lib.hid (show k = P.length by omega)
      have hcv := txt_str hc.out.own
      go_wp2_with fail
      go_ret
      exact StrPost.mk (hk.out.trans (by rw [hc.out.text, hkk.out])) (hb1.out.andThen hc.out.below)
end Go.Proofs.YtkjjjbipmobdaaaGreatDoor

/- Plain mathematics of layer 1: there and back. Nothing of the program. -/
namespace Go.Proofs.YtkjjjbipmobdaaaGreatDoor

theorem cutS_one {l : List UInt8} (h : l ≠ []) (hx : bt l 0 < 128) : cutS l = (bt l 0, 1, true) := by unfold cutS; rw [if_neg h, if_pos hx]
theorem ne_of_len {l : List UInt8} {n : Nat} (h : n + 1 ≤ l.length) : l ≠ [] := by intro e; subst e; simp at h
theorem cutS_two {l : List UInt8} (hl : 2 ≤ l.length) (h0 : 194 ≤ bt l 0) (h1 : bt l 0 ≤ 223) (h2 : 128 ≤ bt l 1) (h3 : bt l 1 ≤ 191) :
    cutS l = (bt l 0 % 32 * 64 + bt l 1 % 64, 2, true) := by
  rcases fl_cases (bt l 0) with ⟨hf, hc⟩ | ⟨n, lo, hi, hf, c1, c2, c3, c4, c5, c6, hn⟩
  · omega
  have hn1 : n = 1 ∧ lo = 128 ∧ hi = 191 := by omega
  obtain ⟨rfl, rfl, rfl⟩ := hn1
  unfold cutS
  rw [if_neg (ne_of_len hl), if_neg (by omega), hf, if_neg (by simp)]
  simp only
  rw [show (4 : Nat) = 5 - 1 from rfl, cutGo_step (by omega) (by omega) (by omega) (by omega) (by omega), cutGo_done (by omega) (by omega)]
  rfl
theorem cutS_three {l : List UInt8} (hl : 3 ≤ l.length) (h0 : 224 ≤ bt l 0) (h1 : bt l 0 ≤ 239) (h2 : 128 ≤ bt l 1) (h3 : bt l 1 ≤ 191) (h4 : bt l 0 = 224 → 160 ≤ bt l 1) (h5 : bt l 0 = 237 → bt l 1 ≤ 159) (h6 : 128 ≤ bt l 2) (h7 : bt l 2 ≤ 191) :
    cutS l = ((bt l 0 % 16 * 64 + bt l 1 % 64) * 64 + bt l 2 % 64, 3, true) := by
  rcases fl_cases (bt l 0) with ⟨hf, hc⟩ | ⟨n, lo, hi, hf, c1, c2, c3, c4, c5, c6, hn⟩
  · omega
  have hn1 : n = 2 ∧ lo ≤ bt l 1 ∧ bt l 1 ≤ hi := by omega
  obtain ⟨rfl, e1, e2⟩ := hn1
  unfold cutS
  rw [if_neg (ne_of_len hl), if_neg (by omega), hf, if_neg (by simp)]
  simp only
  rw [show (4 : Nat) = 5 - 1 from rfl, cutGo_step (by omega) (by omega) (by omega) (by omega) (by omega), cutGo_step (by omega) (by omega) (by omega) (by show _ ≤ bt l 2; omega) (by show bt l 2 ≤ _; omega), cutGo_done (by omega) (by omega)]
  rfl
theorem cutS_four {l : List UInt8} (hl : 4 ≤ l.length) (h0 : 240 ≤ bt l 0) (h1 : bt l 0 ≤ 244) (h2 : 128 ≤ bt l 1) (h3 : bt l 1 ≤ 191) (h4 : bt l 0 = 240 → 144 ≤ bt l 1) (h5 : bt l 0 = 244 → bt l 1 ≤ 143) (h6 : 128 ≤ bt l 2) (h7 : bt l 2 ≤ 191) (h8 : 128 ≤ bt l 3) (h9 : bt l 3 ≤ 191) :
    cutS l = (((bt l 0 % 8 * 64 + bt l 1 % 64) * 64 + bt l 2 % 64) * 64 + bt l 3 % 64, 4, true) := by
  rcases fl_cases (bt l 0) with ⟨hf, hc⟩ | ⟨n, lo, hi, hf, c1, c2, c3, c4, c5, c6, hn⟩
  · omega
  have hn1 : n = 3 ∧ lo ≤ bt l 1 ∧ bt l 1 ≤ hi := by omega
  obtain ⟨rfl, e1, e2⟩ := hn1
  unfold cutS
  rw [if_neg (ne_of_len hl), if_neg (by omega), hf, if_neg (by simp)]
  simp only
  rw [show (4 : Nat) = 5 - 1 from rfl, cutGo_step (by omega) (by omega) (by omega) (by omega) (by omega), cutGo_step (by omega) (by omega) (by omega) (by show _ ≤ bt l 2; omega) (by show bt l 2 ≤ _; omega),
    cutGo_step (by omega) (by omega) (by omega) (by show _ ≤ bt l 3; omega) (by show bt l 3 ≤ _; omega), cutGo_done (by omega) (by omega)]
  rfl

theorem u8_nat {n : Int} (h0 : 0 ≤ n) (h1 : n ≤ 255) : ((u8 n).toNat : Int) = n := by
  unfold u8; rw [UInt8.toNat_ofNat']; omega
theorem u8_bt {n : Int} (l : List UInt8) (h0 : 0 ≤ n) (h1 : n ≤ 255) : bt (u8 n :: l) 0 = n := u8_nat h0 h1

theorem encR_ways (r : Int) : (r < 128 ∧ encR r = [r]) ∨ (128 ≤ r ∧ r < 2048 ∧ encR r = [192 + r / 64, 128 + r % 64]) ∨
      (2048 ≤ r ∧ r < 65536 ∧ encR r = [224 + r / 4096, 128 + r / 64 % 64, 128 + r % 64]) ∨
      (65536 ≤ r ∧ encR r = [240 + r / 262144, 128 + r / 4096 % 64, 128 + r / 64 % 64, 128 + r % 64]) := by
  unfold encR
  by_cases h1 : r < 128
  · rw [if_pos h1]; exact Or.inl ⟨h1, rfl⟩
  · by_cases h2 : r < 2048
    · rw [if_neg h1, if_pos h2]; exact Or.inr (Or.inl ⟨by omega, h2, rfl⟩)
    · by_cases h3 : r < 65536
      · rw [if_neg h1, if_neg h2, if_pos h3]; exact Or.inr (Or.inr (Or.inl ⟨by omega, h3, rfl⟩))
      · rw [if_neg h1, if_neg h2, if_neg h3]; exact Or.inr (Or.inr (Or.inr ⟨by omega, rfl⟩))

theorem isR_iff (r : Int) : isR r = true ↔ (0 ≤ r ∧ r ≤ 1114111 ∧ ¬ (55296 ≤ r ∧ r ≤ 57343)) := by unfold isR; rw [decide_eq_true_iff]

/-- A rune's bytes are cut as the rune. -/
theorem cut_encR (r : Int) (h : isR r = true) (t : List UInt8) : cutS ((encR r).map u8 ++ t) = (r, ((encR r).length : Int), true) := by
  obtain ⟨h0, h1, h2⟩ := (isR_iff r).1 h
  rcases encR_ways r with ⟨c1, e⟩ | ⟨c1, c2, e⟩ | ⟨c1, c2, e⟩ | ⟨c1, e⟩ <;> rw [e]
  · have b0 : bt ([r].map u8 ++ t) 0 = r := u8_nat (by omega) (by omega)
    rw [cutS_one (by simp) (by omega), b0]; rfl
  · have b0 : bt ([192 + r / 64, 128 + r % 64].map u8 ++ t) 0 = 192 + r / 64 := u8_nat (by omega) (by omega)
    have b1 : bt ([192 + r / 64, 128 + r % 64].map u8 ++ t) 1 = 128 + r % 64 := u8_nat (by omega) (by omega)
    rw [cutS_two (by simp) (by omega) (by omega) (by omega) (by omega), b0, b1]
    refine Prod.ext ?_ rfl; simp only; omega
  · have b0 : bt ([224 + r / 4096, 128 + r / 64 % 64, 128 + r % 64].map u8 ++ t) 0 = 224 + r / 4096 := u8_nat (by omega) (by omega)
    have b1 : bt ([224 + r / 4096, 128 + r / 64 % 64, 128 + r % 64].map u8 ++ t) 1 = 128 + r / 64 % 64 := u8_nat (by omega) (by omega)
    have b2 : bt ([224 + r / 4096, 128 + r / 64 % 64, 128 + r % 64].map u8 ++ t) 2 = 128 + r % 64 := u8_nat (by omega) (by omega)
    rw [cutS_three (by simp) (by omega) (by omega) (by omega) (by omega) (by omega) (by omega) (by omega) (by omega), b0, b1, b2]
    refine Prod.ext ?_ rfl; simp only; omega
  · have b0 : bt ([240 + r / 262144, 128 + r / 4096 % 64, 128 + r / 64 % 64, 128 + r % 64].map u8 ++ t) 0 = 240 + r / 262144 := u8_nat (by omega) (by omega)
    have b1 : bt ([240 + r / 262144, 128 + r / 4096 % 64, 128 + r / 64 % 64, 128 + r % 64].map u8 ++ t) 1 = 128 + r / 4096 % 64 := u8_nat (by omega) (by omega)
    have b2 : bt ([240 + r / 262144, 128 + r / 4096 % 64, 128 + r / 64 % 64, 128 + r % 64].map u8 ++ t) 2 = 128 + r / 64 % 64 := u8_nat (by omega) (by omega)
    have b3 : bt ([240 + r / 262144, 128 + r / 4096 % 64, 128 + r / 64 % 64, 128 + r % 64].map u8 ++ t) 3 = 128 + r % 64 := u8_nat (by omega) (by omega)
    rw [cutS_four (by simp) (by omega) (by omega) (by omega) (by omega) (by omega) (by omega) (by omega) (by omega) (by omega) (by omega), b0, b1, b2, b3]
    refine Prod.ext ?_ rfl; simp only; omega

/-- What a number comes back as. -/
def fixR (r : Int) : Int := if isR r then r else 65533
theorem fixR_is (r : Int) : isR (fixR r) = true := by unfold fixR; split <;> first | assumption | rfl
theorem encI_fix (r : Int) : encI r = encR (fixR r) := by unfold encI fixR; split <;> rfl
theorem encR_ne (r : Int) : 1 ≤ (encR r).length ∧ (encR r).length ≤ 4 := by rcases encR_ways r with ⟨c1, e⟩ | ⟨c1, c2, e⟩ | ⟨c1, c2, e⟩ | ⟨c1, e⟩ <;> rw [e] <;> simp
theorem enc_ne (r : Int) (t : List UInt8) : enc r ++ t ≠ [] := by
  have := encR_ne (fixR r)
  intro h
  have h2 := congrArg List.length h
  unfold enc at h2
  rw [encI_fix, List.length_append, List.length_map, List.length_nil] at h2
  omega
theorem cut_enc (r : Int) (t : List UInt8) : cutS (enc r ++ t) = (fixR r, ((enc r).length : Int), true) := by
  unfold enc; rw [encI_fix, cut_encR _ (fixR_is r)]; simp
theorem encAll_cons (r : Int) (l : List Int) : encAll (r :: l) = enc r ++ encAll l := by unfold encAll enc; simp [List.flatMap_cons]
theorem drop_enc (r : Int) (t : List UInt8) : (enc r ++ t).drop (cutN (enc r ++ t)) = t := by
  unfold cutN; rw [cut_enc]; simp
theorem dec_enc (l : List Int) : dec (encAll l) = l.map fixR ∧ val (encAll l) = true := by
  induction l with
  | nil => exact ⟨rfl, rfl⟩
  | cons r l ih =>
    rw [encAll_cons, dec_cons _ (enc_ne _ _), val_cons _ (enc_ne _ _), drop_enc, cut_enc, ih.1, ih.2]
    exact ⟨rfl, rfl⟩

theorem take_two (l : List UInt8) (h : 2 ≤ l.length) (a b : UInt8) (h0 : bt l 0 = a.toNat) (h1 : bt l 1 = b.toNat) : l.take 2 = [a, b] := by
  match l, h with
  | x :: y :: t, _ =>
    have e (u v : UInt8) (h : (u.toNat : Int) = v.toNat) : u = v := UInt8.toNat_inj.1 (by omega)
    have e0 := e x a h0
    have e1 := e y b h1
    subst e0 e1
    rfl
theorem take_one (l : List UInt8) (h : 1 ≤ l.length) (a : UInt8) (h0 : bt l 0 = a.toNat) : l.take 1 = [a] := by
  match l, h with
  | x :: t, _ =>
    have e (u v : UInt8) (h : (u.toNat : Int) = v.toNat) : u = v := UInt8.toNat_inj.1 (by omega)
    have e0 := e x a h0
    subst e0
    rfl
theorem take_four (l : List UInt8) (h : 4 ≤ l.length) (a b c d : UInt8) (h0 : bt l 0 = a.toNat) (h1 : bt l 1 = b.toNat) (h2 : bt l 2 = c.toNat) (h3 : bt l 3 = d.toNat) : l.take 4 = [a, b, c, d] := by
  match l, h with
  | x :: y :: z :: u :: t, _ =>
    have e (u v : UInt8) (h : (u.toNat : Int) = v.toNat) : u = v := UInt8.toNat_inj.1 (by omega)
    have e0 := e x a h0
    have e1 := e y b h1
    have e2 := e z c h2
    have e3 := e u d h3
    subst e0 e1 e2 e3
    rfl

/-- The bytes that were cut as a rune are its bytes. -/
theorem enc_cut (l : List UInt8) (h : l ≠ []) (hg : (cutS l).2.2 = true) : isR (cutS l).1 = true ∧ enc (cutS l).1 = l.take (cutN l) := by
  have h0 := bt_lt l 0
  have hl := len_pos h
  have key : ∀ r n, cutS l = (r, n, true) → isR r = true → (encR r).map u8 = l.take n.toNat → isR (cutS l).1 = true ∧ enc (cutS l).1 = l.take (cutN l) := by
    intro r n e h1 h2
    unfold cutN enc encI
    rw [e]; simp only; rw [h1]; exact ⟨rfl, h2⟩
  rcases cutS_ways l h with ⟨_, e⟩ | ⟨n, _, _, _, e⟩ | ⟨_, _, _, _, _, e⟩ | ⟨_, _, _, _, _, _, _, _, _, e⟩ | ⟨_, _, _, _, _, _, _, _, _, _, _, e⟩
  · refine key _ _ e ((isR_iff _).2 (by omega)) ?_
    rcases encR_ways (bt l 0) with ⟨c1, e1⟩ | ⟨c1, c2, e1⟩ | ⟨c1, c2, e1⟩ | ⟨c1, e1⟩ <;> try omega
    rw [e1]; exact (take_one l hl _ (u8_nat (by omega) (by omega)).symm).symm
  · rw [e] at hg; simp at hg
  · generalize hr : bt l 0 % 32 * 64 + bt l 1 % 64 = r at e
    refine key _ _ e ((isR_iff _).2 (by omega)) ?_
    rcases encR_ways r with ⟨c1, e1⟩ | ⟨c1, c2, e1⟩ | ⟨c1, c2, e1⟩ | ⟨c1, e1⟩ <;> try omega
    rw [e1]; exact (take_two l (by omega) _ _ (by rw [u8_nat (by omega) (by omega)]; omega) (by rw [u8_nat (by omega) (by omega)]; omega)).symm
  · generalize hr : (bt l 0 % 16 * 64 + bt l 1 % 64) * 64 + bt l 2 % 64 = r at e
    refine key _ _ e ((isR_iff _).2 (by omega)) ?_
    rcases encR_ways r with ⟨c1, e1⟩ | ⟨c1, c2, e1⟩ | ⟨c1, c2, e1⟩ | ⟨c1, e1⟩ <;> try omega
    rw [e1]; exact (take_three l (by omega) _ _ _ (by rw [u8_nat (by omega) (by omega)]; omega) (by rw [u8_nat (by omega) (by omega)]; omega) (by rw [u8_nat (by omega) (by omega)]; omega)).symm
  · generalize hr : ((bt l 0 % 8 * 64 + bt l 1 % 64) * 64 + bt l 2 % 64) * 64 + bt l 3 % 64 = r at e
    refine key _ _ e ((isR_iff _).2 (by omega)) ?_
    rcases encR_ways r with ⟨c1, e1⟩ | ⟨c1, c2, e1⟩ | ⟨c1, c2, e1⟩ | ⟨c1, e1⟩ <;> try omega
    rw [e1]; exact (take_four l (by omega) _ _ _ _ (by rw [u8_nat (by omega) (by omega)]; omega) (by rw [u8_nat (by omega) (by omega)]; omega) (by rw [u8_nat (by omega) (by omega)]; omega) (by rw [u8_nat (by omega) (by omega)]; omega)).symm

theorem enc_dec : ∀ l, val l = true → encAll (dec l) = l := by
  refine list_ind (fun _ => rfl) fun l h ih hv => ?_
  rw [val_cons l h] at hv
  simp only [Bool.and_eq_true] at hv
  rw [dec_cons l h, encAll_cons, ih hv.2, (enc_cut l h hv.1).2, List.take_append_drop]
/-- Bytes are runes' alone just if they are the bytes of their runes. -/
theorem val_iff (l : List UInt8) : val l = decide (encAll (dec l) = l) := by
  cases hv : val l
  · symm; simp only [decide_eq_false_iff_not]
    intro h
    have := (dec_enc (dec l)).2
    rw [h, hv] at this
    simp at this
  · simp [enc_dec l hv]

theorem bt_app (s t : List UInt8) (i : Nat) (h : i < s.length) : bt (s ++ t) i = bt s i := by
  unfold bt; simp [List.getD, List.getElem?_append_left h]
/-- A good cut is the same with more behind it. -/
theorem cut_app (s t : List UInt8) (h : s ≠ []) (hg : (cutS s).2.2 = true) : cutS (s ++ t) = cutS s := by
  have hl := len_pos h
  have b0 := bt_app s t 0 hl
  have hlen : s.length ≤ (s ++ t).length := by simp
  rcases cutS_ways s h with ⟨_, e⟩ | ⟨n, _, _, _, e⟩ | ⟨_, _, _, _, _, e⟩ | ⟨_, _, _, _, _, _, _, _, _, e⟩ | ⟨_, _, _, _, _, _, _, _, _, _, _, e⟩
  · rw [e, cutS_one (by simp [h]) (by omega), b0]
  · rw [e] at hg; simp at hg
  · have b1 := bt_app s t 1 (by omega)
    rw [e, cutS_two (by omega) (by omega) (by omega) (by omega) (by omega), b0, b1]
  · have b1 := bt_app s t 1 (by omega)
    have b2 := bt_app s t 2 (by omega)
    rw [e, cutS_three (by omega) (by omega) (by omega) (by omega) (by omega) (by omega) (by omega) (by omega) (by omega), b0, b1, b2]
  · have b1 := bt_app s t 1 (by omega)
    have b2 := bt_app s t 2 (by omega)
    have b3 := bt_app s t 3 (by omega)
    rw [e, cutS_four (by omega) (by omega) (by omega) (by omega) (by omega) (by omega) (by omega) (by omega) (by omega) (by omega) (by omega), b0, b1, b2, b3]
theorem dec_app (t : List UInt8) : ∀ s, val s = true → dec (s ++ t) = dec s ++ dec t ∧ val (s ++ t) = val t := by
  refine list_ind (fun _ => ⟨rfl, rfl⟩) fun s h ih hv => ?_
  rw [val_cons s h] at hv
  simp only [Bool.and_eq_true] at hv
  have hc := cut_app s t h hv.1
  have hn : cutN (s ++ t) = cutN s := by unfold cutN; rw [hc]
  have hb := cutN_bd s h
  have hd : (s ++ t).drop (cutN (s ++ t)) = s.drop (cutN s) ++ t := by rw [hn, List.drop_append_of_le_length hb.2.1]
  have hne : s ++ t ≠ [] := by simp [h]
  rw [dec_cons _ hne, val_cons _ hne, hd, hc, (ih hv.2).1, (ih hv.2).2, hv.1, dec_cons s h]
  exact ⟨rfl, rfl⟩
theorem encR_len (r : Int) : (enc r).length ≤ 4 := by
  unfold enc
  rw [List.length_map, encI_fix]
  exact (encR_ne _).2
end Go.Proofs.YtkjjjbipmobdaaaGreatDoor
