/- Plain mathematics of layer 1 (bytes as runes): nothing of the program. -/
import Derived.Test.YtahndjgamoojkaaBR01
import Derived.Test.YtahndjgamoojkaaBR02
namespace Go.Proofs.Ytahndjgamoojkaa

/-- Of a first byte: how many follow, and the ends of the first that does. -/
def fl (c : Int) : Int × Int × Int :=
  if 194 ≤ c ∧ c ≤ 223 then (1, 128, 191)
  else if c = 224 then (2, 160, 191)
  else if c = 237 then (2, 128, 159)
  else if 225 ≤ c ∧ c ≤ 239 then (2, 128, 191)
  else if c = 240 then (3, 144, 191)
  else if 241 ≤ c ∧ c ≤ 243 then (3, 128, 191)
  else if c = 244 then (3, 128, 143)
  else (0, 0, 0)

/-- The bytes behind a lead, one by one: from the i-th on, its ends lo and hi, r gathered so far. -/
def cutGo (l : List UInt8) (n : Int) : Nat → Nat → Int → Int → Int → Int × Int × Bool
  | 0, _, _, _, _ => (0, 0, false)
  | f + 1, i, lo, hi, r =>
    if (i : Int) ≤ n then
      if i = l.length ∨ bt l i < lo ∨ hi < bt l i then (65533, (i : Int), false)
      else cutGo l n f (i + 1) 128 191 (r * 64 + bt l i % 64)
    else (r, n + 1, true)

/-- The first rune, how many bytes it has, and whether they are a rune's. -/
def cutS (l : List UInt8) : Int × Int × Bool :=
  if l = [] then (0, 0, false)
  else if bt l 0 < 128 then (bt l 0, 1, true)
  else if (fl (bt l 0)).1 = 0 then (65533, 1, false)
  else cutGo l (fl (bt l 0)).1 4 1 (fl (bt l 0)).2.1 (fl (bt l 0)).2.2 (bt l 0 % (2 ^ (6 - (fl (bt l 0)).1.toNat) : Nat))

theorem cutGo_done {l : List UInt8} {n : Int} {k : Nat} {lo hi r : Int} (h : n < k) (hk : k ≤ 4) : cutGo l n (5 - k) k lo hi r = (r, n + 1, true) := by
  obtain ⟨f, hf⟩ : ∃ f, 5 - k = f + 1 := ⟨4 - k, by omega⟩
  rw [hf, cutGo, if_neg (by omega)]
theorem cutGo_bad {l : List UInt8} {n : Int} {k : Nat} {lo hi r : Int} (h : (k : Int) ≤ n) (hk : k ≤ 4) (hb : k = l.length ∨ bt l k < lo ∨ hi < bt l k) : cutGo l n (5 - k) k lo hi r = (65533, (k : Int), false) := by
  obtain ⟨f, hf⟩ : ∃ f, 5 - k = f + 1 := ⟨4 - k, by omega⟩
  rw [hf, cutGo, if_pos h, if_pos hb]
theorem cutGo_step {l : List UInt8} {n : Int} {k : Nat} {lo hi r : Int} (h : (k : Int) ≤ n) (hk : k ≤ 4) (h1 : k ≠ l.length) (h2 : lo ≤ bt l k) (h3 : bt l k ≤ hi) :
    cutGo l n (5 - k) k lo hi r = cutGo l n (5 - (k + 1)) (k + 1) 128 191 (r * 64 + bt l k % 64) := by
  obtain ⟨f, hf⟩ : ∃ f, 5 - k = f + 1 := ⟨4 - k, by omega⟩
  rw [hf, cutGo, if_pos h, if_neg (by omega)]
  congr 1
  omega

theorem fl_cases (c : Int) : (fl c = (0, 0, 0) ∧ (c < 194 ∨ 244 < c)) ∨ ∃ n lo hi, fl c = (n, lo, hi) ∧ 194 ≤ c ∧ c ≤ 244 ∧ 128 ≤ lo ∧ lo ≤ 160 ∧ 143 ≤ hi ∧ hi ≤ 191 ∧
    ((n = 1 ∧ c ≤ 223 ∧ lo = 128 ∧ hi = 191) ∨ (n = 2 ∧ 224 ≤ c ∧ c ≤ 239 ∧ (c = 224 → lo = 160) ∧ (c ≠ 224 → lo = 128) ∧ (c = 237 → hi = 159) ∧ (c ≠ 237 → hi = 191)) ∨
     (n = 3 ∧ 240 ≤ c ∧ (c = 240 → lo = 144) ∧ (c ≠ 240 → lo = 128) ∧ (c = 244 → hi = 143) ∧ (c ≠ 244 → hi = 191))) := by
  unfold fl
  split
  · right; refine ⟨_, _, _, rfl, ?_⟩; omega
  split
  · right; refine ⟨_, _, _, rfl, ?_⟩; omega
  split
  · right; refine ⟨_, _, _, rfl, ?_⟩; omega
  split
  · right; refine ⟨_, _, _, rfl, ?_⟩; omega
  split
  · right; refine ⟨_, _, _, rfl, ?_⟩; omega
  split
  · right; refine ⟨_, _, _, rfl, ?_⟩; omega
  split
  · right; refine ⟨_, _, _, rfl, ?_⟩; omega
  · left; exact ⟨rfl, by omega⟩

theorem bt_zero (a : UInt8) (l : List UInt8) : bt (a :: l) 0 = a.toNat := rfl
theorem bt_succ (a : UInt8) (l : List UInt8) (i : Nat) : bt (a :: l) (i + 1) = bt l i := by simp [bt]

/-- What a cut of a list that isn't empty comes to: a rune of 1 to 4 bytes, or none of 1 to 3. -/
structure Cut (l : List UInt8) (r n : Int) (g : Bool) : Prop where
  pos : 1 ≤ n
  le : n ≤ l.length
  four : n ≤ 4
  r0 : 0 ≤ r
  r1 : r ≤ 1114111

theorem cutS_nil : cutS [] = (0, 0, false) := rfl

theorem len_pos {l : List UInt8} (h : l ≠ []) : 0 < l.length := List.length_pos_iff.2 h

/-- The ways of a cut, one by one. -/
theorem cutS_ways (l : List UInt8) (h : l ≠ []) :
    (bt l 0 < 128 ∧ cutS l = (bt l 0, 1, true)) ∨
    (∃ n : Int, 1 ≤ n ∧ n ≤ 3 ∧ n ≤ l.length ∧ cutS l = (65533, n, false)) ∨
    (2 ≤ l.length ∧ 194 ≤ bt l 0 ∧ bt l 0 ≤ 223 ∧ 128 ≤ bt l 1 ∧ bt l 1 ≤ 191 ∧ cutS l = (bt l 0 % 32 * 64 + bt l 1 % 64, 2, true)) ∨
    (3 ≤ l.length ∧ 224 ≤ bt l 0 ∧ bt l 0 ≤ 239 ∧ 128 ≤ bt l 1 ∧ bt l 1 ≤ 191 ∧ (bt l 0 = 224 → 160 ≤ bt l 1) ∧ (bt l 0 = 237 → bt l 1 ≤ 159) ∧ 128 ≤ bt l 2 ∧ bt l 2 ≤ 191 ∧
      cutS l = ((bt l 0 % 16 * 64 + bt l 1 % 64) * 64 + bt l 2 % 64, 3, true)) ∨
    (4 ≤ l.length ∧ 240 ≤ bt l 0 ∧ bt l 0 ≤ 244 ∧ 128 ≤ bt l 1 ∧ bt l 1 ≤ 191 ∧ (bt l 0 = 240 → 144 ≤ bt l 1) ∧ (bt l 0 = 244 → bt l 1 ≤ 143) ∧ 128 ≤ bt l 2 ∧ bt l 2 ≤ 191 ∧ 128 ≤ bt l 3 ∧ bt l 3 ≤ 191 ∧
      cutS l = (((bt l 0 % 8 * 64 + bt l 1 % 64) * 64 + bt l 2 % 64) * 64 + bt l 3 % 64, 4, true)) := by
  have hl := len_pos h
  unfold cutS
  rw [if_neg h]
  by_cases h1 : bt l 0 < 128
  · rw [if_pos h1]; exact Or.inl ⟨h1, rfl⟩
  rw [if_neg h1]
  rcases fl_cases (bt l 0) with ⟨hf, hc⟩ | ⟨n, lo, hi, hf, c1, c2, c3, c4, c5, c6, hn⟩
  · rw [if_pos (by rw [hf])]; exact Or.inr (Or.inl ⟨1, by omega, by omega, by omega, rfl⟩)
  rw [hf]
  rw [if_neg (by simp only; omega)]
  simp only
  rw [show (4 : Nat) = 5 - 1 from rfl]
  by_cases b1 : 1 = l.length ∨ bt l 1 < lo ∨ hi < bt l 1
  · rw [cutGo_bad (by omega) (by omega) b1]; exact Or.inr (Or.inl ⟨1, by omega, by omega, by omega, rfl⟩)
  rw [cutGo_step (by omega) (by omega) (by omega) (by omega) (by omega)]
  rcases hn with ⟨rfl, hn⟩ | ⟨rfl, hn⟩ | ⟨rfl, hn⟩
  · rw [cutGo_done (by omega) (by omega)]
    refine Or.inr (Or.inr (Or.inl ⟨by omega, by omega, by omega, by omega, by omega, ?_⟩))
    rfl
  all_goals
    by_cases b2 : 1 + 1 = l.length ∨ bt l (1 + 1) < 128 ∨ 191 < bt l (1 + 1)
    · rw [cutGo_bad (by omega) (by omega) b2]; exact Or.inr (Or.inl ⟨2, by omega, by omega, by omega, rfl⟩)
    rw [cutGo_step (by omega) (by omega) (by omega) (by omega) (by omega)]
  · rw [cutGo_done (by omega) (by omega)]
    refine Or.inr (Or.inr (Or.inr (Or.inl ⟨by omega, by omega, by omega, by omega, by omega, by omega, by omega, by simp only [Nat.reduceAdd] at b2; omega, by simp only [Nat.reduceAdd] at b2; omega, rfl⟩)))
  · by_cases b3 : 1 + 1 + 1 = l.length ∨ bt l (1 + 1 + 1) < 128 ∨ 191 < bt l (1 + 1 + 1)
    · rw [cutGo_bad (by omega) (by omega) b3]; exact Or.inr (Or.inl ⟨3, by omega, by omega, by omega, rfl⟩)
    rw [cutGo_step (by omega) (by omega) (by omega) (by omega) (by omega), cutGo_done (by omega) (by omega)]
    simp only [Nat.reduceAdd] at b2 b3
    exact Or.inr (Or.inr (Or.inr (Or.inr ⟨by omega, by omega, by omega, by omega, by omega, by omega, by omega, by omega, by omega, by omega, by omega, rfl⟩)))

theorem cutS_bd (l : List UInt8) (h : l ≠ []) : 1 ≤ (cutS l).2.1 ∧ (cutS l).2.1 ≤ l.length ∧ (cutS l).2.1 ≤ 4 ∧ 0 ≤ (cutS l).1 ∧ (cutS l).1 ≤ 1114111 := by
  have hl := len_pos h
  have h0 := bt_lt l 0
  rcases cutS_ways l h with ⟨_, e⟩ | ⟨n, _, _, _, e⟩ | ⟨_, _, _, _, _, e⟩ | ⟨_, _, _, _, _, _, _, _, _, e⟩ | ⟨_, _, _, _, _, _, _, _, _, _, _, e⟩ <;> rw [e] <;> simp only <;> omega

theorem cutS_none (l : List UInt8) (h : (cutS l).2.2 = false) (hl : l ≠ []) : (cutS l).1 = 65533 := by
  rcases cutS_ways l hl with ⟨_, e⟩ | ⟨n, _, _, _, e⟩ | ⟨_, _, _, _, _, e⟩ | ⟨_, _, _, _, _, _, _, _, _, e⟩ | ⟨_, _, _, _, _, _, _, _, _, _, _, e⟩ <;> rw [e] at h ⊢ <;> simp at h ⊢

/-- How many bytes a cut takes, as a Nat. -/
def cutN (l : List UInt8) : Nat := (cutS l).2.1.toNat
theorem cutN_bd (l : List UInt8) (h : l ≠ []) : 1 ≤ cutN l ∧ cutN l ≤ l.length ∧ cutN l ≤ 4 ∧ (cutS l).2.1 = cutN l := by
  have := cutS_bd l h; unfold cutN; omega
theorem drop_lt (l : List UInt8) (h : l ≠ []) : (l.drop (cutN l)).length < l.length := by
  have := cutN_bd l h; have := len_pos h; simp; omega

def decF : Nat → List UInt8 → List Int
  | 0, _ => []
  | f + 1, l => if l = [] then [] else (cutS l).1 :: decF f (l.drop (cutN l))
/-- The runes of bytes. -/
def dec (l : List UInt8) : List Int := decF l.length l
def valF : Nat → List UInt8 → Bool
  | 0, _ => true
  | f + 1, l => if l = [] then true else (cutS l).2.2 && valF f (l.drop (cutN l))
/-- Are bytes those of runes alone? -/
def val (l : List UInt8) : Bool := valF l.length l

theorem decF_more : ∀ (f : Nat) (l : List UInt8), l.length ≤ f → decF f l = dec l := by
  intro f
  induction f using Nat.strongRecOn with
  | _ f ih =>
    intro l hl
    unfold dec
    by_cases h : l = []
    · subst h; cases f <;> simp [decF]
    · have hd := drop_lt l h
      have := len_pos h
      obtain ⟨f', rfl⟩ : ∃ f', f = f' + 1 := ⟨f - 1, by omega⟩
      obtain ⟨m, hm⟩ : ∃ m, l.length = m + 1 := ⟨l.length - 1, by omega⟩
      rw [hm, decF, decF, if_neg h, if_neg h, ih f' (by omega) _ (by omega)]
      congr 1
      by_cases hf : m = f'
      · subst hf; rw [ih m (by omega) _ (by omega)]
      · rw [ih m (by omega) _ (by omega)]
theorem valF_more : ∀ (f : Nat) (l : List UInt8), l.length ≤ f → valF f l = val l := by
  intro f
  induction f using Nat.strongRecOn with
  | _ f ih =>
    intro l hl
    unfold val
    by_cases h : l = []
    · subst h; cases f <;> simp [valF]
    · have hd := drop_lt l h
      have := len_pos h
      obtain ⟨f', rfl⟩ : ∃ f', f = f' + 1 := ⟨f - 1, by omega⟩
      obtain ⟨m, hm⟩ : ∃ m, l.length = m + 1 := ⟨l.length - 1, by omega⟩
      rw [hm, valF, valF, if_neg h, if_neg h, ih f' (by omega) _ (by omega), ih m (by omega) _ (by omega)]
theorem dec_nil : dec [] = [] := rfl
theorem val_nil : val [] = true := rfl
theorem dec_cons (l : List UInt8) (h : l ≠ []) : dec l = (cutS l).1 :: dec (l.drop (cutN l)) := by
  have hd := drop_lt l h
  have := len_pos h
  rw [show dec l = decF (l.length - 1 + 1) l from by unfold dec; congr 1; omega, decF, if_neg h, decF_more _ _ (by omega)]
theorem val_cons (l : List UInt8) (h : l ≠ []) : val l = ((cutS l).2.2 && val (l.drop (cutN l))) := by
  have hd := drop_lt l h
  have := len_pos h
  rw [show val l = valF (l.length - 1 + 1) l from by unfold val; congr 1; omega, valF, if_neg h, valF_more _ _ (by omega)]

theorem list_ind {P : List UInt8 → Prop} (h0 : P []) (h1 : ∀ l, l ≠ [] → P (l.drop (cutN l)) → P l) : ∀ l, P l := by
  intro l
  generalize hn : l.length = n
  induction n using Nat.strongRecOn generalizing l with
  | _ n ih =>
    by_cases h : l = []
    · subst h; exact h0
    · exact h1 l h (ih _ (by rw [← hn]; exact drop_lt l h) _ rfl)

theorem dec_len : ∀ l, (dec l).length ≤ l.length := by
  refine list_ind (by simp [dec_nil]) fun l h ih => ?_
  have hd := drop_lt l h
  rw [dec_cons l h]; simp only [List.length_cons]; omega
theorem dec_bd : ∀ l, ∀ x ∈ dec l, 0 ≤ x ∧ x ≤ 1114111 := by
  refine list_ind (by simp [dec_nil]) fun l h ih => ?_
  rw [dec_cons l h]
  intro x hx
  rcases List.mem_cons.1 hx with rfl | hx
  · have := cutS_bd l h; omega
  · exact ih x hx

theorem cutS_sign (t : List UInt8) : cutS (239 :: 191 :: 189 :: t) = (65533, 3, true) := by
  have b0 : bt (239 :: 191 :: 189 :: t) 0 = 239 := rfl
  have b1 : bt (239 :: 191 :: 189 :: t) 1 = 191 := rfl
  have b2 : bt (239 :: 191 :: 189 :: t) 2 = 189 := rfl
  rcases cutS_ways (239 :: 191 :: 189 :: t) (by simp) with ⟨_, e⟩ | ⟨n, _, _, _, e⟩ | ⟨_, _, _, _, _, e⟩ | ⟨_, _, _, _, _, _, _, _, _, e⟩ | ⟨_, _, _, _, _, _, _, _, _, _, _, e⟩
  · omega
  · unfold cutS at e
    rw [if_neg (by simp), if_neg (by omega), b0, show fl 239 = (2, 128, 191) from rfl, if_neg (by simp), show (4 : Nat) = 5 - 1 from rfl,
      cutGo_step (by simp) (by omega) (by simp) (by rw [b1]; decide) (by rw [b1]; decide), cutGo_step (by simp) (by omega) (by simp) (by show _ ≤ bt _ 2; rw [b2]; decide) (by show bt _ 2 ≤ _; rw [b2]; decide), cutGo_done (by simp) (by omega)] at e
    simp at e
  · omega
  · rw [e, b0, b1, b2]; rfl
  · omega

theorem take_three (l : List UInt8) (h : 3 ≤ l.length) (a b c : UInt8) (h0 : bt l 0 = a.toNat) (h1 : bt l 1 = b.toNat) (h2 : bt l 2 = c.toNat) : l.take 3 = [a, b, c] := by
  match l, h with
  | x :: y :: z :: t, _ =>
    have e (u v : UInt8) (h : (u.toNat : Int) = v.toNat) : u = v := UInt8.toNat_inj.1 (by omega)
    have e0 := e x a h0
    have e1 := e y b h1
    have e2 := e z c h2
    subst e0 e1 e2
    rfl
theorem good_iff (l : List UInt8) (h : l ≠ []) : (cutS l).2.2 = true ↔ ((cutS l).1 = 65533 → l.take (cutN l) = [239, 191, 189]) := by
  constructor
  · intro hg hr
    have h0 := bt_lt l 0
    rcases cutS_ways l h with ⟨_, e⟩ | ⟨n, _, _, _, e⟩ | ⟨_, _, _, _, _, e⟩ | ⟨hl, _, _, _, _, _, _, _, _, e⟩ | ⟨_, _, _, _, _, _, _, _, _, _, _, e⟩
    · rw [e] at hr; simp at hr; omega
    · rw [e] at hg; simp at hg
    · rw [e] at hr; simp at hr; omega
    · rw [e] at hr
      simp at hr
      have : cutN l = 3 := by unfold cutN; rw [e]; rfl
      rw [this]
      exact take_three l hl 239 191 189 (by simp; omega) (by simp; omega) (by simp; omega)
    · rw [e] at hr; simp at hr; omega
  · intro hc
    cases hg : (cutS l).2.2
    · have h1 := hc (cutS_none l hg h)
      have : l = 239 :: 191 :: 189 :: l.drop (cutN l) := by
        have := List.take_append_drop (cutN l) l
        rw [h1] at this
        exact this.symm
      rw [this, cutS_sign] at hg
      simp at hg
    · rfl
theorem good_sign (l : List UInt8) (h : l ≠ []) (h2 : (!List.take (cutN l) l == [239, 191, 189]) = false) : (cutS l).2.2 = true := (good_iff l h).2 fun _ => by simpa using h2
theorem good_other (l : List UInt8) (h : l ≠ []) (h1 : ¬ (cutS l).1 = 65533) : (cutS l).2.2 = true := (good_iff l h).2 fun h2 => absurd h2 h1
theorem bad_sign (l : List UInt8) (h : l ≠ []) (h1 : (cutS l).1 = 65533) (h2 : (!List.take (cutN l) l == [239, 191, 189]) = true) : (cutS l).2.2 = false := by
  cases hg : (cutS l).2.2
  · rfl
  · have := (good_iff l h).1 hg h1
    simp [this] at h2
end Go.Proofs.Ytahndjgamoojkaa

/- Plain mathematics of layer 1: runes as bytes. Nothing of the program. -/
namespace Go.Proofs.Ytahndjgamoojkaa

/-- May it be a rune? -/
def isR (r : Int) : Bool := decide (0 ≤ r ∧ r ≤ 1114111 ∧ ¬ (55296 ≤ r ∧ r ≤ 57343))
/-- How many bytes follow the first. -/
def folN (r : Int) : Nat := if r < 128 then 0 else if r < 2048 then 1 else if r < 65536 then 2 else 3
/-- The bytes of a rune that may be, as numbers. -/
def encR (r : Int) : List Int :=
  if r < 128 then [r]
  else if r < 2048 then [192 + r / 64, 128 + r % 64]
  else if r < 65536 then [224 + r / 4096, 128 + r / 64 % 64, 128 + r % 64]
  else [240 + r / 262144, 128 + r / 4096 % 64, 128 + r / 64 % 64, 128 + r % 64]
/-- The bytes of any rune. -/
def encI (r : Int) : List Int := if isR r then encR r else encR 65533
/-- A number as a byte. -/
def u8 (n : Int) : UInt8 := UInt8.ofNat n.toNat
def enc (r : Int) : List UInt8 := (encI r).map u8
def encAll (l : List Int) : List UInt8 := (l.flatMap encI).map u8
end Go.Proofs.Ytahndjgamoojkaa

/- Conversions of bytes into a text. -/
namespace Go.Proofs.Ytahndjgamoojkaa
open Go.RowKit

theorem run_str {P : Program} (w : World) (src dst e : TypeId) (hs : P.underlying src = some (.slice e)) (he : P.underlying e = some (.int .u8)) (hd : P.underlying dst = some .string) {v : Value} {xs : List Int} (h : IntSl .u8 w v xs) :
    (convert src dst v).run P w = .ok (.string ⟨(xs.map u8).toArray⟩) w := by
  rcases h with ⟨rfl, a, c, rfl⟩ | ⟨b, off, c, rfl, h⟩
  · cases a with
    | none => exact run_convert_bytes_nil w src e hs he 0 c dst hd
    | some a => exact run_convert_bytes_back w src dst e a c [] hs he hd (fun j hj => absurd hj (by simp))
  · exact run_convert_bytes_arg w src e hs he b off xs.length c xs rfl h dst hd

theorem run_str_new {P : Program} (w : World) (src dst e E : TypeId) (hs : P.underlying src = some (.slice e)) (he : P.underlying e = some (.int .u8)) (hd : P.underlying dst = some .string) (xs : List Int) (n c : Nat) (hn : n = xs.length) :
    (convert src dst (.slice (some ⟨w.heap.size, 0, none⟩) n c)).run P (w.alloc (.cells (xs.map (Value.int .u8)).toArray E)) = .ok (.string ⟨(xs.map u8).toArray⟩) (w.alloc (.cells (xs.map (Value.int .u8)).toArray E)) := by
  subst hn
  refine run_str _ src dst e hs he hd (Or.inr ⟨w.heap.size, 0, c, rfl, fun j hj => ?_⟩)
  rw [Nat.zero_add, World.cell?_alloc_mark]
  simp [List.getD, hj]

theorem nums_u8 (l : List UInt8) : (nums l).map u8 = l := by
  unfold nums
  rw [List.map_map]
  have : (u8 ∘ fun c : UInt8 => ((c.toNat : Nat) : Int)) = id := by funext c; simp [u8]
  rw [this]; simp
end Go.Proofs.Ytahndjgamoojkaa

/- Layer 18, plain: CRC-32 as a machine over bits: it is linear, it is turned by each bit, a burst is always seen. -/
namespace Go.Proofs.Ytahndjgamoojkaa

/-- The sum's polynomial. -/
def poly18 : BitVec 32 := 0xedb88320#32
/-- One bit's step. -/
def shC (x : BitVec 32) : BitVec 32 := (x >>> 1) ^^^ (if x.getLsbD 0 = true then poly18 else 0#32)
def shK : Nat → BitVec 32 → BitVec 32
  | 0, x => x
  | k + 1, x => shK k (shC x)
theorem xor4 (a b c d : BitVec 32) : (a ^^^ b) ^^^ (c ^^^ d) = (a ^^^ c) ^^^ (b ^^^ d) := by
  apply BitVec.eq_of_getLsbD_eq
  intro i _
  simp only [BitVec.getLsbD_xor]
  cases a.getLsbD i <;> cases b.getLsbD i <;> cases c.getLsbD i <;> cases d.getLsbD i <;> rfl
theorem if_xor (p q : Bool) (z : BitVec 32) : (if (p ^^ q) = true then z else 0#32) = (if p = true then z else 0#32) ^^^ (if q = true then z else 0#32) := by
  cases p <;> cases q <;> simp
theorem shC_xor (x y : BitVec 32) : shC (x ^^^ y) = shC x ^^^ shC y := by
  unfold shC
  rw [BitVec.ushiftRight_xor_distrib, BitVec.getLsbD_xor, if_xor, xor4]
theorem shC_zero : shC 0#32 = 0#32 := by decide
theorem shC_msb (x : BitVec 32) : (shC x).getLsbD 31 = x.getLsbD 0 := by
  unfold shC
  rw [BitVec.getLsbD_xor, BitVec.getLsbD_ushiftRight, BitVec.getLsbD_of_ge x (1 + 31) (by omega)]
  cases x.getLsbD 0 <;> decide
theorem shC_inj {x : BitVec 32} (h : shC x = 0#32) : x = 0#32 := by
  have h0 : x.getLsbD 0 = false := by rw [← shC_msb, h]; decide
  have h1 : x >>> 1 = 0#32 := by
    unfold shC at h
    rw [h0] at h
    simpa using h
  apply BitVec.eq_of_getLsbD_eq
  intro i hi
  rw [BitVec.getLsbD_zero]
  cases i with
  | zero => exact h0
  | succ i =>
    have := congrArg (fun y => y.getLsbD i) h1
    simp only [BitVec.getLsbD_ushiftRight, BitVec.getLsbD_zero] at this
    rw [Nat.add_comm 1 i] at this
    exact this
theorem shK_xor : ∀ (k : Nat) (x y : BitVec 32), shK k (x ^^^ y) = shK k x ^^^ shK k y
  | 0, _, _ => rfl
  | k + 1, x, y => by rw [shK, shK, shK, shC_xor, shK_xor k]
theorem shK_zero : ∀ k, shK k 0#32 = 0#32
  | 0 => rfl
  | k + 1 => by rw [shK, shC_zero, shK_zero k]
theorem shK_inj : ∀ (k : Nat) {x : BitVec 32}, shK k x = 0#32 → x = 0#32
  | 0, _, h => h
  | k + 1, _, h => shC_inj (shK_inj k h)
theorem shK_add : ∀ (j k : Nat) (x : BitVec 32), shK (j + k) x = shK k (shK j x)
  | 0, k, x => by rw [Nat.zero_add]; rfl
  | j + 1, k, x => by rw [show j + 1 + k = (j + k) + 1 by omega, shK, shK, shK_add j k]

/-- One bit read. -/
def bitC (x : BitVec 32) (b : Bool) : BitVec 32 := shC (x ^^^ (if b = true then 1#32 else 0#32))
def runC (x : BitVec 32) (l : List Bool) : BitVec 32 := l.foldl bitC x
theorem runC_app (x : BitVec 32) (a b : List Bool) : runC x (a ++ b) = runC (runC x a) b := by unfold runC; rw [List.foldl_append]
theorem bitC_xor (x y : BitVec 32) (a b : Bool) : bitC (x ^^^ y) (a ^^ b) = bitC x a ^^^ bitC y b := by
  unfold bitC
  rw [← shC_xor, if_xor, xor4]
/-- What is read of bits that are turned. -/
theorem runC_xor : ∀ (a b : List Bool) (x y : BitVec 32), a.length = b.length → runC (x ^^^ y) (List.zipWith (· ^^ ·) a b) = runC x a ^^^ runC y b
  | [], [], x, y, _ => rfl
  | p :: a, q :: b, x, y, h => by
    have ih := runC_xor a b (bitC x p) (bitC y q) (by simpa using h)
    rw [← bitC_xor] at ih
    exact ih
theorem runC_zero : ∀ k : Nat, runC 0#32 (List.replicate k false) = 0#32
  | 0 => rfl
  | k + 1 => by
    have e : bitC 0#32 false = 0#32 := by decide
    rw [List.replicate_succ]
    show runC (bitC 0#32 false) (List.replicate k false) = _
    rw [e]
    exact runC_zero k
/-- Bits as a number, the lowest first. -/
def numC18 : List Bool → Nat
  | [] => 0
  | b :: l => (if b = true then 1 else 0) + 2 * numC18 l
theorem numC18_lt : ∀ l : List Bool, numC18 l < 2 ^ l.length
  | [] => by simp [numC18]
  | b :: l => by
    have := numC18_lt l
    rw [numC18, List.length_cons, Nat.pow_succ]
    split <;> omega
theorem shC_even (n : Nat) (h : n < 2 ^ 31) : shC (BitVec.ofNat 32 (2 * n)) = BitVec.ofNat 32 n := by
  unfold shC
  have h0 : (BitVec.ofNat 32 (2 * n)).getLsbD 0 = false := by
    rw [BitVec.getLsbD_ofNat]
    simp [Nat.testBit_zero]
  rw [h0]
  have h1 : BitVec.ofNat 32 (2 * n) >>> 1 = BitVec.ofNat 32 n := by
    apply BitVec.eq_of_toNat_eq
    rw [BitVec.toNat_ushiftRight, BitVec.toNat_ofNat, BitVec.toNat_ofNat, Nat.mod_eq_of_lt (by omega), Nat.mod_eq_of_lt (by omega), Nat.shiftRight_eq_div_pow]
    omega
  rw [h1]
  simp
theorem ofNat_cons (b : Bool) (n : Nat) (h : n < 2 ^ 31) : BitVec.ofNat 32 ((if b = true then 1 else 0) + 2 * n) = (if b = true then 1#32 else 0#32) ^^^ BitVec.ofNat 32 (2 * n) := by
  apply BitVec.eq_of_toNat_eq
  cases b
  · simp
  · simp only [if_true, BitVec.toNat_xor, BitVec.toNat_ofNat]
    rw [Nat.mod_eq_of_lt (by omega), Nat.mod_eq_of_lt (by omega), Nat.mod_eq_of_lt (by omega)]
    have : 1 ^^^ (2 * n) = 2 * n + 1 := by
      rw [Nat.xor_comm]
      apply Nat.eq_of_testBit_eq
      intro i
      rw [Nat.testBit_xor]
      cases i with
      | zero => simp [Nat.testBit_zero]
      | succ i =>
        rw [Nat.testBit_succ, Nat.testBit_succ, Nat.testBit_succ]
        have e1 : 2 * n / 2 = n := by omega
        have e2 : (2 * n + 1) / 2 = n := by omega
        rw [e1, e2]
        simp
    rw [this]
    omega
/-- Up to 32 bits read are their number, moved on. -/
theorem runC_num : ∀ (l : List Bool) (x : BitVec 32), l.length ≤ 32 → runC x l = shK l.length (x ^^^ BitVec.ofNat 32 (numC18 l))
  | [], x, _ => by simp [runC, shK, numC18]
  | b :: l, x, h => by
    have hl : l.length ≤ 31 := by simpa using h
    have hn := numC18_lt l
    have hn2 : numC18 l < 2 ^ 31 := Nat.lt_of_lt_of_le hn (Nat.pow_le_pow_right (by decide) hl)
    have ih := runC_num l (bitC x b) (by omega)
    show runC (bitC x b) l = _
    rw [ih, List.length_cons, shK, numC18, ofNat_cons b _ hn2]
    congr 1
    unfold bitC
    rw [← BitVec.xor_assoc, shC_xor (x ^^^ _) (BitVec.ofNat 32 (2 * numC18 l)), shC_even _ hn2]
theorem numC18_zero : ∀ l : List Bool, numC18 l = 0 → l = List.replicate l.length false
  | [], _ => rfl
  | b :: l, h => by
    rw [numC18] at h
    have h1 : numC18 l = 0 := by omega
    have h2 : b = false := by cases b; rfl; simp at h
    rw [List.length_cons, List.replicate_succ, h2, ← numC18_zero l h1]
/-- A burst of up to 32 bits that leaves the reader where it was turns nothing. -/
theorem burst_seen (a b : Nat) (w : List Bool) (hw : w.length ≤ 32) (h : runC 0#32 (List.replicate a false ++ w ++ List.replicate b false) = 0#32) : w = List.replicate w.length false := by
  rw [runC_app, runC_app, runC_zero] at h
  have h1 : runC 0#32 w = 0#32 := by
    rw [runC_num _ _ hw, BitVec.zero_xor] at h ⊢
    have key : ∀ (k : Nat) (x : BitVec 32), runC x (List.replicate k false) = shK k x := by
      intro k
      induction k with
      | zero => intro x; rfl
      | succ k ih =>
        intro x
        rw [List.replicate_succ]
        show runC (bitC x false) _ = _
        rw [ih]
        unfold bitC
        simp [shK]
    rw [key] at h
    exact shK_inj b h
  rw [runC_num _ _ hw, BitVec.zero_xor] at h1
  have h2 := shK_inj _ h1
  have h3 : numC18 w = 0 := by
    have hn := numC18_lt w
    have hn2 : numC18 w < 2 ^ 32 := Nat.lt_of_lt_of_le hn (Nat.pow_le_pow_right (by decide) hw)
    have := congrArg BitVec.toNat h2
    rw [BitVec.toNat_ofNat, Nat.mod_eq_of_lt hn2] at this
    simpa using this
  exact numC18_zero w h3
end Go.Proofs.Ytahndjgamoojkaa
