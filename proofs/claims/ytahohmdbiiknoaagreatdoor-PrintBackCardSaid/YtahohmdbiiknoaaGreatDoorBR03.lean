/- Plain mathematics of layer 1: there and back. Nothing of the program. -/
import Derived.Test.YtahohmdbiiknoaaGreatDoorBR01
import Derived.Test.YtahohmdbiiknoaaGreatDoorBR02
import Derived.Lib.IndexMore
namespace Go.Proofs.YtahohmdbiiknoaaGreatDoor

theorem cutS_one {l : List UInt8} (h : l ≠ []) (hx : bt l 0 < 128) : cutS l = (bt l 0, 1, true) := by unfold cutS; rw [if_neg h, if_pos hx]
theorem ne_of_len {l : List UInt8} {n : Nat} (h : n + 1 ≤ l.length) : l ≠ [] := by intro e; subst e; simp at h
theorem cutS_two {l : List UInt8} (hl : 2 ≤ l.length) (h0 : 194 ≤ bt l 0) (h1 : bt l 0 ≤ 223) (h2 : 128 ≤ bt l 1) (h3 : bt l 1 ≤ 191) :
    cutS l = (bt l 0 % 32 * 64 + bt l 1 % 64, 2, true) := by
  rcases fl_cases (bt l 0) with ⟨hf, hc⟩ | ⟨n, lo, hi, hf, c1, c2, c3, c4, c5, c6, hn⟩
  · omega
  have hn1 : n = 1 ∧ lo = 128 ∧ hi = 191 := by omega
  obtain ⟨rfl, rfl, rfl⟩ := hn1
  unfold cutS
  rw [if_neg (ne_of_len hl), if_neg (by omega), hf, if_neg (by simp)]
  simp only
  rw [show (4 : Nat) = 5 - 1 from rfl, cutGo_step (by omega) (by omega) (by omega) (by omega) (by omega), cutGo_done (by omega) (by omega)]
  rfl
theorem cutS_three {l : List UInt8} (hl : 3 ≤ l.length) (h0 : 224 ≤ bt l 0) (h1 : bt l 0 ≤ 239) (h2 : 128 ≤ bt l 1) (h3 : bt l 1 ≤ 191) (h4 : bt l 0 = 224 → 160 ≤ bt l 1) (h5 : bt l 0 = 237 → bt l 1 ≤ 159) (h6 : 128 ≤ bt l 2) (h7 : bt l 2 ≤ 191) :
    cutS l = ((bt l 0 % 16 * 64 + bt l 1 % 64) * 64 + bt l 2 % 64, 3, true) := by
  rcases fl_cases (bt l 0) with ⟨hf, hc⟩ | ⟨n, lo, hi, hf, c1, c2, c3, c4, c5, c6, hn⟩
  · omega
  have hn1 : n = 2 ∧ lo ≤ bt l 1 ∧ bt l 1 ≤ hi := by omega
  obtain ⟨rfl, e1, e2⟩ := hn1
  unfold cutS
  rw [if_neg (ne_of_len hl), if_neg (by omega), hf, if_neg (by simp)]
  simp only
  rw [show (4 : Nat) = 5 - 1 from rfl, cutGo_step (by omega) (by omega) (by omega) (by omega) (by omega), cutGo_step (by omega) (by omega) (by omega) (by show _ ≤ bt l 2; omega) (by show bt l 2 ≤ _; omega), cutGo_done (by omega) (by omega)]
  rfl
theorem cutS_four {l : List UInt8} (hl : 4 ≤ l.length) (h0 : 240 ≤ bt l 0) (h1 : bt l 0 ≤ 244) (h2 : 128 ≤ bt l 1) (h3 : bt l 1 ≤ 191) (h4 : bt l 0 = 240 → 144 ≤ bt l 1) (h5 : bt l 0 = 244 → bt l 1 ≤ 143) (h6 : 128 ≤ bt l 2) (h7 : bt l 2 ≤ 191) (h8 : 128 ≤ bt l 3) (h9 : bt l 3 ≤ 191) :
    cutS l = (((bt l 0 % 8 * 64 + bt l 1 % 64) * 64 + bt l 2 % 64) * 64 + bt l 3 % 64, 4, true) := by
  rcases fl_cases (bt l 0) with ⟨hf, hc⟩ | ⟨n, lo, hi, hf, c1, c2, c3, c4, c5, c6, hn⟩
  · omega
  have hn1 : n = 3 ∧ lo ≤ bt l 1 ∧ bt l 1 ≤ hi := by omega
  obtain ⟨rfl, e1, e2⟩ := hn1
  unfold cutS
  rw [if_neg (ne_of_len hl), if_neg (by omega), hf, if_neg (by simp)]
  simp only
  rw [show (4 : Nat) = 5 - 1 from rfl, cutGo_step (by omega) (by omega) (by omega) (by omega) (by omega), cutGo_step (by omega) (by omega) (by omega) (by show _ ≤ bt l 2; omega) (by show bt l 2 ≤ _; omega),
    cutGo_step (by omega) (by omega) (by omega) (by show _ ≤ bt l 3; omega) (by show bt l 3 ≤ _; omega), cutGo_done (by omega) (by omega)]
  rfl

theorem u8_nat {n : Int} (h0 : 0 ≤ n) (h1 : n ≤ 255) : ((u8 n).toNat : Int) = n := by
  unfold u8; rw [UInt8.toNat_ofNat']; omega
theorem u8_bt {n : Int} (l : List UInt8) (h0 : 0 ≤ n) (h1 : n ≤ 255) : bt (u8 n :: l) 0 = n := u8_nat h0 h1

theorem encR_ways (r : Int) : (r < 128 ∧ encR r = [r]) ∨ (128 ≤ r ∧ r < 2048 ∧ encR r = [192 + r / 64, 128 + r % 64]) ∨
      (2048 ≤ r ∧ r < 65536 ∧ encR r = [224 + r / 4096, 128 + r / 64 % 64, 128 + r % 64]) ∨
      (65536 ≤ r ∧ encR r = [240 + r / 262144, 128 + r / 4096 % 64, 128 + r / 64 % 64, 128 + r % 64]) := by
  unfold encR
  by_cases h1 : r < 128
  · rw [if_pos h1]; exact Or.inl ⟨h1, rfl⟩
  · by_cases h2 : r < 2048
    · rw [if_neg h1, if_pos h2]; exact Or.inr (Or.inl ⟨by omega, h2, rfl⟩)
    · by_cases h3 : r < 65536
      · rw [if_neg h1, if_neg h2, if_pos h3]; exact Or.inr (Or.inr (Or.inl ⟨by omega, h3, rfl⟩))
      · rw [if_neg h1, if_neg h2, if_neg h3]; exact Or.inr (Or.inr (Or.inr ⟨by omega, rfl⟩))

theorem isR_iff (r : Int) : isR r = true ↔ (0 ≤ r ∧ r ≤ 1114111 ∧ ¬ (55296 ≤ r ∧ r ≤ 57343)) := by unfold isR; rw [decide_eq_true_iff]

/-- A rune's bytes are cut as the rune. -/
theorem cut_encR (r : Int) (h : isR r = true) (t : List UInt8) : cutS ((encR r).map u8 ++ t) = (r, ((encR r).length : Int), true) := by
  obtain ⟨h0, h1, h2⟩ := (isR_iff r).1 h
  rcases encR_ways r with ⟨c1, e⟩ | ⟨c1, c2, e⟩ | ⟨c1, c2, e⟩ | ⟨c1, e⟩ <;> rw [e]
  · have b0 : bt ([r].map u8 ++ t) 0 = r := u8_nat (by omega) (by omega)
    rw [cutS_one (by simp) (by omega), b0]; rfl
  · have b0 : bt ([192 + r / 64, 128 + r % 64].map u8 ++ t) 0 = 192 + r / 64 := u8_nat (by omega) (by omega)
    have b1 : bt ([192 + r / 64, 128 + r % 64].map u8 ++ t) 1 = 128 + r % 64 := u8_nat (by omega) (by omega)
    rw [cutS_two (by simp) (by omega) (by omega) (by omega) (by omega), b0, b1]
    refine Prod.ext ?_ rfl; simp only; omega
  · have b0 : bt ([224 + r / 4096, 128 + r / 64 % 64, 128 + r % 64].map u8 ++ t) 0 = 224 + r / 4096 := u8_nat (by omega) (by omega)
    have b1 : bt ([224 + r / 4096, 128 + r / 64 % 64, 128 + r % 64].map u8 ++ t) 1 = 128 + r / 64 % 64 := u8_nat (by omega) (by omega)
    have b2 : bt ([224 + r / 4096, 128 + r / 64 % 64, 128 + r % 64].map u8 ++ t) 2 = 128 + r % 64 := u8_nat (by omega) (by omega)
    rw [cutS_three (by simp) (by omega) (by omega) (by omega) (by omega) (by omega) (by omega) (by omega) (by omega), b0, b1, b2]
    refine Prod.ext ?_ rfl; simp only; omega
  · have b0 : bt ([240 + r / 262144, 128 + r / 4096 % 64, 128 + r / 64 % 64, 128 + r % 64].map u8 ++ t) 0 = 240 + r / 262144 := u8_nat (by omega) (by omega)
    have b1 : bt ([240 + r / 262144, 128 + r / 4096 % 64, 128 + r / 64 % 64, 128 + r % 64].map u8 ++ t) 1 = 128 + r / 4096 % 64 := u8_nat (by omega) (by omega)
    have b2 : bt ([240 + r / 262144, 128 + r / 4096 % 64, 128 + r / 64 % 64, 128 + r % 64].map u8 ++ t) 2 = 128 + r / 64 % 64 := u8_nat (by omega) (by omega)
    have b3 : bt ([240 + r / 262144, 128 + r / 4096 % 64, 128 + r / 64 % 64, 128 + r % 64].map u8 ++ t) 3 = 128 + r % 64 := u8_nat (by omega) (by omega)
    rw [cutS_four (by simp) (by omega) (by omega) (by omega) (by omega) (by omega) (by omega) (by omega) (by omega) (by omega) (by omega), b0, b1, b2, b3]
    refine Prod.ext ?_ rfl; simp only; omega

/-- What a number comes back as. -/
def fixR (r : Int) : Int := if isR r then r else 65533
theorem fixR_is (r : Int) : isR (fixR r) = true := by unfold fixR; split <;> first | assumption | rfl
theorem encI_fix (r : Int) : encI r = encR (fixR r) := by unfold encI fixR; split <;> rfl
theorem encR_ne (r : Int) : 1 ≤ (encR r).length ∧ (encR r).length ≤ 4 := by rcases encR_ways r with ⟨c1, e⟩ | ⟨c1, c2, e⟩ | ⟨c1, c2, e⟩ | ⟨c1, e⟩ <;> rw [e] <;> simp
theorem enc_ne (r : Int) (t : List UInt8) : enc r ++ t ≠ [] := by
  have := encR_ne (fixR r)
  intro h
  have h2 := congrArg List.length h
  unfold enc at h2
  rw [encI_fix, List.length_append, List.length_map, List.length_nil] at h2
  omega
theorem cut_enc (r : Int) (t : List UInt8) : cutS (enc r ++ t) = (fixR r, ((enc r).length : Int), true) := by
  unfold enc; rw [encI_fix, cut_encR _ (fixR_is r)]; simp
theorem encAll_cons (r : Int) (l : List Int) : encAll (r :: l) = enc r ++ encAll l := by unfold encAll enc; simp [List.flatMap_cons]
theorem drop_enc (r : Int) (t : List UInt8) : (enc r ++ t).drop (cutN (enc r ++ t)) = t := by
  unfold cutN; rw [cut_enc]; simp
theorem dec_enc (l : List Int) : dec (encAll l) = l.map fixR ∧ val (encAll l) = true := by
  induction l with
  | nil => exact ⟨rfl, rfl⟩
  | cons r l ih =>
    rw [encAll_cons, dec_cons _ (enc_ne _ _), val_cons _ (enc_ne _ _), drop_enc, cut_enc, ih.1, ih.2]
    exact ⟨rfl, rfl⟩

theorem take_two (l : List UInt8) (h : 2 ≤ l.length) (a b : UInt8) (h0 : bt l 0 = a.toNat) (h1 : bt l 1 = b.toNat) : l.take 2 = [a, b] := by
  match l, h with
  | x :: y :: t, _ =>
    have e (u v : UInt8) (h : (u.toNat : Int) = v.toNat) : u = v := UInt8.toNat_inj.1 (by omega)
    have e0 := e x a h0
    have e1 := e y b h1
    subst e0 e1
    rfl
theorem take_one (l : List UInt8) (h : 1 ≤ l.length) (a : UInt8) (h0 : bt l 0 = a.toNat) : l.take 1 = [a] := by
  match l, h with
  | x :: t, _ =>
    have e (u v : UInt8) (h : (u.toNat : Int) = v.toNat) : u = v := UInt8.toNat_inj.1 (by omega)
    have e0 := e x a h0
    subst e0
    rfl
theorem take_four (l : List UInt8) (h : 4 ≤ l.length) (a b c d : UInt8) (h0 : bt l 0 = a.toNat) (h1 : bt l 1 = b.toNat) (h2 : bt l 2 = c.toNat) (h3 : bt l 3 = d.toNat) : l.take 4 = [a, b, c, d] := by
  match l, h with
  | x :: y :: z :: u :: t, _ =>
    have e (u v : UInt8) (h : (u.toNat : Int) = v.toNat) : u = v := UInt8.toNat_inj.1 (by omega)
    have e0 := e x a h0
    have e1 := e y b h1
    have e2 := e z c h2
    have e3 := e u d h3
    subst e0 e1 e2 e3
    rfl

/-- The bytes that were cut as a rune are its bytes. -/
theorem enc_cut (l : List UInt8) (h : l ≠ []) (hg : (cutS l).2.2 = true) : isR (cutS l).1 = true ∧ enc (cutS l).1 = l.take (cutN l) := by
  have h0 := bt_lt l 0
  have hl := len_pos h
  have key : ∀ r n, cutS l = (r, n, true) → isR r = true → (encR r).map u8 = l.take n.toNat → isR (cutS l).1 = true ∧ enc (cutS l).1 = l.take (cutN l) := by
    intro r n e h1 h2
    unfold cutN enc encI
    rw [e]; simp only; rw [h1]; exact ⟨rfl, h2⟩
  rcases cutS_ways l h with ⟨_, e⟩ | ⟨n, _, _, _, e⟩ | ⟨_, _, _, _, _, e⟩ | ⟨_, _, _, _, _, _, _, _, _, e⟩ | ⟨_, _, _, _, _, _, _, _, _, _, _, e⟩
  · refine key _ _ e ((isR_iff _).2 (by omega)) ?_
    rcases encR_ways (bt l 0) with ⟨c1, e1⟩ | ⟨c1, c2, e1⟩ | ⟨c1, c2, e1⟩ | ⟨c1, e1⟩ <;> try omega
    rw [e1]; exact (take_one l hl _ (u8_nat (by omega) (by omega)).symm).symm
  · rw [e] at hg; simp at hg
  · generalize hr : bt l 0 % 32 * 64 + bt l 1 % 64 = r at e
    refine key _ _ e ((isR_iff _).2 (by omega)) ?_
    rcases encR_ways r with ⟨c1, e1⟩ | ⟨c1, c2, e1⟩ | ⟨c1, c2, e1⟩ | ⟨c1, e1⟩ <;> try omega
    rw [e1]; exact (take_two l (by omega) _ _ (by rw [u8_nat (by omega) (by omega)]; omega) (by rw [u8_nat (by omega) (by omega)]; omega)).symm
  · generalize hr : (bt l 0 % 16 * 64 + bt l 1 % 64) * 64 + bt l 2 % 64 = r at e
    refine key _ _ e ((isR_iff _).2 (by omega)) ?_
    rcases encR_ways r with ⟨c1, e1⟩ | ⟨c1, c2, e1⟩ | ⟨c1, c2, e1⟩ | ⟨c1, e1⟩ <;> try omega
    rw [e1]; exact (take_three l (by omega) _ _ _ (by rw [u8_nat (by omega) (by omega)]; omega) (by rw [u8_nat (by omega) (by omega)]; omega) (by rw [u8_nat (by omega) (by omega)]; omega)).symm
  · generalize hr : ((bt l 0 % 8 * 64 + bt l 1 % 64) * 64 + bt l 2 % 64) * 64 + bt l 3 % 64 = r at e
    refine key _ _ e ((isR_iff _).2 (by omega)) ?_
    rcases encR_ways r with ⟨c1, e1⟩ | ⟨c1, c2, e1⟩ | ⟨c1, c2, e1⟩ | ⟨c1, e1⟩ <;> try omega
    rw [e1]; exact (take_four l (by omega) _ _ _ _ (by rw [u8_nat (by omega) (by omega)]; omega) (by rw [u8_nat (by omega) (by omega)]; omega) (by rw [u8_nat (by omega) (by omega)]; omega) (by rw [u8_nat (by omega) (by omega)]; omega)).symm

theorem enc_dec : ∀ l, val l = true → encAll (dec l) = l := by
  refine list_ind (fun _ => rfl) fun l h ih hv => ?_
  rw [val_cons l h] at hv
  simp only [Bool.and_eq_true] at hv
  rw [dec_cons l h, encAll_cons, ih hv.2, (enc_cut l h hv.1).2, List.take_append_drop]
/-- Bytes are runes' alone just if they are the bytes of their runes. -/
theorem val_iff (l : List UInt8) : val l = decide (encAll (dec l) = l) := by
  cases hv : val l
  · symm; simp only [decide_eq_false_iff_not]
    intro h
    have := (dec_enc (dec l)).2
    rw [h, hv] at this
    simp at this
  · simp [enc_dec l hv]

theorem bt_app (s t : List UInt8) (i : Nat) (h : i < s.length) : bt (s ++ t) i = bt s i := by
  unfold bt; simp [List.getD, List.getElem?_append_left h]
/-- A good cut is the same with more behind it. -/
theorem cut_app (s t : List UInt8) (h : s ≠ []) (hg : (cutS s).2.2 = true) : cutS (s ++ t) = cutS s := by
  have hl := len_pos h
  have b0 := bt_app s t 0 hl
  have hlen : s.length ≤ (s ++ t).length := by simp
  rcases cutS_ways s h with ⟨_, e⟩ | ⟨n, _, _, _, e⟩ | ⟨_, _, _, _, _, e⟩ | ⟨_, _, _, _, _, _, _, _, _, e⟩ | ⟨_, _, _, _, _, _, _, _, _, _, _, e⟩
  · rw [e, cutS_one (by simp [h]) (by omega), b0]
  · rw [e] at hg; simp at hg
  · have b1 := bt_app s t 1 (by omega)
    rw [e, cutS_two (by omega) (by omega) (by omega) (by omega) (by omega), b0, b1]
  · have b1 := bt_app s t 1 (by omega)
    have b2 := bt_app s t 2 (by omega)
    rw [e, cutS_three (by omega) (by omega) (by omega) (by omega) (by omega) (by omega) (by omega) (by omega) (by omega), b0, b1, b2]
  · have b1 := bt_app s t 1 (by omega)
    have b2 := bt_app s t 2 (by omega)
    have b3 := bt_app s t 3 (by omega)
    rw [e, cutS_four (by omega) (by omega) (by omega) (by omega) (by omega) (by omega) (by omega) (by omega) (by omega) (by omega) (by omega), b0, b1, b2, b3]
theorem dec_app (t : List UInt8) : ∀ s, val s = true → dec (s ++ t) = dec s ++ dec t ∧ val (s ++ t) = val t := by
  refine list_ind (fun _ => ⟨rfl, rfl⟩) fun s h ih hv => ?_
  rw [val_cons s h] at hv
  simp only [Bool.and_eq_true] at hv
  have hc := cut_app s t h hv.1
  have hn : cutN (s ++ t) = cutN s := by unfold cutN; rw [hc]
  have hb := cutN_bd s h
  have hd : (s ++ t).drop (cutN (s ++ t)) = s.drop (cutN s) ++ t := by rw [hn, List.drop_append_of_le_length hb.2.1]
  have hne : s ++ t ≠ [] := by simp [h]
  rw [dec_cons _ hne, val_cons _ hne, hd, hc, (ih hv.2).1, (ih hv.2).2, hv.1, dec_cons s h]
  exact ⟨rfl, rfl⟩
theorem encR_len (r : Int) : (enc r).length ≤ 4 := by
  unfold enc
  rw [List.length_map, encI_fix]
  exact (encR_ne _).2
end Go.Proofs.YtahohmdbiiknoaaGreatDoor

/- Layer 11, plain: a document's tokens, read from the left. Each reader answers what it read, and how many bytes that took. -/
namespace Go.Proofs.YtahohmdbiiknoaaGreatDoor

/-- What a step of a loop comes to. -/
inductive Rs (σ ε : Type) where
  | bad (e : ε)
  | stop
  | go (s : σ) (n : Nat)
section
variable {σ ε : Type}
/-- A loop over a text: what it ends with: a fault or none, its state, how many bytes it took. -/
def loopF (f : σ → List UInt8 → Rs σ ε) : Nat → σ → List UInt8 → Nat → Option ε × σ × Nat
  | 0, s, _, k => (none, s, k)
  | F + 1, s, d, k => match f s d with
    | .bad e => (some e, s, k)
    | .stop => (none, s, k)
    | .go s' n => loopF f F s' (d.drop n) (k + n)
/-- Each step takes something, and no more than there is. -/
def Steps (f : σ → List UInt8 → Rs σ ε) : Prop := ∀ s d s' n, f s d = .go s' n → 1 ≤ n ∧ n ≤ d.length
theorem loopF_fuel {f : σ → List UInt8 → Rs σ ε} (h : Steps f) : ∀ (F F' : Nat) (s : σ) (d : List UInt8) (k : Nat), d.length < F → d.length < F' → loopF f F s d k = loopF f F' s d k
  | 0, _, _, _, _, h1, _ => by omega
  | _ + 1, 0, _, _, _, _, h2 => by omega
  | F + 1, F' + 1, s, d, k, h1, h2 => by
    unfold loopF
    cases e : f s d with
    | bad x => rfl
    | stop => rfl
    | go s' n =>
      have := h s d s' n e
      exact loopF_fuel h F F' s' (d.drop n) (k + n) (by rw [List.length_drop]; omega) (by rw [List.length_drop]; omega)
def loopK (f : σ → List UInt8 → Rs σ ε) (s : σ) (d : List UInt8) (k : Nat) : Option ε × σ × Nat := loopF f (d.length + 1) s d k
theorem loopK_go {f : σ → List UInt8 → Rs σ ε} (h : Steps f) {s s' : σ} {d : List UInt8} {n : Nat} (k : Nat) (e : f s d = .go s' n) : loopK f s d k = loopK f s' (d.drop n) (k + n) := by
  have := h s d s' n e
  unfold loopK
  rw [loopF, e]
  exact loopF_fuel h _ _ _ _ _ (by rw [List.length_drop]; omega) (by omega)
theorem loopK_bad {f : σ → List UInt8 → Rs σ ε} {s : σ} {d : List UInt8} {x : ε} (k : Nat) (e : f s d = .bad x) : loopK f s d k = (some x, s, k) := by unfold loopK; rw [loopF, e]
theorem loopK_stop {f : σ → List UInt8 → Rs σ ε} {s : σ} {d : List UInt8} (k : Nat) (e : f s d = .stop) : loopK f s d k = (none, s, k) := by unfold loopK; rw [loopF, e]
/-- Induction along a loop's steps. -/
theorem loopK_ind {f : σ → List UInt8 → Rs σ ε} (h : Steps f) {P : σ → List UInt8 → Prop} (hb : ∀ s d x, f s d = .bad x → P s d) (hs : ∀ s d, f s d = .stop → P s d)
    (hg : ∀ s d s' n, f s d = .go s' n → P s' (d.drop n) → P s d) : ∀ s d, P s d := by
  have key : ∀ (N : Nat) (d : List UInt8) (s : σ), d.length ≤ N → P s d := by
    intro N
    induction N with
    | zero =>
      intro d s hd
      cases e : f s d with
      | bad x => exact hb s d x e
      | stop => exact hs s d e
      | go s' n => have := h s d s' n e; omega
    | succ N ih =>
      intro d s hd
      cases e : f s d with
      | bad x => exact hb s d x e
      | stop => exact hs s d e
      | go s' n => have := h s d s' n e; exact hg s d s' n e (ih _ _ (by rw [List.length_drop]; omega))
  exact fun s d => key d.length d s (Nat.le_refl _)
theorem loopK_le {f : σ → List UInt8 → Rs σ ε} (h : Steps f) : ∀ s d k, k ≤ (loopK f s d k).2.2 ∧ (loopK f s d k).2.2 ≤ k + d.length := by
  refine loopK_ind h (P := fun s d => ∀ k, k ≤ (loopK f s d k).2.2 ∧ (loopK f s d k).2.2 ≤ k + d.length) ?_ ?_ ?_
  · intro s d x e k; rw [loopK_bad k e]; exact ⟨Nat.le_refl _, Nat.le_add_right _ _⟩
  · intro s d e k; rw [loopK_stop k e]; exact ⟨Nat.le_refl _, Nat.le_add_right _ _⟩
  · intro s d s' n e ih k
    have := h s d s' n e
    rw [loopK_go h k e]
    have := ih (k + n)
    rw [List.length_drop] at this
    omega
/-- A loop that begins further on. -/
theorem loopK_off {f : σ → List UInt8 → Rs σ ε} (h : Steps f) : ∀ s d k j, loopK f s d (j + k) = ((loopK f s d k).1, (loopK f s d k).2.1, j + (loopK f s d k).2.2) := by
  refine loopK_ind h (P := fun s d => ∀ k j, loopK f s d (j + k) = ((loopK f s d k).1, (loopK f s d k).2.1, j + (loopK f s d k).2.2)) ?_ ?_ ?_
  · intro s d x e k j; rw [loopK_bad _ e, loopK_bad _ e]
  · intro s d e k j; rw [loopK_stop _ e, loopK_stop _ e]
  · intro s d s' n e ih k j
    rw [loopK_go h _ e, loopK_go h _ e, Nat.add_assoc, ih]
end

/-- A blank; a name's first byte; a name's byte. -/
def blI (c : Int) : Bool := decide (c = 32 ∨ c = 9 ∨ c = 10 ∨ c = 13)
def leadI (c : Int) : Bool := decide (97 ≤ c ∧ c ≤ 122 ∨ 65 ≤ c ∧ c ≤ 90 ∨ c = 95 ∨ c = 58)
def follI (c : Int) : Bool := leadI c || decide (48 ≤ c ∧ c ≤ 57 ∨ c = 45 ∨ c = 46)
/-- How many bytes of a kind stand first. -/
def spanN (p : Int → Bool) : List UInt8 → Nat
  | [] => 0
  | c :: t => if p c.toNat then spanN p t + 1 else 0
theorem spanN_le (p : Int → Bool) : ∀ l, spanN p l ≤ l.length
  | [] => Nat.le_refl _
  | c :: t => by have := spanN_le p t; unfold spanN; split <;> simp <;> omega
/-- What a loop over bytes of a kind keeps: j of them stand first. -/
def SpAtN (p : Int → Bool) (d : List UInt8) (j : Nat) : Prop := j ≤ d.length ∧ spanN p d = j + spanN p (d.drop j)
theorem SpAtN.zero (p : Int → Bool) (d : List UInt8) : SpAtN p d 0 := ⟨Nat.zero_le _, by simp⟩
theorem SpAtN.step {p : Int → Bool} {d : List UInt8} {j : Nat} (h : SpAtN p d j) (hj : j < d.length) (hp : p (bt d j) = true) : SpAtN p d (j + 1) := by
  refine ⟨hj, ?_⟩
  rw [h.2, List.drop_eq_getElem_cons hj, spanN, if_pos (by simpa [bt, List.getD, hj] using hp)]
  omega
theorem SpAtN.done {p : Int → Bool} {d : List UInt8} {j : Nat} (h : SpAtN p d j) (hj : ¬ j < d.length) : spanN p d = j := by
  rw [h.2, List.drop_eq_nil_of_le (by omega)]; rfl
theorem SpAtN.stop {p : Int → Bool} {d : List UInt8} {j : Nat} (h : SpAtN p d j) (hj : j < d.length) (hp : p (bt d j) = false) : spanN p d = j := by
  rw [h.2, List.drop_eq_getElem_cons hj, spanN, if_neg (by simpa [bt, List.getD, hj] using hp)]
  rfl
theorem bt_get0' (l : List UInt8) (k : Nat) : bt l k = ((l.getD k 0).toNat : Int) := rfl
/-- May it be a name? -/
def nameB (s : List UInt8) : Bool := decide (1 ≤ s.length ∧ s.length ≤ 64) && leadI (bt s 0) && s.all fun c => follI c.toNat
/-- A name that stands first. -/
def nameP (d : List UInt8) : Option (List UInt8 × Nat) := if nameB (d.take (spanN follI d)) then some (d.take (spanN follI d), spanN follI d) else none
/-- A ref. -/
def refP (d : List UInt8) : Option (List UInt8 × Nat) :=
  if Lib.indexByte (d.take 13) 59 < 0 then none else
  match namedS ((d.take (Lib.indexByte (d.take 13) 59).toNat).drop 1) with
  | none => none
  | some t => some (t, (Lib.indexByte (d.take 13) 59).toNat + 1)
/-- A step of bytes and refs, up to one of certain bytes. -/
def runF (ends : List UInt8) (acc : List UInt8) : List UInt8 → Rs (List UInt8) Unit
  | [] => .stop
  | c :: t => if 0 ≤ Lib.indexByte ends c then .stop else if c ≠ 38 then .go (acc ++ [c]) 1 else
    match refP (c :: t) with
    | none => .bad ()
    | some (x, n) => .go (acc ++ x) n
def runP (ends d : List UInt8) : Option (List UInt8 × Nat) :=
  match loopK (runF ends) [] d 0 with
  | (none, x, n) => some (x, n)
  | (some _, _, _) => none
/-- A quoted value. -/
def valueP (d : List UInt8) : Option (List UInt8 × Nat) :=
  if Lib.hasPrefix d [if Lib.hasPrefix d [39] then 39 else 34] = false then none else
  match runP [60, if Lib.hasPrefix d [39] then 39 else 34] (d.drop 1) with
  | none => none
  | some (x, n) => if Lib.hasPrefix (d.drop (1 + n)) [if Lib.hasPrefix d [39] then 39 else 34] then some (x, 1 + n + 1) else none
/-- An attribute. -/
def attrP (d : List UInt8) : Option (At × Nat) :=
  match nameP d with
  | none => none
  | some (nm, n) =>
    if Lib.hasPrefix (d.drop (n + spanN blI (d.drop n))) [61] = false then none else
    match valueP (d.drop (n + spanN blI (d.drop n) + 1 + spanN blI (d.drop (n + spanN blI (d.drop n) + 1)))) with
    | none => none
    | some (v, m) => some ((nm, v), n + spanN blI (d.drop n) + 1 + spanN blI (d.drop (n + spanN blI (d.drop n) + 1)) + m)
def leadsB (d : List UInt8) : Bool := decide (0 < d.length) && leadI (bt d 0)
/-- A step of attributes, each with blanks ahead. -/
def attrsF (l : List At) (d : List UInt8) : Rs (List At) Unit :=
  if 0 < spanN blI d ∧ leadsB (d.drop (spanN blI d)) = true then
    match attrP (d.drop (spanN blI d)) with
    | none => .bad ()
    | some (x, n) => if l.length = 16 ∨ (l.any fun y => y.1 == x.1) = true then .bad () else .go (l ++ [x]) (spanN blI d + n)
  else .stop
def attrsP (d : List UInt8) : Option (List At × Nat) :=
  match loopK attrsF [] d 0 with
  | (none, l, k) => some (l, k + spanN blI (d.drop k))
  | (some _, _, _) => none
/-- What stands behind an element's <; whether it ends at once. -/
def beginP (d : List UInt8) : Option ((List UInt8 × List At × Bool) × Nat) :=
  match nameP d with
  | none => none
  | some (nm, n) =>
    match attrsP (d.drop n) with
    | none => none
    | some (l, m) =>
      if Lib.hasPrefix (d.drop (n + m)) [47, 62] then some ((nm, l, true), n + m + 2)
      else if Lib.hasPrefix (d.drop (n + m)) [62] then some ((nm, l, false), n + m + 1) else none
/-- What stands behind an end's </. -/
def endP (nm d : List UInt8) : Option Nat :=
  if Lib.hasPrefix d nm = false then none
  else if Lib.hasPrefix (d.drop (nm.length + spanN blI (d.drop nm.length))) [62] then some (nm.length + spanN blI (d.drop nm.length) + 1) else none
/-- A text and an end behind it. -/
def untilP (e bar d : List UInt8) : Option (List UInt8 × Nat) :=
  if Lib.index d e < 0 then none else if Lib.contains (d.take (Lib.index d e).toNat) bar then none else some (d.take (Lib.index d e).toNat, (Lib.index d e).toNat + e.length)
/-- A reader's state. -/
structure Sc where
  rooted : Bool
  opn : List (List UInt8)
  text : List UInt8
  toks : List Tk
inductive Flt where
  | fin
  | syn
  | deep
deriving DecidableEq
def addT (text : List UInt8) (toks : List Tk) (x : Tk) : List Tk := (if 0 < text.length then toks ++ [⟨4, [], [], text⟩] else toks) ++ [x]
/-- Does an element begin here? -/
def elemB (d : List UInt8) : Bool := Lib.hasPrefix d [60] && leadsB (d.drop 1)
/-- A step of a document. -/
def docF (dep : Int) (s : Sc) (d : List UInt8) : Rs Sc Flt :=
  if d = [] then .bad .fin
  else if Lib.hasPrefix d [60, 33, 45, 45] then
    match untilP [45, 45, 62] [45, 45] (d.drop 4) with
    | none => .bad .syn
    | some (_, n) => .go s (4 + n)
  else if elemB d then
    if s.rooted = true ∧ s.opn = [] then .bad .syn
    else if dep ≤ s.opn.length then .bad .deep
    else match beginP (d.drop 1) with
      | none => .bad .syn
      | some ((nm, l, true), n) => .go ⟨true, s.opn, [], addT s.text s.toks ⟨3, nm, l, []⟩⟩ (1 + n)
      | some ((nm, l, false), n) => .go ⟨true, s.opn ++ [nm], [], addT s.text s.toks ⟨1, nm, l, []⟩⟩ (1 + n)
  else if s.opn = [] then
    if spanN blI d = 0 then .bad .syn else .go s (spanN blI d)
  else if Lib.hasPrefix d [60, 47] then
    match endP (s.opn.getLastD []) (d.drop 2) with
    | none => .bad .syn
    | some n => .go ⟨s.rooted, s.opn.dropLast, [], addT s.text s.toks ⟨2, s.opn.getLastD [], [], []⟩⟩ (2 + n)
  else if Lib.hasPrefix d [60, 33, 91, 67, 68, 65, 84, 65, 91] then
    match untilP [93, 93, 62] [93, 93, 62] (d.drop 9) with
    | none => .bad .syn
    | some (x, n) => .go ⟨s.rooted, s.opn, s.text ++ x, s.toks⟩ (9 + n)
  else if Lib.hasPrefix d [60] then .bad .syn
  else match runP [60] d with
    | none => .bad .syn
    | some (x, n) => .go ⟨s.rooted, s.opn, s.text ++ x, s.toks⟩ n
/-- What stands once, ahead of all else. -/
def headP (d : List UInt8) : Option Nat :=
  let m := if Lib.hasPrefix d [239, 187, 191] then 3 else 0
  if Lib.hasPrefix (d.drop m) [60, 63, 120, 109, 108] then
    if spanN blI (d.drop (m + 5)) = 0 then none else
    match untilP [63, 62] [63, 62] (d.drop (m + 5 + spanN blI (d.drop (m + 5)))) with
    | none => none
    | some (_, n) => some (m + 5 + spanN blI (d.drop (m + 5)) + n)
  else some m
/-- A document: its tokens, or its first fault; of one that is too deep where that is. -/
inductive Ans where
  | toks (l : List Tk)
  | syn
  | deep (k : Nat)
def sc0 : Sc := ⟨false, [], [], []⟩
def docB (dep : Int) (l : List UInt8) : Ans :=
  match headP l with
  | none => .syn
  | some m =>
    match loopK (docF dep) sc0 (l.drop m) m with
    | (some .deep, _, k) => .deep k
    | (some .fin, s, _) => if s.rooted && s.opn.isEmpty then .toks s.toks else .syn
    | _ => .syn
/-- A step of runes that may stand in a document. -/
def runeF (_ : Unit) (d : List UInt8) : Rs Unit Unit := if d = [] then .stop else if charB (cutS d).1 && (cutS d).2.2 then .go () (cutN d) else .bad ()
/-- Where the first bytes stand that are no such rune's. -/
def runesB (l : List UInt8) : Option Nat :=
  match loopK runeF () l 0 with
  | (some _, _, k) => some k
  | (none, _, _) => none
/-- What Tokens answers. -/
inductive Out where
  | toks (l : List Tk)
  | syn
  | deep
def tokB (dep : Int) (l : List UInt8) : Out :=
  match docB dep l, runesB l with
  | .toks t, none => .toks t
  | .toks _, some _ => .syn
  | .syn, _ => .syn
  | .deep _, none => .deep
  | .deep k, some q => if q < k then .syn else .deep
end Go.Proofs.YtahohmdbiiknoaaGreatDoor

/- Readers, plain: bounds of names, refs, runs, values, attributes. -/
namespace Go.Proofs.YtahohmdbiiknoaaGreatDoor

theorem all_bt (p : Int → Bool) (s : List UInt8) : (s.all fun c => p c.toNat) = true ↔ ∀ j, j < s.length → p (bt s j) = true := by
  rw [List.all_eq_true]
  constructor
  · intro h j hj
    have := h _ (List.getElem_mem hj)
    simpa [bt, List.getD, hj] using this
  · intro h x hx
    obtain ⟨j, hj, rfl⟩ := List.mem_iff_getElem.1 hx
    have := h j hj
    simpa [bt, List.getD, hj] using this
theorem bt_take0 (l : List UInt8) (n : Nat) (hn : 0 < n) : bt (l.take n) 0 = bt l 0 := by
  unfold bt; rw [List.getD, List.getD, List.getElem?_take, if_pos hn]
theorem ref_ix {d : List UInt8} (h0 : 0 < d.length) (h38 : bt d 0 = 38) : Lib.indexByte (d.take 13) 59 ≠ 0 := by
  intro e
  have hmem := (indexByte_mem (d.take 13) 59).1 (by omega)
  have : bt (d.take 13) 0 = 38 := by rw [bt_take0 _ _ (by decide)]; exact h38
  cases d with
  | nil => simp at h0
  | cons c t =>
    rw [show (c :: t).take 13 = c :: t.take 12 from rfl] at e this hmem
    unfold Lib.indexByte at e
    have hc : c = 38 := (bt_u8 c 38 _).1 this
    subst hc
    simp at e
    split at e <;> (try omega) <;> simp_all <;> (have := Lib.indexByte_ge (t.take 12) 59; omega)
/-- The ways of ref. -/
theorem ref_ways (d : List UInt8) (h0 : 0 < d.length) (h38 : bt d 0 = 38) : (Lib.indexByte (d.take 13) 59 < 0 ∧ refP d = none) ∨
    ∃ n : Nat, Lib.indexByte (d.take 13) 59 = ((n + 1 : Nat) : Int) ∧ n + 1 < (d.take 13).length ∧ refP d = match namedS (((d.take 13).take (n + 1)).drop 1) with | none => none | some t => some (t, n + 1 + 1) := by
  have hne := ref_ix h0 h38
  have hg := Lib.indexByte_ge (d.take 13) 59
  have hlt := indexByte_lt (d.take 13) 59
  by_cases h : Lib.indexByte (d.take 13) 59 < 0
  · exact Or.inl ⟨h, by unfold refP; rw [if_pos h]⟩
  · refine Or.inr ⟨(Lib.indexByte (d.take 13) 59).toNat - 1, by omega, by omega, ?_⟩
    unfold refP
    rw [if_neg h]
    have hl : (d.take 13).length ≤ 13 := by rw [List.length_take]; omega
    rw [show (Lib.indexByte (d.take 13) 59).toNat - 1 + 1 = (Lib.indexByte (d.take 13) 59).toNat by omega, List.take_take, Nat.min_eq_left (by omega)]
    all_goals (cases namedS ((d.take (Lib.indexByte (d.take 13) 59).toNat).drop 1) <;> rfl)
theorem named_len {l x : List UInt8} (h : namedS l = some x) : x.length ≤ 4 := by
  unfold namedS at h
  repeat' split at h
  all_goals first | (injection h with h; subst h; first | exact encR_len _ | decide) | cases h
theorem refP_bd {d x : List UInt8} {n : Nat} (h : refP d = some (x, n)) : 1 ≤ n ∧ n ≤ d.length ∧ x.length ≤ 4 := by
  unfold refP at h
  split at h
  · cases h
  · rename_i hi
    have hlt := indexByte_lt (d.take 13) 59
    rw [List.length_take] at hlt
    revert h
    cases e : namedS ((d.take (Lib.indexByte (d.take 13) 59).toNat).drop 1) with
    | none => intro h; cases h
    | some t =>
      intro h
      injection h with h
      injection h with h1 h2
      subst h1 h2
      exact ⟨by omega, by omega, named_len e⟩
theorem runF_steps (ends : List UInt8) : Steps (runF ends) := by
  intro s d s' n h
  cases d with
  | nil => cases h
  | cons c t =>
    rw [runF] at h
    split at h
    · cases h
    · split at h
      · injection h with _ h; subst h; simp
      · revert h
        cases e : refP (c :: t) with
        | none => intro h; cases h
        | some y =>
          obtain ⟨x, m⟩ := y
          intro h
          injection h with _ h
          subst h
          have := refP_bd e
          omega
/-- What the loop of run keeps. -/
structure RunAt (ends d : List UInt8) (j : Nat) (acc : List UInt8) : Prop where
  le : j ≤ d.length
  eq : loopK (runF ends) [] d 0 = loopK (runF ends) acc (d.drop j) j
  len : acc.length ≤ 4 * j
theorem RunAt.zero (ends d : List UInt8) : RunAt ends d 0 [] := ⟨Nat.zero_le _, by simp, by simp⟩
theorem RunAt.step {ends d acc acc' : List UInt8} {j n : Nat} (h : RunAt ends d j acc) (e : runF ends acc (d.drop j) = .go acc' n) (hl : acc'.length ≤ acc.length + 4 * n) : RunAt ends d (j + n) acc' := by
  have := runF_steps ends _ _ _ _ e
  rw [List.length_drop] at this
  refine ⟨by omega, ?_, by have := h.len; omega⟩
  rw [h.eq, loopK_go (runF_steps ends) _ e, List.drop_drop]
theorem RunAt.stop {ends d acc : List UInt8} {j : Nat} (h : RunAt ends d j acc) (e : runF ends acc (d.drop j) = .stop) : runP ends d = some (acc, j) := by
  unfold runP; rw [h.eq, loopK_stop _ e]
theorem RunAt.bad {ends d acc : List UInt8} {j : Nat} (h : RunAt ends d j acc) (e : runF ends acc (d.drop j) = .bad ()) : runP ends d = none := by
  unfold runP; rw [h.eq, loopK_bad _ e]
theorem drop_cons {d : List UInt8} {j : Nat} (hj : j < d.length) : d.drop j = d.getD j 0 :: d.drop (j + 1) := by
  rw [List.drop_eq_getElem_cons hj]; simp [List.getD, hj]
theorem runF_end (ends acc d : List UInt8) (j : Nat) (hj : ¬ j < d.length) : runF ends acc (d.drop j) = .stop := by
  rw [List.drop_eq_nil_of_le (by omega)]; rfl
theorem runF_at {ends acc d : List UInt8} {j : Nat} (hj : j < d.length) :
    (0 ≤ Lib.indexByte ends (d.getD j 0) → runF ends acc (d.drop j) = .stop) ∧
    (Lib.indexByte ends (d.getD j 0) < 0 → bt d j ≠ 38 → runF ends acc (d.drop j) = .go (acc ++ [d.getD j 0]) 1) ∧
    (Lib.indexByte ends (d.getD j 0) < 0 → bt d j = 38 → runF ends acc (d.drop j) = match refP (d.drop j) with | none => .bad () | some (x, n) => .go (acc ++ x) n) := by
  have h38 : bt d j = 38 ↔ d.getD j 0 = 38 := by
    rw [bt_get0']
    constructor
    · intro h; exact UInt8.toNat_inj.1 (by rw [show (38 : UInt8).toNat = 38 from rfl]; omega)
    · intro h; rw [h]; rfl
  rw [drop_cons hj, runF]
  refine ⟨fun h => by rw [if_pos h], fun h h1 => ?_, fun h h1 => ?_⟩
  · rw [if_neg (by omega), if_pos (by rw [ne_eq, ← h38]; exact h1)]
  · rw [if_neg (by omega), if_neg (by rw [ne_eq, ← h38]; exact fun h => h h1)]
    all_goals (cases refP (d.getD j 0 :: d.drop (j + 1)) <;> rfl)
theorem prefix_len {d p : List UInt8} (h : Lib.hasPrefix d p = true) : p.length ≤ d.length := (List.isPrefixOf_iff_prefix.1 h).length_le
theorem runP_le {ends d x : List UInt8} {n : Nat} (h : runP ends d = some (x, n)) : n ≤ d.length := by
  unfold runP at h
  have := loopK_le (runF_steps ends) [] d 0
  cases e : loopK (runF ends) [] d 0 with
  | mk o y =>
    rw [e] at h this
    cases o with
    | some _ => cases h
    | none =>
      injection h with h
      obtain ⟨y1, y2⟩ := y
      injection h with _ h
      subst h
      simp at this; omega
theorem valueP_le {d x : List UInt8} {n : Nat} (h : valueP d = some (x, n)) : 1 ≤ n ∧ n ≤ d.length := by
  unfold valueP at h
  generalize (if Lib.hasPrefix d [39] = true then (39 : UInt8) else 34) = q at h
  by_cases h1 : Lib.hasPrefix d [q] = false
  · rw [if_pos h1] at h; cases h
  rw [if_neg h1] at h
  cases e : runP [60, q] (d.drop 1) with
  | none => rw [e] at h; cases h
  | some y =>
    obtain ⟨x', n'⟩ := y
    rw [e] at h
    have h2 := runP_le e
    rw [List.length_drop] at h2
    simp only at h
    by_cases hp : Lib.hasPrefix (d.drop (1 + n')) [q] = true
    · rw [if_pos hp] at h
      injection h with h
      injection h with _ h
      have := prefix_len hp
      rw [List.length_drop] at this
      simp at this
      omega
    · rw [if_neg hp] at h; cases h
theorem nameP_le {d x : List UInt8} {n : Nat} (h : nameP d = some (x, n)) : 1 ≤ n ∧ n ≤ d.length ∧ x = d.take n ∧ nameB x = true := by
  unfold nameP at h
  split at h
  · rename_i hb
    injection h with h
    injection h with h1 h2
    subst h1 h2
    have hle := spanN_le follI d
    have := hb
    unfold nameB at this
    simp only [Bool.and_eq_true, decide_eq_true_eq, List.length_take] at this
    exact ⟨by omega, hle, rfl, hb⟩
  · cases h
theorem attrP_le {d : List UInt8} {x : At} {n : Nat} (h : attrP d = some (x, n)) : 1 ≤ n ∧ n ≤ d.length := by
  unfold attrP at h
  cases e : nameP d with
  | none => rw [e] at h; cases h
  | some y =>
    obtain ⟨nm, m⟩ := y
    rw [e] at h
    have h1 := nameP_le e
    simp only at h
    split at h
    · cases h
    · rename_i hp
      rw [Bool.not_eq_false] at hp
      have h2 := prefix_len hp
      rw [List.length_drop] at h2
      have h3 := spanN_le blI (d.drop m)
      rw [List.length_drop] at h3
      revert h
      generalize spanN blI (d.drop m) = b1 at h2 h3
      cases e2 : valueP (d.drop (m + b1 + 1 + spanN blI (d.drop (m + b1 + 1)))) with
      | none => intro h; cases h
      | some z =>
        obtain ⟨v, q⟩ := z
        intro h
        injection h with h
        injection h with _ h
        have h4 := valueP_le e2
        rw [List.length_drop] at h4
        simp at h2
        omega
theorem elemB_ne {d : List UInt8} (h : elemB d = true) : 0 < d.length := by
  cases d with
  | nil => cases h
  | cons c t => simp
theorem snoc_of {α : Type} {l : List α} (x : α) (h : l ≠ []) : ∃ op nm, l = op ++ [nm] ∧ l.getLastD x = nm ∧ l.dropLast = op := by
  refine ⟨l.dropLast, l.getLast h, (List.dropLast_concat_getLast h).symm, ?_, rfl⟩
  rw [List.getLastD_eq_getLast?, List.getLast?_eq_some_getLast h]; rfl
end Go.Proofs.YtahohmdbiiknoaaGreatDoor
