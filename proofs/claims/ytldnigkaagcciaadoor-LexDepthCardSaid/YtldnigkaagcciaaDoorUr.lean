/- Plain mathematics of layer 1: there and back. Nothing of the program. -/
import Derived.Test.YtldnigkaagcciaaDoorUq
namespace Go.Proofs.YtldnigkaagcciaaDoor

theorem cutS_one {l : List UInt8} (h : l ≠ []) (hx : bt l 0 < 128) : cutS l = (bt l 0, 1, true) := by unfold cutS; rw [if_neg h, if_pos hx]
theorem ne_of_len {l : List UInt8} {n : Nat} (h : n + 1 ≤ l.length) : l ≠ [] := by intro e; subst e; simp at h
theorem cutS_two {l : List UInt8} (hl : 2 ≤ l.length) (h0 : 194 ≤ bt l 0) (h1 : bt l 0 ≤ 223) (h2 : 128 ≤ bt l 1) (h3 : bt l 1 ≤ 191) :
    cutS l = (bt l 0 % 32 * 64 + bt l 1 % 64, 2, true) := by
  rcases fl_cases (bt l 0) with ⟨hf, hc⟩ | ⟨n, lo, hi, hf, c1, c2, c3, c4, c5, c6, hn⟩
  · omega
  have hn1 : n = 1 ∧ lo = 128 ∧ hi = 191 := by omega
  obtain ⟨rfl, rfl, rfl⟩ := hn1
  unfold cutS
  rw [if_neg (ne_of_len hl), if_neg (by omega), hf, if_neg (by simp)]
  simp only
  rw [show (4 : Nat) = 5 - 1 from rfl, cutGo_step (by omega) (by omega) (by omega) (by omega) (by omega), cutGo_done (by omega) (by omega)]
  rfl
theorem cutS_three {l : List UInt8} (hl : 3 ≤ l.length) (h0 : 224 ≤ bt l 0) (h1 : bt l 0 ≤ 239) (h2 : 128 ≤ bt l 1) (h3 : bt l 1 ≤ 191) (h4 : bt l 0 = 224 → 160 ≤ bt l 1) (h5 : bt l 0 = 237 → bt l 1 ≤ 159) (h6 : 128 ≤ bt l 2) (h7 : bt l 2 ≤ 191) :
    cutS l = ((bt l 0 % 16 * 64 + bt l 1 % 64) * 64 + bt l 2 % 64, 3, true) := by
  rcases fl_cases (bt l 0) with ⟨hf, hc⟩ | ⟨n, lo, hi, hf, c1, c2, c3, c4, c5, c6, hn⟩
  · omega
  have hn1 : n = 2 ∧ lo ≤ bt l 1 ∧ bt l 1 ≤ hi := by omega
  obtain ⟨rfl, e1, e2⟩ := hn1
  unfold cutS
  rw [if_neg (ne_of_len hl), if_neg (by omega), hf, if_neg (by simp)]
  simp only
  rw [show (4 : Nat) = 5 - 1 from rfl, cutGo_step (by omega) (by omega) (by omega) (by omega) (by omega), cutGo_step (by omega) (by omega) (by omega) (by show _ ≤ bt l 2; omega) (by show bt l 2 ≤ _; omega), cutGo_done (by omega) (by omega)]
  rfl
theorem cutS_four {l : List UInt8} (hl : 4 ≤ l.length) (h0 : 240 ≤ bt l 0) (h1 : bt l 0 ≤ 244) (h2 : 128 ≤ bt l 1) (h3 : bt l 1 ≤ 191) (h4 : bt l 0 = 240 → 144 ≤ bt l 1) (h5 : bt l 0 = 244 → bt l 1 ≤ 143) (h6 : 128 ≤ bt l 2) (h7 : bt l 2 ≤ 191) (h8 : 128 ≤ bt l 3) (h9 : bt l 3 ≤ 191) :
    cutS l = (((bt l 0 % 8 * 64 + bt l 1 % 64) * 64 + bt l 2 % 64) * 64 + bt l 3 % 64, 4, true) := by
  rcases fl_cases (bt l 0) with ⟨hf, hc⟩ | ⟨n, lo, hi, hf, c1, c2, c3, c4, c5, c6, hn⟩
  · omega
  have hn1 : n = 3 ∧ lo ≤ bt l 1 ∧ bt l 1 ≤ hi := by omega
  obtain ⟨rfl, e1, e2⟩ := hn1
  unfold cutS
  rw [if_neg (ne_of_len hl), if_neg (by omega), hf, if_neg (by simp)]
  simp only
  rw [show (4 : Nat) = 5 - 1 from rfl, cutGo_step (by omega) (by omega) (by omega) (by omega) (by omega), cutGo_step (by omega) (by omega) (by omega) (by show _ ≤ bt l 2; omega) (by show bt l 2 ≤ _; omega),
    cutGo_step (by omega) (by omega) (by omega) (by show _ ≤ bt l 3; omega) (by show bt l 3 ≤ _; omega), cutGo_done (by omega) (by omega)]
  rfl

theorem u8_nat {n : Int} (h0 : 0 ≤ n) (h1 : n ≤ 255) : ((u8 n).toNat : Int) = n := by
  unfold u8; rw [UInt8.toNat_ofNat']; omega
theorem u8_bt {n : Int} (l : List UInt8) (h0 : 0 ≤ n) (h1 : n ≤ 255) : bt (u8 n :: l) 0 = n := u8_nat h0 h1

theorem encR_ways (r : Int) : (r < 128 ∧ encR r = [r]) ∨ (128 ≤ r ∧ r < 2048 ∧ encR r = [192 + r / 64, 128 + r % 64]) ∨
      (2048 ≤ r ∧ r < 65536 ∧ encR r = [224 + r / 4096, 128 + r / 64 % 64, 128 + r % 64]) ∨
      (65536 ≤ r ∧ encR r = [240 + r / 262144, 128 + r / 4096 % 64, 128 + r / 64 % 64, 128 + r % 64]) := by
  unfold encR
  by_cases h1 : r < 128
  · rw [if_pos h1]; exact Or.inl ⟨h1, rfl⟩
  · by_cases h2 : r < 2048
    · rw [if_neg h1, if_pos h2]; exact Or.inr (Or.inl ⟨by omega, h2, rfl⟩)
    · by_cases h3 : r < 65536
      · rw [if_neg h1, if_neg h2, if_pos h3]; exact Or.inr (Or.inr (Or.inl ⟨by omega, h3, rfl⟩))
      · rw [if_neg h1, if_neg h2, if_neg h3]; exact Or.inr (Or.inr (Or.inr ⟨by omega, rfl⟩))

theorem isR_iff (r : Int) : isR r = true ↔ (0 ≤ r ∧ r ≤ 1114111 ∧ ¬ (55296 ≤ r ∧ r ≤ 57343)) := by unfold isR; rw [decide_eq_true_iff]

/-- A rune's bytes are cut as the rune. -/
theorem cut_encR (r : Int) (h : isR r = true) (t : List UInt8) : cutS ((encR r).map u8 ++ t) = (r, ((encR r).length : Int), true) := by
  obtain ⟨h0, h1, h2⟩ := (isR_iff r).1 h
  rcases encR_ways r with ⟨c1, e⟩ | ⟨c1, c2, e⟩ | ⟨c1, c2, e⟩ | ⟨c1, e⟩ <;> rw [e]
  · have b0 : bt ([r].map u8 ++ t) 0 = r := u8_nat (by omega) (by omega)
    rw [cutS_one (by simp) (by omega), b0]; rfl
  · have b0 : bt ([192 + r / 64, 128 + r % 64].map u8 ++ t) 0 = 192 + r / 64 := u8_nat (by omega) (by omega)
    have b1 : bt ([192 + r / 64, 128 + r % 64].map u8 ++ t) 1 = 128 + r % 64 := u8_nat (by omega) (by omega)
    rw [cutS_two (by simp) (by omega) (by omega) (by omega) (by omega), b0, b1]
    refine Prod.ext ?_ rfl; simp only; omega
  · have b0 : bt ([224 + r / 4096, 128 + r / 64 % 64, 128 + r % 64].map u8 ++ t) 0 = 224 + r / 4096 := u8_nat (by omega) (by omega)
    have b1 : bt ([224 + r / 4096, 128 + r / 64 % 64, 128 + r % 64].map u8 ++ t) 1 = 128 + r / 64 % 64 := u8_nat (by omega) (by omega)
    have b2 : bt ([224 + r / 4096, 128 + r / 64 % 64, 128 + r % 64].map u8 ++ t) 2 = 128 + r % 64 := u8_nat (by omega) (by omega)
    rw [cutS_three (by simp) (by omega) (by omega) (by omega) (by omega) (by omega) (by omega) (by omega) (by omega), b0, b1, b2]
    refine Prod.ext ?_ rfl; simp only; omega
  · have b0 : bt ([240 + r / 262144, 128 + r / 4096 % 64, 128 + r / 64 % 64, 128 + r % 64].map u8 ++ t) 0 = 240 + r / 262144 := u8_nat (by omega) (by omega)
    have b1 : bt ([240 + r / 262144, 128 + r / 4096 % 64, 128 + r / 64 % 64, 128 + r % 64].map u8 ++ t) 1 = 128 + r / 4096 % 64 := u8_nat (by omega) (by omega)
    have b2 : bt ([240 + r / 262144, 128 + r / 4096 % 64, 128 + r / 64 % 64, 128 + r % 64].map u8 ++ t) 2 = 128 + r / 64 % 64 := u8_nat (by omega) (by omega)
    have b3 : bt ([240 + r / 262144, 128 + r / 4096 % 64, 128 + r / 64 % 64, 128 + r % 64].map u8 ++ t) 3 = 128 + r % 64 := u8_nat (by omega) (by omega)
    rw [cutS_four (by simp) (by omega) (by omega) (by omega) (by omega) (by omega) (by omega) (by omega) (by omega) (by omega) (by omega), b0, b1, b2, b3]
    refine Prod.ext ?_ rfl; simp only; omega

/-- What a number comes back as. -/
def fixR (r : Int) : Int := if isR r then r else 65533
theorem fixR_is (r : Int) : isR (fixR r) = true := by unfold fixR; split <;> first | assumption | rfl
theorem encI_fix (r : Int) : encI r = encR (fixR r) := by unfold encI fixR; split <;> rfl
theorem encR_ne (r : Int) : 1 ≤ (encR r).length ∧ (encR r).length ≤ 4 := by rcases encR_ways r with ⟨c1, e⟩ | ⟨c1, c2, e⟩ | ⟨c1, c2, e⟩ | ⟨c1, e⟩ <;> rw [e] <;> simp
theorem enc_ne (r : Int) (t : List UInt8) : enc r ++ t ≠ [] := by
  have := encR_ne (fixR r)
  intro h
  have h2 := congrArg List.length h
  unfold enc at h2
  rw [encI_fix, List.length_append, List.length_map, List.length_nil] at h2
  omega
theorem cut_enc (r : Int) (t : List UInt8) : cutS (enc r ++ t) = (fixR r, ((enc r).length : Int), true) := by
  unfold enc; rw [encI_fix, cut_encR _ (fixR_is r)]; simp
theorem encAll_cons (r : Int) (l : List Int) : encAll (r :: l) = enc r ++ encAll l := by unfold encAll enc; simp [List.flatMap_cons]
theorem drop_enc (r : Int) (t : List UInt8) : (enc r ++ t).drop (cutN (enc r ++ t)) = t := by
  unfold cutN; rw [cut_enc]; simp
theorem dec_enc (l : List Int) : dec (encAll l) = l.map fixR ∧ val (encAll l) = true := by
  induction l with
  | nil => exact ⟨rfl, rfl⟩
  | cons r l ih =>
    rw [encAll_cons, dec_cons _ (enc_ne _ _), val_cons _ (enc_ne _ _), drop_enc, cut_enc, ih.1, ih.2]
    exact ⟨rfl, rfl⟩

theorem take_two (l : List UInt8) (h : 2 ≤ l.length) (a b : UInt8) (h0 : bt l 0 = a.toNat) (h1 : bt l 1 = b.toNat) : l.take 2 = [a, b] := by
  match l, h with
  | x :: y :: t, _ =>
    have e (u v : UInt8) (h : (u.toNat : Int) = v.toNat) : u = v := UInt8.toNat_inj.1 (by omega)
    have e0 := e x a h0
    have e1 := e y b h1
    subst e0 e1
    rfl
theorem take_one (l : List UInt8) (h : 1 ≤ l.length) (a : UInt8) (h0 : bt l 0 = a.toNat) : l.take 1 = [a] := by
  match l, h with
  | x :: t, _ =>
    have e (u v : UInt8) (h : (u.toNat : Int) = v.toNat) : u = v := UInt8.toNat_inj.1 (by omega)
    have e0 := e x a h0
    subst e0
    rfl
theorem take_four (l : List UInt8) (h : 4 ≤ l.length) (a b c d : UInt8) (h0 : bt l 0 = a.toNat) (h1 : bt l 1 = b.toNat) (h2 : bt l 2 = c.toNat) (h3 : bt l 3 = d.toNat) : l.take 4 = [a, b, c, d] := by
  match l, h with
  | x :: y :: z :: u :: t, _ =>
    have e (u v : UInt8) (h : (u.toNat : Int) = v.toNat) : u = v := UInt8.toNat_inj.1 (by omega)
    have e0 := e x a h0
    have e1 := e y b h1
    have e2 := e z c h2
    have e3 := e u d h3
    subst e0 e1 e2 e3
    rfl

/-- The bytes that were cut as a rune are its bytes. -/
theorem enc_cut (l : List UInt8) (h : l ≠ []) (hg : (cutS l).2.2 = true) : isR (cutS l).1 = true ∧ enc (cutS l).1 = l.take (cutN l) := by
  have h0 := bt_lt l 0
  have hl := len_pos h
  have key : ∀ r n, cutS l = (r, n, true) → isR r = true → (encR r).map u8 = l.take n.toNat → isR (cutS l).1 = true ∧ enc (cutS l).1 = l.take (cutN l) := by
    intro r n e h1 h2
    unfold cutN enc encI
    rw [e]; simp only; rw [h1]; exact ⟨rfl, h2⟩
  rcases cutS_ways l h with ⟨_, e⟩ | ⟨n, _, _, _, e⟩ | ⟨_, _, _, _, _, e⟩ | ⟨_, _, _, _, _, _, _, _, _, e⟩ | ⟨_, _, _, _, _, _, _, _, _, _, _, e⟩
  · refine key _ _ e ((isR_iff _).2 (by omega)) ?_
    rcases encR_ways (bt l 0) with ⟨c1, e1⟩ | ⟨c1, c2, e1⟩ | ⟨c1, c2, e1⟩ | ⟨c1, e1⟩ <;> try omega
    rw [e1]; exact (take_one l hl _ (u8_nat (by omega) (by omega)).symm).symm
  · rw [e] at hg; simp at hg
  · generalize hr : bt l 0 % 32 * 64 + bt l 1 % 64 = r at e
    refine key _ _ e ((isR_iff _).2 (by omega)) ?_
    rcases encR_ways r with ⟨c1, e1⟩ | ⟨c1, c2, e1⟩ | ⟨c1, c2, e1⟩ | ⟨c1, e1⟩ <;> try omega
    rw [e1]; exact (take_two l (by omega) _ _ (by rw [u8_nat (by omega) (by omega)]; omega) (by rw [u8_nat (by omega) (by omega)]; omega)).symm
  · generalize hr : (bt l 0 % 16 * 64 + bt l 1 % 64) * 64 + bt l 2 % 64 = r at e
    refine key _ _ e ((isR_iff _).2 (by omega)) ?_
    rcases encR_ways r with ⟨c1, e1⟩ | ⟨c1, c2, e1⟩ | ⟨c1, c2, e1⟩ | ⟨c1, e1⟩ <;> try omega
    rw [e1]; exact (take_three l (by omega) _ _ _ (by rw [u8_nat (by omega) (by omega)]; omega) (by rw [u8_nat (by omega) (by omega)]; omega) (by rw [u8_nat (by omega) (by omega)]; omega)).symm
  · generalize hr : ((bt l 0 % 8 * 64 + bt l 1 % 64) * 64 + bt l 2 % 64) * 64 + bt l 3 % 64 = r at e
    refine key _ _ e ((isR_iff _).2 (by omega)) ?_
    rcases encR_ways r with ⟨c1, e1⟩ | ⟨c1, c2, e1⟩ | ⟨c1, c2, e1⟩ | ⟨c1, e1⟩ <;> try omega
    rw [e1]; exact (take_four l (by omega) _ _ _ _ (by rw [u8_nat (by omega) (by omega)]; omega) (by rw [u8_nat (by omega) (by omega)]; omega) (by rw [u8_nat (by omega) (by omega)]; omega) (by rw [u8_nat (by omega) (by omega)]; omega)).symm

theorem enc_dec : ∀ l, val l = true → encAll (dec l) = l := by
  refine list_ind (fun _ => rfl) fun l h ih hv => ?_
  rw [val_cons l h] at hv
  simp only [Bool.and_eq_true] at hv
  rw [dec_cons l h, encAll_cons, ih hv.2, (enc_cut l h hv.1).2, List.take_append_drop]
/-- Bytes are runes' alone just if they are the bytes of their runes. -/
theorem val_iff (l : List UInt8) : val l = decide (encAll (dec l) = l) := by
  cases hv : val l
  · symm; simp only [decide_eq_false_iff_not]
    intro h
    have := (dec_enc (dec l)).2
    rw [h, hv] at this
    simp at this
  · simp [enc_dec l hv]

theorem bt_app (s t : List UInt8) (i : Nat) (h : i < s.length) : bt (s ++ t) i = bt s i := by
  unfold bt; simp [List.getD, List.getElem?_append_left h]
/-- A good cut is the same with more behind it. -/
theorem cut_app (s t : List UInt8) (h : s ≠ []) (hg : (cutS s).2.2 = true) : cutS (s ++ t) = cutS s := by
  have hl := len_pos h
  have b0 := bt_app s t 0 hl
  have hlen : s.length ≤ (s ++ t).length := by simp
  rcases cutS_ways s h with ⟨_, e⟩ | ⟨n, _, _, _, e⟩ | ⟨_, _, _, _, _, e⟩ | ⟨_, _, _, _, _, _, _, _, _, e⟩ | ⟨_, _, _, _, _, _, _, _, _, _, _, e⟩
  · rw [e, cutS_one (by simp [h]) (by omega), b0]
  · rw [e] at hg; simp at hg
  · have b1 := bt_app s t 1 (by omega)
    rw [e, cutS_two (by omega) (by omega) (by omega) (by omega) (by omega), b0, b1]
  · have b1 := bt_app s t 1 (by omega)
    have b2 := bt_app s t 2 (by omega)
    rw [e, cutS_three (by omega) (by omega) (by omega) (by omega) (by omega) (by omega) (by omega) (by omega) (by omega), b0, b1, b2]
  · have b1 := bt_app s t 1 (by omega)
    have b2 := bt_app s t 2 (by omega)
    have b3 := bt_app s t 3 (by omega)
    rw [e, cutS_four (by omega) (by omega) (by omega) (by omega) (by omega) (by omega) (by omega) (by omega) (by omega) (by omega) (by omega), b0, b1, b2, b3]
theorem dec_app (t : List UInt8) : ∀ s, val s = true → dec (s ++ t) = dec s ++ dec t ∧ val (s ++ t) = val t := by
  refine list_ind (fun _ => ⟨rfl, rfl⟩) fun s h ih hv => ?_
  rw [val_cons s h] at hv
  simp only [Bool.and_eq_true] at hv
  have hc := cut_app s t h hv.1
  have hn : cutN (s ++ t) = cutN s := by unfold cutN; rw [hc]
  have hb := cutN_bd s h
  have hd : (s ++ t).drop (cutN (s ++ t)) = s.drop (cutN s) ++ t := by rw [hn, List.drop_append_of_le_length hb.2.1]
  have hne : s ++ t ≠ [] := by simp [h]
  rw [dec_cons _ hne, val_cons _ hne, hd, hc, (ih hv.2).1, (ih hv.2).2, hv.1, dec_cons s h]
  exact ⟨rfl, rfl⟩
end Go.Proofs.YtldnigkaagcciaaDoor
