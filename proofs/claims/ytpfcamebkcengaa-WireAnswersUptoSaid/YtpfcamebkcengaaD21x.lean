/- Layer 21, plain: what was read may be written; how long a state's bytes are. -/
import Derived.Test.YtpfcamebkcengaaD21v
import Derived.Test.YtpfcamebkcengaaD21t
namespace Go.Proofs.Ytpfcamebkcengaa

theorem readN_all {α : Type} {f : List UInt8 → Option (α × List UInt8)} : ∀ (k : Nat) (s : List UInt8) (l : List α) (t : List UInt8), readN21 f k s = some (l, t) → ∀ x ∈ l, ∃ s' t', f s' = some (x, t')
  | 0, s, l, t, h, x, hx => by
    simp only [readN21, Option.some.injEq, Prod.mk.injEq] at h
    rw [← h.1] at hx
    cases hx
  | k + 1, s, l, t, h, x, hx => by
    rw [readN21] at h
    cases e : f s with
    | none => rw [e] at h; cases h
    | some p =>
      obtain ⟨y, u⟩ := p
      rw [e] at h
      simp only at h
      cases e2 : readN21 f k u with
      | none => rw [e2] at h; cases h
      | some q =>
        obtain ⟨l', t'⟩ := q
        rw [e2] at h
        simp only [Option.some.injEq, Prod.mk.injEq] at h
        rw [← h.1] at hx
        rcases List.mem_cons.1 hx with hx | hx
        · subst hx; exact ⟨s, u, e⟩
        · exact readN_all k u l' t' e2 x hx
theorem readE_bd {s t : List UInt8} {x : En21} (h : readE21 s = some (x, t)) : -9223372036854775808 ≤ x.stamp ∧ x.stamp ≤ 9223372036854775807 ∧ x.sig < 18446744073709551616 := by
  have he := (entO (some s) _ _ _ _ _ _ rfl rfl rfl rfl rfl rfl).2 _ _ (fun y t => valO_of (d := (⟨[], []⟩ : Ky21)) y t) (fun y t => valO_of (d := 0) y t) x t h
  rw [← he]
  refine ⟨(valI_bd _).1, (valI_bd _).2, ?_⟩
  simp only
  generalize (resO _ : Option (List UInt8)) = o
  cases o with
  | none => simp [valO]
  | some l =>
    simp only [Option.bind_some]
    unfold sigO
    by_cases h8 : l.length < 8
    · rw [if_pos h8]; simp [valO]
    · rw [if_neg h8]
      have := rd_lt2 (l.take 8)
      rw [List.length_take, show min 8 l.length = 8 by omega] at this
      exact this
theorem flat_mem {α : Type} (g : α → List UInt8) {l : List α} {x : α} (h : x ∈ l) : (g x).length ≤ (l.flatMap g).length := by
  obtain ⟨j, hj, rfl⟩ := List.mem_iff_getElem.1 h
  have := (flat_step g l j hj).2
  omega
theorem text_ge (s : List UInt8) : s.length < (text21 s).length := by
  have := var_len_pos (zig21 s.length)
  unfold text21 int21
  rw [List.length_append]
  omega
theorem flat_len_ge {α : Type} (g : α → List UInt8) (hg : ∀ x, 1 ≤ (g x).length) : ∀ l : List α, l.length ≤ (l.flatMap g).length
  | [] => by simp
  | x :: r => by
    have := flat_len_ge g hg r
    have := hg x
    rw [List.flatMap_cons, List.length_append, List.length_cons]
    omega
/-- What was read as a state has small parts, and numbers that may be. -/
structure StSm (x : St21) (n : Nat) : Prop where
  a1 : -9223372036854775808 ≤ x.now
  a2 : x.now ≤ 9223372036854775807
  b1 : -9223372036854775808 ≤ x.floor
  b2 : x.floor ≤ 9223372036854775807
  c1 : -9223372036854775808 ≤ x.epoch
  c2 : x.epoch ≤ 9223372036854775807
  nf : x.feeds.length ≤ n
  ne : x.entries.length ≤ n
  nr : x.read.length ≤ n
  fs : ∀ f ∈ x.feeds, f.length ≤ n
  es : ∀ y ∈ x.entries, EnBd y
  ks : ∀ k ∈ x.read, KyBd k
theorem readS_small {s : List UInt8} {x : St21} (h : readS21 s = some x) (hs : s.length ≤ 1000000000) : StSm x s.length := by
  have hr := congrArg List.length (state_read h)
  unfold state21 at hr
  simp only [List.length_append] at hr
  have hfl : ∀ f ∈ x.feeds, f.length ≤ s.length := fun f hf => by
    have := flat_mem text21 hf
    have := text_ge f
    omega
  have hkl : ∀ k : Ky21, k.feed.length ≤ (key21 k).length ∧ k.guid.length ≤ (key21 k).length := fun k => by
    have := text_ge k.feed
    have := text_ge k.guid
    unfold key21
    rw [List.length_append]
    omega
  have hk : ∀ k ∈ x.read, KyBd k := fun k hk => by
    have := flat_mem key21 hk
    have := hkl k
    exact ⟨by omega, by omega⟩
  have n1 := flat_len_ge text21 (fun s => by have := text_ge s; omega) x.feeds
  have n2 := flat_len_ge ent21 (fun y => by unfold ent21 key21; have := text_ge y.key.feed; simp only [List.length_append]; omega) x.entries
  have n3 := flat_len_ge key21 (fun k => by unfold key21; have := text_ge k.feed; simp only [List.length_append]; omega) x.read
  rw [readS_stN] at h
  cases e : stN s with
  | none => rw [e] at h; cases h
  | some p =>
    obtain ⟨z, t⟩ := p
    rw [e] at h
    have hz : z = x := by
      cases t with
      | nil => simpa using h
      | cons _ _ => cases h
    subst hz
    have hst := e
    unfold stN at e
    cases e1 : readI21 s with
    | none => rw [e1] at e; cases e
    | some p =>
      obtain ⟨a, s1⟩ := p
      rw [e1] at e
      simp only at e
      cases e2 : readI21 s1 with
      | none => rw [e2] at e; cases e
      | some p =>
        obtain ⟨b, s2⟩ := p
        rw [e2] at e
        simp only at e
        cases e3 : readI21 s2 with
        | none => rw [e3] at e; cases e
        | some p =>
          obtain ⟨c, s3⟩ := p
          rw [e3] at e
          simp only at e
          cases e4 : lstN (fun s => readT21 s 24) s3 with
          | none => rw [e4] at e; cases e
          | some p =>
            obtain ⟨fs, s4⟩ := p
            rw [e4] at e
            simp only at e
            cases e5 : lstN readE21 s4 with
            | none => rw [e5] at e; cases e
            | some p =>
              obtain ⟨es, s5⟩ := p
              rw [e5] at e
              simp only at e
              cases e6 : lstN readK21 s5 with
              | none => rw [e6] at e; cases e
              | some p =>
                obtain ⟨ks, s6⟩ := p
                rw [e6] at e
                simp only [Option.some.injEq, Prod.mk.injEq] at e
                obtain ⟨e7, _⟩ := e
                have i1 := (int_read e1).2
                have i2 := (int_read e2).2
                have i3 := (int_read e3).2
                subst e7
                refine ⟨i1.1, i1.2, i2.1, i2.2, i3.1, i3.2, by simp only at *; omega, by simp only at *; omega, by simp only at *; omega, hfl, fun y hy => ?_, hk⟩
                unfold lstN at e5
                cases e8 : readI21 s4 with
                | none => rw [e8] at e5; cases e5
                | some p =>
                  obtain ⟨m, s7⟩ := p
                  rw [e8] at e5
                  simp only at e5
                  by_cases hm : m < 0
                  · rw [if_pos hm] at e5; cases e5
                  · rw [if_neg hm] at e5
                    obtain ⟨s', t', hE⟩ := readN_all _ _ _ _ e5 y hy
                    have hb := readE_bd hE
                    have hfm : (ent21 y).length ≤ s.length := by
                      have h9 := flat_mem ent21 hy
                      try simp only at h9 hr
                      omega
                    unfold ent21 at hfm
                    have h1 := hkl y.key
                    have h2 := text_ge y.title
                    have h3 := text_ge y.link
                    have h4 := text_ge y.body
                    simp only [List.length_append] at hfm
                    exact ⟨⟨by omega, by omega⟩, by omega, by omega, by omega, hb.1, hb.2.1, hb.2.2⟩
/-- How long the bytes of what is not great are. -/
theorem sum_len {α : Type} (g : α → List UInt8) (m : α → Nat) (c : Nat) (l : List α) (h : ∀ x ∈ l, (g x).length ≤ c * m x) : (l.flatMap g).length ≤ c * (l.map m).sum := by
  induction l with
  | nil => simp
  | cons x r ih =>
    have h1 := h x List.mem_cons_self
    have h2 := ih fun y hy => h y (List.mem_cons_of_mem _ hy)
    rw [List.flatMap_cons, List.length_append, List.map_cons, List.sum_cons, Nat.mul_add]
    omega
theorem sum_mem {α : Type} (m : α → Nat) {l : List α} {x : α} (h : x ∈ l) : m x ≤ (l.map m).sum := by
  induction l with
  | nil => cases h
  | cons y r ih =>
    rw [List.map_cons, List.sum_cons]
    rcases List.mem_cons.1 h with h | h
    · subst h; omega
    · have := ih h; omega
theorem len_sum {α : Type} (m : α → Nat) (hm : ∀ x, 10 ≤ m x) : ∀ l : List α, 10 * l.length ≤ (l.map m).sum
  | [] => by simp
  | x :: r => by
    have := len_sum m hm r
    have := hm x
    rw [List.map_cons, List.sum_cons, List.length_cons]
    omega
theorem state_len {x : St21} (h : great21 x ≤ 5000) (h1 : ∀ y ∈ x.entries, EnBd y) (a1 : -9223372036854775808 ≤ x.now ∧ x.now ≤ 9223372036854775807) (a2 : -9223372036854775808 ≤ x.floor ∧ x.floor ≤ 9223372036854775807) (a3 : -9223372036854775808 ≤ x.epoch ∧ x.epoch ≤ 9223372036854775807) :
    (state21 x).length ≤ 100000 ∧ (∀ f ∈ x.feeds, f.length ≤ 5000) ∧ (∀ y ∈ x.entries, y.key.feed.length ≤ 5000 ∧ y.key.guid.length ≤ 5000 ∧ y.title.length ≤ 5000 ∧ y.link.length ≤ 5000 ∧ y.body.length ≤ 5000) ∧ (∀ k ∈ x.read, k.feed.length ≤ 5000 ∧ k.guid.length ≤ 5000) ∧ x.feeds.length ≤ 5000 ∧ x.entries.length ≤ 5000 ∧ x.read.length ≤ 5000 := by
  unfold great21 at h
  have m1 := len_sum eG (fun y => by unfold eG; omega) x.entries
  have m2 := len_sum fG (fun y => by unfold fG; omega) x.feeds
  have m3 := len_sum kG (fun y => by unfold kG; omega) x.read
  have t1 : ∀ f ∈ x.feeds, f.length ≤ 5000 := fun f hf => by have h9 := sum_mem fG hf; have e : fG f = min f.length 5000 + 10 := rfl; omega
  have t2 : ∀ y ∈ x.entries, y.key.feed.length ≤ 5000 ∧ y.key.guid.length ≤ 5000 ∧ y.title.length ≤ 5000 ∧ y.link.length ≤ 5000 ∧ y.body.length ≤ 5000 := fun y hy => by have h9 := sum_mem eG hy; have e : eG y = min y.title.length 5000 + min y.link.length 5000 + min y.body.length 5000 + min y.key.feed.length 5000 + min y.key.guid.length 5000 + 10 := rfl; omega
  have t3 : ∀ k ∈ x.read, k.feed.length ≤ 5000 ∧ k.guid.length ≤ 5000 := fun k hk => by have h9 := sum_mem kG hk; have e : kG k = min k.feed.length 5000 + min k.guid.length 5000 + 10 := rfl; omega
  have s1 := sum_len text21 fG 10 x.feeds fun f hf => by
    have := text_len f (by have := t1 f hf; omega)
    have := t1 f hf
    unfold fG; omega
  have s2 := sum_len ent21 eG 10 x.entries fun y hy => by
    obtain ⟨q1, q2, q3, q4, q5⟩ := t2 y hy
    have g1 := text_len y.key.feed (by omega)
    have g2 := text_len y.key.guid (by omega)
    have g3 := text_len y.title (by omega)
    have g4 := text_len y.link (by omega)
    have g5 := text_len y.body (by omega)
    have g6 := (int_len_bd (h1 y hy).st1 (h1 y hy).st2).2
    unfold ent21 key21 eG
    simp only [List.length_append, le_len]
    omega
  have s3 := sum_len key21 kG 10 x.read fun k hk => by
    obtain ⟨q1, q2⟩ := t3 k hk
    have g1 := text_len k.feed (by omega)
    have g2 := text_len k.guid (by omega)
    unfold key21 kG
    simp only [List.length_append]
    omega
  have i1 := (int_len_bd a1.1 a1.2).2
  have i2 := (int_len_bd a2.1 a2.2).2
  have i3 := (int_len_bd a3.1 a3.2).2
  have i4 := (int_len_bd (n := (x.feeds.length : Int)) (by omega) (by omega)).2
  have i5 := (int_len_bd (n := (x.entries.length : Int)) (by omega) (by omega)).2
  have i6 := (int_len_bd (n := (x.read.length : Int)) (by omega) (by omega)).2
  refine ⟨?_, t1, t2, t3, by omega, by omega, by omega⟩
  unfold state21
  simp only [List.length_append]
  omega
end Go.Proofs.Ytpfcamebkcengaa
