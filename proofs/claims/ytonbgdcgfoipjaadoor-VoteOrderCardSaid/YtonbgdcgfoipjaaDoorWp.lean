/- Plain mathematics of layer 3 (the words of a text): nothing of the program. -/
import Derived.Test.YtonbgdcgfoipjaaDoorUr
import Derived.Test.YtonbgdcgfoipjaaDoorFp
namespace Go.Proofs.YtonbgdcgfoipjaaDoor

/-- May a rune stand in a word? -/
def sg (r : Int) : Bool := letB r || digB r

/-- Runes, from the last one on: the stretch of signs that begins here, and the stretches behind. -/
def stepW (r : Int) (st : List Int × List (List Int)) : List Int × List (List Int) :=
  if sg r then (r :: st.1, st.2) else ([], if st.1 = [] then st.2 else st.1 :: st.2)
def closeW (st : List Int × List (List Int)) : List (List Int) := if st.1 = [] then st.2 else st.1 :: st.2
/-- The stretches of signs, as long as can be. -/
def runs (l : List Int) : List (List Int) := closeW (l.foldr stepW ([], []))

theorem stepW_no {r : Int} (h : sg r = false) (st : List Int × List (List Int)) : stepW r st = ([], closeW st) := by unfold stepW; rw [h]; rfl
theorem stepW_yes {r : Int} (h : sg r = true) (st : List Int × List (List Int)) : stepW r st = (r :: st.1, st.2) := by unfold stepW; rw [h]; rfl
theorem closeW_nil (R : List (List Int)) : closeW ([], R) = R := rfl
theorem runs_nil : runs [] = [] := rfl

theorem runs_skip {r : Int} (h : sg r = false) (l : List Int) : runs (r :: l) = runs l := by
  unfold runs; rw [List.foldr_cons, stepW_no h]; rfl
theorem runs_skips (ns : List Int) (h : ∀ x ∈ ns, sg x = false) (l : List Int) : runs (ns ++ l) = runs l := by
  induction ns with
  | nil => rfl
  | cons x ns ih => rw [List.cons_append, runs_skip (h x (List.mem_cons_self ..)), ih fun y hy => h y (List.mem_cons_of_mem _ hy)]

/-- What doesn't begin with a sign. -/
def noSg : List Int → Bool
  | [] => true
  | r :: _ => !sg r
theorem fold_noSg (l : List Int) (h : noSg l = true) : l.foldr stepW ([], []) = ([], runs l) := by
  cases l with
  | nil => rfl
  | cons r l =>
    have hr : sg r = false := by simpa [noSg] using h
    rw [runs_skip hr, List.foldr_cons, stepW_no hr]; rfl
theorem fold_signs (ms : List Int) (hm : ∀ x ∈ ms, sg x = true) (R : List (List Int)) : ms.foldr stepW ([], R) = (ms, R) := by
  induction ms with
  | nil => rfl
  | cons x ms ih => rw [List.foldr_cons, ih fun y hy => hm y (List.mem_cons_of_mem _ hy), stepW_yes (hm x (List.mem_cons_self ..))]
theorem runs_signs (ms : List Int) (hm : ∀ x ∈ ms, sg x = true) (h0 : ms ≠ []) (l : List Int) (hl : noSg l = true) : runs (ms ++ l) = ms :: runs l := by
  unfold runs
  rw [List.foldr_append, fold_noSg l hl, fold_signs ms hm]
  show (if ms = [] then _ else _) = _
  rw [if_neg h0]; rfl
theorem fold_base (a : List Int) (R : List (List Int)) : a.foldr stepW ([], R) = ((a.foldr stepW ([], [])).1, (a.foldr stepW ([], [])).2 ++ R) := by
  induction a with
  | nil => rfl
  | cons x a ih =>
    rw [List.foldr_cons, List.foldr_cons, ih]
    generalize a.foldr stepW ([], []) = st
    unfold stepW
    cases sg x
    · by_cases h : st.1 = []
      · simp [h]
      · simp [h]
    · simp
theorem runs_app (a b : List Int) (x : Int) (hx : sg x = false) : runs (a ++ x :: b) = runs a ++ runs b := by
  unfold runs
  rw [List.foldr_append, List.foldr_cons, stepW_no hx, fold_base]
  generalize a.foldr stepW ([], []) = st
  unfold closeW
  by_cases h : st.1 = [] <;> simp [h]
theorem runs_map (f : Int → Int) (hf : ∀ r, sg (f r) = sg r) (l : List Int) : runs (l.map f) = (runs l).map (List.map f) := by
  have key : (l.map f).foldr stepW ([], []) = ((l.foldr stepW ([], [])).1.map f, (l.foldr stepW ([], [])).2.map (List.map f)) := by
    induction l with
    | nil => rfl
    | cons x l ih =>
      rw [List.map_cons, List.foldr_cons, List.foldr_cons, ih]
      generalize l.foldr stepW ([], []) = st
      unfold stepW
      rw [hf x]
      cases sg x
      · by_cases h : st.1 = []
        · simp [h]
        · simp [h]
      · simp
  unfold runs
  rw [key]
  generalize l.foldr stepW ([], []) = st
  unfold closeW
  by_cases h : st.1 = [] <;> simp [h]
theorem fold_mem (l : List Int) : (∀ x ∈ (l.foldr stepW ([], [])).1, sg x = true) ∧ ∀ m ∈ (l.foldr stepW ([], [])).2, m ≠ [] ∧ ∀ x ∈ m, sg x = true := by
  induction l with
  | nil => simp
  | cons x l ih =>
    rw [List.foldr_cons]
    generalize l.foldr stepW ([], []) = st at ih
    cases hs : sg x
    · rw [stepW_no hs]
      refine ⟨by simp, fun m hm => ?_⟩
      unfold closeW at hm
      by_cases h : st.1 = []
      · rw [if_pos h] at hm; exact ih.2 m hm
      · rw [if_neg h] at hm
        rcases List.mem_cons.1 hm with rfl | hm
        · exact ⟨h, ih.1⟩
        · exact ih.2 m hm
    · rw [stepW_yes hs]
      refine ⟨fun y hy => ?_, ih.2⟩
      rcases List.mem_cons.1 hy with rfl | hy
      · exact hs
      · exact ih.1 y hy
theorem runs_mem (l : List Int) : ∀ m ∈ runs l, m ≠ [] ∧ ∀ x ∈ m, sg x = true := by
  intro m hm
  have ih := fold_mem l
  unfold runs closeW at hm
  by_cases h : (l.foldr stepW ([], [])).1 = []
  · rw [if_pos h] at hm; exact ih.2 m hm
  · rw [if_neg h] at hm
    rcases List.mem_cons.1 hm with rfl | hm
    · exact ⟨h, ih.1⟩
    · exact ih.2 m hm
theorem runs_len (l : List Int) : (runs l).length ≤ l.length := by
  have key : (l.foldr stepW ([], [])).1.length + (l.foldr stepW ([], [])).2.length ≤ l.length := by
    induction l with
    | nil => simp
    | cons x l ih =>
      rw [List.foldr_cons]
      generalize l.foldr stepW ([], []) = st at ih
      cases hs : sg x
      · rw [stepW_no hs]
        unfold closeW
        by_cases h : st.1 = []
        · rw [if_pos h]; simp at *; omega
        · rw [if_neg h]; have := List.length_pos_iff.2 h; simp at *; omega
      · rw [stepW_yes hs]; simp at *; omega
  unfold runs closeW
  by_cases h : (l.foldr stepW ([], [])).1 = []
  · rw [if_pos h]; omega
  · rw [if_neg h]; have := List.length_pos_iff.2 h; simp at *; omega

/-- The small forms' bytes, as many as have room. -/
def fitGo (acc : List UInt8) : List Int → List UInt8
  | [] => acc
  | r :: t => if acc.length + (enc (foldI r)).length ≤ 64 then fitGo (acc ++ enc (foldI r)) t else acc
def fit (m : List Int) : List UInt8 := fitGo [] m
/-- The words of runes; of bytes. -/
def wordsR (l : List Int) : List (List UInt8) := ((runs l).map fit).take 4096
def wordsB (s : List UInt8) : List (List UInt8) := wordsR (dec s)

theorem sg_is {r : Int} (h : sg r = true) : isR r = true := by
  have hl : (lettersL.all fun g => decide (0 ≤ g.f) && decide (g.t ≤ 1114111) && (decide (g.t < 55296) || decide (57343 < g.f))) = true := by decide +kernel
  have hd : (digitsL.all fun g => decide (0 ≤ g.f) && decide (g.t ≤ 1114111) && (decide (g.t < 55296) || decide (57343 < g.f))) = true := by decide +kernel
  have key : ∀ L : List Rg, (L.all fun g => decide (0 ≤ g.f) && decide (g.t ≤ 1114111) && (decide (g.t < 55296) || decide (57343 < g.f))) = true → (findR L r).isSome = true → isR r = true := by
    intro L hL hs
    cases hf : findR L r with
    | none => rw [hf] at hs; simp at hs
    | some g =>
      obtain ⟨h1, h2, h3⟩ := findR_mem _ _ _ hf
      have := List.all_eq_true.1 hL g h1
      simp at this
      exact (isR_iff r).2 (by omega)
  unfold sg at h
  rw [Bool.or_eq_true] at h
  rcases h with h | h
  · exact key _ hl h
  · exact key _ hd h
theorem sg_fold {r : Int} (h : sg r = true) : sg (foldI r) = true ∧ foldI (foldI r) = foldI r := by
  cases hl : letB r with
  | true => have := fold_once r hl; exact ⟨by unfold sg; rw [this.1]; rfl, this.2⟩
  | false => rw [letB_not hl]; exact ⟨h, letB_not hl⟩
theorem fixR_sg {r : Int} (h : sg r = true) : fixR r = r := by unfold fixR; rw [sg_is h]; rfl
theorem map_fixR (ms : List Int) (h : ∀ x ∈ ms, sg x = true) : ms.map fixR = ms := by
  induction ms with
  | nil => rfl
  | cons x ms ih => rw [List.map_cons, fixR_sg (h x (List.mem_cons_self ..)), ih fun y hy => h y (List.mem_cons_of_mem _ hy)]
theorem encAll_app (a b : List Int) : encAll (a ++ b) = encAll a ++ encAll b := by unfold encAll; simp
theorem encAll_one (r : Int) : encAll [r] = enc r := by unfold encAll enc; simp
theorem enc_bd (r : Int) : 1 ≤ (enc r).length ∧ (enc r).length ≤ 4 := by unfold enc; rw [encI_fix, List.length_map]; exact encR_ne _

/-- A word's runes: signs in their small forms, with room for all. -/
structure IsWord (ms : List Int) : Prop where
  ne : ms ≠ []
  sgs : ∀ x ∈ ms, sg x = true ∧ foldI x = x
  len : (encAll ms).length ≤ 64

theorem fitGo_form : ∀ (m : List Int) (a : List Int), (encAll a).length ≤ 64 → (∀ x ∈ m, sg x = true) → (∀ x ∈ a, sg x = true ∧ foldI x = x) →
    ∃ ms, fitGo (encAll a) m = encAll (a ++ ms) ∧ (∀ x ∈ a ++ ms, sg x = true ∧ foldI x = x) ∧ (encAll (a ++ ms)).length ≤ 64
  | [], a, ha, _, hs => ⟨[], by simp [fitGo], by simpa using hs, by simpa using ha⟩
  | r :: t, a, ha, hm, hs => by
    by_cases hr : (encAll a).length + (enc (foldI r)).length ≤ 64
    · have hsr := sg_fold (hm r (List.mem_cons_self ..))
      obtain ⟨ms, h1, h2, h3⟩ := fitGo_form t (a ++ [foldI r]) (by rw [encAll_app, encAll_one, List.length_append]; exact hr) (fun x hx => hm x (List.mem_cons_of_mem _ hx))
        (fun x hx => by rcases List.mem_append.1 hx with hx | hx
                        · exact hs x hx
                        · rw [List.mem_singleton.1 hx]; exact hsr)
      refine ⟨foldI r :: ms, ?_, ?_, ?_⟩
      · rw [fitGo, if_pos hr, ← encAll_one, ← encAll_app, h1]; simp
      · simpa using h2
      · simpa using h3
    · exact ⟨[], by rw [fitGo, if_neg hr]; simp, by simpa using hs, by simpa using ha⟩
theorem fit_form (m : List Int) (h0 : m ≠ []) (hm : ∀ x ∈ m, sg x = true) : ∃ ms, IsWord ms ∧ fit m = encAll ms := by
  match m, h0 with
  | r :: t, _ =>
    have hb := enc_bd (foldI r)
    have hsr := sg_fold (hm r (List.mem_cons_self ..))
    have e : encAll [foldI r] = enc (foldI r) := encAll_one _
    obtain ⟨ms, h1, h2, h3⟩ := fitGo_form t [foldI r] (by rw [e]; omega) (fun x hx => hm x (List.mem_cons_of_mem _ hx)) (fun x hx => by rw [List.mem_singleton.1 hx]; exact hsr)
    refine ⟨[foldI r] ++ ms, ⟨by simp, h2, h3⟩, ?_⟩
    unfold fit
    rw [fitGo, if_pos (by simp; omega), ← h1, e]; rfl
theorem fitGo_word : ∀ (b a : List Int), (encAll (a ++ b)).length ≤ 64 → (∀ x ∈ b, foldI x = x) → fitGo (encAll a) b = encAll (a ++ b)
  | [], a, _, _ => by simp [fitGo]
  | r :: t, a, ha, hf => by
    have hr := hf r (List.mem_cons_self ..)
    have e : encAll (a ++ [r]) = encAll a ++ enc r := by rw [encAll_app, encAll_one]
    have hlen : (encAll a).length + (enc r).length ≤ 64 := by
      have : a ++ r :: t = (a ++ [r]) ++ t := by simp
      rw [this, encAll_app, List.length_append, e, List.length_append] at ha
      omega
    rw [fitGo, hr, if_pos hlen, ← e, fitGo_word t (a ++ [r]) (by simpa using ha) fun x hx => hf x (List.mem_cons_of_mem _ hx)]
    simp
theorem fit_word {ms : List Int} (h : IsWord ms) : fit ms = encAll ms := by
  have := fitGo_word ms [] (by simpa using h.len) fun x hx => (h.sgs x hx).2
  simpa [fit, encAll] using this
theorem dec_word {ms : List Int} (h : IsWord ms) : dec (encAll ms) = ms ∧ val (encAll ms) = true := by
  have := dec_enc ms
  rw [map_fixR ms fun x hx => (h.sgs x hx).1] at this
  exact this

/-- What words are made of. -/
theorem words_form (l : List Int) : ∃ mss : List (List Int), (∀ ms ∈ mss, IsWord ms) ∧ wordsR l = mss.map encAll ∧ mss.length ≤ 4096 ∧ mss.length ≤ l.length := by
  have key : ∀ L : List (List Int), (∀ m ∈ L, m ≠ [] ∧ ∀ x ∈ m, sg x = true) → ∃ mss : List (List Int), (∀ ms ∈ mss, IsWord ms) ∧ L.map fit = mss.map encAll ∧ mss.length = L.length := by
    intro L
    induction L with
    | nil => exact fun _ => ⟨[], by simp, rfl, rfl⟩
    | cons m L ih =>
      intro h
      obtain ⟨mss, h1, h2, h3⟩ := ih fun x hx => h x (List.mem_cons_of_mem _ hx)
      obtain ⟨ms, k1, k2⟩ := fit_form m (h m (List.mem_cons_self ..)).1 (h m (List.mem_cons_self ..)).2
      refine ⟨ms :: mss, fun x hx => ?_, by rw [List.map_cons, List.map_cons, h2, k2], by simp [h3]⟩
      rcases List.mem_cons.1 hx with rfl | hx
      · exact k1
      · exact h1 x hx
  obtain ⟨mss, h1, h2, h3⟩ := key _ (runs_mem l)
  have := runs_len l
  refine ⟨mss.take 4096, fun x hx => h1 x (List.mem_of_mem_take hx), ?_, by simp; omega, by simp; omega⟩
  unfold wordsR
  rw [h2, List.map_take]

/-- Words with blanks between. -/
def joinB : List (List UInt8) → List UInt8
  | [] => []
  | [w] => w
  | w :: l => w ++ 32 :: joinB l
theorem joinB_cons (w : List UInt8) {l : List (List UInt8)} (h : l ≠ []) : joinB (w :: l) = w ++ 32 :: joinB l := by
  cases l with
  | nil => exact absurd rfl h
  | cons a l => rfl
theorem dec_ascii (c : UInt8) (h : c.toNat < 128) (l : List UInt8) : dec (c :: l) = (c.toNat : Int) :: dec l ∧ val (c :: l) = val l := by
  have hc : cutS (c :: l) = ((c.toNat : Int), 1, true) := cutS_one (by simp) (by rw [bt_zero]; omega)
  have hn : cutN (c :: l) = 1 := by unfold cutN; rw [hc]; rfl
  rw [dec_cons _ (by simp), val_cons _ (by simp), hn, hc]
  exact ⟨rfl, by simp⟩
theorem sg_blank : sg 32 = false := by decide
theorem dec_blank (l : List UInt8) : dec (32 :: l) = 32 :: dec l := (dec_ascii 32 (by decide) l).1
theorem runs_join : ∀ mss : List (List Int), (∀ ms ∈ mss, IsWord ms) → runs (dec (joinB (mss.map encAll))) = mss
  | [], _ => rfl
  | [ms], h => by
    have hw := h ms (List.mem_cons_self ..)
    show runs (dec (encAll ms)) = _
    rw [(dec_word hw).1]
    have := runs_signs ms (fun x hx => (hw.sgs x hx).1) hw.ne [] rfl
    simpa [runs_nil] using this
  | ms :: m2 :: l, h => by
    have hw := h ms (List.mem_cons_self ..)
    rw [List.map_cons, joinB_cons _ (by simp), (dec_app _ _ (dec_word hw).2).1, (dec_word hw).1, dec_blank,
      runs_signs ms (fun x hx => (hw.sgs x hx).1) hw.ne _ (by simp [noSg]; exact sg_blank), runs_skip sg_blank, runs_join (m2 :: l) fun x hx => h x (List.mem_cons_of_mem _ hx)]
theorem map_fit (mss : List (List Int)) (h : ∀ ms ∈ mss, IsWord ms) : mss.map fit = mss.map encAll := List.map_congr_left fun ms hm => fit_word (h ms hm)
/-- The words of words, with blanks between, are these. -/
theorem words_again (s : List UInt8) : wordsB (joinB (wordsB s)) = wordsB s := by
  obtain ⟨mss, h1, h2, h3, _⟩ := words_form (dec s)
  show wordsR (dec (joinB (wordsR (dec s)))) = wordsR (dec s)
  rw [h2]
  unfold wordsR
  rw [runs_join mss h1, map_fit mss h1, List.take_of_length_le (by simpa using h3)]
theorem words_bd (s : List UInt8) : (wordsB s).length ≤ 4096 ∧ (wordsB s).length ≤ s.length ∧ ∀ w ∈ wordsB s, w ≠ [] ∧ w.length ≤ 64 := by
  obtain ⟨mss, h1, h2, h3, h4⟩ := words_form (dec s)
  have hd := dec_len s
  show (wordsR (dec s)).length ≤ _ ∧ (wordsR (dec s)).length ≤ _ ∧ ∀ w ∈ wordsR (dec s), _
  rw [h2]
  refine ⟨by simpa using h3, by simp; omega, fun w hw => ?_⟩
  obtain ⟨ms, hm, rfl⟩ := List.mem_map.1 hw
  have hw := h1 ms hm
  refine ⟨?_, hw.len⟩
  intro h
  have e := (dec_word hw).1
  rw [h] at e
  exact hw.ne e.symm
theorem joinB_len : ∀ l : List (List UInt8), (joinB l).length ≤ (l.map List.length).sum + l.length
  | [] => by simp [joinB]
  | [w] => by simp [joinB]
  | w :: w2 :: l => by
    have := joinB_len (w2 :: l)
    rw [joinB_cons _ (by simp)]
    simp at *; omega

/-- Words that each stand behind, and ahead of, what is none. -/
theorem runs_seps (sep : List UInt8) (ns : List Int) (hd : ∀ l, dec (sep ++ l) = ns ++ dec l) (hn : ∀ x ∈ ns, sg x = false) (h0 : ns ≠ []) :
    ∀ mss : List (List Int), (∀ ms ∈ mss, IsWord ms) → runs (dec ((mss.map encAll).flatMap fun w => w ++ sep)) = mss
  | [], _ => rfl
  | ms :: l, h => by
    have hw := h ms (List.mem_cons_self ..)
    rw [List.map_cons, List.flatMap_cons, List.append_assoc, (dec_app _ _ (dec_word hw).2).1, (dec_word hw).1, hd,
      runs_signs ms (fun x hx => (hw.sgs x hx).1) hw.ne _ ?_, runs_skips ns hn, runs_seps sep ns hd hn h0 l fun x hx => h x (List.mem_cons_of_mem _ hx)]
    cases ns with
    | nil => exact absurd rfl h0
    | cons x ns => simp [noSg, hn x (List.mem_cons_self ..)]
theorem words_seps (sep : List UInt8) (ns : List Int) (hd : ∀ l, dec (sep ++ l) = ns ++ dec l) (hn : ∀ x ∈ ns, sg x = false) (h0 : ns ≠ []) (s : List UInt8) :
    wordsB (sep ++ (wordsB s).flatMap fun w => w ++ sep) = wordsB s := by
  obtain ⟨mss, h1, h2, h3, _⟩ := words_form (dec s)
  show wordsR (dec (sep ++ (wordsR (dec s)).flatMap fun w => w ++ sep)) = wordsR (dec s)
  rw [h2]
  unfold wordsR
  rw [hd, runs_skips ns hn, runs_seps sep ns hd hn h0 mss h1, map_fit mss h1, List.take_of_length_le (by simpa using h3)]

/- Bytes that are cut alike. -/
theorem cutGo_like {l l' : List UInt8} {n : Int} (h : ∀ i, 1 ≤ i → i ≤ l.length → ((i = l.length ∨ bt l i < 128) ∧ (i = l'.length ∨ bt l' i < 128)) ∨ (i < l.length ∧ i < l'.length ∧ bt l i = bt l' i)) :
    ∀ (f i : Nat) (lo hi r : Int), 1 ≤ i → i ≤ l.length → 128 ≤ lo → cutGo l n f i lo hi r = cutGo l' n f i lo hi r
  | 0, _, _, _, _, _, _, _ => rfl
  | f + 1, i, lo, hi, r, h1, h2, h3 => by
    rw [cutGo, cutGo]
    by_cases hn : (i : Int) ≤ n
    · rw [if_pos hn, if_pos hn]
      rcases h i h1 h2 with ⟨ha, hb⟩ | ⟨ha, hb, he⟩
      · rw [if_pos (by omega), if_pos (by omega)]
      · rw [he]
        by_cases hbad : bt l' i < lo ∨ hi < bt l' i
        · rw [if_pos (by omega), if_pos (by omega)]
        · rw [if_neg (by omega), if_neg (by omega)]
          exact cutGo_like h f (i + 1) 128 191 _ (by omega) (by omega) (by omega)
    · rw [if_neg hn, if_neg hn]
theorem cutS_like {l l' : List UInt8} (h0 : l ≠ []) (h0' : l' ≠ []) (hb : bt l 0 = bt l' 0)
    (h : ∀ i, 1 ≤ i → i ≤ l.length → ((i = l.length ∨ bt l i < 128) ∧ (i = l'.length ∨ bt l' i < 128)) ∨ (i < l.length ∧ i < l'.length ∧ bt l i = bt l' i)) : cutS l = cutS l' := by
  have hl := len_pos h0
  unfold cutS
  rw [if_neg h0, if_neg h0', ← hb]
  by_cases h1 : bt l 0 < 128
  · rw [if_pos h1, if_pos h1]
  rw [if_neg h1, if_neg h1]
  by_cases h2 : (fl (bt l 0)).1 = 0
  · rw [if_pos h2, if_pos h2]
  rw [if_neg h2, if_neg h2]
  refine cutGo_like h 4 1 _ _ _ (by omega) (by omega) ?_
  rcases fl_cases (bt l 0) with ⟨hf, _⟩ | ⟨n, lo, hi, hf, _, _, c3, _⟩
  · rw [hf] at h2; exact absurd rfl h2
  · rw [hf]; exact c3
theorem bt_app_right (s t : List UInt8) : bt (s ++ t) s.length = bt t 0 := by
  unfold bt; rw [List.getD, List.getD, List.getElem?_append_right (Nat.le_refl _), Nat.sub_self]
/-- What stands ahead of a byte below 128 is cut as it would be alone. -/
theorem cut_ahead (s t : List UInt8) (h : s ≠ []) (ht : t = [] ∨ bt t 0 < 128) : cutS (s ++ t) = cutS s := by
  have hl := len_pos h
  refine (cutS_like h (by simp [h]) (bt_app s t 0 hl).symm fun i h1 h2 => ?_).symm
  rcases Nat.lt_or_ge i s.length with hi | hi
  · exact Or.inr ⟨hi, by simp; omega, (bt_app s t i hi).symm⟩
  · have : i = s.length := by omega
    subst this
    refine Or.inl ⟨Or.inl rfl, ?_⟩
    rcases ht with rfl | ht
    · exact Or.inl (by simp)
    · exact Or.inr (by rw [bt_app_right]; exact ht)
theorem dec_ahead (t : List UInt8) (ht : t = [] ∨ bt t 0 < 128) : ∀ s, dec (s ++ t) = dec s ++ dec t := by
  refine list_ind rfl fun s h ih => ?_
  have hc := cut_ahead s t h ht
  have hn : cutN (s ++ t) = cutN s := by unfold cutN; rw [hc]
  have hb := cutN_bd s h
  have hd : (s ++ t).drop (cutN (s ++ t)) = s.drop (cutN s) ++ t := by rw [hn, List.drop_append_of_le_length hb.2.1]
  rw [dec_cons _ (by simp [h] : s ++ t ≠ []), hd, hc, ih, dec_cons s h]
  rfl
/-- The words of two texts with a blank between. -/
theorem words_parts (s t : List UInt8) (hs : s.length ≤ 2000) (ht : t.length ≤ 2000) : wordsB (s ++ 32 :: t) = wordsB s ++ wordsB t := by
  have h1 := dec_ahead (32 :: t) (Or.inr (by rw [bt_zero]; decide)) s
  have ds := dec_len s
  have dt := dec_len t
  have rs := runs_len (dec s)
  have rt := runs_len (dec t)
  unfold wordsB wordsR
  rw [h1, dec_blank, runs_app _ _ _ sg_blank, List.map_append, List.take_of_length_le (by simp; omega), List.take_of_length_le (by simp; omega), List.take_of_length_le (by simp; omega)]

/- Letters from A to Z, great or small. -/
/-- A turn of bytes that leaves those of 128 and more, and keeps the others below. -/
structure Turn (f : UInt8 → UInt8) : Prop where
  hi : ∀ c : UInt8, 128 ≤ c.toNat → f c = c
  lo : ∀ c : UInt8, c.toNat < 128 → (f c).toNat < 128
/-- What it makes of runes. -/
def turnR (f : UInt8 → UInt8) (r : Int) : Int := if 0 ≤ r ∧ r < 128 then ((f (u8 r)).toNat : Int) else r
theorem bt_map (f : UInt8 → UInt8) (l : List UInt8) (i : Nat) (h : i < l.length) : bt (l.map f) i = ((f (l[i])).toNat : Int) ∧ bt l i = (l[i].toNat : Int) := by
  unfold bt; simp [List.getD, h]
theorem cut_turn {f : UInt8 → UInt8} (hf : Turn f) (l : List UInt8) (h : l ≠ []) : cutS (l.map f) = (turnR f (cutS l).1, (cutS l).2) := by
  have hl := len_pos h
  obtain ⟨e1, e2⟩ := bt_map f l 0 hl
  by_cases h1 : bt l 0 < 128
  · have hx : l[0].toNat < 128 := by omega
    have := hf.lo _ hx
    rw [cutS_one h h1, cutS_one (by simpa using h) (by omega), e1, e2]
    unfold turnR
    rw [if_pos (by omega), show u8 ((l[0].toNat : Nat) : Int) = l[0] from by unfold u8; simp]
  · have hx : 128 ≤ l[0].toNat := by omega
    rw [hf.hi _ hx] at e1
    have hc : cutS l = cutS (l.map f) := by
      refine cutS_like h (by simpa using h) (by omega) fun i i1 i2 => ?_
      rcases Nat.lt_or_ge i l.length with hi | hi
      · obtain ⟨a1, a2⟩ := bt_map f l i hi
        by_cases hb : bt l i < 128
        · have := hf.lo l[i] (by omega)
          exact Or.inl ⟨Or.inr hb, Or.inr (by omega)⟩
        · rw [hf.hi l[i] (by omega)] at a1
          exact Or.inr ⟨hi, by simpa using hi, by omega⟩
      · exact Or.inl ⟨Or.inl (by omega), Or.inl (by simp; omega)⟩
    rw [← hc]
    have hr : ¬ (0 ≤ (cutS l).1 ∧ (cutS l).1 < 128) := by
      rcases cutS_ways l h with ⟨c, e⟩ | ⟨n, _, _, _, e⟩ | ⟨_, _, _, _, _, e⟩ | ⟨_, _, _, _, _, _, _, _, _, e⟩ | ⟨_, _, _, _, _, _, _, _, _, _, _, e⟩ <;> rw [e] <;> simp only <;> omega
    unfold turnR
    rw [if_neg hr]
theorem dec_turn {f : UInt8 → UInt8} (hf : Turn f) : ∀ l, dec (l.map f) = (dec l).map (turnR f) := by
  refine list_ind rfl fun l h ih => ?_
  have hc := cut_turn hf l h
  have hn : cutN (l.map f) = cutN l := by unfold cutN; rw [hc]
  have hd : (l.map f).drop (cutN (l.map f)) = (l.drop (cutN l)).map f := by rw [hn, List.map_drop]
  rw [dec_cons _ (by simpa using h), hd, hc, ih, dec_cons l h]
  rfl
def upC (c : UInt8) : UInt8 := if 97 ≤ c.toNat ∧ c.toNat ≤ 122 then UInt8.ofNat (c.toNat - 32) else c
def loC (c : UInt8) : UInt8 := if 65 ≤ c.toNat ∧ c.toNat ≤ 90 then UInt8.ofNat (c.toNat + 32) else c
theorem upC_nat (c : UInt8) : (upC c).toNat = if 97 ≤ c.toNat ∧ c.toNat ≤ 122 then c.toNat - 32 else c.toNat := by
  unfold upC; have := c.toNat_lt; split <;> simp <;> omega
theorem loC_nat (c : UInt8) : (loC c).toNat = if 65 ≤ c.toNat ∧ c.toNat ≤ 90 then c.toNat + 32 else c.toNat := by
  unfold loC; have := c.toNat_lt; split <;> simp <;> omega
theorem upC_turn : Turn upC := ⟨fun c h => by unfold upC; rw [if_neg (by omega)], fun c h => by rw [upC_nat]; split <;> omega⟩
theorem loC_turn : Turn loC := ⟨fun c h => by unfold loC; rw [if_neg (by omega)], fun c h => by rw [loC_nat]; split <;> omega⟩
/-- Below 128 a letter's great form and its small one are signs alike, and have one small form. -/
def caseB (r : Int) : Bool := (sg (turnR upC r) == sg r) && (sg (turnR loC r) == sg r) && decide (foldI (turnR upC r) = foldI r) && decide (foldI (turnR loC r) = foldI r)
theorem case_all : allTo caseB 128 0 = true := by decide +kernel
theorem case_of (r : Int) : sg (turnR upC r) = sg r ∧ sg (turnR loC r) = sg r ∧ foldI (turnR upC r) = foldI r ∧ foldI (turnR loC r) = foldI r := by
  by_cases h : 0 ≤ r ∧ r < 128
  · have := allTo_of 128 0 case_all r h.1 (by omega)
    unfold caseB at this
    simp at this
    exact ⟨this.1.1.1, this.1.1.2, this.1.2, this.2⟩
  · unfold turnR
    rw [if_neg h, if_neg h]
    exact ⟨rfl, rfl, rfl, rfl⟩
theorem fitGo_map (f : Int → Int) (hf : ∀ r, foldI (f r) = foldI r) : ∀ (m : List Int) (a : List UInt8), fitGo a (m.map f) = fitGo a m
  | [], _ => rfl
  | r :: t, a => by
    rw [List.map_cons, fitGo, fitGo, hf r]
    by_cases h : a.length + (enc (foldI r)).length ≤ 64
    · rw [if_pos h, if_pos h, fitGo_map f hf t]
    · rw [if_neg h, if_neg h]
theorem words_map (f : Int → Int) (hs : ∀ r, sg (f r) = sg r) (hf : ∀ r, foldI (f r) = foldI r) (l : List Int) : wordsR (l.map f) = wordsR l := by
  unfold wordsR
  rw [runs_map f hs, List.map_map]
  congr 1
  exact List.map_congr_left fun m _ => fitGo_map f hf m []
/-- Great letters from A to Z are the small ones. -/
theorem words_case (s : List UInt8) : wordsB (s.map upC) = wordsB (s.map loC) := by
  unfold wordsB
  rw [dec_turn upC_turn, dec_turn loC_turn, words_map _ (fun r => (case_of r).1) (fun r => (case_of r).2.2.1), words_map _ (fun r => (case_of r).2.1) (fun r => (case_of r).2.2.2)]
end Go.Proofs.YtonbgdcgfoipjaaDoor
