/- Layer 17, plain: a cleaned text is no longer; printed dates are plain, and are read. -/
import Derived.Test.YtahohmdbiiknoaaGreatDoorBR15
import Derived.Test.YtahohmdbiiknoaaGreatDoorBR02
import Derived.Test.YtahohmdbiiknoaaGreatDoorBR12
import Derived.Test.YtahohmdbiiknoaaGreatDoorBR03
namespace Go.Proofs.YtahohmdbiiknoaaGreatDoor

theorem spT_short : ∀ (l : List UInt8) (a g : Bool) (n : Nat), (spT a g n l).length ≤ l.length + (if (a && g) = true then 1 else 0)
  | [], a, g, n => by rw [spT_nil]; simp
  | c :: t, a, g, n + 1 => by have := spT_short t a g n; rw [spT, List.length_cons]; omega
  | c :: t, a, g, 0 => by
    rw [spT]
    split
    · have := spT_short t true false 0
      simp only [List.length_append, List.length_cons]
      split <;> simp at this ⊢ <;> omega
    · have := spT_short t a true (blankN (c :: t) - 1)
      rw [List.length_cons]
      revert this
      cases a <;> cases g <;> simp <;> omega
theorem named_two {l x : List UInt8} (h : namedS l = some x) : 2 ≤ l.length := by
  match l with
  | [] => cases (show namedS [] = none by decide).symm.trans h
  | [c] =>
    exfalso
    unfold namedS at h
    rw [if_neg (by unfold ltL; simp), if_neg (by unfold gtL; simp), if_neg (by unfold ampL; simp), if_neg (by unfold quotL; simp), if_neg (by unfold aposL; simp)] at h
    have : charB (numI [c]) = false := by
      unfold numI
      rw [if_neg (by unfold Lib.hasPrefix; simp [List.isPrefixOf])]
      split
      · rfl
      · rfl
    rw [this] at h
    cases h
  | _ :: _ :: _ => simp
theorem entF_short (d : List UInt8) (hd : d ≠ []) : (entF d).1.length ≤ (entF d).2 + 1 ∧ (entF d).2 + 1 ≤ d.length := by
  refine ⟨?_, (entF_bd d hd).2⟩
  have h1 : (d.take 1).length ≤ 1 := by rw [List.length_take]; omega
  unfold entF
  split
  · rename_i hc
    cases hn : namedS ((d.take (Lib.indexByte d 59).toNat).drop 1) with
    | none => exact h1
    | some x =>
      have h2 := named_len hn
      have h3 := named_two hn
      rw [List.length_drop, List.length_take] at h3
      show x.length ≤ (Lib.indexByte d 59).toNat + 1
      omega
  · exact h1
theorem ent_short (l : List UInt8) : (entB l).length ≤ l.length := by
  have : ∀ (n : Nat) (l : List UInt8), l.length ≤ n → (entB l).length ≤ l.length := by
    intro n
    induction n with
    | zero => intro l h; cases l with
      | nil => simp [entB, walkT]
      | cons c t => simp at h
    | succ n ih =>
      intro l h
      by_cases h0 : l = []
      · subst h0; simp [entB, walkT]
      have hbd := entF_short l h0
      rw [ent_step l h0, List.length_append]
      have := ih (l.drop ((entF l).2 + 1)) (by rw [List.length_drop]; omega)
      rw [List.length_drop] at this
      omega
  exact this _ l (Nat.le_refl _)
/-- A cleaned text is no longer. -/
theorem clean_short (l : List UInt8) : (cleanB l).length ≤ l.length := by
  have h1 := strip_len l
  have h2 := ent_short (stripB l)
  have h3 := spT_short (entB (stripB l)) false false 0
  unfold cleanB spB
  simp only [Bool.false_and, Bool.false_eq_true, if_false, Nat.add_zero] at h3
  omega

/-- A sign that is no blank and no mark. -/
def inkB (c : UInt8) : Bool := decide (33 ≤ c.toNat) && decide (c.toNat ≤ 126) && (c != 60) && (c != 38)
theorem ink_bd {c : UInt8} (h : inkB c = true) : 33 ≤ c.toNat ∧ c.toNat ≤ 126 ∧ c ≠ 60 ∧ c ≠ 38 := by
  unfold inkB at h
  simp only [Bool.and_eq_true, decide_eq_true_eq, bne_iff_ne, ne_eq] at h
  exact ⟨h.1.1.1, h.1.1.2, h.1.2, h.2⟩
theorem nf_word : ∀ (w : List UInt8) (b : Bool) (t : List UInt8), w ≠ [] → w.all inkB = true → nfB b (w ++ t) = nfB true t
  | [], _, _, h, _ => absurd rfl h
  | c :: w, b, t, _, h => by
    rw [List.all_cons, Bool.and_eq_true] at h
    have hc := ink_bd h.1
    have h32 : c ≠ 32 := by rintro rfl; exact absurd hc.1 (by decide)
    have h0 : ∀ s : List UInt8, blankN (c :: s) = 0 := fun s => by
      have hb : bt (c :: s) 0 = (c.toNat : Int) := by unfold bt; rfl
      unfold blankN
      rw [hb, if_neg (by omega), if_neg (by omega)]
    rw [List.cons_append, nfB, if_neg (fun e => h32 e.2), h0, decide_eq_true rfl, Bool.true_and]
    cases w with
    | nil => rfl
    | cons d w => exact nf_word (d :: w) true t (by simp) h.2
/-- Words, a blank between. -/
def wordsT : List (List UInt8) → List UInt8
  | [] => []
  | [w] => w
  | w :: v :: r => w ++ 32 :: wordsT (v :: r)
theorem nf_words : ∀ (ws : List (List UInt8)), ws ≠ [] → (∀ w ∈ ws, w ≠ [] ∧ w.all inkB = true) → nfB false (wordsT ws) = true
  | [], h, _ => absurd rfl h
  | [w], _, h => by
    have := nf_word w false [] (h w (by simp)).1 (h w (by simp)).2
    rw [List.append_nil] at this
    rw [wordsT, this]; rfl
  | w :: v :: r, _, h => by
    rw [wordsT, nf_word w false _ (h w (by simp)).1 (h w (by simp)).2, nfB, if_pos ⟨rfl, rfl⟩]
    exact nf_words (v :: r) (by simp) fun x hx => h x (by simp [hx])
theorem no_words : ∀ (ws : List (List UInt8)) (x : UInt8), (x = 60 ∨ x = 38) → (∀ w ∈ ws, w.all inkB = true) → x ∉ wordsT ws
  | [], _, _, _ => by simp [wordsT]
  | [w], x, hx, h => by
    intro hm
    have := ink_bd (List.all_eq_true.1 (h w (by simp)) x hm)
    rcases hx with e | e
    · exact this.2.2.1 e
    · exact this.2.2.2 e
  | w :: v :: r, x, hx, h => by
    intro hm
    rw [wordsT, List.mem_append, List.mem_cons] at hm
    rcases hm with hm | hm | hm
    · have := ink_bd (List.all_eq_true.1 (h w (by simp)) x hm)
      rcases hx with e | e
      · exact this.2.2.1 e
      · exact this.2.2.2 e
    · subst hm; rcases hx with e | e <;> exact absurd e (by decide)
    · exact no_words (v :: r) x hx (fun y hy => h y (by simp [hy])) hm
theorem plain_words {ws : List (List UInt8)} (h0 : ws ≠ []) (h : ∀ w ∈ ws, w ≠ [] ∧ w.all inkB = true) : plainB (wordsT ws) = true := by
  unfold plainB
  rw [containsAny_two]
  have h1 := no_words ws 60 (Or.inl rfl) fun w hw => (h w hw).2
  have h2 := no_words ws 38 (Or.inr rfl) fun w hw => (h w hw).2
  have h3 := (spB_iff (wordsT ws)).2 (Or.inr (nf_words ws h0 h))
  simp [h1, h2, h3]
theorem ink_dig : ∀ k : Fin 10, inkB (dig k.1) = true := by decide
theorem ink_two {n : Nat} (h : n < 100) : two13 n ≠ [] ∧ (two13 n).all inkB = true := by
  refine ⟨by unfold two13; simp, ?_⟩
  have h1 := ink_dig ⟨n / 10, by omega⟩
  have h2 := ink_dig ⟨n % 10, by omega⟩
  unfold two13
  simp only [List.all_cons, List.all_nil, Bool.and_true, h1, h2]
theorem ink_four {n : Nat} (h : n ≤ 9999) : four13 n ≠ [] ∧ (four13 n).all inkB = true := by
  refine ⟨by unfold four13; simp, ?_⟩
  have h1 := ink_dig ⟨n / 1000, by omega⟩
  have h2 := ink_dig ⟨n / 100 % 10, by omega⟩
  have h3 := ink_dig ⟨n / 10 % 10, by omega⟩
  have h4 := ink_dig ⟨n % 10, by omega⟩
  unfold four13
  simp only [List.all_cons, List.all_nil, Bool.and_true, h1, h2, h3, h4]
theorem ink_clock {c : Nat} (h : c < 86400) : clock13 c ≠ [] ∧ (clock13 c).all inkB = true := by
  have h1 := (ink_two (n := c / 3600) (by omega)).2
  have h2 := (ink_two (n := c / 60 % 60) (by omega)).2
  have h3 := (ink_two (n := c % 60) (by omega)).2
  refine ⟨by unfold clock13; simp, ?_⟩
  unfold clock13
  simp only [List.all_append, h1, h2, h3, Bool.and_true, Bool.true_and]
  decide
theorem ink_week : ∀ k : Fin 7, (weekL.getD k.1 [] ++ [44]).all inkB = true := by decide
theorem ink_month : ∀ k : Fin 12, monthsL.getD k.1 [] ≠ [] ∧ (monthsL.getD k.1 []).all inkB = true := by decide
theorem in_words : ∀ (ws : List (List UInt8)), (∀ w ∈ ws, w.all inkB = true) → ∀ c ∈ wordsT ws, inkB c = true ∨ c = 32
  | [], _, _, hc => by simp [wordsT] at hc
  | [w], h, c, hc => Or.inl (List.all_eq_true.1 (h w (by simp)) c hc)
  | w :: v :: r, h, c, hc => by
    rw [wordsT, List.mem_append, List.mem_cons] at hc
    rcases hc with hc | hc | hc
    · exact Or.inl (List.all_eq_true.1 (h w (by simp)) c hc)
    · exact Or.inr hc
    · exact in_words (v :: r) (fun y hy => h y (by simp [hy])) c hc
/-- A printed date is words. -/
theorem print82_words {n : Int} (h0 : 0 ≤ n) (h9 : n ≤ 253402300799) : ∃ ws, print82 n = wordsT ws ∧ ws ≠ [] ∧ ∀ w ∈ ws, w ≠ [] ∧ w.all inkB = true := by
  obtain ⟨N, rfl⟩ := Int.eq_ofNat_of_zero_le h0
  have hN : N / 86400 ≤ 2932896 := by omega
  obtain ⟨c1, c2, c3, c4⟩ := civN_in hN
  unfold print82
  rw [if_neg (by omega)]
  simp only [Int.toNat_natCast]
  generalize hk : (N / 86400 + 3) % 7 = k
  have hk7 : k < 7 := by omega
  refine ⟨[weekL.getD k [] ++ [44], two13 (civN (N / 86400)).2.2, monthsL.getD ((civN (N / 86400)).2.1 - 1) [], four13 (civN (N / 86400)).1, clock13 (N % 86400), [71, 77, 84]], ?_, by simp, fun w hw => ?_⟩
  · unfold p82
    simp only [wordsT, List.append_assoc, List.cons_append, List.nil_append]
  · simp only [List.mem_cons, List.not_mem_nil, or_false] at hw
    rcases hw with rfl | rfl | rfl | rfl | rfl | rfl
    · exact ⟨by simp, ink_week ⟨k, hk7⟩⟩
    · exact ink_two c4
    · exact ink_month ⟨(civN (N / 86400)).2.1 - 1, by omega⟩
    · exact ink_four c1
    · exact ink_clock (by omega)
    · decide
theorem print39_words {n : Int} (h0 : 0 ≤ n) (h9 : n ≤ 253402300799) : ∃ ws, print39 n = wordsT ws ∧ ws ≠ [] ∧ ∀ w ∈ ws, w ≠ [] ∧ w.all inkB = true := by
  obtain ⟨N, rfl⟩ := Int.eq_ofNat_of_zero_le h0
  have hN : N / 86400 ≤ 2932896 := by omega
  obtain ⟨c1, c2, c3, c4⟩ := civN_in hN
  unfold print39
  rw [if_neg (by omega)]
  simp only [Int.toNat_natCast]
  refine ⟨[p39 (civN (N / 86400)).1 (civN (N / 86400)).2.1 (civN (N / 86400)).2.2 (N % 86400)], rfl, by simp, fun w hw => ?_⟩
  rw [List.mem_singleton] at hw
  subst hw
  have h1 := (ink_four c1).2
  have h2 := (ink_two (n := (civN (N / 86400)).2.1) (by omega)).2
  have h3 := (ink_two c4).2
  have h4 := (ink_clock (c := N % 86400) (by omega)).2
  refine ⟨by unfold p39; simp, ?_⟩
  unfold p39
  simp only [List.all_append, h1, h2, h3, h4, Bool.and_true, Bool.true_and]
  decide
/-- A printed date is plain, and is read as it was. -/
theorem print82_back {n : Int} (h0 : 0 ≤ n) (h9 : n ≤ 253402300799) : plainB (print82 n) = true ∧ r822C (print82 n) = (n, true) := by
  obtain ⟨ws, e, hw0, hw⟩ := print82_words h0 h9
  refine ⟨by rw [e]; exact plain_words hw0 hw, ?_⟩
  clear e hw0 hw
  obtain ⟨N, rfl⟩ := Int.eq_ofNat_of_zero_le h0
  have hN : N / 86400 ≤ 2932896 := by omega
  obtain ⟨c1, c2, c3, c4⟩ := civN_in hN
  unfold print82
  rw [if_neg (by omega)]
  simp only [Int.toNat_natCast]
  rw [p82_eq, read82 (Nat.mod_lt _ (by decide)) c1 c2 c3 c4 (by omega), r822g_gmt, date_read hN (by omega) (by omega)]
  congr 1
  omega
theorem print39_back {n : Int} (h0 : 0 ≤ n) (h9 : n ≤ 253402300799) : plainB (print39 n) = true ∧ r3339C (print39 n) = (n, true) := by
  obtain ⟨ws, e, hw0, hw⟩ := print39_words h0 h9
  refine ⟨by rw [e]; exact plain_words hw0 hw, ?_⟩
  clear e hw0 hw
  obtain ⟨N, rfl⟩ := Int.eq_ofNat_of_zero_le h0
  have hN : N / 86400 ≤ 2932896 := by omega
  obtain ⟨c1, c2, c3, c4⟩ := civN_in hN
  unfold print39
  rw [if_neg (by omega)]
  simp only [Int.toNat_natCast]
  rw [p39_eq, read39 c1 (by omega) c4 (by omega) _ (by decide), r3339f_z, date_read hN (by omega) (by omega)]
  congr 1
  omega
end Go.Proofs.YtahohmdbiiknoaaGreatDoor

/- Layer 17, plain: what is read of printed documents. -/
namespace Go.Proofs.YtahohmdbiiknoaaGreatDoor

/-- An entry's fields, as RSS and as Atom have them. -/
def rssF (x : It) : List Pf := [.el guidL x.guid, .el titleL x.title, .el linkL x.link, .el descL x.body] ++ if x.dated = true then [.el pubL (print82 x.date)] else []
def atomF (x : It) : List Pf := [.el idL x.guid, .el titleL x.title, .lk linkL hrefL x.link, .el sumL x.body] ++ if x.dated = true then [.el updL (print39 x.date)] else []
/-- An entry as it is read. -/
def cleanI (x : It) : It := ⟨cleanB x.guid, cleanB x.title, cleanB x.link, cleanB x.body, if x.dated = true then x.date else 0, x.dated⟩
/-- An entry that may be read back. -/
structure Fine (x : It) : Prop where
  name : cleanB x.guid ≠ []
  g : x.guid.length ≤ 256
  t : x.title.length ≤ 1024
  l : x.link.length ≤ 1024
  b : x.body.length ≤ 1024
  date : x.dated = true → 0 ≤ x.date ∧ x.date ≤ 253402300799
theorem rssF_ok (x : It) : ∀ f ∈ rssF x, f.ok = true := by
  intro f hf
  unfold rssF at hf
  rcases List.mem_append.1 hf with hf | hf
  · simp only [List.mem_cons, List.not_mem_nil, or_false] at hf
    rcases hf with rfl | rfl | rfl | rfl <;> first | (show nameB _ = true; decide) | (show (nameB linkL && nameB hrefL) = true; decide)
  · split at hf
    · rw [List.mem_singleton] at hf; subst hf; show nameB _ = true; decide
    · cases hf
theorem atomF_ok (x : It) : ∀ f ∈ atomF x, f.ok = true := by
  intro f hf
  unfold atomF at hf
  rcases List.mem_append.1 hf with hf | hf
  · simp only [List.mem_cons, List.not_mem_nil, or_false] at hf
    rcases hf with rfl | rfl | rfl | rfl <;> first | (show nameB _ = true; decide) | (show (nameB linkL && nameB hrefL) = true; decide)
  · split at hf
    · rw [List.mem_singleton] at hf; subst hf; show nameB _ = true; decide
    · cases hf
theorem fd_name {F : List Pf} (h : ∀ f ∈ F, f.ok = true) : ∀ f ∈ F.map Pf.fd, f.nm ≠ [] := by
  intro f hf
  obtain ⟨p, hp, rfl⟩ := List.mem_map.1 hf
  have hk := h p hp
  cases p with
  | el nm x => exact name_ne hk
  | lk nm an x =>
    have : (nameB nm && nameB an) = true := hk
    rw [Bool.and_eq_true] at this
    exact name_ne this.1
theorem short_fine {x : It} (h : Fine x) : shortB (cleanI x) 1024 = true := by
  rw [shortB_iff]
  have h1 := clean_short x.guid
  have h2 := clean_short x.title
  have h3 := clean_short x.link
  have h4 := clean_short x.body
  have := h.g
  have := h.t
  have := h.l
  have := h.b
  unfold cleanI
  simp only
  omega
/-- What one says of an entry of RSS. -/
theorem rss_one {x : It} (h : Fine x) {F : List UInt8 → Option (List UInt8)} (hF : ∀ nm, nm ≠ [] → F nm = (((rssF x).map Pf.fd).find? fun f => f.nm == nm).map fun f => cleanB f.txt) : itO F r822C 1024 = .it (cleanI x) := by
  have e1 : F guidL = some (cleanB x.guid) := hF guidL (by decide)
  have e2 : F titleL = some (cleanB x.title) := hF titleL (by decide)
  have e3 : F linkL = some (cleanB x.link) := hF linkL (by decide)
  have e4 : F descL = some (cleanB x.body) := hF descL (by decide)
  have e5 : F pubL = if x.dated = true then some (cleanB (print82 x.date)) else none := by
    rw [hF pubL (by decide)]
    unfold rssF
    cases x.dated <;> rfl
  have hone : oneB F r822C = cleanI x ∧ lateB F r822C = false := by
    unfold oneB lateB cleanI
    rw [e1, e2, e3, e4, e5]
    cases hd : x.dated with
    | false => exact ⟨rfl, rfl⟩
    | true =>
      obtain ⟨d1, d2⟩ := h.date hd
      obtain ⟨p1, p2⟩ := print82_back d1 d2
      simp only [if_true, clean_plain _ p1, p2]
      exact ⟨rfl, rfl⟩
  unfold itO
  rw [hone.1, hone.2, short_fine h, if_neg (by decide), if_neg]
  rintro (e | e)
  · exact h.name e
  · cases e
/-- What one says of an entry of Atom. -/
theorem atom_one {x : It} (h : Fine x) {F : List UInt8 → Option (List UInt8)} {L : Option (List UInt8)} (hF : ∀ nm, nm ≠ [] → F nm = (((atomF x).map Pf.fd).find? fun f => f.nm == nm).map fun f => cleanB f.txt) (hL : L = leadB ((((atomF x).map Pf.fd).filter fun f => f.nm == linkL).map Fd.ats)) :
    itA F L r3339C 1024 = if x.dated = true then .it (cleanI x) else .bad 7 := by
  have e1 : F idL = some (cleanB x.guid) := hF idL (by decide)
  have e2 : F titleL = some (cleanB x.title) := hF titleL (by decide)
  have e4 : F sumL = some (cleanB x.body) := hF sumL (by decide)
  have e3 : L = some (cleanB x.link) := by
    rw [hL]
    unfold atomF
    cases x.dated <;> rfl
  have e5 : F updL = if x.dated = true then some (cleanB (print39 x.date)) else none := by
    rw [hF updL (by decide)]
    unfold atomF
    cases x.dated <;> rfl
  have e6 : F pubdL = none := by
    rw [hF pubdL (by decide)]
    unfold atomF
    cases x.dated <;> rfl
  have hs := short_fine h
  cases hd : x.dated with
  | false =>
    have e0 : r3339C [] = (0, false) := by kernel_rfl
    have hone : oneA F L r3339C = cleanI x := by
      unfold oneA cleanI
      rw [e1, e2, e3, e4, e5, e6, hd]
      simp only [Bool.false_eq_true, if_false, orB, Option.getD_none, Option.getD_some, e0]
    unfold itA
    rw [hone, hs, if_neg (by decide), if_pos (Or.inr (by unfold cleanI; exact hd))]
    rfl
  | true =>
    obtain ⟨d1, d2⟩ := h.date hd
    obtain ⟨p1, p2⟩ := print39_back d1 d2
    have hone : oneA F L r3339C = cleanI x := by
      unfold oneA cleanI
      rw [e1, e2, e3, e4, e5, e6, hd]
      simp only [if_true, orB, Option.getD_some, clean_plain _ p1, p2]
    unfold itA
    rw [hone, hs, if_neg (by decide), if_neg]
    · rfl
    · rintro (e | e)
      · exact h.name e
      · unfold cleanI at e; rw [hd] at e; cases e
theorem rssN_tree {Fs : List (List Pf)} (h : ∀ F ∈ Fs, ∀ f ∈ F, f.ok = true) : TreeAt (rssN Fs) := (buildB_tree (rss_nodes h)).1
theorem atomN_tree {Fs : List (List Pf)} (h : ∀ F ∈ Fs, ∀ f ∈ F, f.ok = true) : TreeAt (atomN Fs) := (buildB_tree (atom_nodes h)).1
theorem rss_chan {Fs : List (List Pf)} : chanB (rssN Fs) = some 1 := by
  have hk : kidsB (rssN Fs) 0 = [1] := by
    rw [kidsB_F (by rw [place_iff]; refine ⟨by decide, ?_⟩; unfold rssN rssH; simp; omega)]
    unfold rssN
    rw [List.append_assoc, kidsF_app, kidsF_none 0 (blksN 1 itemL 4 (Fs.map fun F => F.map Pf.fd) ++ ([⟨[], [], [10], 1⟩] : List Nd)) _ (fun x hx => ?_)]
    · rfl
    · rcases List.mem_append.1 hx with hx | hx
      · rcases blksN_up 1 itemL _ _ x hx with e | ⟨e, _⟩ <;> omega
      · rw [List.mem_singleton] at hx; subst hx; decide
  have hn : namedB (rssN Fs) 0 chanL = [1] := by
    unfold namedB
    rw [if_neg (by decide), hk]
    rfl
  unfold chanB firstB
  rw [hn, if_neg]
  · rfl
  · rintro (e | e)
    · unfold rssN rssH at e; simp at e
    · exact e rfl
/-- What was written as RSS is read, each text cleaned. -/
theorem rss_back {l : List It} (h : ∀ x ∈ l, Fine x) (hl : l.length ≤ 64) : itsB (rssN (l.map rssF)) r822C 64 1024 = .its (l.map cleanI) := by
  have hok : ∀ F ∈ l.map rssF, ∀ f ∈ F, f.ok = true := fun F hF => by obtain ⟨x, _, rfl⟩ := List.mem_map.1 hF; exact rssF_ok x
  unfold itsB
  rw [rss_chan]
  simp only
  have hg := read_blks (L := rssN (l.map rssF)) (H := rssH) (E := [⟨[], [], [10], 1⟩]) (u := 1) (nme := itemL) (Fs := (l.map rssF).map fun F => F.map Pf.fd) rfl (rssN_tree hok) (by decide) (by decide) (by decide)
    (fun F hF => by obtain ⟨P, hP, rfl⟩ := List.mem_map.1 hF; exact fd_name (hok P hP)) (by decide) rfl rfl (fun i => itO (fieldB (rssN (l.map rssF)) i) r822C 1024)
    (fun F => itO (fun nm => (F.find? fun f => f.nm == nm).map fun f => cleanB f.txt) r822C 1024)
    (fun i F hF hs => by
      obtain ⟨P, hP, rfl⟩ := List.mem_map.1 hF
      obtain ⟨x, hx, rfl⟩ := List.mem_map.1 hP
      rw [rss_one (h x hx) hs.1, rss_one (h x hx) fun _ _ => rfl]) 64 (by simp; omega)
  rw [hg]
  have e : ∀ Z : List ItO, Z = (l.map cleanI).map .it → gatherB Z [] false = .its (l.map cleanI) := fun Z hZ => by rw [hZ, gatherB_its, List.nil_append]
  refine e _ ?_
  rw [List.map_map, List.map_map, List.map_map]
  exact List.map_congr_left fun x hx => rss_one (h x hx) fun _ _ => rfl
theorem gather_seven : ∀ (os : List ItO) (acc : List It) (bad : Bool), (∀ o ∈ os, o = .bad 7 ∨ ∃ x, o = .it x) → (bad = true ∨ ItO.bad 7 ∈ os) → gatherB os acc bad = .bad 7
  | [], acc, bad, _, hb => by
    rcases hb with e | e
    · subst e; rfl
    · cases e
  | o :: r, acc, bad, h, hb => by
    rcases h o (by simp) with e | ⟨x, e⟩
    · subst e
      rw [gatherB, if_neg (by decide)]
      exact gather_seven r acc true (fun y hy => h y (by simp [hy])) (Or.inl rfl)
    · subst e
      rw [gatherB]
      refine gather_seven r _ bad (fun y hy => h y (by simp [hy])) ?_
      rcases hb with e | e
      · exact Or.inl e
      · rcases List.mem_cons.1 e with e | e
        · cases e
        · exact Or.inr e
/-- What was written as Atom is read, if all has a date; else it is a wrong entry. -/
theorem atom_back {l : List It} (h : ∀ x ∈ l, Fine x) (hl : l.length ≤ 64) : itsA (atomN (l.map atomF)) r3339C 64 1024 = if (l.all fun x => x.dated) = true then .its (l.map cleanI) else .bad 7 := by
  have hok : ∀ F ∈ l.map atomF, ∀ f ∈ F, f.ok = true := fun F hF => by obtain ⟨x, _, rfl⟩ := List.mem_map.1 hF; exact atomF_ok x
  unfold itsA
  rw [if_neg (fun e => by
    rcases e with e | e
    · unfold atomN atomH at e; simp at e
    · exact e rfl)]
  have hg := read_blks (L := atomN (l.map atomF)) (H := atomH) (E := [⟨[], [], [10], 0⟩]) (u := 0) (nme := entryL) (Fs := (l.map atomF).map fun F => F.map Pf.fd) rfl (atomN_tree hok) (by decide) (by decide) (by decide)
    (fun F hF => by obtain ⟨P, hP, rfl⟩ := List.mem_map.1 hF; exact fd_name (hok P hP)) (by decide) rfl rfl (fun i => itA (fieldB (atomN (l.map atomF)) i) (linkB (atomN (l.map atomF)) i) r3339C 1024)
    (fun F => itA (fun nm => (F.find? fun f => f.nm == nm).map fun f => cleanB f.txt) (leadB ((F.filter fun f => f.nm == linkL).map Fd.ats)) r3339C 1024)
    (fun i F hF hs => by
      obtain ⟨P, hP, rfl⟩ := List.mem_map.1 hF
      obtain ⟨x, hx, rfl⟩ := List.mem_map.1 hP
      rw [atom_one (h x hx) hs.1 (by unfold linkB; rw [hs.2]), atom_one (h x hx) (fun _ _ => rfl) rfl]) 64 (by simp; omega)
  rw [hg]
  have e : ∀ Z : List ItO, Z = (l.map fun x => if x.dated = true then ItO.it (cleanI x) else .bad 7) → ∀ o, gatherB (l.map fun x => if x.dated = true then ItO.it (cleanI x) else .bad 7) [] false = o → gatherB Z [] false = o := fun Z hZ o ho => by rw [hZ, ho]
  refine e _ (by rw [List.map_map, List.map_map]; exact List.map_congr_left fun x hx => atom_one (h x hx) (fun _ _ => rfl) rfl) _ ?_
  by_cases ha : (l.all fun x => x.dated) = true
  · rw [if_pos ha]
    have e2 : (l.map fun x => if x.dated = true then ItO.it (cleanI x) else .bad 7) = (l.map cleanI).map .it := by
      rw [List.map_map]
      exact List.map_congr_left fun x hx => if_pos (List.all_eq_true.1 ha x hx)
    rw [e2, gatherB_its, List.nil_append]
  · rw [if_neg ha]
    refine gather_seven _ _ _ (fun o ho => ?_) (Or.inr ?_)
    · obtain ⟨x, _, rfl⟩ := List.mem_map.1 ho
      by_cases hd : x.dated = true
      · rw [if_pos hd]; exact Or.inr ⟨_, rfl⟩
      · rw [if_neg hd]; exact Or.inl rfl
    · have ha2 : ¬ ∀ x ∈ l, x.dated = true := fun e => ha (List.all_eq_true.2 e)
      have ⟨x, hx⟩ := Classical.not_forall.1 ha2
      have ⟨hx1, hx2⟩ := Classical.not_imp.1 hx
      exact List.mem_map.2 ⟨x, hx1, if_neg hx2⟩
end Go.Proofs.YtahohmdbiiknoaaGreatDoor

/- Layer 17, plain: printed documents are runes that may stand in one. -/
namespace Go.Proofs.YtahohmdbiiknoaaGreatDoor

/-- Is a text well encoded, of runes that may stand in a document? -/
def goodT (l : List UInt8) : Bool := val l && (dec l).all charB
theorem goodT_cut {l : List UInt8} (h : l ≠ []) : goodT l = ((cutS l).2.2 && charB (cutS l).1 && goodT (l.drop (cutN l))) := by
  unfold goodT
  rw [val_cons l h, dec_cons l h, List.all_cons]
  cases (cutS l).2.2 <;> cases charB (cutS l).1 <;> simp
theorem goodT_loop : ∀ l : List UInt8, goodT l = true → ∀ k, loopK goodF () l k = (none, (), k + l.length) := by
  refine list_ind ?_ ?_
  · intro _ k
    rw [loopK_stop k (show goodF () [] = .stop by unfold goodF; rw [if_pos rfl])]; rfl
  · intro l h ih hg k
    rw [goodT_cut h, Bool.and_eq_true, Bool.and_eq_true] at hg
    have hbd := cutN_bd l h
    have e : goodF () l = .go () (cutN l) := by
      unfold goodF
      rw [if_neg h, if_neg (by rw [hg.1.2]; decide), if_neg]
      rintro ⟨h1, h2⟩
      exact h2 ((good_iff l h).1 hg.1.1 h1)
    rw [loopK_go goodF_steps k e, ih hg.2, List.length_drop]
    congr 2
    omega
theorem goodT_N {l : List UInt8} (h : goodT l = true) : goodN l = l.length := by
  unfold goodN; rw [goodT_loop l h]; simp
theorem goodT_app {s t : List UInt8} (hs : goodT s = true) (ht : goodT t = true) : goodT (s ++ t) = true := by
  unfold goodT at *
  rw [Bool.and_eq_true] at *
  obtain ⟨h1, h2⟩ := dec_app t s hs.1
  rw [h1, h2, List.all_append, Bool.and_eq_true]
  exact ⟨ht.1, hs.2, ht.2⟩
/-- A byte that may stand for itself. -/
def ascB (c : UInt8) : Bool := decide (c.toNat < 128) && charB c.toNat
theorem goodT_asc : ∀ {l : List UInt8}, l.all ascB = true → goodT l = true
  | [], _ => by decide
  | c :: t, h => by
    rw [List.all_cons, Bool.and_eq_true] at h
    have hc : c.toNat < 128 ∧ charB c.toNat = true := by have := h.1; unfold ascB at this; simpa using this
    have hcut : cutS (c :: t) = ((c.toNat : Int), 1, true) := cutS_one (by simp) (by show (c.toNat : Int) < 128; omega)
    rw [goodT_cut (by simp)]
    unfold cutN
    rw [hcut, hc.2]
    simp only [Bool.true_and]
    exact goodT_asc h.2
theorem enc_high {r : Int} (hr : isR r = true) (h : 128 ≤ r) : escB (enc r) = enc r := by
  have key : ∀ b : Int, 128 ≤ b → b ≤ 255 → esc1 (u8 b) = [u8 b] := fun b h1 h2 => by
    have hb := u8_nat (n := b) (by omega) h2
    have hne : ∀ c : UInt8, c.toNat < 128 → u8 b ≠ c := fun c hc e => by rw [e] at hb; omega
    rcases esc1_ways (u8 b) with ⟨e, _⟩ | ⟨_, _, _⟩
    · exact e
    · unfold esc1
      rw [if_neg (hne 38 (by decide)), if_neg (hne 60 (by decide)), if_neg (hne 62 (by decide)), if_neg (hne 34 (by decide))]
  have hi := (isR_iff r).1 hr
  have he : enc r = (encR r).map u8 := by unfold enc encI; rw [if_pos hr]
  rw [he]
  rcases encR_ways r with ⟨c1, e⟩ | ⟨c1, c2, e⟩ | ⟨c1, c2, e⟩ | ⟨c1, e⟩
  · omega
  all_goals
    rw [e]
    unfold escB
    simp only [List.map_cons, List.map_nil, List.flatMap_cons, List.flatMap_nil]
    repeat rw [key _ (by omega) (by omega)]
    rfl
theorem goodT_esc : ∀ l : List UInt8, goodT l = true → goodT (escB l) = true := by
  refine list_ind (fun h => h) ?_
  intro l h ih hg
  rw [goodT_cut h, Bool.and_eq_true, Bool.and_eq_true] at hg
  obtain ⟨h1, h2⟩ := enc_cut l h hg.1.1
  have hsp : escB l = escB (l.take (cutN l)) ++ escB (l.drop (cutN l)) := by
    unfold escB
    rw [← List.flatMap_append, List.take_append_drop]
  rw [hsp]
  refine goodT_app ?_ (ih hg.2)
  rw [← h2]
  have hch := hg.1.2
  generalize (cutS l).1 = r at h1 h2 hch
  have hbd := charB_bd hch
  by_cases h128 : 128 ≤ r
  · rw [enc_high h1 h128]
    have hd := dec_enc [r]
    rw [show encAll [r] = enc r by rw [encAll_cons]; simp [encAll]] at hd
    have hfix : fixR r = r := by unfold fixR; rw [if_pos h1]
    unfold goodT
    rw [hd.1, hd.2]
    simp [hfix, hch]
  · have he : enc r = [u8 r] := by
      unfold enc encI
      rw [if_pos h1]
      rcases encR_ways r with ⟨c1, e⟩ | ⟨c1, c2, e⟩ | ⟨c1, c2, e⟩ | ⟨c1, e⟩
      · rw [e]; rfl
      all_goals omega
    have hn := u8_nat (n := r) (by omega) (by omega)
    rw [he]
    have hasc : ascB (u8 r) = true := by
      unfold ascB
      rw [hn, hch, decide_eq_true (by omega)]; rfl
    refine goodT_asc ?_
    have e : escB [u8 r] = esc1 (u8 r) := by unfold escB; simp
    rw [e]
    unfold esc1
    split
    · decide
    split
    · decide
    split
    · decide
    split
    · decide
    · rw [List.all_cons, hasc]; rfl
theorem goodT_words {l : List UInt8} (h : ∀ c ∈ l, inkB c = true ∨ c = 32) : goodT l = true := by
  refine goodT_asc (List.all_eq_true.2 fun c hc => ?_)
  rcases h c hc with e | e
  · have := ink_bd e
    unfold ascB charB
    rw [decide_eq_true (by omega), decide_eq_true (by omega)]; rfl
  · subst e; decide
/-- A field's texts may stand in a document. -/
def Pf.good : Pf → Prop
  | .el nm x => nm.all ascB = true ∧ goodT x = true
  | .lk nm an x => nm.all ascB = true ∧ an.all ascB = true ∧ goodT x = true
theorem goodT_cons {c : UInt8} {l : List UInt8} (hc : ascB c = true) (h : goodT l = true) : goodT (c :: l) = true := goodT_app (s := [c]) (goodT_asc (by rw [List.all_cons, hc]; rfl)) h
theorem goodT_field {f : Pf} (h : f.good) : goodT f.bytes = true := by
  cases f with
  | el nm x =>
    obtain ⟨h1, h2⟩ := h
    unfold Pf.bytes
    exact goodT_cons (by decide) (goodT_app (goodT_asc h1) (goodT_cons (by decide) (goodT_app (goodT_esc x h2) (goodT_cons (by decide) (goodT_cons (by decide) (goodT_app (goodT_asc h1) (by decide)))))))
  | lk nm an x =>
    obtain ⟨h1, h2, h3⟩ := h
    unfold Pf.bytes
    exact goodT_cons (by decide) (goodT_app (goodT_asc h1) (goodT_cons (by decide) (goodT_app (goodT_asc h2) (goodT_cons (by decide) (goodT_cons (by decide) (goodT_app (goodT_esc x h3) (by decide)))))))
theorem goodT_flat {α : Type} (f : α → List UInt8) : ∀ (l : List α), (∀ x ∈ l, goodT (f x) = true) → goodT (l.flatMap f) = true
  | [], _ => (show goodT [] = true by decide)
  | x :: r, h => by rw [List.flatMap_cons]; exact goodT_app (h x (by simp)) (goodT_flat f r fun y hy => h y (by simp [hy]))
theorem goodT_item {nme : List UInt8} (hn : nme.all ascB = true) {F : List Pf} (h : ∀ f ∈ F, f.good) : goodT (itemP nme F) = true := by
  unfold itemP
  exact goodT_cons (by decide) (goodT_app (goodT_asc hn) (goodT_cons (by decide) (goodT_app (goodT_flat _ F fun f hf => goodT_field (h f hf)) (goodT_cons (by decide) (goodT_cons (by decide) (goodT_app (goodT_asc hn) (by decide)))))))
theorem goodT_rss {Fs : List (List Pf)} (h : ∀ F ∈ Fs, ∀ f ∈ F, f.good) : goodT (rssD Fs) = true := by
  have e : rssD Fs = (headL ++ 10 :: 60 :: (rssL ++ 32 :: (verL ++ 61 :: 34 :: (escB twoL ++ 34 :: 62 :: 60 :: (chanL ++ 62 :: ((Pf.el titleL newsL).bytes ++ [10])))))) ++ (Fs.flatMap (itemP itemL) ++ 60 :: 47 :: (chanL ++ 62 :: 60 :: 47 :: (rssL ++ [62, 10]))) := by
    unfold rssD
    simp only [List.append_assoc, List.cons_append, List.nil_append]
  rw [e]
  exact goodT_app (goodT_asc (by decide)) (goodT_app (goodT_flat _ Fs fun F hF => goodT_item (by decide) (h F hF)) (goodT_asc (by decide)))
theorem goodT_atom {Fs : List (List Pf)} (h : ∀ F ∈ Fs, ∀ f ∈ F, f.good) : goodT (atomD Fs) = true := by
  have e : atomD Fs = (headL ++ 10 :: 60 :: (feedL ++ 32 :: (nsL ++ 61 :: 34 :: (escB w3L ++ 34 :: 62 :: ((Pf.el titleL newsL).bytes ++ [10]))))) ++ (Fs.flatMap (itemP entryL) ++ 60 :: 47 :: (feedL ++ [62, 10])) := by
    unfold atomD
    simp only [List.append_assoc, List.cons_append, List.nil_append]
  rw [e]
  exact goodT_app (goodT_asc (by decide)) (goodT_app (goodT_flat _ Fs fun F hF => goodT_item (by decide) (h F hF)) (goodT_asc (by decide)))
/-- An entry whose texts may stand in a document. -/
structure GoodI (x : It) : Prop where
  g : goodT x.guid = true
  t : goodT x.title = true
  l : goodT x.link = true
  b : goodT x.body = true
theorem rssF_good {x : It} (h : GoodI x) (hd : x.dated = true → 0 ≤ x.date ∧ x.date ≤ 253402300799) : ∀ f ∈ rssF x, f.good := by
  intro f hf
  unfold rssF at hf
  rcases List.mem_append.1 hf with hf | hf
  · simp only [List.mem_cons, List.not_mem_nil, or_false] at hf
    rcases hf with rfl | rfl | rfl | rfl
    · exact ⟨by decide, h.g⟩
    · exact ⟨by decide, h.t⟩
    · exact ⟨by decide, h.l⟩
    · exact ⟨by decide, h.b⟩
  · split at hf
    · rename_i e
      rw [List.mem_singleton] at hf
      subst hf
      obtain ⟨d1, d2⟩ := hd e
      obtain ⟨ws, e2, _, hw⟩ := print82_words d1 d2
      exact ⟨by decide, by rw [e2]; exact goodT_words (in_words ws fun w hw2 => (hw w hw2).2)⟩
    · cases hf
theorem atomF_good {x : It} (h : GoodI x) (hd : x.dated = true → 0 ≤ x.date ∧ x.date ≤ 253402300799) : ∀ f ∈ atomF x, f.good := by
  intro f hf
  unfold atomF at hf
  rcases List.mem_append.1 hf with hf | hf
  · simp only [List.mem_cons, List.not_mem_nil, or_false] at hf
    rcases hf with rfl | rfl | rfl | rfl
    · exact ⟨by decide, h.g⟩
    · exact ⟨by decide, h.t⟩
    · exact ⟨by decide, by decide, h.l⟩
    · exact ⟨by decide, h.b⟩
  · split at hf
    · rename_i e
      rw [List.mem_singleton] at hf
      subst hf
      obtain ⟨d1, d2⟩ := hd e
      obtain ⟨ws, e2, _, hw⟩ := print39_words d1 d2
      exact ⟨by decide, by rw [e2]; exact goodT_words (in_words ws fun w hw2 => (hw w hw2).2)⟩
    · cases hf
end Go.Proofs.YtahohmdbiiknoaaGreatDoor

/- Layer 17, plain: what was written is read: the documents' tokens, nodes, entries; how long the documents are. -/
namespace Go.Proofs.YtahohmdbiiknoaaGreatDoor

theorem escB_len (x : List UInt8) : (escB x).length ≤ 6 * x.length := by
  induction x with
  | nil => simp [escB]
  | cons c t ih =>
    have e : (escB (c :: t)).length = (esc1 c).length + (escB t).length := by unfold escB; simp
    have h1 : (esc1 c).length ≤ 6 := by unfold esc1; repeat' split
                                        all_goals simp
    rw [e, List.length_cons]
    omega
theorem print82_len (n : Int) : (print82 n).length ≤ 40 := by
  have h1 : ∀ k : Nat, (weekL.getD k []).length ≤ 3 := fun k => by
    by_cases h : k < 7
    · exact (show ∀ j : Fin 7, (weekL.getD j.1 []).length ≤ 3 by decide) ⟨k, h⟩
    · rw [List.getD, List.getElem?_eq_none (by show weekL.length ≤ k; have : weekL.length = 7 := rfl; omega)]; simp
  have h2 : ∀ k : Nat, (monthsL.getD k []).length ≤ 3 := fun k => by
    by_cases h : k < 12
    · exact (show ∀ j : Fin 12, (monthsL.getD j.1 []).length ≤ 3 by decide) ⟨k, h⟩
    · rw [List.getD, List.getElem?_eq_none (by show monthsL.length ≤ k; have : monthsL.length = 12 := rfl; omega)]; simp
  unfold print82
  split
  · simp
  · have a := h1 ((n.toNat / 86400 + 3) % 7)
    have b := h2 ((civN (n.toNat / 86400)).2.1 - 1)
    unfold p82
    simp only [List.length_append, List.length_cons, List.length_nil]
    have c1 : ∀ m, (two13 m).length = 2 := fun _ => rfl
    have c2 : ∀ m, (four13 m).length = 4 := fun _ => rfl
    have c3 : ∀ m, (clock13 m).length = 8 := fun _ => rfl
    rw [c1, c2, c3]
    omega
theorem print39_len (n : Int) : (print39 n).length ≤ 40 := by
  unfold print39
  split
  · simp
  · show 20 ≤ 40
    decide
/-- The bytes of an entry's texts. -/
def bytesI (x : It) : Nat := x.guid.length + x.title.length + x.link.length + x.body.length
theorem el_len (nm x : List UInt8) : (Pf.el nm x).bytes.length = 5 + 2 * nm.length + (escB x).length := by unfold Pf.bytes; simp; omega
theorem lk_len (nm an x : List UInt8) : (Pf.lk nm an x).bytes.length = 7 + nm.length + an.length + (escB x).length := by unfold Pf.bytes; simp; omega
theorem itemP_len (nme : List UInt8) (F : List Pf) : (itemP nme F).length = 6 + 2 * nme.length + (F.flatMap Pf.bytes).length := by unfold itemP; simp; omega
theorem rss_item_len (x : It) : (itemP itemL (rssF x)).length ≤ 400 + 6 * bytesI x := by
  have h1 := escB_len x.guid
  have h2 := escB_len x.title
  have h3 := escB_len x.link
  have h4 := escB_len x.body
  have h5 := escB_len (print82 x.date)
  have h6 := print82_len x.date
  rw [itemP_len]
  unfold rssF bytesI
  rw [List.flatMap_append, List.length_append]
  simp only [List.flatMap_cons, List.flatMap_nil, List.append_nil, List.length_append, el_len]
  split
  · simp only [List.flatMap_cons, List.flatMap_nil, List.append_nil, el_len]
    simp only [guidL, titleL, linkL, descL, pubL, itemL, List.length_cons, List.length_nil]
    omega
  · simp only [guidL, titleL, linkL, descL, itemL, List.flatMap_nil, List.length_cons, List.length_nil]
    omega
theorem atom_item_len (x : It) : (itemP entryL (atomF x)).length ≤ 400 + 6 * bytesI x := by
  have h1 := escB_len x.guid
  have h2 := escB_len x.title
  have h3 := escB_len x.link
  have h4 := escB_len x.body
  have h5 := escB_len (print39 x.date)
  have h6 := print39_len x.date
  rw [itemP_len]
  unfold atomF bytesI
  rw [List.flatMap_append, List.length_append]
  simp only [List.flatMap_cons, List.flatMap_nil, List.append_nil, List.length_append, el_len, lk_len]
  split
  · simp only [List.flatMap_cons, List.flatMap_nil, List.append_nil, el_len]
    simp only [idL, titleL, linkL, hrefL, sumL, updL, entryL, List.length_cons, List.length_nil]
    omega
  · simp only [idL, titleL, linkL, hrefL, sumL, entryL, List.flatMap_nil, List.length_cons, List.length_nil]
    omega
def bytesL (l : List It) : Nat := (l.map bytesI).sum
theorem items_len (f : It → List UInt8) (hf : ∀ x, (f x).length ≤ 400 + 6 * bytesI x) : ∀ l : List It, (l.flatMap f).length ≤ 400 * l.length + 6 * bytesL l
  | [] => by simp [bytesL]
  | x :: r => by
    have h1 := hf x
    have h2 := items_len f hf r
    rw [List.flatMap_cons, List.length_append, List.length_cons]
    unfold bytesL at *
    simp only [List.map_cons, List.sum_cons]
    omega
/-- The documents. -/
def rssB (l : List It) : List UInt8 := rssD (l.map rssF)
def atomB (l : List It) : List UInt8 := atomD (l.map atomF)
theorem rssB_len (l : List It) : (rssB l).length ≤ 200 + 400 * l.length + 6 * bytesL l := by
  have h := items_len (fun x => itemP itemL (rssF x)) rss_item_len l
  have e : (l.map rssF).flatMap (itemP itemL) = l.flatMap fun x => itemP itemL (rssF x) := by rw [List.flatMap_map]
  unfold rssB rssD
  rw [e]
  simp only [List.length_append, List.length_cons, List.length_nil, el_len]
  have h2 : (escB twoL).length = 3 := rfl
  have h3 : (escB newsL).length = 8 := rfl
  rw [h2, h3]
  simp only [headL, rssL, verL, chanL, titleL, List.length_cons, List.length_nil]
  omega
theorem atomB_len (l : List It) : (atomB l).length ≤ 200 + 400 * l.length + 6 * bytesL l := by
  have h := items_len (fun x => itemP entryL (atomF x)) atom_item_len l
  have e : (l.map atomF).flatMap (itemP entryL) = l.flatMap fun x => itemP entryL (atomF x) := by rw [List.flatMap_map]
  unfold atomB atomD
  rw [e]
  simp only [List.length_append, List.length_cons, List.length_nil, el_len]
  have h2 : (escB w3L).length = 27 := rfl
  have h3 : (escB newsL).length = 8 := rfl
  rw [h2, h3]
  simp only [headL, feedL, nsL, titleL, List.length_cons, List.length_nil]
  omega
/-- What was written as RSS: its tokens, its nodes, its entries. -/
theorem rss_parse {l : List It} (hf : ∀ x ∈ l, Fine x) (hg : ∀ x ∈ l, GoodI x) (hl : l.length ≤ 64) :
    ∃ T N, tokR 8 (rssB l) = .toks T ∧ buildB T = some N ∧ (atN N 0).name = rssL ∧ itsB N r822C 64 1024 = .its (l.map cleanI) := by
  have hok : ∀ F ∈ l.map rssF, ∀ f ∈ F, f.ok = true := fun F hF => by obtain ⟨x, _, rfl⟩ := List.mem_map.1 hF; exact rssF_ok x
  have hgd : ∀ F ∈ l.map rssF, ∀ f ∈ F, f.good := fun F hF => by obtain ⟨x, hx, rfl⟩ := List.mem_map.1 hF; exact rssF_good (hg x hx) (hf x hx).date
  exact ⟨rssT (l.map rssF), rssN (l.map rssF), rss_docN hok (goodT_N (goodT_rss hgd)), rss_nodes hok, rfl, rss_back hf hl⟩
theorem atom_parse {l : List It} (hf : ∀ x ∈ l, Fine x) (hg : ∀ x ∈ l, GoodI x) (hl : l.length ≤ 64) :
    ∃ T N, tokR 8 (atomB l) = .toks T ∧ buildB T = some N ∧ (atN N 0).name = feedL ∧ itsA N r3339C 64 1024 = if (l.all fun x => x.dated) = true then .its (l.map cleanI) else .bad 7 := by
  have hok : ∀ F ∈ l.map atomF, ∀ f ∈ F, f.ok = true := fun F hF => by obtain ⟨x, _, rfl⟩ := List.mem_map.1 hF; exact atomF_ok x
  have hgd : ∀ F ∈ l.map atomF, ∀ f ∈ F, f.good := fun F hF => by obtain ⟨x, hx, rfl⟩ := List.mem_map.1 hF; exact atomF_good (hg x hx) (hf x hx).date
  exact ⟨atomT (l.map atomF), atomN (l.map atomF), atom_docN hok (goodT_N (goodT_atom hgd)), atom_nodes hok, rfl, atom_back hf hl⟩
/-- A text whose signs are hidden: with what is named it is the text again; it has none that begins an element, or ends a value. -/
theorem entF_name {r : List UInt8} {x : List UInt8} {n : Nat} (h : entF (38 :: r) = (x, n)) : entB (38 :: r) = x ++ entB ((38 :: r).drop (n + 1)) := by
  unfold entB
  rw [walkT_step _ _ (by simp), h]
theorem ent_esc : ∀ l : List UInt8, entB (escB l) = l
  | [] => rfl
  | c :: t => by
    have ih := ent_esc t
    have e : escB (c :: t) = esc1 c ++ escB t := by unfold escB; rw [List.flatMap_cons]
    rw [e]
    unfold esc1
    by_cases h1 : c = 38
    · subst h1
      rw [if_pos rfl]
      exact (entF_name (entF_amp _)).trans (by show [38] ++ entB (escB t) = _; rw [ih]; rfl)
    rw [if_neg h1]
    by_cases h2 : c = 60
    · subst h2
      rw [if_pos rfl]
      exact (entF_name (entF_lt _)).trans (by show [60] ++ entB (escB t) = _; rw [ih]; rfl)
    rw [if_neg h2]
    by_cases h3 : c = 62
    · subst h3
      rw [if_pos rfl]
      have : entF (38 :: 103 :: 116 :: 59 :: escB t) = ([62], 3) := by
        have hi : Lib.indexByte (38 :: 103 :: 116 :: 59 :: escB t) 59 = 3 := rfl
        unfold entF
        rw [hi, if_pos ⟨rfl, by decide, by decide⟩]
        rfl
      exact (entF_name this).trans (by show [62] ++ entB (escB t) = _; rw [ih]; rfl)
    rw [if_neg h3]
    by_cases h4 : c = 34
    · subst h4
      rw [if_pos rfl]
      have : entF (38 :: 113 :: 117 :: 111 :: 116 :: 59 :: escB t) = ([34], 5) := by
        have hi : Lib.indexByte (38 :: 113 :: 117 :: 111 :: 116 :: 59 :: escB t) 59 = 5 := rfl
        unfold entF
        rw [hi, if_pos ⟨rfl, by decide, by decide⟩]
        rfl
      exact (entF_name this).trans (by show [34] ++ entB (escB t) = _; rw [ih]; rfl)
    · rw [if_neg h4]
      show walkT entF 0 (c :: escB t) = _
      have : entF (c :: escB t) = ([c], 0) := by
        unfold entF
        rw [if_neg]
        · rfl
        · rintro ⟨e, _⟩; exact h1 ((bt_u8 c 38 _).1 e)
      rw [walkT_step _ _ (by simp), this]
      show [c] ++ entB (escB t) = _
      rw [ih]; rfl
theorem esc_no : ∀ (l : List UInt8), ∀ c ∈ escB l, c ≠ 60 ∧ c ≠ 62 ∧ c ≠ 34
  | [], c, h => by simp [escB] at h
  | x :: t, c, h => by
    have e : escB (x :: t) = esc1 x ++ escB t := by unfold escB; rw [List.flatMap_cons]
    rw [e] at h
    rcases List.mem_append.1 h with h | h
    · unfold esc1 at h
      by_cases h1 : x = 38
      · rw [if_pos h1] at h; exact (show ∀ c ∈ ([38, 97, 109, 112, 59] : List UInt8), c ≠ 60 ∧ c ≠ 62 ∧ c ≠ 34 by decide) c h
      rw [if_neg h1] at h
      by_cases h2 : x = 60
      · rw [if_pos h2] at h; exact (show ∀ c ∈ ([38, 108, 116, 59] : List UInt8), c ≠ 60 ∧ c ≠ 62 ∧ c ≠ 34 by decide) c h
      rw [if_neg h2] at h
      by_cases h3 : x = 62
      · rw [if_pos h3] at h; exact (show ∀ c ∈ ([38, 103, 116, 59] : List UInt8), c ≠ 60 ∧ c ≠ 62 ∧ c ≠ 34 by decide) c h
      rw [if_neg h3] at h
      by_cases h4 : x = 34
      · rw [if_pos h4] at h; exact (show ∀ c ∈ ([38, 113, 117, 111, 116, 59] : List UInt8), c ≠ 60 ∧ c ≠ 62 ∧ c ≠ 34 by decide) c h
      rw [if_neg h4, List.mem_singleton] at h
      subst h
      exact ⟨h2, h3, h4⟩
    · exact esc_no t c h
end Go.Proofs.YtahohmdbiiknoaaGreatDoor
