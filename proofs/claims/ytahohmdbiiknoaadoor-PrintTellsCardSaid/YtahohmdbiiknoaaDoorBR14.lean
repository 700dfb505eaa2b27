/- Layer 17, plain: what was written is read: the documents' tokens, nodes, entries; how long the documents are. -/
import Derived.Test.YtahohmdbiiknoaaDoorBR13
import Derived.Test.YtahohmdbiiknoaaDoorBR12
import Derived.Shelf.Strconv.Itoa3
import Derived.Test.YtahohmdbiiknoaaDoorBR01
import Derived.Lib.ItoaMem
import Derived.WalkSmall
import Derived.Test.YtahohmdbiiknoaaDoorBR05
import Derived.Test.YtahohmdbiiknoaaDoorBR11
namespace Go.Proofs.YtahohmdbiiknoaaDoor

theorem escB_len (x : List UInt8) : (escB x).length ≤ 6 * x.length := by
  induction x with
  | nil => simp [escB]
  | cons c t ih =>
    have e : (escB (c :: t)).length = (esc1 c).length + (escB t).length := by unfold escB; simp
    have h1 : (esc1 c).length ≤ 6 := by unfold esc1; repeat' split
                                        all_goals simp
    rw [e, List.length_cons]
    omega
theorem print82_len (n : Int) : (print82 n).length ≤ 40 := by
  have h1 : ∀ k : Nat, (weekL.getD k []).length ≤ 3 := fun k => by
    by_cases h : k < 7
    · exact (show ∀ j : Fin 7, (weekL.getD j.1 []).length ≤ 3 by decide) ⟨k, h⟩
    · rw [List.getD, List.getElem?_eq_none (by show weekL.length ≤ k; have : weekL.length = 7 := rfl; omega)]; simp
  have h2 : ∀ k : Nat, (monthsL.getD k []).length ≤ 3 := fun k => by
    by_cases h : k < 12
    · exact (show ∀ j : Fin 12, (monthsL.getD j.1 []).length ≤ 3 by decide) ⟨k, h⟩
    · rw [List.getD, List.getElem?_eq_none (by show monthsL.length ≤ k; have : monthsL.length = 12 := rfl; omega)]; simp
  unfold print82
  split
  · simp
  · have a := h1 ((n.toNat / 86400 + 3) % 7)
    have b := h2 ((civN (n.toNat / 86400)).2.1 - 1)
    unfold p82
    simp only [List.length_append, List.length_cons, List.length_nil]
    have c1 : ∀ m, (two13 m).length = 2 := fun _ => rfl
    have c2 : ∀ m, (four13 m).length = 4 := fun _ => rfl
    have c3 : ∀ m, (clock13 m).length = 8 := fun _ => rfl
    rw [c1, c2, c3]
    omega
theorem print39_len (n : Int) : (print39 n).length ≤ 40 := by
  unfold print39
  split
  · simp
  · show 20 ≤ 40
    decide
/-- The bytes of an entry's texts. -/
def bytesI (x : It) : Nat := x.guid.length + x.title.length + x.link.length + x.body.length
theorem el_len (nm x : List UInt8) : (Pf.el nm x).bytes.length = 5 + 2 * nm.length + (escB x).length := by unfold Pf.bytes; simp; omega
theorem lk_len (nm an x : List UInt8) : (Pf.lk nm an x).bytes.length = 7 + nm.length + an.length + (escB x).length := by unfold Pf.bytes; simp; omega
theorem itemP_len (nme : List UInt8) (F : List Pf) : (itemP nme F).length = 6 + 2 * nme.length + (F.flatMap Pf.bytes).length := by unfold itemP; simp; omega
theorem rss_item_len (x : It) : (itemP itemL (rssF x)).length ≤ 400 + 6 * bytesI x := by
  have h1 := escB_len x.guid
  have h2 := escB_len x.title
  have h3 := escB_len x.link
  have h4 := escB_len x.body
  have h5 := escB_len (print82 x.date)
  have h6 := print82_len x.date
  rw [itemP_len]
  unfold rssF bytesI
  rw [List.flatMap_append, List.length_append]
  simp only [List.flatMap_cons, List.flatMap_nil, List.append_nil, List.length_append, el_len]
  split
  · simp only [List.flatMap_cons, List.flatMap_nil, List.append_nil, el_len]
    simp only [guidL, titleL, linkL, descL, pubL, itemL, List.length_cons, List.length_nil]
    omega
  · simp only [guidL, titleL, linkL, descL, itemL, List.flatMap_nil, List.length_cons, List.length_nil]
    omega
theorem atom_item_len (x : It) : (itemP entryL (atomF x)).length ≤ 400 + 6 * bytesI x := by
  have h1 := escB_len x.guid
  have h2 := escB_len x.title
  have h3 := escB_len x.link
  have h4 := escB_len x.body
  have h5 := escB_len (print39 x.date)
  have h6 := print39_len x.date
  rw [itemP_len]
  unfold atomF bytesI
  rw [List.flatMap_append, List.length_append]
  simp only [List.flatMap_cons, List.flatMap_nil, List.append_nil, List.length_append, el_len, lk_len]
  split
  · simp only [List.flatMap_cons, List.flatMap_nil, List.append_nil, el_len]
    simp only [idL, titleL, linkL, hrefL, sumL, updL, entryL, List.length_cons, List.length_nil]
    omega
  · simp only [idL, titleL, linkL, hrefL, sumL, entryL, List.flatMap_nil, List.length_cons, List.length_nil]
    omega
def bytesL (l : List It) : Nat := (l.map bytesI).sum
theorem items_len (f : It → List UInt8) (hf : ∀ x, (f x).length ≤ 400 + 6 * bytesI x) : ∀ l : List It, (l.flatMap f).length ≤ 400 * l.length + 6 * bytesL l
  | [] => by simp [bytesL]
  | x :: r => by
    have h1 := hf x
    have h2 := items_len f hf r
    rw [List.flatMap_cons, List.length_append, List.length_cons]
    unfold bytesL at *
    simp only [List.map_cons, List.sum_cons]
    omega
/-- The documents. -/
def rssB (l : List It) : List UInt8 := rssD (l.map rssF)
def atomB (l : List It) : List UInt8 := atomD (l.map atomF)
theorem rssB_len (l : List It) : (rssB l).length ≤ 200 + 400 * l.length + 6 * bytesL l := by
  have h := items_len (fun x => itemP itemL (rssF x)) rss_item_len l
  have e : (l.map rssF).flatMap (itemP itemL) = l.flatMap fun x => itemP itemL (rssF x) := by rw [List.flatMap_map]
  unfold rssB rssD
  rw [e]
  simp only [List.length_append, List.length_cons, List.length_nil, el_len]
  have h2 : (escB twoL).length = 3 := rfl
  have h3 : (escB newsL).length = 8 := rfl
  rw [h2, h3]
  simp only [headL, rssL, verL, chanL, titleL, List.length_cons, List.length_nil]
  omega
theorem atomB_len (l : List It) : (atomB l).length ≤ 200 + 400 * l.length + 6 * bytesL l := by
  have h := items_len (fun x => itemP entryL (atomF x)) atom_item_len l
  have e : (l.map atomF).flatMap (itemP entryL) = l.flatMap fun x => itemP entryL (atomF x) := by rw [List.flatMap_map]
  unfold atomB atomD
  rw [e]
  simp only [List.length_append, List.length_cons, List.length_nil, el_len]
  have h2 : (escB w3L).length = 27 := rfl
  have h3 : (escB newsL).length = 8 := rfl
  rw [h2, h3]
  simp only [headL, feedL, nsL, titleL, List.length_cons, List.length_nil]
  omega
/-- What was written as RSS: its tokens, its nodes, its entries. -/
theorem rss_parse {l : List It} (hf : ∀ x ∈ l, Fine x) (hg : ∀ x ∈ l, GoodI x) (hl : l.length ≤ 64) :
    ∃ T N, tokR 8 (rssB l) = .toks T ∧ buildB T = some N ∧ (atN N 0).name = rssL ∧ itsB N r822C 64 1024 = .its (l.map cleanI) := by
  have hok : ∀ F ∈ l.map rssF, ∀ f ∈ F, f.ok = true := fun F hF => by obtain ⟨x, _, rfl⟩ := List.mem_map.1 hF; exact rssF_ok x
  have hgd : ∀ F ∈ l.map rssF, ∀ f ∈ F, f.good := fun F hF => by obtain ⟨x, hx, rfl⟩ := List.mem_map.1 hF; exact rssF_good (hg x hx) (hf x hx).date
  exact ⟨rssT (l.map rssF), rssN (l.map rssF), rss_docN hok (goodT_N (goodT_rss hgd)), rss_nodes hok, rfl, rss_back hf hl⟩
theorem atom_parse {l : List It} (hf : ∀ x ∈ l, Fine x) (hg : ∀ x ∈ l, GoodI x) (hl : l.length ≤ 64) :
    ∃ T N, tokR 8 (atomB l) = .toks T ∧ buildB T = some N ∧ (atN N 0).name = feedL ∧ itsA N r3339C 64 1024 = if (l.all fun x => x.dated) = true then .its (l.map cleanI) else .bad 7 := by
  have hok : ∀ F ∈ l.map atomF, ∀ f ∈ F, f.ok = true := fun F hF => by obtain ⟨x, _, rfl⟩ := List.mem_map.1 hF; exact atomF_ok x
  have hgd : ∀ F ∈ l.map atomF, ∀ f ∈ F, f.good := fun F hF => by obtain ⟨x, hx, rfl⟩ := List.mem_map.1 hF; exact atomF_good (hg x hx) (hf x hx).date
  exact ⟨atomT (l.map atomF), atomN (l.map atomF), atom_docN hok (goodT_N (goodT_atom hgd)), atom_nodes hok, rfl, atom_back hf hl⟩
/-- A text whose signs are hidden: with what is named it is the text again; it has none that begins an element, or ends a value. -/
theorem entF_name {r : List UInt8} {x : List UInt8} {n : Nat} (h : entF (38 :: r) = (x, n)) : entB (38 :: r) = x ++ entB ((38 :: r).drop (n + 1)) := by
  unfold entB
  rw [walkT_step _ _ (by simp), h]
theorem ent_esc : ∀ l : List UInt8, entB (escB l) = l
  | [] => rfl
  | c :: t => by
    have ih := ent_esc t
    have e : escB (c :: t) = esc1 c ++ escB t := by unfold escB; rw [List.flatMap_cons]
    rw [e]
    unfold esc1
    by_cases h1 : c = 38
    · subst h1
      rw [if_pos rfl]
      exact (entF_name (entF_amp _)).trans (by show [38] ++ entB (escB t) = _; rw [ih]; rfl)
    rw [if_neg h1]
    by_cases h2 : c = 60
    · subst h2
      rw [if_pos rfl]
      exact (entF_name (entF_lt _)).trans (by show [60] ++ entB (escB t) = _; rw [ih]; rfl)
    rw [if_neg h2]
    by_cases h3 : c = 62
    · subst h3
      rw [if_pos rfl]
      have : entF (38 :: 103 :: 116 :: 59 :: escB t) = ([62], 3) := by
        have hi : Lib.indexByte (38 :: 103 :: 116 :: 59 :: escB t) 59 = 3 := rfl
        unfold entF
        rw [hi, if_pos ⟨rfl, by decide, by decide⟩]
        rfl
      exact (entF_name this).trans (by show [62] ++ entB (escB t) = _; rw [ih]; rfl)
    rw [if_neg h3]
    by_cases h4 : c = 34
    · subst h4
      rw [if_pos rfl]
      have : entF (38 :: 113 :: 117 :: 111 :: 116 :: 59 :: escB t) = ([34], 5) := by
        have hi : Lib.indexByte (38 :: 113 :: 117 :: 111 :: 116 :: 59 :: escB t) 59 = 5 := rfl
        unfold entF
        rw [hi, if_pos ⟨rfl, by decide, by decide⟩]
        rfl
      exact (entF_name this).trans (by show [34] ++ entB (escB t) = _; rw [ih]; rfl)
    · rw [if_neg h4]
      show walkT entF 0 (c :: escB t) = _
      have : entF (c :: escB t) = ([c], 0) := by
        unfold entF
        rw [if_neg]
        · rfl
        · rintro ⟨e, _⟩; exact h1 ((bt_u8 c 38 _).1 e)
      rw [walkT_step _ _ (by simp), this]
      show [c] ++ entB (escB t) = _
      rw [ih]; rfl
theorem esc_no : ∀ (l : List UInt8), ∀ c ∈ escB l, c ≠ 60 ∧ c ≠ 62 ∧ c ≠ 34
  | [], c, h => by simp [escB] at h
  | x :: t, c, h => by
    have e : escB (x :: t) = esc1 x ++ escB t := by unfold escB; rw [List.flatMap_cons]
    rw [e] at h
    rcases List.mem_append.1 h with h | h
    · unfold esc1 at h
      by_cases h1 : x = 38
      · rw [if_pos h1] at h; exact (show ∀ c ∈ ([38, 97, 109, 112, 59] : List UInt8), c ≠ 60 ∧ c ≠ 62 ∧ c ≠ 34 by decide) c h
      rw [if_neg h1] at h
      by_cases h2 : x = 60
      · rw [if_pos h2] at h; exact (show ∀ c ∈ ([38, 108, 116, 59] : List UInt8), c ≠ 60 ∧ c ≠ 62 ∧ c ≠ 34 by decide) c h
      rw [if_neg h2] at h
      by_cases h3 : x = 62
      · rw [if_pos h3] at h; exact (show ∀ c ∈ ([38, 103, 116, 59] : List UInt8), c ≠ 60 ∧ c ≠ 62 ∧ c ≠ 34 by decide) c h
      rw [if_neg h3] at h
      by_cases h4 : x = 34
      · rw [if_pos h4] at h; exact (show ∀ c ∈ ([38, 113, 117, 111, 116, 59] : List UInt8), c ≠ 60 ∧ c ≠ 62 ∧ c ≠ 34 by decide) c h
      rw [if_neg h4, List.mem_singleton] at h
      subst h
      exact ⟨h2, h3, h4⟩
    · exact esc_no t c h
end Go.Proofs.YtahohmdbiiknoaaDoor

/- Layer 14: entries in memory, one by one. -/
namespace Go.Proofs.YtahohmdbiiknoaaDoor
open Go.RowKit

theorem cellsI_at : ∀ (l : List It) (j : Nat) (h : j < l.length), (cellsI l)[j * 6]? = some (strV (l[j]'h).guid) ∧ (cellsI l)[j * 6 + 1]? = some (strV (l[j]'h).title) ∧ (cellsI l)[j * 6 + 2]? = some (strV (l[j]'h).link) ∧ (cellsI l)[j * 6 + 3]? = some (strV (l[j]'h).body) ∧ (cellsI l)[j * 6 + 4]? = some (.int .i64 (l[j]'h).date) ∧ (cellsI l)[j * 6 + 5]? = some (.bool (l[j]'h).dated)
  | [], j, h => by simp at h
  | x :: t, 0, _ => ⟨rfl, rfl, rfl, rfl, rfl, rfl⟩
  | x :: t, j + 1, h => by
    have := cellsI_at t j (by simpa using h)
    have e : cellsI (x :: t) = strV x.guid :: strV x.title :: strV x.link :: strV x.body :: .int .i64 x.date :: .bool x.dated :: cellsI t := rfl
    have e1 : ∀ i, (cellsI (x :: t))[(j + 1) * 6 + i]? = (cellsI t)[j * 6 + i]? := fun i => by
      rw [e, show (j + 1) * 6 + i = (j * 6 + i) + 1 + 1 + 1 + 1 + 1 + 1 by omega]; simp only [List.getElem?_cons_succ]
    have e0 := e1 0
    rw [Nat.add_zero, Nat.add_zero] at e0
    rw [e0, e1, e1, e1, e1, e1]
    simpa using this
/-- An entry in memory. -/
structure ItAt (w : World) (b o : Nat) (x : It) : Prop where
  c0 : w.cell? ⟨b, o, none⟩ = some (strV x.guid)
  c1 : w.cell? ⟨b, o + 1, none⟩ = some (strV x.title)
  c2 : w.cell? ⟨b, o + 2, none⟩ = some (strV x.link)
  c3 : w.cell? ⟨b, o + 3, none⟩ = some (strV x.body)
  c4 : w.cell? ⟨b, o + 4, none⟩ = some (.int .i64 x.date)
  c5 : w.cell? ⟨b, o + 5, none⟩ = some (.bool x.dated)
theorem OwnI.at {w : World} {B : Nat} {v : Value} {l : List It} (h : OwnI w B v l) {j : Nat} (hj : j < l.length) : ∃ g cap, v = .slice (some ⟨g, 0, none⟩) l.length cap ∧ l.length ≤ cap ∧ v.ownBlock = some g ∧ ItAt w g (j * 6) (l[j]'hj) := by
  have hcg := fun g hv => World.ownsRow.cells h (g := g) hv
  rcases h.2 with ⟨_, hn⟩ | ⟨g, cap, cur, hv, _, _, hcap, _⟩
  · omega
  · have hob : v.ownBlock = some g := by rw [hv]; rfl
    obtain ⟨e0, e1, e2, e3, e4, e5⟩ := cellsI_at l j hj
    have hadd : ∀ i, (⟨g, 0, none⟩ : Addr).add i = ⟨g, i, none⟩ := fun i => by unfold Addr.add; split <;> simp_all
    have h0 := hcg g hob _ _ e0
    have h1 := hcg g hob _ _ e1
    have h2 := hcg g hob _ _ e2
    have h3 := hcg g hob _ _ e3
    have h4 := hcg g hob _ _ e4
    have h5 := hcg g hob _ _ e5
    rw [hadd] at h0 h1 h2 h3 h4 h5
    exact ⟨g, cap, hv, hcap, hob, h0, h1, h2, h3, h4, h5⟩
theorem OwnI.all {w : World} {B : Nat} {v : Value} {l : List It} (h : OwnI w B v l) : ∃ a c, v = .slice a l.length c ∧ l.length ≤ c ∧ ∀ j (hj : j < l.length), ∃ g, a = some ⟨g, 0, none⟩ ∧ ItAt w g (j * 6) (l[j]'hj) := by
  obtain ⟨a, c, rfl, hc⟩ := own_cap h
  refine ⟨a, c, rfl, hc, fun j hj => ?_⟩
  obtain ⟨g, cap, hv, _, _, hat⟩ := h.at hj
  injection hv with e _ _
  exact ⟨g, e, hat⟩
theorem ItAt.drawn {w : World} {b o : Nat} {x : It} (h : ItAt w b o x) (n : Nat) : ItAt (w.drewN n) b o x := ⟨by simpa using h.c0, by simpa using h.c1, by simpa using h.c2, by simpa using h.c3, by simpa using h.c4, by simpa using h.c5⟩
theorem ItAt.next {w w' : World} {b o : Nat} {x : It} (h : ItAt w b o x) (hb : Below w.heap.size w w') : ItAt w' b o x := by
  have hlt := World.block_lt_of_cell? w ⟨b, o, none⟩ h.c0
  have hc : ∀ k, w'.cell? ⟨b, k, none⟩ = w.cell? ⟨b, k, none⟩ := fun k => hb.cell (p := ⟨b, k, none⟩) hlt
  exact ⟨(hc _).trans h.c0, (hc _).trans h.c1, (hc _).trans h.c2, (hc _).trans h.c3, (hc _).trans h.c4, (hc _).trans h.c5⟩
end Go.Proofs.YtahohmdbiiknoaaDoor

/- strconv.Itoa at this program, by the library's contract (made by wip/tools/shelf2tpl.py): any number, and one below 100, for which no table is asked. -/
namespace Go.Proofs.YtahohmdbiiknoaaDoor
open Go.RowKit Go.Shelf Go.Lib Go.Sort
def Laid.laysM171_ren : Go.Shelf.Ren := ⟨fun | 171 => 32 | 243 => 41 | 246 => 44 | 283 => 45 | 284 => 46 | 285 => 47 | 286 => 48 | 129 => 50 | 317 => 49 | 318 => 51 | 319 => 52 | 320 => 53 | 337 => 54 | 338 => 55 | n => n, fun | 3 => 3 | 9 => 9 | 2 => 2 | 4 => 4 | 171 => 55 | 0 => 0 | 53 => 56 | 37 => 31 | 5 => 5 | 173 => 59 | 212 => 62 | 51 => 63 | 20 => 20 | 213 => 64 | 46 => 52 | 232 => 67 | 233 => 68 | n => n, fun | 17 => 2 | 18 => 3 | 19 => 4 | n => n⟩
theorem Laid.laysM171 : Go.Proofs.LaysM.n171 Tryd.prog Laid.laysM171_ren := {
  mixed := by kernel_rfl
  f129 := Tryd.func50.trans (congrArg some (by kernel_rfl))
  f171 := Tryd.func32.trans (congrArg some (by kernel_rfl))
  f243 := Tryd.func41.trans (congrArg some (by kernel_rfl))
  f246 := Tryd.func44.trans (congrArg some (by kernel_rfl))
  f283 := Tryd.func45.trans (congrArg some (by kernel_rfl))
  f284 := Tryd.func46.trans (congrArg some (by kernel_rfl))
  f285 := Tryd.func47.trans (congrArg some (by kernel_rfl))
  f286 := Tryd.func48.trans (congrArg some (by kernel_rfl))
  f317 := Tryd.func49.trans (congrArg some (by kernel_rfl))
  f318 := Tryd.func51.trans (congrArg some (by kernel_rfl))
  f319 := Tryd.func52.trans (congrArg some (by kernel_rfl))
  f320 := Tryd.func53.trans (congrArg some (by kernel_rfl))
  f337 := Tryd.func54.trans (congrArg some (by kernel_rfl))
  f338 := Tryd.func55.trans (congrArg some (by kernel_rfl))
  t0 := Tryd.underlying0
  a0 := Tryd.isAgg0
  z0 := Tryd.sizeOf0
  v0 := Tryd.zeroValue0
  t2 := Tryd.underlying2
  a2 := Tryd.isAgg2
  z2 := Tryd.sizeOf2
  v2 := Tryd.zeroValue2
  t3 := Tryd.underlying3
  a3 := Tryd.isAgg3
  z3 := Tryd.sizeOf3
  v3 := Tryd.zeroValue3
  t4 := Tryd.underlying4
  a4 := Tryd.isAgg4
  z4 := Tryd.sizeOf4
  v4 := Tryd.zeroValue4
  t5 := Tryd.underlying5
  a5 := Tryd.isAgg5
  z5 := Tryd.sizeOf5
  v5 := Tryd.zeroValue5
  t9 := Tryd.underlying9
  a9 := Tryd.isAgg9
  z9 := Tryd.sizeOf9
  v9 := Tryd.zeroValue9
  t20 := Tryd.underlying20
  a20 := Tryd.isAgg20
  z20 := Tryd.sizeOf20
  v20 := Tryd.zeroValue20
  t37 := Tryd.underlying31
  a37 := Tryd.isAgg31
  z37 := Tryd.sizeOf31
  v37 := Tryd.zeroValue31
  t46 := Tryd.underlying52
  a46 := Tryd.isAgg52
  z46 := Tryd.sizeOf52
  v46 := Tryd.zeroValue52
  t51 := Tryd.underlying63
  a51 := Tryd.isAgg63
  z51 := Tryd.sizeOf63
  v51 := Tryd.zeroValue63
  t53 := Tryd.underlying56
  a53 := Tryd.isAgg56
  z53 := Tryd.sizeOf56
  v53 := Tryd.zeroValue56
  t171 := Tryd.underlying55
  a171 := Tryd.isAgg55
  z171 := Tryd.sizeOf55
  v171 := Tryd.zeroValue55
  t173 := Tryd.underlying59
  a173 := Tryd.isAgg59
  z173 := Tryd.sizeOf59
  v173 := Tryd.zeroValue59
  t212 := Tryd.underlying62
  a212 := Tryd.isAgg62
  z212 := Tryd.sizeOf62
  v212 := Tryd.zeroValue62
  t213 := Tryd.underlying64
  a213 := Tryd.isAgg64
  z213 := Tryd.sizeOf64
  t232 := Tryd.underlying67
  a232 := Tryd.isAgg67
  z232 := Tryd.sizeOf67
  v232 := Tryd.zeroValue67
  t233 := Tryd.underlying68
  a233 := Tryd.isAgg68
  z233 := Tryd.sizeOf68
  v233 := Tryd.zeroValue68
  g17 := by kernel_rfl
  g18 := by kernel_rfl
  g19 := by kernel_rfl
  i0 := by kernel_rfl
  i2 := by kernel_rfl
  i3 := by kernel_rfl
  i4 := by kernel_rfl
  i5 := by kernel_rfl
  i9 := by kernel_rfl
  i20 := by kernel_rfl
  i37 := by kernel_rfl
  i46 := by kernel_rfl
  i51 := by kernel_rfl
  i53 := by kernel_rfl
  i171 := by kernel_rfl
  i173 := by kernel_rfl
  i212 := by kernel_rfl
  i232 := by kernel_rfl
  i233 := by kernel_rfl
  m17 := by kernel_rfl
  m18 := by kernel_rfl
  m19 := by kernel_rfl }
open Go.RowKit Go.Sort Go.Lib in
theorem Laid.strconv_Itoa (n : Int) (h0 : -9223372036854775808 ≤ n) (h1 : n ≤ 9223372036854775807) (w : World) (htab : Lib.TabIs Tryd.prog w "internal/strconv.uint64pow10" .u64 Lib.pow10Tab) :
    Calls Tryd.prog 32 #[.int .i64 n] w fun e w' => e = .returned (.string ⟨(Lib.itoa n).toArray⟩) ∧ ∃ k os, w' = grow (w.drewN k) os := Any.strconv_Itoa Laid.laysM171 n h0 h1 w htab
def Laid.lays171_ren : Go.Shelf.Ren := ⟨fun | 171 => 32 | 243 => 41 | 246 => 44 | 283 => 45 | 284 => 46 | 285 => 47 | 286 => 48 | 129 => 50 | 317 => 49 | 318 => 51 | 319 => 52 | 320 => 53 | 337 => 54 | 338 => 55 | n => n, fun | 3 => 3 | 9 => 9 | 2 => 2 | 4 => 4 | 171 => 55 | 0 => 0 | 53 => 56 | 37 => 31 | 5 => 5 | 173 => 59 | 212 => 62 | 51 => 63 | 20 => 20 | 213 => 64 | 46 => 52 | 232 => 67 | 233 => 68 | n => n, fun | 17 => 2 | 18 => 3 | 19 => 4 | n => n⟩
theorem Laid.lays171 : Go.Proofs.Lays.n171 Tryd.prog Laid.lays171_ren := {
  mixed := by kernel_rfl
  f129 := Tryd.func50.trans (congrArg some (by kernel_rfl))
  f171 := Tryd.func32.trans (congrArg some (by kernel_rfl))
  f243 := Tryd.func41.trans (congrArg some (by kernel_rfl))
  f246 := Tryd.func44.trans (congrArg some (by kernel_rfl))
  f283 := Tryd.func45.trans (congrArg some (by kernel_rfl))
  f284 := Tryd.func46.trans (congrArg some (by kernel_rfl))
  f285 := Tryd.func47.trans (congrArg some (by kernel_rfl))
  f286 := Tryd.func48.trans (congrArg some (by kernel_rfl))
  f317 := Tryd.func49.trans (congrArg some (by kernel_rfl))
  f318 := Tryd.func51.trans (congrArg some (by kernel_rfl))
  f319 := Tryd.func52.trans (congrArg some (by kernel_rfl))
  f320 := Tryd.func53.trans (congrArg some (by kernel_rfl))
  f337 := Tryd.func54.trans (congrArg some (by kernel_rfl))
  f338 := Tryd.func55.trans (congrArg some (by kernel_rfl))
  t0 := Tryd.underlying0
  a0 := Tryd.isAgg0
  z0 := Tryd.sizeOf0
  v0 := Tryd.zeroValue0
  t2 := Tryd.underlying2
  a2 := Tryd.isAgg2
  z2 := Tryd.sizeOf2
  v2 := Tryd.zeroValue2
  t3 := Tryd.underlying3
  a3 := Tryd.isAgg3
  z3 := Tryd.sizeOf3
  v3 := Tryd.zeroValue3
  t4 := Tryd.underlying4
  a4 := Tryd.isAgg4
  z4 := Tryd.sizeOf4
  v4 := Tryd.zeroValue4
  t5 := Tryd.underlying5
  a5 := Tryd.isAgg5
  z5 := Tryd.sizeOf5
  v5 := Tryd.zeroValue5
  t9 := Tryd.underlying9
  a9 := Tryd.isAgg9
  z9 := Tryd.sizeOf9
  v9 := Tryd.zeroValue9
  t20 := Tryd.underlying20
  a20 := Tryd.isAgg20
  z20 := Tryd.sizeOf20
  v20 := Tryd.zeroValue20
  t37 := Tryd.underlying31
  a37 := Tryd.isAgg31
  z37 := Tryd.sizeOf31
  v37 := Tryd.zeroValue31
  t46 := Tryd.underlying52
  a46 := Tryd.isAgg52
  z46 := Tryd.sizeOf52
  v46 := Tryd.zeroValue52
  t51 := Tryd.underlying63
  a51 := Tryd.isAgg63
  z51 := Tryd.sizeOf63
  v51 := Tryd.zeroValue63
  t53 := Tryd.underlying56
  a53 := Tryd.isAgg56
  z53 := Tryd.sizeOf56
  v53 := Tryd.zeroValue56
  t171 := Tryd.underlying55
  a171 := Tryd.isAgg55
  z171 := Tryd.sizeOf55
  v171 := Tryd.zeroValue55
  t173 := Tryd.underlying59
  a173 := Tryd.isAgg59
  z173 := Tryd.sizeOf59
  v173 := Tryd.zeroValue59
  t212 := Tryd.underlying62
  a212 := Tryd.isAgg62
  z212 := Tryd.sizeOf62
  v212 := Tryd.zeroValue62
  t213 := Tryd.underlying64
  a213 := Tryd.isAgg64
  z213 := Tryd.sizeOf64
  t232 := Tryd.underlying67
  a232 := Tryd.isAgg67
  z232 := Tryd.sizeOf67
  v232 := Tryd.zeroValue67
  t233 := Tryd.underlying68
  a233 := Tryd.isAgg68
  z233 := Tryd.sizeOf68
  v233 := Tryd.zeroValue68
  g17 := by kernel_rfl
  g18 := by kernel_rfl
  g19 := by kernel_rfl }
open Go.RowKit Go.Sort Go.Lib in
theorem Laid.strconv_Itoa_small (i : Nat) (hi : i < 100) (w : World) :
    Calls Tryd.prog 32 #[.int .i64 i] w fun e w' => e = .returned (.string ⟨(Lib.decDigits i).toArray⟩) ∧ w' = w := Any.strconv_Itoa_small Laid.lays171 i hi w

theorem itoa_any (n : Int) (h0 : -9223372036854775808 ≤ n) (h1 : n ≤ 9223372036854775807) (w : World) (htab : Lib.TabIs Tryd.prog w "internal/strconv.uint64pow10" .u64 Lib.pow10Tab) :
    Calls Tryd.prog 32 #[.int .i64 n] w fun e w' => e = .returned (.string ⟨(Lib.itoa n).toArray⟩) ∧ Below w.heap.size w w' := by
  refine (Laid.strconv_Itoa n h0 h1 w htab).mono ?_
  rintro e w' ⟨rfl, k, os, rfl⟩
  exact ⟨rfl, rfl, rfl, rfl, by simp [grow], fun g hg => by simp [grow, Array.getElem?_append, hg]⟩
theorem itoa_small (i : Nat) (hi : i < 100) (w : World) :
    Calls Tryd.prog 32 #[.int .i64 i] w fun e w' => e = .returned (.string ⟨(Lib.decDigits i).toArray⟩) ∧ w = w' :=
  (Laid.strconv_Itoa_small i hi w).mono fun _ _ h => ⟨h.1, h.2.symm⟩
end Go.Proofs.YtahohmdbiiknoaaDoor

/- Layer 13: the names of days and months in memory. -/
namespace Go.Proofs.YtahohmdbiiknoaaDoor
open Go.RowKit

/-- What the listed variables hold. -/
structure Env13 (w : World) : Prop where
  mon : w.rangeAt 1 0 (monthsL.map strV)
  wk : w.rangeAt 0 0 (weekL.map strV)
  pow : Lib.TabIs Tryd.prog w "internal/strconv.uint64pow10" .u64 Lib.pow10Tab
theorem range_below {w w' : World} {b : Nat} {cs : List Value} (h : w.rangeAt b 0 cs) (hb : Below w.heap.size w w') : w'.rangeAt b 0 cs := fun j v hv =>
  (hb.cell (p := ⟨b, 0 + j, none⟩) (World.block_lt_of_cell? w _ (h j v hv))).trans (h j v hv)
theorem g_pow : Tryd.prog.globalNamed "internal/strconv.uint64pow10" = some 2 := by kernel_rfl
theorem Env13.below {w w' : World} (h : Env13 w) (hb : Below w.heap.size w w') : Env13 w' :=
  ⟨range_below h.mon hb, range_below h.wk hb, var?_below hb g_pow (World.block_lt_of_cell? w _ (h.pow.cell g_pow 0 (by decide))) h.pow⟩
/-- A block that holds no listed variable. -/
structure Off13 (R : Nat) : Prop where
  m : 1 ≠ R
  k : 0 ≠ R
  p : 2 ≠ R
theorem Env13.off {w : World} (h : Env13 w) : Off13 w.heap.size :=
  ⟨Nat.ne_of_lt (World.block_lt_of_cell? w _ (h.mon 0 _ rfl)), Nat.ne_of_lt (World.block_lt_of_cell? w _ (h.wk 0 _ rfl)), Nat.ne_of_lt (World.block_lt_of_cell? w _ (h.pow.cell g_pow 0 (by decide)))⟩
/-- Where only a block that holds no listed variable has turned. -/
theorem Env13.turned {w w' : World} {R : Nat} (h : Env13 w) (ht : Turned (fun b => b = R) w w') (hR : Off13 R) : Env13 w' := by
  have hb : ∀ g, g ≠ R → ∀ j, ∀ v, w.cell? ⟨g, j, none⟩ = some v → w'.cell? ⟨g, j, none⟩ = some v := fun g hg j v hv =>
    (World.cell?_of_block (ht.block g (World.block_lt_of_cell? w _ hv) hg)).trans hv
  refine ⟨fun j v hv => hb _ hR.m _ _ (h.mon j v hv), fun j v hv => hb _ hR.k _ _ (h.wk j v hv), ?_⟩
  have hc := h.pow.cell g_pow 0 (by decide)
  have hbl := ht.block 2 (World.block_lt_of_cell? w _ hc) hR.p
  have hp := h.pow
  unfold Lib.TabIs World.var? at hp ⊢
  simp only [g_pow, Option.bind_some] at hp ⊢
  rw [hbl]
  exact hp

theorem info_week : (Tryd.prog.info? 46).map (·.size) = some 7 := by kernel_rfl
theorem info_months : (Tryd.prog.info? 47).map (·.size) = some 12 := by kernel_rfl
theorem run_index_week {w : World} (cs : Array Value) (i : Nat) (v : Value) (hi : i < 7) (hv : cs[i]? = some v) :
    (Instr.index 46 (.agg cs) (.int .i64 i)).run Tryd.prog w = .ok v w := by
  simp [Instr.index, Tryd.sizeOf9, Tryd.isAgg9, part, asIntOf, hi, hv, go_sem]
theorem run_index_months {w : World} (cs : Array Value) (i : Nat) (v : Value) (hi : i < 12) (hv : cs[i]? = some v) :
    (Instr.index 47 (.agg cs) (.int .i64 i)).run Tryd.prog w = .ok v w := by
  simp [Instr.index, Tryd.sizeOf9, Tryd.isAgg9, part, asIntOf, hi, hv, go_sem]
def weekV : Array Value := (weekL.map strV).toArray
def monthsV : Array Value := (monthsL.map strV).toArray
theorem weekV_at {k : Nat} (h : k < 7) : weekV[k]? = some (.string ⟨(weekL.getD k []).toArray⟩) := by
  have hk : k < weekL.length := h
  simp [weekV, List.getD, hk, strV]
theorem monthsV_at {k : Nat} (h : k < 12) : monthsV[k]? = some (.string ⟨(monthsL.getD k []).toArray⟩) := by
  have hk : k < monthsL.length := h
  simp [monthsV, List.getD, hk, strV]
end Go.Proofs.YtahohmdbiiknoaaDoor

/- Layer 13: years, months, days. -/
namespace Go.Proofs.YtahohmdbiiknoaaDoor
open Go.RowKit

theorem leap13_any (y : Int) (_h0 : -9223372036854775808 ≤ y) (_h1 : y ≤ 9223372036854775807) (w : World) : Calls Tryd.prog 43 #[.int .i64 y] w fun e w' => e = .returned (.bool (leapI y)) ∧ w = w' := by
  have e4 := tm_zero y 4
  have e100 : (y.tmod 100 != 0) = !decide (y % 100 = 0) := by rw [bne, tm_zero]
  have e400 := tm_zero y 400
  have hl : leapI y = (decide (y % 4 = 0) && (!decide (y % 100 = 0) || decide (y % 400 = 0))) := by simp [leapI]
  have i1 : y % 400 = 0 → y % 4 = 0 := by omega
  by_cases a4 : y % 4 = 0 <;> by_cases a1 : y % 100 = 0 <;> by_cases a2 : y % 400 = 0
  all_goals simp only [a4, a1, a2, decide_true, decide_false, Bool.not_true, Bool.not_false, Bool.and_true, Bool.and_false, Bool.or_true, Bool.or_false] at e4 e100 e400 hl
  all_goals (try (exact absurd (i1 a2) a4))
  all_goals rw [hl]
  all_goals clear hl i1 a4 a1 a2
  all_goals go_enter Tryd.func43, Tryd.ntmps43
  all_goals go_wp2_with fail
  all_goals go_ret
  all_goals exact ⟨rfl, rfl⟩
theorem refleap13_any (y : Int) (_h0 : -9223372036854775808 ≤ y) (_h1 : y ≤ 9223372036854775807) (w : World) : Calls Tryd.prog 34 #[.int .i64 y] w fun e w' => e = .returned (.bool (leapI y)) ∧ w = w' := by
  have e4 := tm_zero y 4
  have e100 : (y.tmod 100 != 0) = !decide (y % 100 = 0) := by rw [bne, tm_zero]
  have e400 := tm_zero y 400
  have hl : leapI y = (decide (y % 4 = 0) && (!decide (y % 100 = 0) || decide (y % 400 = 0))) := by simp [leapI]
  have i1 : y % 400 = 0 → y % 4 = 0 := by omega
  by_cases a4 : y % 4 = 0 <;> by_cases a1 : y % 100 = 0 <;> by_cases a2 : y % 400 = 0
  all_goals simp only [a4, a1, a2, decide_true, decide_false, Bool.not_true, Bool.not_false, Bool.and_true, Bool.and_false, Bool.or_true, Bool.or_false] at e4 e100 e400 hl
  all_goals (try (exact absurd (i1 a2) a4))
  all_goals rw [hl]
  all_goals clear hl i1 a4 a1 a2
  all_goals go_enter Tryd.func34, Tryd.ntmps34
  all_goals go_wp2_with fail
  all_goals go_ret
  all_goals exact ⟨rfl, rfl⟩
end Go.Proofs.YtahohmdbiiknoaaDoor

/- Layer 13: a month's days; a year's first day. -/
namespace Go.Proofs.YtahohmdbiiknoaaDoor
open Go.RowKit

theorem lenI_31 {y m : Int} (h : m = 1 ∨ m = 3 ∨ m = 5 ∨ m = 7 ∨ m = 8 ∨ m = 10 ∨ m = 12) : lenI y m = 31 := by unfold lenI; rw [if_pos h]
theorem lenI_30 {y m : Int} (h : m = 4 ∨ m = 6 ∨ m = 9 ∨ m = 11) : lenI y m = 30 := by unfold lenI; rw [if_neg (by omega), if_pos h]
theorem lenI_feb (y : Int) : lenI y 2 = if leapI y then 29 else 28 := by unfold lenI; rw [if_neg (by omega), if_neg (by omega), if_pos rfl]
theorem lenI_none {y m : Int} (h : ¬ (m = 1 ∨ m = 3 ∨ m = 5 ∨ m = 7 ∨ m = 8 ∨ m = 10 ∨ m = 12)) (h2 : ¬ (m = 4 ∨ m = 6 ∨ m = 9 ∨ m = 11)) (h3 : m ≠ 2) : lenI y m = 0 := by unfold lenI; rw [if_neg h, if_neg h2, if_neg h3]

theorem length13_any (y m : Int) (h0 : -9223372036854775808 ≤ y) (h1 : y ≤ 9223372036854775807) (w : World) : Calls Tryd.prog 40 #[.int .i64 y, .int .i64 m] w fun e w' => e = .returned (.int .i64 (lenI y m)) ∧ w = w' := by
  by_cases c1 : m = 1 ∨ m = 3 ∨ m = 5 ∨ m = 7 ∨ m = 8 ∨ m = 10 ∨ m = 12
  · rw [lenI_31 c1]
    rcases c1 with rfl | rfl | rfl | rfl | rfl | rfl | rfl
    all_goals go_enter Tryd.func40, Tryd.ntmps40
    all_goals go_wp2_with fail
    all_goals go_ret
    all_goals exact ⟨rfl, rfl⟩
  by_cases c2 : m = 4 ∨ m = 6 ∨ m = 9 ∨ m = 11
  · rw [lenI_30 c2]
    rcases c2 with rfl | rfl | rfl | rfl
    all_goals clear c1
    all_goals go_enter Tryd.func40, Tryd.ntmps40
    all_goals go_wp2_with fail
    all_goals go_ret
    all_goals exact ⟨rfl, rfl⟩
  by_cases c3 : m = 2
  · subst c3
    clear c1 c2
    have hc := fun W : World => leap13_any y h0 h1 W
    cases hl : leapI y
    · rw [lenI_feb, hl]
      rw [hl] at hc
      clear hl
      go_enter Tryd.func40, Tryd.ntmps40
      go_wp2_with (go_at_call 43; refine (hc _).mono ?_; rintro e w1 ⟨rfl, rfl⟩)
      go_ret
      exact ⟨rfl, rfl⟩
    · rw [lenI_feb, hl]
      rw [hl] at hc
      clear hl
      go_enter Tryd.func40, Tryd.ntmps40
      go_wp2_with (go_at_call 43; refine (hc _).mono ?_; rintro e w1 ⟨rfl, rfl⟩)
      go_ret
      exact ⟨rfl, rfl⟩
  · rw [lenI_none c1 c2 c3]
    have f1 : (m == 1) = false := by rw [beq_eq_false_iff_ne]; omega
    have f2 : (m == 2) = false := by rw [beq_eq_false_iff_ne]; omega
    have f3 : (m == 3) = false := by rw [beq_eq_false_iff_ne]; omega
    have f4 : (m == 4) = false := by rw [beq_eq_false_iff_ne]; omega
    have f5 : (m == 5) = false := by rw [beq_eq_false_iff_ne]; omega
    have f6 : (m == 6) = false := by rw [beq_eq_false_iff_ne]; omega
    have f7 : (m == 7) = false := by rw [beq_eq_false_iff_ne]; omega
    have f8 : (m == 8) = false := by rw [beq_eq_false_iff_ne]; omega
    have f9 : (m == 9) = false := by rw [beq_eq_false_iff_ne]; omega
    have f10 : (m == 10) = false := by rw [beq_eq_false_iff_ne]; omega
    have f11 : (m == 11) = false := by rw [beq_eq_false_iff_ne]; omega
    have f12 : (m == 12) = false := by rw [beq_eq_false_iff_ne]; omega
    clear c1 c2 c3
    go_enter Tryd.func40, Tryd.ntmps40
    go_wp2_with fail
    go_ret
    exact ⟨rfl, rfl⟩
theorem reflength13_any (y m : Int) (h0 : -9223372036854775808 ≤ y) (h1 : y ≤ 9223372036854775807) (w : World) : Calls Tryd.prog 35 #[.int .i64 y, .int .i64 m] w fun e w' => e = .returned (.int .i64 (lenI y m)) ∧ w = w' := by
  by_cases c1 : m = 1 ∨ m = 3 ∨ m = 5 ∨ m = 7 ∨ m = 8 ∨ m = 10 ∨ m = 12
  · rw [lenI_31 c1]
    rcases c1 with rfl | rfl | rfl | rfl | rfl | rfl | rfl
    all_goals go_enter Tryd.func35, Tryd.ntmps35
    all_goals go_wp2_with fail
    all_goals go_ret
    all_goals exact ⟨rfl, rfl⟩
  by_cases c2 : m = 4 ∨ m = 6 ∨ m = 9 ∨ m = 11
  · rw [lenI_30 c2]
    rcases c2 with rfl | rfl | rfl | rfl
    all_goals clear c1
    all_goals go_enter Tryd.func35, Tryd.ntmps35
    all_goals go_wp2_with fail
    all_goals go_ret
    all_goals exact ⟨rfl, rfl⟩
  by_cases c3 : m = 2
  · subst c3
    clear c1 c2
    have hc := fun W : World => refleap13_any y h0 h1 W
    cases hl : leapI y
    · rw [lenI_feb, hl]
      rw [hl] at hc
      clear hl
      go_enter Tryd.func35, Tryd.ntmps35
      go_wp2_with (go_at_call 34; refine (hc _).mono ?_; rintro e w1 ⟨rfl, rfl⟩)
      go_ret
      exact ⟨rfl, rfl⟩
    · rw [lenI_feb, hl]
      rw [hl] at hc
      clear hl
      go_enter Tryd.func35, Tryd.ntmps35
      go_wp2_with (go_at_call 34; refine (hc _).mono ?_; rintro e w1 ⟨rfl, rfl⟩)
      go_ret
      exact ⟨rfl, rfl⟩
  · rw [lenI_none c1 c2 c3]
    have f1 : (m == 1) = false := by rw [beq_eq_false_iff_ne]; omega
    have f2 : (m == 2) = false := by rw [beq_eq_false_iff_ne]; omega
    have f3 : (m == 3) = false := by rw [beq_eq_false_iff_ne]; omega
    have f4 : (m == 4) = false := by rw [beq_eq_false_iff_ne]; omega
    have f5 : (m == 5) = false := by rw [beq_eq_false_iff_ne]; omega
    have f6 : (m == 6) = false := by rw [beq_eq_false_iff_ne]; omega
    have f7 : (m == 7) = false := by rw [beq_eq_false_iff_ne]; omega
    have f8 : (m == 8) = false := by rw [beq_eq_false_iff_ne]; omega
    have f9 : (m == 9) = false := by rw [beq_eq_false_iff_ne]; omega
    have f10 : (m == 10) = false := by rw [beq_eq_false_iff_ne]; omega
    have f11 : (m == 11) = false := by rw [beq_eq_false_iff_ne]; omega
    have f12 : (m == 12) = false := by rw [beq_eq_false_iff_ne]; omega
    clear c1 c2 c3
    go_enter Tryd.func35, Tryd.ntmps35
    go_wp2_with fail
    go_ret
    exact ⟨rfl, rfl⟩
theorem leaps13_any (y : Nat) (h1 : y ≤ 100000) (w : World) : Calls Tryd.prog 42 #[.int .i64 y] w fun e w' => e = .returned (.int .i64 (lpN y)) ∧ w = w' := by
  have hq := lpN_int y
  have q4 : ((y : Int).tdiv 4) = (y : Int) / 4 := Int.tdiv_eq_ediv_of_nonneg (by omega)
  have q100 : ((y : Int).tdiv 100) = (y : Int) / 100 := Int.tdiv_eq_ediv_of_nonneg (by omega)
  have q400 : ((y : Int).tdiv 400) = (y : Int) / 400 := Int.tdiv_eq_ediv_of_nonneg (by omega)
  replace hq := Lib.hid hq
  go_enter Tryd.func42, Tryd.ntmps42
  go_wp2_with fail
  go_ret
  exact ⟨ret_int (by have := hq.out; omega), rfl⟩
theorem lpN_1969 : lpN 1969 = 477 := by decide
theorem newYear13_any (y : Nat) (h0 : 1970 ≤ y) (h1 : y ≤ 10000) (w : World) : Calls Tryd.prog 39 #[.int .i64 y] w fun e w' => e = .returned (.int .i64 (nyN y)) ∧ w = w' := by
  have hc := fun W : World => leaps13_any (y - 1) (by omega) W
  have hd := fun W : World => leaps13_any 1969 (by omega) W
  rw [show ((y - 1 : Nat) : Int) = (y : Int) - 1 by omega] at hc
  rw [lpN_1969] at hd
  have hn := nyN_int h0
  have hb : lpN (y - 1) ≤ 100000 := by unfold lpN; omega
  generalize lpN (y - 1) = L at *
  generalize nyN y = M at *
  replace hn := Lib.hid hn
  go_enter Tryd.func39, Tryd.ntmps39
  go_wp2_with fail
  refine (hc _).mono ?_; rintro e w1 ⟨rfl, rfl⟩
  go_wp2_with fail
  refine (hd _).mono ?_; rintro e w1 ⟨rfl, rfl⟩
  go_wp2_with fail
  go_ret
  exact ⟨ret_int (by have := hn.out; omega), rfl⟩
end Go.Proofs.YtahohmdbiiknoaaDoor
