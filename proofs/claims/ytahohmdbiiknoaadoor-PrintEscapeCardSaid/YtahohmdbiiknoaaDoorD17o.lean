/- Layer 17, the reference: Escape, element, Rss, Atom. -/
import Derived.BigQuiet
import Derived.Test.YtahohmdbiiknoaaDoorD17m
import Derived.Test.YtahohmdbiiknoaaDoorD17n
import Derived.Test.YtahohmdbiiknoaaDoorIa
import Derived.Test.YtahohmdbiiknoaaDoorBR16
namespace Go.Proofs.YtahohmdbiiknoaaDoor
open Go.RowKit

theorem take_drop_one (s : List UInt8) (k : Nat) (h : k < s.length) : (s.take (k + 1)).drop k = [s.getD k 0] := by
  have e : s.getD k 0 = s[k]'h := by simp [List.getD, h]
  rw [List.drop_take, show k + 1 - k = 1 by omega, List.drop_eq_getElem_cons h, e]
  rfl
set_option maxHeartbeats 1000000 in
theorem refescape17_any (s : List UInt8) (w : World) (hn : s.length ≤ 100000000000) :
    Calls Tryd.prog 12 #[.string ⟨s.toArray⟩] w fun e w' => e = .returned (.string ⟨(escB s).toArray⟩) ∧ w = w' := by
  go_enter Tryd.func12, Tryd.ntmps12
  go_wp2_with fail
  go_loopw [3, 4] (fun a i wr => ∃ (k : Nat) (t : List UInt8), a = .string ⟨t.toArray⟩ ∧ i = .int .i64 k ∧ k ≤ s.length ∧ Hid (t = escB (s.take k)) ∧ wr = w) (fun _ i _ => s.length - (intOf i).toNat)
  case atStart => exact ⟨0, [], rfl, rfl, Nat.zero_le _, rfl, rfl⟩
  case round =>
    obtain ⟨k, t, rfl, rfl, hk, ht, rfl⟩ := hrel
    by_cases hlt : k < s.length
    · have hlt1 : (k : Int) < s.length := by omega
      have hs := esc_take s k hlt
      rw [esc1_bt, ← ht.out] at hs
      have hl : t.length ≤ 600000000000 := by
        have := escB_len (s.take k)
        rw [List.length_take] at this
        rw [ht.out]; omega
      clear ht
      by_cases c1 : bt s k = 38
      · rw [if_pos c1] at hs
        replace hs := Lib.hid hs
        go_wp2_with fail
        exact ⟨⟨k + 1, _, rfl, by go_num, by omega, Lib.hid (by rw [hs.out]), trivial⟩, by simp [intOf]; omega⟩
      rw [if_neg c1] at hs
      by_cases c2 : bt s k = 60
      · rw [if_pos c2] at hs
        replace hs := Lib.hid hs
        clear c1
        go_wp2_with fail
        exact ⟨⟨k + 1, _, rfl, by go_num, by omega, Lib.hid (by rw [hs.out]), trivial⟩, by simp [intOf]; omega⟩
      rw [if_neg c2] at hs
      by_cases c3 : bt s k = 62
      · rw [if_pos c3] at hs
        replace hs := Lib.hid hs
        clear c1 c2
        go_wp2_with fail
        exact ⟨⟨k + 1, _, rfl, by go_num, by omega, Lib.hid (by rw [hs.out]), trivial⟩, by simp [intOf]; omega⟩
      rw [if_neg c3] at hs
      by_cases c4 : bt s k = 34
      · rw [if_pos c4] at hs
        replace hs := Lib.hid hs
        clear c1 c2 c3
        go_wp2_with fail
        exact ⟨⟨k + 1, _, rfl, by go_num, by omega, Lib.hid (by rw [hs.out]), trivial⟩, by simp [intOf]; omega⟩
      rw [if_neg c4] at hs
      have htd := take_drop_one s k hlt
      have hl1 : ((s.take (k + 1)).drop k).length = 1 := by rw [htd]; rfl
      rw [← htd] at hs
      replace hs := Lib.hid hs
      clear htd
      go_wp2_with fail
      exact ⟨⟨k + 1, _, rfl, by go_num, by omega, Lib.hid (by rw [hs.out]), trivial⟩, by simp [intOf]; omega⟩
    · have hlt1 : ¬ ((k : Int) < s.length) := by omega
      have hs : s.take k = s := List.take_of_length_le (by omega)
      rw [hs] at ht
      go_wp2_with fail
      go_ret
      exact ⟨ret_str ht.out, rfl⟩

set_option maxHeartbeats 1000000 in
theorem refelement17_any (nm x : List UInt8) (w : World) (hnm : nm.length ≤ 100) (hn : x.length ≤ 100000000000) :
    Calls Tryd.prog 15 #[.string ⟨nm.toArray⟩, .string ⟨x.toArray⟩] w fun e w' => e = .returned (.string ⟨(elB nm x).toArray⟩) ∧ w = w' := by
  have hc := fun W : World => refescape17_any x W hn
  have he := escB_len x
  have hfin : elB nm x = 60 :: (nm ++ 62 :: (escB x ++ 60 :: 47 :: (nm ++ [62]))) := rfl
  rw [hfin]
  clear hfin
  replace hc := Lib.hid hc
  generalize escB x = t at *
  go_enter Tryd.func15, Tryd.ntmps15
  go_wp2_with fail
  refine (hc.out _).mono ?_
  rintro e w' ⟨rfl, rfl⟩
  go_wp2_with fail
  go_ret
  exact ⟨ret_str (by simp), rfl⟩
set_option maxHeartbeats 4000000 in
set_option maxRecDepth 100000 in
theorem refrss17_any (L : List It) (src : Value) (w : World) (hS : ItSl w src L) (hd : ∀ q ∈ L, -9223372036854775808 ≤ q.date ∧ q.date ≤ 9223372036854775807) (h1 : L.length ≤ 1000000) (h2 : bytesL L ≤ 1000000) :
    Calls Tryd.prog 8 #[src] w (StrB w (rssB L)) := by
  obtain ⟨sa, sc, rfl, hS2⟩ := (show ∃ sa sc, src = .slice sa L.length sc ∧ ItSl w (.slice sa L.length sc) L by obtain ⟨a, c, e⟩ := hS.form; exact ⟨a, c, e, e ▸ hS⟩)
  clear hS
  replace hS2 := Lib.hid hS2
  replace hd := Lib.hid hd
  go_enter Tryd.func8, Tryd.ntmps8
  go_wp2_with fail
  go_loopw [3, 4] (fun v i wr => ∃ (k : Nat) (T : List UInt8), v = .string ⟨T.toArray⟩ ∧ i = .int .i64 k ∧ k ≤ L.length ∧ Hid (T = rssHd ++ (L.take k).flatMap fun x => itemP itemL (rssF x)) ∧ Hid (Below w.heap.size w wr)) (fun _ i _ => L.length - (intOf i).toNat)
  case atStart => exact ⟨0, rssHd, rfl, rfl, Nat.zero_le _, by rw [List.take_zero, List.flatMap_nil, List.append_nil]; rfl, Below.refl _ _⟩
  case round =>
    obtain ⟨k, T, rfl, rfl, hk, hT, hbw⟩ := hrel
    by_cases hlt : k < L.length
    · have hlt1 : (k : Int) < L.length := by omega
      have hsr := hS2.out.next (show Below w.heap.size w wr from hbw.out)
      obtain ⟨a', c', ec, hat⟩ := hsr.all
      injection ec with e1 e2 e3
      subst e1 e3
      clear e2 hsr
      obtain ⟨b, off, rfl, hc, hit⟩ := hat k hlt
      clear hat
      obtain ⟨x0, x1, x2, x3, x4, x5⟩ := hit
      have hkc : (k : Int) < sc := by omega
      have hnx := its_take (fun x => itemP itemL (rssF x)) L k hlt
      have hb1 := bytesL_take L k hlt
      have hb2 := items_len (fun x => itemP itemL (rssF x)) rss_item_len (L.take k)
      have hb3 : (L.take k).length ≤ 1000000 := by rw [List.length_take]; omega
      have hlT : T.length = 74 + ((L.take k).flatMap fun x => itemP itemL (rssF x)).length := by rw [hT.out, List.length_append]; rfl
      have hfin : T ++ itemP itemL (rssF (L[k]'hlt)) = rssHd ++ (L.take (k + 1)).flatMap fun x => itemP itemL (rssF x) := by rw [hnx, ← List.append_assoc, ← hT.out]
      have hdx := hd.out _ (List.getElem_mem hlt)
      have hbx := rss_item_len (L[k]'hlt)
      generalize L[k]'hlt = x at *
      replace hfin := Lib.hid hfin
      clear hnx hT
      have hlT2 : T.length ≤ 500000000 := by omega
      obtain ⟨xg, xt, xl, xb, xd, xk⟩ := x
      unfold bytesI at hb1
      simp only at x0 x1 x2 x3 x4 x5 hb1 hdx
      have hg := fun W : World => refelement17_any [103, 117, 105, 100] xg W (by decide) (by omega)
      have ht := fun W : World => refelement17_any [116, 105, 116, 108, 101] xt W (by decide) (by omega)
      have hl := fun W : World => refelement17_any [108, 105, 110, 107] xl W (by decide) (by omega)
      have hb := fun W : World => refelement17_any [100, 101, 115, 99, 114, 105, 112, 116, 105, 111, 110] xb W (by decide) (by omega)
      have lg := escB_len xg
      have lt := escB_len xt
      have ll := escB_len xl
      have lb := escB_len xb
      have mg := elB_len [103, 117, 105, 100] xg
      have mt := elB_len [116, 105, 116, 108, 101] xt
      have ml := elB_len [108, 105, 110, 107] xl
      have mb := elB_len [100, 101, 115, 99, 114, 105, 112, 116, 105, 111, 110] xb
      simp only [List.length_cons, List.length_nil] at mg mt ml mb
      have ng : (elB [103, 117, 105, 100] xg).length ≤ 10000000 := by omega
      have nt : (elB [116, 105, 116, 108, 101] xt).length ≤ 10000000 := by omega
      have nl : (elB [108, 105, 110, 107] xl).length ≤ 10000000 := by omega
      have nb : (elB [100, 101, 115, 99, 114, 105, 112, 116, 105, 111, 110] xb).length ≤ 10000000 := by omega
      have hit : ∀ d, itemP itemL (rssF ⟨xg, xt, xl, xb, xd, d⟩) = [60, 105, 116, 101, 109, 62] ++ elB [103, 117, 105, 100] xg ++ elB [116, 105, 116, 108, 101] xt ++ elB [108, 105, 110, 107] xl ++ elB [100, 101, 115, 99, 114, 105, 112, 116, 105, 111, 110] xb ++ (if d = true then elB [112, 117, 98, 68, 97, 116, 101] (print82 xd) else []) ++ [60, 47, 105, 116, 101, 109, 62, 10] := by
        intro d
        cases d <;> simp [itemP, rssF, elB, Pf.bytes, guidL, titleL, linkL, descL, pubL, itemL, List.flatMap_cons]
      rw [hit] at hfin
      clear hit mg mt ml mb lg lt ll lb hb1 hb2 hb3 hlT hbx
      generalize elB [103, 117, 105, 100] xg = eg at *
      generalize elB [116, 105, 116, 108, 101] xt = et at *
      generalize elB [108, 105, 110, 107] xl = el at *
      generalize elB [100, 101, 115, 99, 114, 105, 112, 116, 105, 111, 110] xb = eb at *
      replace hg := Lib.hid hg
      replace ht := Lib.hid ht
      replace hl := Lib.hid hl
      replace hb := Lib.hid hb
      unfold strV at x0 x1 x2 x3
      replace hbw := Lib.hid (hbw.out.trans (((Below.refl wr.heap.size wr).alloc (Nat.le_refl _) (.cells (itC ⟨xg, xt, xl, xb, xd, xk⟩).toArray 30)).mono hbw.out.size))
      unfold itC at hbw
      simp only at hbw
      unfold strV at hbw
      cases xk
      · simp only [Bool.false_eq_true, if_false, List.append_nil] at hfin
        replace hfin := Lib.hid hfin.out
        go_wp2_with fail
        go_quiet (first | (go_at_call 15; with_reducible exact Calls.drawn_at (hg.out _)) | (go_at_call 15; with_reducible exact Calls.drawn_at (ht.out _)) | (go_at_call 15; with_reducible exact Calls.drawn_at (hl.out _)) | (go_at_call 15; with_reducible exact Calls.drawn_at (hb.out _)))
        go_wp2_with fail
        refine ⟨⟨k + 1, _, rfl, by go_num, by omega, Lib.hid ?_, Lib.hid ?_⟩, by simp [intOf]; omega⟩
        · rw [← hfin.out]; simp
        · exact hbw.out.trans ((drawn_drewN _ _).below _)
      · have hp := fun W : World => print82r_any xd W hdx.1 hdx.2
        have hpl := print82_len xd
        simp only [if_true] at hfin
        generalize print82 xd = pd at *
        have he := fun W : World => refelement17_any [112, 117, 98, 68, 97, 116, 101] pd W (by decide) (by omega)
        have le := escB_len pd
        have me := elB_len [112, 117, 98, 68, 97, 116, 101] pd
        simp only [List.length_cons, List.length_nil] at me
        have ne : (elB [112, 117, 98, 68, 97, 116, 101] pd).length ≤ 1000 := by omega
        clear le me
        generalize elB [112, 117, 98, 68, 97, 116, 101] pd = ep at *
        replace hfin := Lib.hid hfin.out
        replace hp := Lib.hid hp
        replace he := Lib.hid he
        go_wp2_with fail
        go_quiet (first | (go_at_call 15; with_reducible exact Calls.drawn_at (hg.out _)) | (go_at_call 15; with_reducible exact Calls.drawn_at (ht.out _)) | (go_at_call 15; with_reducible exact Calls.drawn_at (hl.out _)) | (go_at_call 15; with_reducible exact Calls.drawn_at (hb.out _)))
        go_wp2_with fail
        refine (hp.out _).mono ?_
        rintro e w2 ⟨rfl, hb2⟩
        replace hbw := Lib.hid ((hbw.out.trans ((drawn_drewN _ _).below _)).trans (hb2.mono (Nat.le_trans hbw.out.size (by simp))))
        clear hb2
        go_wp2_with fail
        refine (he.out _).mono ?_
        rintro e w3 ⟨rfl, rfl⟩
        go_wp2_with fail
        refine ⟨⟨k + 1, _, rfl, by go_num, by omega, Lib.hid ?_, hbw⟩, by simp [intOf]; omega⟩
        rw [← hfin.out]; simp
    · have hlt1 : ¬ ((k : Int) < L.length) := by omega
      have hs : L.take k = L := List.take_of_length_le (by omega)
      rw [hs] at hT
      have hb2 := items_len (fun x => itemP itemL (rssF x)) rss_item_len L
      have hlT : T.length = 74 + (L.flatMap fun x => itemP itemL (rssF x)).length := by rw [hT.out, List.length_append]; rfl
      have hlT2 : T.length ≤ 500000000 := by omega
      have hfin := Lib.hid (show T ++ rssTl = rssB L by rw [rssB_eq, hT.out])
      clear hT hb2 hlT
      go_wp2_with fail
      go_ret
      exact ⟨ret_str (by rw [← hfin.out]; rfl), hbw.out⟩

set_option maxHeartbeats 4000000 in
set_option maxRecDepth 100000 in
theorem refatom17_any (L : List It) (src : Value) (w : World) (hS : ItSl w src L) (hd : ∀ q ∈ L, -9223372036854775808 ≤ q.date ∧ q.date ≤ 9223372036854775807) (h1 : L.length ≤ 1000000) (h2 : bytesL L ≤ 1000000) :
    Calls Tryd.prog 10 #[src] w (StrB w (atomB L)) := by
  obtain ⟨sa, sc, rfl, hS2⟩ := (show ∃ sa sc, src = .slice sa L.length sc ∧ ItSl w (.slice sa L.length sc) L by obtain ⟨a, c, e⟩ := hS.form; exact ⟨a, c, e, e ▸ hS⟩)
  clear hS
  replace hS2 := Lib.hid hS2
  replace hd := Lib.hid hd
  go_enter Tryd.func10, Tryd.ntmps10
  go_wp2_with fail
  go_loopw [3, 4] (fun v i wr => ∃ (k : Nat) (T : List UInt8), v = .string ⟨T.toArray⟩ ∧ i = .int .i64 k ∧ k ≤ L.length ∧ Hid (T = atomHd ++ (L.take k).flatMap fun x => itemP entryL (atomF x)) ∧ Hid (Below w.heap.size w wr)) (fun _ i _ => L.length - (intOf i).toNat)
  case atStart => exact ⟨0, atomHd, rfl, rfl, Nat.zero_le _, by rw [List.take_zero, List.flatMap_nil, List.append_nil]; rfl, Below.refl _ _⟩
  case round =>
    obtain ⟨k, T, rfl, rfl, hk, hT, hbw⟩ := hrel
    by_cases hlt : k < L.length
    · have hlt1 : (k : Int) < L.length := by omega
      have hsr := hS2.out.next (show Below w.heap.size w wr from hbw.out)
      obtain ⟨a', c', ec, hat⟩ := hsr.all
      injection ec with e1 e2 e3
      subst e1 e3
      clear e2 hsr
      obtain ⟨b, off, rfl, hc, hit⟩ := hat k hlt
      clear hat
      obtain ⟨x0, x1, x2, x3, x4, x5⟩ := hit
      have hkc : (k : Int) < sc := by omega
      have hnx := its_take (fun x => itemP entryL (atomF x)) L k hlt
      have hb1 := bytesL_take L k hlt
      have hb2 := items_len (fun x => itemP entryL (atomF x)) atom_item_len (L.take k)
      have hb3 : (L.take k).length ≤ 1000000 := by rw [List.length_take]; omega
      have hlT : T.length = 88 + ((L.take k).flatMap fun x => itemP entryL (atomF x)).length := by rw [hT.out, List.length_append]; rfl
      have hfin : T ++ itemP entryL (atomF (L[k]'hlt)) = atomHd ++ (L.take (k + 1)).flatMap fun x => itemP entryL (atomF x) := by rw [hnx, ← List.append_assoc, ← hT.out]
      have hdx := hd.out _ (List.getElem_mem hlt)
      have hbx := atom_item_len (L[k]'hlt)
      generalize L[k]'hlt = x at *
      replace hfin := Lib.hid hfin
      clear hnx hT
      have hlT2 : T.length ≤ 500000000 := by omega
      obtain ⟨xg, xt, xl, xb, xd, xk⟩ := x
      unfold bytesI at hb1
      simp only at x0 x1 x2 x3 x4 x5 hb1 hdx
      have hg := fun W : World => refelement17_any [105, 100] xg W (by decide) (by omega)
      have ht := fun W : World => refelement17_any [116, 105, 116, 108, 101] xt W (by decide) (by omega)
      have hl := fun W : World => refescape17_any xl W (by omega)
      have hb := fun W : World => refelement17_any [115, 117, 109, 109, 97, 114, 121] xb W (by decide) (by omega)
      have lg := escB_len xg
      have lt := escB_len xt
      have ll := escB_len xl
      have lb := escB_len xb
      have mg := elB_len [105, 100] xg
      have mt := elB_len [116, 105, 116, 108, 101] xt
      have mb := elB_len [115, 117, 109, 109, 97, 114, 121] xb
      simp only [List.length_cons, List.length_nil] at mg mt mb
      have ng : (elB [105, 100] xg).length ≤ 10000000 := by omega
      have nt : (elB [116, 105, 116, 108, 101] xt).length ≤ 10000000 := by omega
      have nl : (escB xl).length ≤ 10000000 := by omega
      have nb : (elB [115, 117, 109, 109, 97, 114, 121] xb).length ≤ 10000000 := by omega
      have hit : ∀ d, itemP entryL (atomF ⟨xg, xt, xl, xb, xd, d⟩) = [60, 101, 110, 116, 114, 121, 62] ++ elB [105, 100] xg ++ elB [116, 105, 116, 108, 101] xt ++ [60, 108, 105, 110, 107, 32, 104, 114, 101, 102, 61, 34] ++ escB xl ++ [34, 47, 62] ++ elB [115, 117, 109, 109, 97, 114, 121] xb ++ (if d = true then elB [117, 112, 100, 97, 116, 101, 100] (print39 xd) else []) ++ [60, 47, 101, 110, 116, 114, 121, 62, 10] := by
        intro d
        cases d <;> simp [itemP, atomF, elB, Pf.bytes, idL, titleL, linkL, hrefL, sumL, updL, entryL, List.flatMap_cons]
      rw [hit] at hfin
      clear hit mg mt mb lg lt ll lb hb1 hb2 hb3 hlT hbx
      generalize elB [105, 100] xg = eg at *
      generalize elB [116, 105, 116, 108, 101] xt = et at *
      generalize escB xl = el at *
      generalize elB [115, 117, 109, 109, 97, 114, 121] xb = eb at *
      replace hg := Lib.hid hg
      replace ht := Lib.hid ht
      replace hl := Lib.hid hl
      replace hb := Lib.hid hb
      unfold strV at x0 x1 x2 x3
      replace hbw := Lib.hid (hbw.out.trans (((Below.refl wr.heap.size wr).alloc (Nat.le_refl _) (.cells (itC ⟨xg, xt, xl, xb, xd, xk⟩).toArray 30)).mono hbw.out.size))
      unfold itC at hbw
      simp only at hbw
      unfold strV at hbw
      cases xk
      · simp only [Bool.false_eq_true, if_false, List.append_nil] at hfin
        replace hfin := Lib.hid hfin.out
        go_wp2_with fail
        go_quiet (first | (go_at_call 15; with_reducible exact Calls.drawn_at (hg.out _)) | (go_at_call 15; with_reducible exact Calls.drawn_at (ht.out _)) | (go_at_call 12; with_reducible exact Calls.drawn_at (hl.out _)) | (go_at_call 15; with_reducible exact Calls.drawn_at (hb.out _)))
        go_wp2_with fail
        refine ⟨⟨k + 1, _, rfl, by go_num, by omega, Lib.hid ?_, Lib.hid ?_⟩, by simp [intOf]; omega⟩
        · rw [← hfin.out]; simp
        · exact hbw.out.trans ((drawn_drewN _ _).below _)
      · have hp := fun W : World => print39r_any xd W hdx.1 hdx.2
        have hpl := print39_len xd
        simp only [if_true] at hfin
        generalize print39 xd = pd at *
        have he := fun W : World => refelement17_any [117, 112, 100, 97, 116, 101, 100] pd W (by decide) (by omega)
        have le := escB_len pd
        have me := elB_len [117, 112, 100, 97, 116, 101, 100] pd
        simp only [List.length_cons, List.length_nil] at me
        have ne : (elB [117, 112, 100, 97, 116, 101, 100] pd).length ≤ 1000 := by omega
        clear le me
        generalize elB [117, 112, 100, 97, 116, 101, 100] pd = ep at *
        replace hfin := Lib.hid hfin.out
        replace hp := Lib.hid hp
        replace he := Lib.hid he
        go_wp2_with fail
        go_quiet (first | (go_at_call 15; with_reducible exact Calls.drawn_at (hg.out _)) | (go_at_call 15; with_reducible exact Calls.drawn_at (ht.out _)) | (go_at_call 12; with_reducible exact Calls.drawn_at (hl.out _)) | (go_at_call 15; with_reducible exact Calls.drawn_at (hb.out _)))
        go_wp2_with fail
        refine (hp.out _).mono ?_
        rintro e w2 ⟨rfl, hb2⟩
        replace hbw := Lib.hid ((hbw.out.trans ((drawn_drewN _ _).below _)).trans (hb2.mono (Nat.le_trans hbw.out.size (by simp))))
        clear hb2
        go_wp2_with fail
        refine (he.out _).mono ?_
        rintro e w3 ⟨rfl, rfl⟩
        go_wp2_with fail
        refine ⟨⟨k + 1, _, rfl, by go_num, by omega, Lib.hid ?_, hbw⟩, by simp [intOf]; omega⟩
        rw [← hfin.out]; simp
    · have hlt1 : ¬ ((k : Int) < L.length) := by omega
      have hs : L.take k = L := List.take_of_length_le (by omega)
      rw [hs] at hT
      have hb2 := items_len (fun x => itemP entryL (atomF x)) atom_item_len L
      have hlT : T.length = 88 + (L.flatMap fun x => itemP entryL (atomF x)).length := by rw [hT.out, List.length_append]; rfl
      have hlT2 : T.length ≤ 500000000 := by omega
      have hfin := Lib.hid (show T ++ atomTl = atomB L by rw [atomB_eq, hT.out])
      clear hT hb2 hlT
      go_wp2_with fail
      go_ret
      exact ⟨ret_str (by rw [← hfin.out]; rfl), hbw.out⟩
end Go.Proofs.YtahohmdbiiknoaaDoor
