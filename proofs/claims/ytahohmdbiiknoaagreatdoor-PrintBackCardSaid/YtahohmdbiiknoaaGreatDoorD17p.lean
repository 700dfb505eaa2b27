/- Layer 17, the laws: great. -/
import Derived.BigRegion
import Derived.Lib.MinMax
import Derived.BigQuiet
import Derived.Test.YtahohmdbiiknoaaGreatDoorIa
import Derived.Test.YtahohmdbiiknoaaGreatDoorBR16
namespace Go.Proofs.YtahohmdbiiknoaaGreatDoor
open Go.RowKit

/-- An entry's bytes, no text's more than 5000. -/
def m4 (x : It) : Int := min (x.guid.length : Int) 5000 + min (x.title.length : Int) 5000 + min (x.link.length : Int) 5000 + min (x.body.length : Int) 5000
theorem m4_bd (x : It) : 0 ≤ m4 x ∧ m4 x ≤ 20000 := by unfold m4; omega
theorem m4_sum : ∀ l : List It, 0 ≤ (l.map m4).sum ∧ ((l.map m4).sum ≤ 4000 → (bytesL l : Int) = (l.map m4).sum)
  | [] => by simp [bytesL]
  | x :: r => by
    obtain ⟨h1, h2⟩ := m4_sum r
    have h3 := m4_bd x
    rw [List.map_cons, List.sum_cons]
    refine ⟨by omega, fun h => ?_⟩
    have h4 := h2 (by omega)
    have h5 : bytesL (x :: r) = bytesI x + bytesL r := by unfold bytesL; rw [List.map_cons, List.sum_cons]
    have h6 : (bytesI x : Int) = m4 x := by
      have h7 : m4 x ≤ 4000 := by omega
      unfold m4 at h7 ⊢
      unfold bytesI
      omega
    rw [h5, ← h4, ← h6]
    omega
theorem m4_take (l : List It) (k : Nat) (h : k < l.length) : ((l.take (k + 1)).map m4).sum = ((l.take k).map m4).sum + m4 (l[k]'h) := by
  rw [List.take_add_one, List.getElem?_eq_getElem h, List.map_append, List.sum_append]
  simp
/-- What 'great' tells. -/
def GreatPost (w : World) (L : List It) (e : Ending) (w' : World) : Prop := ∃ b, e = .returned (.bool b) ∧ Drawn w w' ∧ (b = false → L.length ≤ 61 ∧ bytesL L ≤ 4000)

set_option maxHeartbeats 4000000 in
set_option maxRecDepth 100000 in
theorem great17_any (L : List It) (src : Value) (w : World) (hS : ItSl w src L) : Calls Tryz.prog 4 #[src] w (GreatPost w L) := by
  obtain ⟨sa, sc, rfl, hS2⟩ := (show ∃ sa sc, src = .slice sa L.length sc ∧ ItSl w (.slice sa L.length sc) L by obtain ⟨a, c, e⟩ := hS.form; exact ⟨a, c, e, e ▸ hS⟩)
  clear hS
  replace hS2 := Lib.hid hS2
  go_enter Tryz.func4, Tryz.ntmps4
  go_wp2_with fail
  go_loopw [3, 4] (fun n i wr => ∃ (N : Int) (k : Nat), n = .int .i64 N ∧ i = .int .i64 k ∧ 0 ≤ N ∧ N ≤ 4000 ∧ k ≤ 61 ∧ k ≤ L.length ∧ Hid (N = ((L.take k).map m4).sum) ∧ Drawn w wr) (fun _ i _ => L.length - (intOf i).toNat)
  case atStart => exact ⟨0, 0, rfl, rfl, by omega, by omega, by omega, Nat.zero_le _, by simp [Lib.hid], Drawn.refl _⟩
  case round =>
    obtain ⟨N, k, rfl, rfl, hN0, hN, hk61, hk, hsum, hdr⟩ := hrel
    by_cases hlt : k < L.length
    · have hlt1 : (k : Int) < L.length := by omega
      have hsr := hS2.out.drawn hdr
      obtain ⟨a', c', ec, hat⟩ := hsr.all
      injection ec with e1 e2 e3
      subst e1 e3
      clear e2 hsr
      obtain ⟨b, off, rfl, hc, hit⟩ := hat k hlt
      clear hat
      obtain ⟨x0, x1, x2, x3, x4, x5⟩ := hit
      have hkc : (k : Int) < sc := by omega
      have hnx := m4_take L k hlt
      rw [← hsum.out] at hnx
      have hm := m4_bd (L[k]'hlt)
      generalize L[k]'hlt = x at *
      obtain ⟨xg, xt, xl, xb, xd, xk⟩ := x
      have hm4 : m4 ⟨xg, xt, xl, xb, xd, xk⟩ = min (xg.length : Int) 5000 + min (xt.length : Int) 5000 + min (xl.length : Int) 5000 + min (xb.length : Int) 5000 := rfl
      rw [hm4] at hnx hm
      clear hm4 x4 x5
      unfold strV at x0 x1 x2 x3
      simp only at x0 x1 x2 x3
      obtain ⟨M, hM⟩ : ∃ M, min (xg.length : Int) 5000 + min (xt.length : Int) 5000 + min (xl.length : Int) 5000 + min (xb.length : Int) 5000 = M := ⟨_, rfl⟩
      rw [hM] at hnx hm
      obtain ⟨hm0, hm1⟩ := hm
      replace hnx := Lib.hid hnx
      replace hdr := Lib.hid hdr
      go_wp2_with fail
      go_region
      have hdr2 := hdr.out.trans (drawn_drew wr)
      clear hdr x0 x1 x2 x3 hM
      by_cases g1 : 4000 < N + M
      · go_wp2_with fail
        go_ret
        exact ⟨true, rfl, hdr2, fun e => by cases e⟩
      · by_cases g2 : 60 < k
        · have g3 : (60 : Int) < k := by omega
          go_wp2_with fail
          go_ret
          exact ⟨true, rfl, hdr2, fun e => by cases e⟩
        · have g3 : ¬ ((60 : Int) < k) := by omega
          go_wp2_with fail
          exact ⟨⟨N + M, k + 1, rfl, by go_num, by omega, by omega, by omega, by omega, Lib.hid hnx.out.symm, hdr2⟩, by simp [intOf]; omega⟩
    · have hlt1 : ¬ ((k : Int) < L.length) := by omega
      have hs : L.take k = L := List.take_of_length_le (by omega)
      rw [hs] at hsum
      go_wp2_with fail
      go_ret
      refine ⟨false, rfl, hdr, fun _ => ⟨by omega, ?_⟩⟩
      have := (m4_sum L).2 (by rw [← hsum.out]; exact hN)
      rw [← hsum.out] at this
      omega

end Go.Proofs.YtahohmdbiiknoaaGreatDoor
