/- Layer 8's reference: at, Get, Len. -/
import Derived.Test.YtgldlfgidmgmfaaD08q
namespace Go.Proofs.Ytgldlfgidmgmfaa
open Go.RowKit
variable {w : World} {B Y d : Nat} {L : List (Int × Int)} {v : Value}

set_option maxHeartbeats 1000000 in
set_option maxRecDepth 100000 in
theorem refat_any (id : Int) (h : RefAt w B Y d L v) (hL : Nums L) (hm : L.length < 50000) :
    Calls Try.prog 30 #[.pointer (some ⟨Y, 0, none⟩), .int .i64 id] w fun e w' => e = .returned (.int .i64 (posL L id : Nat)) ∧ w = w' := by
  have c1 := h.c1
  rcases h.form with ⟨rfl, rfl⟩ | ⟨g, cap, rfl, hnc, hcm, hgY, hgl, hcell⟩
  · clear h hL hm
    go_enter Try.func30, Try.ntmps30
    go_wp2_with fail
    go_loopw [5] (fun i wr => i = .int .i64 0 ∧ wr = w) (fun _ _ => 0)
    case atStart => exact ⟨rfl, rfl⟩
    case round =>
      obtain ⟨rfl, rfl⟩ := hrel
      go_wp2_with fail
      go_ret
      exact ⟨rfl, rfl⟩
  · unfold maxLen at hcm
    replace hcell := Lib.hid hcell
    have hpos := Lib.hid (fun k h1 h2 h3 => posL_is (id := id) (k := k) hL h1 h2 h3)
    clear h hL
    go_enter Try.func30, Try.ntmps30
    go_wp2_with fail
    go_loopw [5] (fun i wr => ∃ k : Nat, i = .int .i64 k ∧ wr = w ∧ k ≤ L.length ∧ Hid (∀ j (hj : j < L.length), j < k → (L[j]'hj).1 < id)) (fun i _ => L.length - (intOf i).toNat)
    case atStart => exact ⟨0, rfl, rfl, Nat.zero_le _, fun j hj h0 => by omega⟩
    case round =>
      obtain ⟨k, rfl, rfl, hk, hlo⟩ := hrel
      by_cases hlt : k < L.length
      · have d0 := (hcell.out k hlt).1
        obtain ⟨x, hx⟩ : ∃ x, (L[k]'hlt).1 = x := ⟨_, rfl⟩
        rw [hx] at d0
        have k0 : (0 : Int) ≤ k := by omega
        have k1 : (k : Int) < L.length := by omega
        by_cases hxi : x < id
        · have hlo' : Hid (∀ j (hj : j < L.length), j < k + 1 → (L[j]'hj).1 < id) := fun j hj hj' => by
            rcases Nat.lt_or_ge j k with h' | h'
            · exact hlo.out j hj h'
            · obtain rfl : j = k := by omega
              rw [hx]; exact hxi
          clear hlo
          replace hx := Lib.hid hx
          go_wp2_with fail
          exact ⟨⟨k + 1, by go_num, by trivial, by omega, hlo'⟩, by simp [intOf]; omega⟩
        · have hfin : Hid (posL L id = k) := hpos.out k hk (fun j hj => hlo.out j (by omega) hj) (fun _ => by rw [hx]; omega)
          clear hlo hpos
          replace hx := Lib.hid hx
          go_wp2_with fail
          go_ret
          exact ⟨by rw [hfin.out]; rfl, rfl⟩
      · obtain rfl : k = L.length := by omega
        have hfin : Hid (posL L id = L.length) := hpos.out L.length hk (fun j hj => hlo.out j (by omega) hj) (fun e => absurd e (by omega))
        clear hlo hpos
        go_wp2_with fail
        go_ret
        exact ⟨by rw [hfin.out]; rfl, rfl⟩

theorem reflen_any (h : RefAt w B Y d L v) : Calls Try.prog 18 #[.pointer (some ⟨Y, 0, none⟩)] w fun e w' => e = .returned (.int .i64 (L.length : Nat)) ∧ w = w' := by
  have c1 := h.c1
  rcases h.form with ⟨rfl, rfl⟩ | ⟨g, cap, rfl, hnc, hcm, hgY, hgl, hcell⟩
  all_goals (
    clear h
    go_enter Try.func18, Try.ntmps18
    go_wp2_with fail
    go_ret
    exact ⟨rfl, rfl⟩)
/-- What stands at a name's place. -/
theorem posL_at {L : List (Int × Int)} {id : Int} (hk : posL L id < L.length) (hn : ¬ ∃ t, (id, t) ∈ L) : ¬ (L[posL L id]'hk).1 = id := fun e => hn ⟨(L[posL L id]'hk).2, by
  obtain ⟨p, hp⟩ : ∃ p, L[posL L id]'hk = p := ⟨_, rfl⟩
  have hm : p ∈ L := hp ▸ List.getElem_mem hk
  rw [hp] at e ⊢
  rw [← e]; exact hm⟩
theorem posL_of {L : List (Int × Int)} (h : Nums L) {id s : Int} (hm : (id, s) ∈ L) : ∃ hk : posL L id < L.length, L[posL L id]'hk = (id, s) := by
  obtain ⟨j, hj, e⟩ := List.mem_iff_getElem.1 hm
  have key : ∀ a b (ha : a < L.length) (hb : b < L.length), a < b → (L[a]'ha).1 < (L[b]'hb).1 := fun a b ha hb hab => by
    have := List.pairwise_iff_getElem.1 h.rises a b (by simpa using ha) (by simpa using hb) hab
    simpa using this
  have hp : posL L id = j := posL_is h (Nat.le_of_lt hj) (fun i hi => by have := key i j (by omega) hj hi; rw [e] at this; exact this) (fun _ h' => by rw [e] at h'; exact Int.lt_irrefl _ h')
  subst hp
  exact ⟨hj, e⟩
end Go.Proofs.Ytgldlfgidmgmfaa
