/- Layer 8's reference: Add and Drop, whatever there is. -/
import Derived.Test.YtgldlfgidmgmfaaD08v
import Derived.Test.YtgldlfgidmgmfaaD08w
import Derived.Test.YtgldlfgidmgmfaaD08x
namespace Go.Proofs.Ytgldlfgidmgmfaa
open Go.RowKit
variable {w : World} {B Y d : Nat} {L : List (Int × Int)} {v : Value}

theorem refadd_yes {id s : Int} (h : RefAt w B Y d L v) (hL : Nums L) (hm : L.length < 50000) (hn : ¬ ∃ t, (id, t) ∈ L) :
    Calls Try.prog 12 #[.pointer (some ⟨Y, 0, none⟩), .int .i64 id, .int .u64 s] w (AddRPost B Y d (addL L id s) w) := by
  have hat := refat_any id h hL hm
  have hle := posL_le L id
  rcases h.form with ⟨rfl, rfl⟩ | ⟨g, cap, rfl, hnc, hcm, hgY, hgl, hcell⟩
  · exact refadd_nil0 h hat
  · unfold maxLen at hcm
    by_cases hk : posL L id < L.length
    · exact refadd_mid h hnc hcm hm rfl hk (hcell _ hk).1 (by simpa using posL_at hk hn) hat
    · by_cases hc : cap = posL L id
      · have e : posL L id = L.length := by omega
        rw [e] at hat hc
        subst hc
        exact refadd_full h hm e hat
      · exact refadd_end h hnc hcm hm rfl (by omega) hle hc hat
theorem refadd_no {id s t : Int} (h : RefAt w B Y d L v) (hL : Nums L) (hm : L.length < 50000) (hi : (id, t) ∈ L) :
    Calls Try.prog 12 #[.pointer (some ⟨Y, 0, none⟩), .int .i64 id, .int .u64 s] w fun e w' => e = .returned (.bool false) ∧ w = w' := by
  have hat := Lib.hid (refat_any id h hL hm)
  have c1 := h.c1
  obtain ⟨hk, he⟩ := posL_of hL hi
  rcases h.form with ⟨rfl, rfl⟩ | ⟨g, cap, rfl, hnc, hcm, hgY, hgl, hcell⟩
  · simp at hk
  · have d0 := (hcell _ hk).1
    rw [he] at d0
    generalize posL L id = k at hk hat d0
    have k0 : (0 : Int) ≤ k := by omega
    have k1 : (k : Int) < L.length := by omega
    clear h hL hi hcell he
    go_enter Try.func12, Try.ntmps12
    go_wp2_with (go_at_call 30; refine hat.out.mono ?_; rintro e w' ⟨rfl, rfl⟩)
    go_ret
    exact ⟨rfl, rfl⟩
theorem refdrop_yes {id t : Int} (h : RefAt w B Y d L v) (hL : Nums L) (hm : L.length < 50000) (hi : (id, t) ∈ L) :
    Calls Try.prog 14 #[.pointer (some ⟨Y, 0, none⟩), .int .i64 id] w (AddRPost B Y d (dropL L id) w) := by
  have hat := refat_any id h hL hm
  obtain ⟨hk, he⟩ := posL_of hL hi
  rcases h.form with ⟨rfl, rfl⟩ | ⟨g, cap, rfl, hnc, hcm, hgY, hgl, hcell⟩
  · simp at hk
  · unfold maxLen at hcm
    have d0 := (hcell _ hk).1
    rw [he] at d0
    by_cases hc : cap = posL L id + 1
    · subst hc
      exact refdrop_full h hnc hm rfl hk d0 hat
    · exact refdrop_mid h hnc hcm hm rfl hk d0 hc hat
theorem refdrop_no {id : Int} (h : RefAt w B Y d L v) (hL : Nums L) (hm : L.length < 50000) (hi : ¬ ∃ s, (id, s) ∈ L) :
    Calls Try.prog 14 #[.pointer (some ⟨Y, 0, none⟩), .int .i64 id] w fun e w' => e = .returned (.bool false) ∧ w = w' := by
  have c1 := h.c1
  have hat := Lib.hid (refat_any id h hL hm)
  have hle := posL_le L id
  rcases h.form with ⟨rfl, rfl⟩ | ⟨g, cap, rfl, hnc, hcm, hgY, hgl, hcell⟩
  · clear h hL hi hle
    go_enter Try.func14, Try.ntmps14
    go_wp2_with (go_at_call 30; refine hat.out.mono ?_; rintro e w' ⟨rfl, rfl⟩)
    go_ret
    exact ⟨rfl, rfl⟩
  · by_cases hk : posL L id < L.length
    · have d0 := (hcell _ hk).1
      have hne := posL_at hk hi
      generalize (L[posL L id]'hk).1 = x at d0 hne
      generalize posL L id = k at hk hat d0
      have k0 : (0 : Int) ≤ k := by omega
      have k1 : (k : Int) < L.length := by omega
      have k2 : ((k : Int) == (L.length : Int)) = false := by simp; omega
      have k3 : (x == id) = false := by simpa using hne
      clear h hL hi hcell
      go_enter Try.func14, Try.ntmps14
      go_wp2_with (go_at_call 30; refine hat.out.mono ?_; rintro e w' ⟨rfl, rfl⟩)
      go_ret
      exact ⟨rfl, rfl⟩
    · have hk' : posL L id = L.length := by omega
      rw [hk'] at hat
      clear h hL hi hcell hk hle hk'
      go_enter Try.func14, Try.ntmps14
      go_wp2_with (go_at_call 30; refine hat.out.mono ?_; rintro e w' ⟨rfl, rfl⟩)
      go_ret
      exact ⟨rfl, rfl⟩
end Go.Proofs.Ytgldlfgidmgmfaa
