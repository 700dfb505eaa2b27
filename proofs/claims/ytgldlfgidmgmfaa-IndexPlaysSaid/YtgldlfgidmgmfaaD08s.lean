/- Layer 8's reference: Get; Near, Sharing. -/
import Derived.Test.YtgldlfgidmgmfaaD08r
namespace Go.Proofs.Ytgldlfgidmgmfaa
open Go.RowKit
variable {w : World} {B Y d : Nat} {L : List (Int × Int)} {v : Value}

theorem refget_yes {id s : Int} (h : RefAt w B Y d L v) (hL : Nums L) (hm : L.length < 50000) (hi : (id, s) ∈ L) :
    Calls Try.prog 16 #[.pointer (some ⟨Y, 0, none⟩), .int .i64 id] w fun e w' => e = .returned (.tuple #[.int .u64 s, .bool true]) ∧ w = w' := by
  have c1 := h.c1
  have hat := Lib.hid (refat_any id h hL hm)
  obtain ⟨hk, he⟩ := posL_of hL hi
  rcases h.form with ⟨rfl, rfl⟩ | ⟨g, cap, rfl, hnc, hcm, hgY, hgl, hcell⟩
  · simp at hk
  · have d0 := hcell _ hk
    rw [he] at d0
    generalize posL L id = k at hk hat d0
    obtain ⟨d0, d1⟩ := d0
    have k0 : (0 : Int) ≤ k := by omega
    have k1 : (k : Int) < L.length := by omega
    have k2 : ((k : Int) == (L.length : Int)) = false := by simp; omega
    clear h hL hi hcell
    go_enter Try.func16, Try.ntmps16
    go_wp2_with (go_at_call 30; refine hat.out.mono ?_; rintro e w' ⟨rfl, rfl⟩)
    refine bodyPost_ret (v := .tuple #[.int .u64 s, .bool true]) (by simp [results, Try.results16, go_sem]) rfl ⟨rfl, rfl⟩
theorem refget_no {id : Int} (h : RefAt w B Y d L v) (hL : Nums L) (hm : L.length < 50000) (hi : ¬ ∃ s, (id, s) ∈ L) :
    Calls Try.prog 16 #[.pointer (some ⟨Y, 0, none⟩), .int .i64 id] w fun e w' => e = .returned (.tuple #[.int .u64 0, .bool false]) ∧ w = w' := by
  have c1 := h.c1
  have hat := Lib.hid (refat_any id h hL hm)
  have hle := posL_le L id
  rcases h.form with ⟨rfl, rfl⟩ | ⟨g, cap, rfl, hnc, hcm, hgY, hgl, hcell⟩
  · clear h hL hi hle
    go_enter Try.func16, Try.ntmps16
    go_wp2_with (go_at_call 30; refine hat.out.mono ?_; rintro e w' ⟨rfl, rfl⟩)
    refine bodyPost_ret (v := .tuple #[.int .u64 0, .bool false]) (by simp [results, Try.results16, go_sem]) rfl ⟨rfl, rfl⟩
  · by_cases hk : posL L id < L.length
    · have d0 := (hcell _ hk).1
      have hne := posL_at hk hi
      generalize (L[posL L id]'hk).1 = x at d0 hne
      generalize posL L id = k at hk hat d0
      have k0 : (0 : Int) ≤ k := by omega
      have k1 : (k : Int) < L.length := by omega
      have k2 : ((k : Int) == (L.length : Int)) = false := by simp; omega
      have k3 : (x == id) = false := by simpa using hne
      clear h hL hi hcell
      go_enter Try.func16, Try.ntmps16
      go_wp2_with (go_at_call 30; refine hat.out.mono ?_; rintro e w' ⟨rfl, rfl⟩)
      refine bodyPost_ret (v := .tuple #[.int .u64 0, .bool false]) (by simp [results, Try.results16, go_sem]) rfl ⟨rfl, rfl⟩
    · have hk' : posL L id = L.length := by omega
      rw [hk'] at hat
      clear h hL hi hcell hk hle hk'
      go_enter Try.func16, Try.ntmps16
      go_wp2_with (go_at_call 30; refine hat.out.mono ?_; rintro e w' ⟨rfl, rfl⟩)
      refine bodyPost_ret (v := .tuple #[.int .u64 0, .bool false]) (by simp [results, Try.results16, go_sem]) rfl ⟨rfl, rfl⟩
end Go.Proofs.Ytgldlfgidmgmfaa
