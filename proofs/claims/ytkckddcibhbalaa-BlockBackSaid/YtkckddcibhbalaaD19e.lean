/- The walks of the reference's block and read of layer 19. -/
import Derived.Test.YtkckddcibhbalaaD18d
import Derived.Test.YtkckddcibhbalaaD19a
namespace Go.Proofs.Ytkckddcibhbalaa
open Go.RowKit

/-- A text with bytes 0 behind it, up to 60. -/
def fill60 (l : List UInt8) : List UInt8 := l ++ List.replicate (60 - l.length) 0
theorem fill_next (l : List UInt8) (h : l.length < 60) : fill60 (l ++ [0]) = fill60 l := by
  unfold fill60
  rw [List.length_append, List.length_singleton, show 60 - l.length = (60 - (l.length + 1)) + 1 by omega, List.replicate_succ, List.append_assoc]
  rfl
theorem fill_all (l : List UInt8) (h : l.length = 60) : fill60 l = l := by unfold fill60; rw [h]; simp
set_option maxHeartbeats 1000000 in
theorem refblock19_any (k n : Nat) (s : List UInt8) (w : World) (hk : k ≤ 255) (hn : n ≤ 4294967295) (hs : s.length ≤ 54) :
    Calls Try.prog 23 #[.int .i64 k, .string ⟨s.toArray⟩, .int .i64 n] w fun e w' => e = .returned (.string ⟨(blockB k s n).toArray⟩) ∧ Below w.heap.size w w' := by
  have hc2 := fun (W : World) (a b : Int) => two_after (W := W) (W1 := (W.alloc (.cells #[.int .u8 a, .int .u8 b] 5)).drew) (a := a) (b := b) (Drawn.below ⟨1, rfl⟩ _)
  have hc3 := fun (W : World) (a b : Int) => two_after (W := W) (W1 := W.alloc (.cells #[.int .u8 a, .int .u8 b] 5)) (a := a) (b := b) (Below.refl _ _)
  have hw32 : IntKind.u32.wrap (n : Int) = n := by rw [IntKind.wrap_u32]; omega
  have hw8 : IntKind.u8.wrap (s.length : Int) = s.length := by rw [IntKind.wrap_u8]; omega
  have hwk : IntKind.u8.wrap (k : Int) = k := by rw [IntKind.wrap_u8]; omega
  have hf := fun W => reffour18_any n W (by omega) (by omega)
  have hsl := (fun W => refseal18_any (u8 k :: u8 s.length :: (fourB n ++ s ++ List.replicate (54 - s.length) 0)) W (by simp [fourB_len]; omega))
  rw [block_eq2]
  have hl := fourB_len (n : Int)
  generalize fourB (n : Int) = f at *
  have hT : Hid (fill60 (u8 k :: u8 s.length :: (f ++ s)) = u8 k :: u8 s.length :: (f ++ s ++ List.replicate (54 - s.length) 0)) := by
    refine Lib.hid ?_
    unfold fill60
    rw [show 60 - (u8 k :: u8 s.length :: (f ++ s)).length = 54 - s.length by simp [hl]; omega]
    simp
  generalize u8 k :: u8 s.length :: (f ++ s ++ List.replicate (54 - s.length) 0) = T at *
  replace hsl := Lib.hid hsl
  replace hf := Lib.hid hf
  go_enter Try.func23, Try.ntmps23
  go_wp2_with fail
  go_region_with (go_at_call 31; ((with_reducible refine (hf.out _).mono ?_); rintro e w1 ⟨rfl, hb⟩; (first | (have hcv := two_after2 hb) | skip); replace hb := Lib.hid hb))
  all_goals
    (first | have hbb := Lib.hid (((Below.refl w.heap.size w).alloc (Nat.le_refl _) _).andThen ((Drawn.below ⟨1, rfl⟩ _).andThen hb.out)) | have hbb := Lib.hid (((Drawn.below (w := w) ⟨1, rfl⟩ _).andThen hb.out).andThen ((Below.refl _ w1).alloc (Nat.le_refl _) (.cells #[.int .u8 k, .int .u8 s.length] 5))))
    clear hb
    go_wp2_with fail
    simp only [List.getElem_toArray, List.getElem_cons_succ, List.getElem_cons_zero, Act.put, go_sem, List.setIfInBounds_toArray, List.set_cons_zero, List.set_cons_succ]
    go_loop [7] (fun h => ∃ l : List UInt8, h = .string ⟨l.toArray⟩ ∧ l.length ≤ 60 ∧ Hid (fill60 l = T)) (fun h => 60 - strLen h)
    case atStart => exact ⟨_, rfl, by simp; omega, hT⟩
    case round =>
      obtain ⟨l, rfl, hl60, hlT⟩ := hrel
      by_cases hlt : l.length < 60
      · go_wp2_with fail
        exact ⟨⟨l ++ [0], rfl, by simp; omega, by rw [fill_next l hlt]; exact hlT⟩, by rw [strLen_mk, strLen_mk, List.length_append, List.length_singleton]; omega⟩
      · have he := fill_all l (by omega)
        rw [hlT.out] at he
        subst he
        have hl0 : ¬ ((T.length : Int) < 60) := by omega
        clear hlT hT
        go_wp2_with fail
        refine (hsl.out _).mono ?_; rintro e w2 ⟨rfl, hb2⟩
        replace hbb := Lib.hid (hbb.out.andThen hb2)
        clear hb2
        go_wp2_with fail
        go_ret
        exact ⟨rfl, hbb.out⟩
end Go.Proofs.Ytkckddcibhbalaa
