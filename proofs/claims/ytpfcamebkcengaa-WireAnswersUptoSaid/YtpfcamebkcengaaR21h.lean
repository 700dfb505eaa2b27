/- Layer 21, the reference: keys, numbers of eight bytes. -/
import Derived.Test.YtpfcamebkcengaaR21d
import Derived.Test.YtpfcamebkcengaaD21y
namespace Go.Proofs.Ytpfcamebkcengaa
open Go.RowKit

theorem text_len_big (s : List UInt8) (h : s.length ≤ 140737488355000) : (text21 s).length ≤ 140737488355010 := by
  unfold text21
  rw [List.length_append]
  have := (int_len_bd (n := (s.length : Int)) (by omega) (by omega)).2
  omega
set_option maxHeartbeats 4000000 in
set_option maxRecDepth 100000 in
theorem rkey_any (k : Ky21) (w : World) (l1 : k.feed.length ≤ 140737488355000) (l2 : k.guid.length ≤ 140737488355000) :
    Calls Try.prog 47 #[kyV k] w (StrW w (key21 k)) := by
  have hb0 := Lib.hid ((Below.refl w.heap.size w).alloc (Nat.le_refl _) (.cells (kyC k).toArray 51))
  have hK := Lib.hid (arrAt_new w 51 (kyC k))
  obtain ⟨f, g⟩ := k
  simp only at l1 l2
  have tf := Lib.hid (fun W => rtext_any f W (by omega))
  have tg := Lib.hid (fun W => rtext_any g W (by omega))
  have mf := text_len_big f l1
  have mg := text_len_big g l2
  unfold kyV key21
  unfold kyC at *
  simp only at *
  obtain ⟨zf, hzf⟩ : ∃ y, text21 f = y := ⟨_, rfl⟩
  rw [hzf] at tf mf ⊢
  obtain ⟨zg, hzg⟩ : ∃ y, text21 g = y := ⟨_, rfl⟩
  rw [hzg] at tg mg ⊢
  clear hzf hzg
  go_enter Try.func47, Try.ntmps47
  go_upto_region 1 with fail
  refine hide_world (K := fun a w' => Code.wp _ _ _ a w') (R := fun W => ArrAt W w.heap.size 51 [.string ⟨f.toArray⟩, .string ⟨g.toArray⟩] ∧ Below w.heap.size w W) ⟨hK.out, hb0.out⟩ ?_
  intro W2 hW2
  clear hK hb0
  obtain ⟨hK, hb⟩ := hW2.out
  have hcell := fun i => hK.cell i
  have c0 := hcell 0
  have c1 := hcell 1
  simp only [List.getElem?_cons_zero, List.getElem?_cons_succ] at c0 c1
  have hkp := Lib.hid (fun V (hb : Below W2.heap.size W2 V) i => (hK.next hb).cell i)
  replace hb := Lib.hid hb
  clear hcell hK hW2
  have a1 : ¬ 9223372036854775807 < zf.length + zg.length := by omega
  go_region_held3 (fun W => W.cell? ⟨w.heap.size, 0, none⟩ = some (.string ⟨f.toArray⟩) ∧ W.cell? ⟨w.heap.size, 1, none⟩ = some (.string ⟨g.toArray⟩)) (first | exact ⟨hkp.out _ b2.out 0, hkp.out _ b2.out 1⟩ | exact ⟨hkp.out _ b1.out 0, hkp.out _ b1.out 1⟩ | exact ⟨hkp.out _ ((drawn_drew _).below _) 0, hkp.out _ ((drawn_drew _).below _) 1⟩) (first
    | (go_at_call 19; ((with_reducible refine (tf.out _).mono ?_); rintro e w3 ⟨rfl, bb⟩; have b1 := Lib.hid (((drawn_drew W2).below W2.heap.size).andThen bb); clear bb))
    | (go_at_call 19; ((with_reducible refine (tg.out _).mono ?_); rintro e w4 ⟨rfl, bb⟩; have b2 := Lib.hid (b1.out.andThen bb); clear bb)))
  all_goals go_wp2_with fail
  all_goals go_ret
  all_goals exact ⟨rfl, hb.out.trans (b2.out.mono hb.out.size)⟩

set_option maxHeartbeats 4000000 in
set_option maxRecDepth 100000 in
theorem reight_any (s : Nat) (w : World) (hs : s < 18446744073709551616) :
    Calls Try.prog 68 #[.int .u64 s] w (StrW w (le21 8 s)) := by
  have hc1 := fun (w : World) (a : Int) => run_str_new (P := Try.prog) w 68 9 5 5 Try.underlying68 Try.underlying5 Try.underlying9 [a] 1 1 rfl
  simp only [List.map_cons, List.map_nil] at hc1
  go_enter Try.func68, Try.ntmps68
  go_wp2_with fail
  go_loopw [3, 4] (fun a p wr => ∃ j : Nat, p = .int .i64 (j : Int) ∧ j ≤ 8 ∧ (∃ q : List UInt8, a = .string ⟨q.toArray⟩ ∧ q.length = j ∧ Hid (q = (le21 8 s).take j)) ∧ Hid (Below w.heap.size w wr)) (fun _ p _ => 8 - (intOf p).toNat)
  case atStart => exact ⟨0, rfl, by omega, ⟨[], rfl, rfl, Lib.hid (by rw [List.take_zero])⟩, Lib.hid (Below.refl _ _)⟩
  case round =>
    obtain ⟨j, rfl, hj, ⟨q, rfl, hql, hq⟩, hb⟩ := hrel
    by_cases hlt : j < 8
    · obtain ⟨X, hX⟩ : ∃ X : Nat, s / 2 ^ (8 * j) = X := ⟨_, rfl⟩
      obtain ⟨V, hV⟩ : ∃ V : Nat, X % 256 = V := ⟨_, rfl⟩
      obtain ⟨z, hz⟩ : ∃ z : Int, ((8 * j : Nat) : Int) = z := ⟨_, rfl⟩
      have hw8 : 8 * (j : Int) = z := by omega
      have hsh : Op.shift .shr .u64 (s : Int) .u64 z = pure (.int .u64 (X : Int)) := by rw [← hX]; exact shr_u64 s (8 * j) _ z hz (by omega)
      have hsd : (s : Int) / 2 ^ z.toNat = (X : Int) := by rw [← hX, ← hz, Int.toNat_natCast]; simp
      have hX1 : X ≤ 18446744073709551615 := by rw [← hX]; have := Nat.div_le_self s (2 ^ (8 * j)); omega
      have hV1 : V < 256 := by omega
      have hV2 : IntKind.u8.wrap (X : Int) = (V : Int) := by rw [IntKind.wrap_u8]; omega
      have hV3 : (X : Int) % 256 = (V : Int) := by omega
      have hv := Lib.hid (show q ++ [Go.Proofs.Ytpfcamebkcengaa.u8 (V : Int)] = (le21 8 s).take (j + 1) by rw [le_take s 8 j hlt, hX, hV, hq.out, u8_nat21])
      have hb2 := Lib.hid (hb.out.alloc hb.out.size (.cells #[.int .u8 (V : Int)] 5))
      obtain ⟨y, hy⟩ : ∃ y : Int, (V : Int) = y := ⟨_, rfl⟩
      rw [hy] at hV2 hV3 hv hb2
      clear hX hV hz hy
      go_wp2_with fail
      exact ⟨⟨j + 1, rfl, by omega, ⟨q ++ [Go.Proofs.Ytpfcamebkcengaa.u8 y], rfl, by rw [List.length_append]; simp [hql], hv⟩, hb2⟩, by simp [intOf]; omega⟩
    · have : j = 8 := by omega
      subst this
      have hv := Lib.hid (show (le21 8 s).take 8 = le21 8 s from List.take_of_length_le (by rw [le_len]; exact Nat.le_refl _))
      go_wp2_with fail
      go_ret
      exact ⟨by rw [hq.out, hv.out]; rfl, hb.out⟩
end Go.Proofs.Ytpfcamebkcengaa
