/- The walk of BlockBursts. -/
import Derived.Test.YtkckddcibhbalaaD19m
namespace Go.Proofs.Ytkckddcibhbalaa
open Go.RowKit

theorem cntL_le (l : List (List UInt8)) (w : Nat) : cntL (l.take w) ≤ cntL l := by
  induction l generalizing w with
  | nil => simp [cntL]
  | cons x r ih =>
    cases w with
    | zero => simp [cntL]
    | succ w =>
      have := ih w
      rw [List.take_succ_cons, cntL_cons, cntL_cons]
      omega
theorem bt_same {t s : List UInt8} {m : Nat} (h : t[m]? = s[m]?) : bt t m = bt s m := by
  unfold bt
  rw [List.getD_eq_getElem?_getD, List.getD_eq_getElem?_getD, h]
set_option maxHeartbeats 2000000 in
theorem bursts19_law (xs : List (List UInt8)) (v : Value) (p y : Int) (w : World) (hs : StrSl w v xs) (hlow : SlBelow w.heap.size v) (hn : xs.length ≤ maxLen) (hl : ∀ x ∈ xs, x.length ≤ maxLen) (hp : (Lit.int .u16 p).wf = true) (hy : (Lit.int .u32 y).wf = true) :
    Calls Try.prog 6 #[v, .int .u16 p, .int .u32 y] w (LawPost w) := by
  obtain ⟨p0, p1⟩ : 0 ≤ p ∧ p ≤ 65535 := by simp [Lit.wf, IntKind.min, IntKind.max, IntKind.bits, IntKind.signed] at hp; omega
  obtain ⟨y0, y1⟩ : 0 ≤ y ∧ y ≤ 4294967295 := by simp [Lit.wf, IntKind.min, IntKind.max, IntKind.bits, IntKind.signed] at hy; omega
  clear hp hy
  have h1 := Lib.hid (small19_any xs v w hs hn hl)
  clear hn hl
  by_cases hsm : small19 xs = false
  · rw [hsm] at h1
    obtain ⟨a, c, rfl⟩ := hs.form
    clear hs hlow
    go_enter Try.func6, Try.ntmps6
    go_wp2_with fail
    refine h1.out.mono ?_; rintro e w1 ⟨rfl, rfl⟩
    go_wp2_with fail
    refine (awake19_any w).mono ?_; rintro e w1 ⟨rfl, hb⟩
    go_wp2_with fail
    go_ret
    exact ⟨rfl, hb⟩
  replace hsm : small19 xs = true := by simpa using hsm
  rw [hsm] at h1
  obtain ⟨hsum, hn⟩ := small_is hsm
  have hcb := cntL_small xs
  have hlen := packed_len xs
  have hpb : (packedB xs).length ≤ 5000 := by omega
  have hmx : ∀ x ∈ xs, x.length ≤ 262144 := fun x hx => by have := small_each hsum x hx; omega
  replace h2 := Lib.hid (packed19_any xs v w hs hlow hsm)
  clear hsm
  by_cases hx0 : xs = []
  · obtain ⟨a, c, rfl⟩ := hs.nil hx0
    subst hx0
    have e0 : packedB [] = [] := rfl
    rw [e0] at h2
    clear hsum hcb hlen hpb hmx e0 hs hlow hn
    go_enter Try.func6, Try.ntmps6
    go_wp2_with fail
    refine h1.out.mono ?_; rintro e w1 ⟨rfl, rfl⟩
    go_wp2_with fail
    refine h2.out.mono ?_; rintro e w1 ⟨rfl, hb⟩
    replace hb := Lib.hid hb
    go_wp2_with fail
    refine (awake19_any w1).mono ?_; rintro e w2 ⟨rfl, hb2⟩
    replace hb := Lib.hid (hb.out.andThen hb2)
    clear hb2
    go_wp2_with fail
    go_ret
    exact ⟨rfl, hb.out⟩
  · obtain ⟨b1, o1, c1, rfl, hce⟩ := hs.some hx0
    have hcap : xs.length ≤ c1 := (hs.cap).2 hx0
    have hcp : 0 < cntL xs := by
      cases xs with
      | nil => exact absurd rfl hx0
      | cons x r =>
        have := (count19_bd x.length).1
        rw [cntL_cons]
        omega
    obtain ⟨K, hK⟩ : ∃ K : Nat, p % (8 * (64 * (cntL xs : Int))) = (K : Int) := ⟨(p % (8 * (64 * (cntL xs : Int)))).toNat, by have := Int.emod_nonneg p (show (8 * (64 * (cntL xs : Int))) ≠ 0 by omega); omega⟩
    have hKl : K ≤ 40000 := by have := Int.emod_lt_of_pos p (show (0 : Int) < 8 * (64 * (cntL xs : Int)) by omega); omega
    obtain ⟨V, hV, hsc, hfst⟩ := scan_burst xs K y.toNat hmx (by omega)
    have hbu : burstB (packedB xs) (K : Int) y = burstTo (packedB xs) K y.toNat 32 := by
      unfold burstB burst18
      rw [if_neg (by omega), Int.toNat_natCast]
    have h3 := fun W => refburst18_any (packedB xs) (K : Int) y W (by omega) y0 y1 (by omega)
    rw [hbu] at h3
    have htl := burstTo_len (packedB xs) K y.toNat 32
    have h4 := fun W => scan19_any (burstTo (packedB xs) K y.toNat 32) W (by rw [htl]; omega)
    have hfl := cntL_le xs V
    obtain ⟨B, hB⟩ : ∃ B, xs.take V = B := ⟨_, rfl⟩
    obtain ⟨M, hM⟩ : ∃ M, cntL B = M := ⟨_, rfl⟩
    rw [hB, hM] at hsc hfst hfl
    have hBl : B.length = V := by rw [← hB, List.length_take]; omega
    generalize burstTo (packedB xs) K y.toNat 32 = T at *
    generalize packedB xs = S at *
    have hSne : (S == []) = false := by cases S with | nil => simp at hlen; omega | cons x r => rfl
    replace h3 := Lib.hid h3
    replace h4 := Lib.hid h4
    replace hsc := Lib.hid hsc
    replace hfst := Lib.hid hfst
    replace hlow := Lib.hid hlow
    replace hs := Lib.hid hs
    replace hx0 := Lib.hid hx0
    replace hB := Lib.hid hB
    replace hM := Lib.hid hM
    clear hsum hmx hcb hbu hce
    go_enter Try.func6, Try.ntmps6
    go_wp2_with fail
    refine h1.out.mono ?_; rintro e w1 ⟨rfl, rfl⟩
    go_wp2_with fail
    refine h2.out.mono ?_; rintro e w1 ⟨rfl, hb⟩
    replace hb := Lib.hid hb
    go_wp2_with fail
    refine (h3.out w1).mono ?_; rintro e w2 ⟨rfl, hb2⟩
    replace hb := Lib.hid (hb.out.andThen hb2)
    clear hb2
    go_wp2_with fail
    refine (h4.out w2).mono ?_; rintro e w3 ⟨v2, rfl, ho2, hb2⟩
    rw [hsc.out] at ho2 ⊢
    obtain ⟨a2, c2, rfl⟩ := own_form ho2
    rw [hBl] at ho2
    replace ho2 := Lib.hid ho2
    replace hb := Lib.hid (hb.out.andThen hb2)
    clear hb2
    have hsx := Lib.hid (hs.out.below hb.out hlow.out)
    go_wp2_with fail
    have hsb := strSl_sub hsx.out hx0.out 0 V c1 (by omega) hV (by omega)
    rw [List.drop_zero, Nat.sub_zero, Nat.add_zero, hB.out] at hsb
    have hm64 : (64 * (M : Int)) % 64 = 0 := by omega
    (with_reducible refine (same19_any B _ _ w3 ho2.out.sl hsb ?_).mono ?_)
    · omega
    rintro e w4 ⟨rfl, hd⟩
    replace hb := Lib.hid (hb.out.andThen (hd.below _))
    clear hd hsx hsb
    go_wp2_with fail
    clear h1 h2 h3 h4 hK
    go_loopw [12, 13] (fun fv iv wr => ∃ i F : Nat, fv = .int .i64 F ∧ iv = .int .i64 i ∧ i ≤ 64 * cntL xs ∧ F ≤ 64 * cntL xs ∧ Hid (T = S ∨ 64 * M ≤ F) ∧ Drawn w4 wr) (fun _ iv _ => (intOf iv).toNat)
    case atStart => exact ⟨64 * cntL xs, 64 * cntL xs, by go_num, by go_num, by omega, by omega, Lib.hid (Or.inr (by omega)), Drawn.refl _⟩
    case round =>
      obtain ⟨i, F, rfl, rfl, hi, hF, hFi, n0, rfl⟩ := hrel
      by_cases hi0 : 0 < i
      · obtain ⟨j, rfl⟩ : ∃ j, i = j + 1 := ⟨i - 1, by omega⟩
        have hjS : j < S.length := by omega
        have hjT : j < T.length := by omega
        have hij : ((j + 1 : Nat) : Int) - 1 = j := by omega
        have hi1 : (0 : Int) < ((j + 1 : Nat) : Int) := by omega
        have hbs : bt S j ≠ bt T j → T = S ∨ 64 * M ≤ j := by
          intro hne
          rcases hfst.out with h | h
          · exact Or.inl h
          · by_cases hjm : j < 64 * M
            · exact absurd (bt_same (h j hjm)).symm hne
            · exact Or.inr (by omega)
        by_cases hne : bt S j = bt T j
        · clear hbs
          go_wp2_with fail
          go_quiet (fail)
          go_wp2_with fail
          exact ⟨⟨j, F, rfl, rfl, by omega, hF, hFi, ⟨_, rfl⟩⟩, by simp [intOf]⟩
        · replace hbs := Lib.hid (hbs hne)
          go_wp2_with fail
          go_quiet (fail)
          go_wp2_with fail
          exact ⟨⟨j, j, rfl, rfl, by omega, by omega, hbs, ⟨_, rfl⟩⟩, by simp [intOf]⟩
      · obtain rfl : i = 0 := by omega
        rcases hFi.out with hTS | hMF
        · subst hTS
          go_wp2_with fail
          refine (awake19_any _).mono ?_; rintro e w5 ⟨rfl, hb2⟩
          replace hb := Lib.hid (hb.out.andThen ((Drawn.below ⟨n0, rfl⟩ _).andThen hb2))
          clear hb2
          go_wp2_with fail
          go_ret
          exact ⟨rfl, hb.out⟩
        · have hMF2 : 64 * (M : Int) ≤ F := by omega
          go_wp2_with fail
          refine (awake19_any _).mono ?_; rintro e w5 ⟨rfl, hb2⟩
          replace hb := Lib.hid (hb.out.andThen ((Drawn.below ⟨n0, rfl⟩ _).andThen hb2))
          clear hb2
          go_wp2_with fail
          all_goals
            go_ret
            exact ⟨rfl, hb.out⟩
end Go.Proofs.Ytkckddcibhbalaa
