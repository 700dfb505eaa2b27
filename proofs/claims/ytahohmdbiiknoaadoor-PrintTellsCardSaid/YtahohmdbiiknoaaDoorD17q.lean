/- Layer 17: the laws PrintTells and PrintEscape. -/
import Derived.Test.YtahohmdbiiknoaaDoorD17p
import Derived.Test.YtahohmdbiiknoaaDoorD17o
import Derived.Test.YtahohmdbiiknoaaDoorD17u
import Derived.Test.YtahohmdbiiknoaaDoorBR10
namespace Go.Proofs.YtahohmdbiiknoaaDoor
open Go.RowKit

set_option maxHeartbeats 4000000 in
theorem tells17_law (L : List It) (src : Value) (l : List UInt8) (w : World) (hS : ItSl w src L) (hd : ∀ q ∈ L, -9223372036854775808 ≤ q.date ∧ q.date ≤ 9223372036854775807) (hm : l.length ≤ maxLen) (hE : Env13 w) :
    Calls Tryd.prog 3 #[src, .string ⟨l.toArray⟩] w (LawPost w) := by
  unfold maxLen at hm
  obtain ⟨a, c, rfl⟩ := hS.form
  have hg := Lib.hid (great17_any L _ w hS)
  replace hS := Lib.hid hS
  replace hE := Lib.hid hE
  go_enter Tryd.func3, Tryd.ntmps3
  go_wp2_with fail
  refine hg.out.mono ?_
  rintro e w1 ⟨b, rfl, hdr, hb⟩
  have k1 := Lib.hid (hdr.below w.heap.size)
  have hE1 := hE.out.below k1.out
  have hS1 := hS.out.next k1.out
  clear hg hdr
  cases b
  · obtain ⟨h1, h2⟩ := hb rfl
    clear hb
    by_cases h4 : 4000 < l.length
    · have h5 : (4000 : Int) < l.length := by omega
      have ha := Lib.hid (awake17_any w1 hE1)
      replace hE1 := Lib.hid hE1
      replace hS1 := Lib.hid hS1
      go_wp2_with fail
      refine ha.out.mono ?_
      rintro e w2 ⟨rfl, k2⟩
      replace k1 := Lib.hid (k1.out.andThen k2)
      clear k2
      go_wp2_with fail
      go_ret
      exact ⟨rfl, k1.out⟩
    · have h5 : ¬ ((4000 : Int) < l.length) := by omega
      have ha := Lib.hid (awake17_any w1 hE1)
      replace hE1 := Lib.hid hE1
      replace hS1 := Lib.hid hS1
      have hl1 := rssB_len L
      have hl2 := atomB_len L
      have hl3 := escB_len l
      have n1 : (rssB L).length ≤ 100000 := by omega
      have n2 : (atomB L).length ≤ 100000 := by omega
      have n3 : (escB l).length ≤ 100000 := by omega
      have f1 := Lib.hid (fun (W : World) (hS : ItSl W (.slice a L.length c) L) (hE : Env13 W) => rss17_any L _ W hS hE (by omega) (by omega))
      have f2 := Lib.hid (fun (W : World) (hS : ItSl W (.slice a L.length c) L) => refrss17_any L _ W hS hd (by omega) (by omega))
      have f3 := Lib.hid (fun (W : World) (hS : ItSl W (.slice a L.length c) L) (hE : Env13 W) => atom17_any L _ W hS hE (by omega) (by omega))
      have f4 := Lib.hid (fun (W : World) (hS : ItSl W (.slice a L.length c) L) => refatom17_any L _ W hS hd (by omega) (by omega))
      have f5 := Lib.hid (fun (W : World) => escape17_any l W (by omega))
      have f6 := Lib.hid (fun (W : World) => refescape17_any l W (by omega))
      clear hl1 hl2 hl3 h1 h2 hd
      generalize rssB L = R at *
      generalize atomB L = T at *
      generalize escB l = X at *
      have q1 : (R == R) = true := by simp
      have q2 : (T == T) = true := by simp
      have q3 : (X == X) = true := by simp
      go_wp2_with fail
      refine ha.out.mono ?_
      rintro e w2 ⟨rfl, k2⟩
      have hE2 := Lib.hid (hE1.out.below k2)
      have hS2 := Lib.hid (hS1.out.next k2)
      replace k1 := Lib.hid (k1.out.andThen k2)
      clear k2 hE1 hS1
      go_wp2_with fail
      refine (f1.out _ hS2.out hE2.out).mono ?_
      rintro e w3 ⟨rfl, k2⟩
      have hE3 := Lib.hid (hE2.out.below k2)
      have hS3 := Lib.hid (hS2.out.next k2)
      replace k1 := Lib.hid (k1.out.andThen k2)
      clear k2 hE2 hS2
      go_wp2_with fail
      refine (f2.out _ hS3.out).mono ?_
      rintro e w4 ⟨rfl, k2⟩
      have hE4 := Lib.hid (hE3.out.below k2)
      have hS4 := Lib.hid (hS3.out.next k2)
      replace k1 := Lib.hid (k1.out.andThen k2)
      clear k2 hE3 hS3
      go_wp2_with fail
      refine (f3.out _ hS4.out hE4.out).mono ?_
      rintro e w5 ⟨rfl, k2⟩
      have hS5 := Lib.hid (hS4.out.next k2)
      replace k1 := Lib.hid (k1.out.andThen k2)
      clear k2 hE4 hS4
      go_wp2_with fail
      refine (f4.out _ hS5.out).mono ?_
      rintro e w6 ⟨rfl, k2⟩
      replace k1 := Lib.hid (k1.out.andThen k2)
      clear k2 hS5
      go_wp2_with fail
      refine (f5.out _).mono ?_
      rintro e w7 ⟨rfl, k2⟩
      replace k1 := Lib.hid (k1.out.andThen k2)
      clear k2
      go_wp2_with fail
      refine (f6.out _).mono ?_
      rintro e w8 ⟨rfl, rfl⟩
      go_wp2_with fail
      go_ret
      exact ⟨rfl, k1.out⟩
  · have ha := Lib.hid (awake17_any w1 hE1)
    replace hE1 := Lib.hid hE1
    replace hS1 := Lib.hid hS1
    go_wp2_with fail
    refine ha.out.mono ?_
    rintro e w2 ⟨rfl, k2⟩
    replace k1 := Lib.hid (k1.out.andThen k2)
    clear k2
    go_wp2_with fail
    go_ret
    exact ⟨rfl, k1.out⟩

theorem esc_no_bt (l : List UInt8) (k : Nat) (h : k < (escB l).length) : (bt (escB l) k == 60) = false ∧ (bt (escB l) k == 62) = false ∧ (bt (escB l) k == 34) = false := by
  have hm := esc_no l ((escB l).getD k 0) (by simp [List.getD, h])
  have key : ∀ c : UInt8, (escB l).getD k 0 ≠ c → ¬ bt (escB l) k = (c.toNat : Int) := fun c hc e => hc (by unfold bt at e; exact UInt8.toNat_inj.1 (by omega))
  exact ⟨beq_eq_false_iff_ne.2 (key 60 hm.1), beq_eq_false_iff_ne.2 (key 62 hm.2.1), beq_eq_false_iff_ne.2 (key 34 hm.2.2)⟩
set_option maxHeartbeats 4000000 in
theorem escape17_law (l : List UInt8) (w : World) (hm : l.length ≤ maxLen) (hE : Env13 w) :
    Calls Tryd.prog 4 #[.string ⟨l.toArray⟩] w (LawPost w) := by
  unfold maxLen at hm
  by_cases h4 : 4000 < l.length
  · have h5 : (4000 : Int) < l.length := by omega
    have ha := Lib.hid (awake17_any w hE)
    replace hE := Lib.hid hE
    go_enter Tryd.func4, Tryd.ntmps4
    go_wp2_with fail
    refine ha.out.mono ?_
    rintro e w2 ⟨rfl, k2⟩
    replace k2 := Lib.hid k2
    go_wp2_with fail
    go_ret
    exact ⟨rfl, k2.out⟩
  · have h5 : ¬ ((4000 : Int) < l.length) := by omega
    have f5 := Lib.hid (escape17_any l w (by omega))
    have hl3 := escB_len l
    have n3 : (escB l).length ≤ 100000 := by omega
    have hno := Lib.hid (esc_no_bt l)
    have hen := fun W : World => refentities_any (escB l) W (by omega)
    rw [ent_esc] at hen
    replace hen := Lib.hid hen
    have q1 : (l == l) = true := by simp
    generalize escB l = X at *
    replace hE := Lib.hid hE
    go_enter Tryd.func4, Tryd.ntmps4
    go_wp2_with fail
    refine f5.out.mono ?_
    rintro e w1 ⟨rfl, k1⟩
    replace hE := Lib.hid (hE.out.below k1)
    replace k1 := Lib.hid k1
    clear f5
    go_wp2_with fail
    go_loopw [4] (fun i wr => ∃ k : Nat, i = .int .i64 k ∧ k ≤ X.length ∧ wr = w1) (fun i _ => X.length - (intOf i).toNat)
    case atStart => exact ⟨0, rfl, Nat.zero_le _, rfl⟩
    case round =>
      obtain ⟨k, rfl, hk, rfl⟩ := hrel
      by_cases hlt : k < X.length
      · have hlt1 : (k : Int) < X.length := by omega
        obtain ⟨n1, n2, n4⟩ := hno.out k hlt
        go_wp2_with fail
        exact ⟨⟨k + 1, by go_num, by omega, trivial⟩, by simp [intOf]; omega⟩
      · have hlt1 : ¬ ((k : Int) < X.length) := by omega
        have ha := Lib.hid (awake17_any wr hE.out)
        go_wp2_with fail
        refine ha.out.mono ?_
        rintro e w2 ⟨rfl, k2⟩
        replace k1 := Lib.hid (k1.out.andThen k2)
        clear k2 ha
        go_wp2_with fail
        refine (hen.out _).mono ?_
        rintro e w3 ⟨rfl, k2⟩
        go_wp2_with fail
        go_ret
        exact ⟨rfl, k1.out.andThen k2⟩
end Go.Proofs.YtahohmdbiiknoaaDoor
