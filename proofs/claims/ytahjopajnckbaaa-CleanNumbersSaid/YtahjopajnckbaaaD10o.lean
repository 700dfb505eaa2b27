/- Layer 10's laws: CleanNumbers. -/
import Derived.Laws.Strings2
import Derived.Test.YtahjopajnckbaaaD10l
namespace Go.Proofs.Ytahjopajnckbaaa
open Go.RowKit

/-- What the loops that write a number keep: n is to be written, a is. -/
structure DgAt (b r n : Int) (a : List UInt8) : Prop where
  n0 : 0 ≤ n
  nr : n ≤ 1114111
  eq : numC b n a = r
  first : a ≠ [] → 48 ≤ bt a 0 ∧ bt a 0 ≠ 120
theorem DgAt.start (b r : Int) (h0 : 0 ≤ r) (h1 : r ≤ 1114111) : DgAt b r r [] := ⟨h0, h1, rfl, fun h => absurd rfl h⟩
theorem DgAt.dec {r n : Int} {a : List UInt8} (h : DgAt 10 r n a) : DgAt 10 r (n / 10) (decC (n % 10) :: a) := by
  have hn := h.n0
  have hr := h.nr
  have hd := digN_dec (d := n % 10) (by omega) (by omega)
  refine ⟨by omega, by omega, ?_, fun _ => ?_⟩
  · rw [← h.eq]
    exact numC_more 10 n (n % 10) _ a (by decide) hn hr rfl hd.1 (by omega)
  · rw [bt_zero]
    have := hd.2
    omega
theorem hexC_ne {d : Int} (h0 : 0 ≤ d) (h1 : d < 16) : ((hexC d).toNat : Int) ≠ 120 := by
  have : ∀ d : Fin 16, ((hexC d.1).toNat : Int) ≠ 120 := by decide
  have := this ⟨d.toNat, by omega⟩
  rw [show ((d.toNat : Nat) : Int) = d from by omega] at this
  exact this
theorem DgAt.hex {r n : Int} {a : List UInt8} (h : DgAt 16 r n a) : DgAt 16 r (n / 16) (hexC (n % 16) :: a) := by
  have hn := h.n0
  have hr := h.nr
  have hd := digN_hex (d := n % 16) (by omega) (by omega)
  refine ⟨by omega, by omega, ?_, fun _ => ⟨hd.2, hexC_ne (by omega) (by omega)⟩⟩
  rw [← h.eq]
  exact numC_more 16 n (n % 16) _ a (by decide) hn hr rfl hd.1 (by omega)
/-- How long what is written is, by what is left. -/
def Len10 (n : Int) (k : Nat) : Prop := k = 0 ∨ k = 1 ∧ n ≤ 111411 ∨ k = 2 ∧ n ≤ 11141 ∨ k = 3 ∧ n ≤ 1114 ∨ k = 4 ∧ n ≤ 111 ∨ k = 5 ∧ n ≤ 11 ∨ k = 6 ∧ n ≤ 1 ∨ k = 7 ∧ n ≤ 0
theorem Len10.next {n : Int} {k : Nat} (h : Len10 n k) (h0 : 0 ≤ n) (h1 : n ≤ 1114111) (hp : 0 < n ∨ k = 0) : Len10 (n / 10) (k + 1) := by unfold Len10 at *; omega
theorem Len10.le {n : Int} {k : Nat} (h : Len10 n k) : k ≤ 7 := by unfold Len10 at h; omega
def Len16 (n : Int) (k : Nat) : Prop := k = 0 ∨ k = 1 ∧ n ≤ 69631 ∨ k = 2 ∧ n ≤ 4351 ∨ k = 3 ∧ n ≤ 271 ∨ k = 4 ∧ n ≤ 16 ∨ k = 5 ∧ n ≤ 1 ∨ k = 6 ∧ n ≤ 0
theorem Len16.next {n : Int} {k : Nat} (h : Len16 n k) (h0 : 0 ≤ n) (h1 : n ≤ 1114111) (hp : 0 < n ∨ k = 0) : Len16 (n / 16) (k + 1) := by unfold Len16 at *; omega
theorem Len16.le {n : Int} {k : Nat} (h : Len16 n k) : k ≤ 6 := by unfold Len16 at h; omega

def hexL : List UInt8 := [48, 49, 50, 51, 52, 53, 54, 55, 56, 57, 97, 98, 99, 100, 101, 102]
theorem hex_cut : ∀ m : Fin 16, (ByteArray.mk hexL.toArray).extract m.1 (m.1 + 1) = ⟨[hexC m.1].toArray⟩ := by decide +kernel
theorem hex_slice (W : World) (d : Int) (h0 : 0 ≤ d) (h1 : d < 16) :
    (Instr.slice 9 (.string ⟨#[48, 49, 50, 51, 52, 53, 54, 55, 56, 57, 97, 98, 99, 100, 101, 102]⟩) (some (.int .i64 d)) (some (.int .i64 (d + 1))) none).run Try.prog W = .ok (.string ⟨[hexC d].toArray⟩) W := by
  refine (run_slice_string W 9 (ByteArray.mk hexL.toArray) .i64 .i64 d (d + 1) Try.underlying9 (by omega) (by omega) (by show (d + 1) ≤ ((16 : Nat) : Int); omega)).trans ?_
  have := hex_cut ⟨d.toNat, by omega⟩
  rw [show (d + 1).toNat = d.toNat + 1 from by omega, this]
  rw [show ((d.toNat : Nat) : Int) = d from by omega]

/-- What a rune's number stands for. -/
def runeO (r : Int) : Option (List UInt8) := if charB r = true then some (enc r) else none
theorem named_dec {r : Int} {a : List UInt8} (h : DgAt 10 r 0 a) (ha : a ≠ []) : namedS (35 :: a) = runeO r := by
  rw [named_number _ rfl, numI_dec a (h.first ha).2, h.eq]; rfl
theorem named_hex {r : Int} {a : List UInt8} (h : DgAt 16 r 0 a) : namedS (35 :: 120 :: a) = runeO r := by
  rw [named_number _ rfl, numI_hex, h.eq]; rfl

theorem less_one {n m : Int} {c : UInt8} {a : List UInt8} (h : m.toNat < n.toNat ∨ a = [] ∧ m.toNat = n.toNat) :
    ((intOf (.int .i64 m)).toNat + if strLen (.string ⟨(c :: a).toArray⟩) = 0 then 1 else 0) < (intOf (.int .i64 n)).toNat + if strLen (.string ⟨a.toArray⟩) = 0 then 1 else 0 := by
  rw [strLen_mk, strLen_mk, if_neg (by simp)]
  show m.toNat + 0 < n.toNat + _
  rcases h with h | ⟨rfl, h⟩
  · split <;> omega
  · rw [if_pos (by simp)]; omega

set_option maxRecDepth 100000 in
set_option maxHeartbeats 2000000 in
theorem numbers10_law (r : Int) (w : World) : Calls Try.prog 8 #[.int .i32 r] w (LawPost w) := by
  by_cases hr : 0 ≤ r ∧ r ≤ 1114111
  case neg =>
    by_cases h0 : r < 0
    all_goals
      have h1 : r < 0 ∨ 1114111 < r := by omega
      go_enter Try.func8, Try.ntmps8
      clear hr
      go_wp2_with fail
      refine (awake10_any _).mono ?_; rintro e w0 ⟨rfl, h0⟩
      replace h0 := Lib.hid h0
      go_wp2_with fail
      go_ret
      exact ⟨rfl, h0.out⟩
  obtain ⟨hr0, hr1⟩ := hr
  have hc1 := fun (w : World) (a : Int) => run_str_new (P := Try.prog) w 29 9 5 5 Try.underlying29 Try.underlying5 Try.underlying9 [a] 1 1 rfl
  simp only [List.map_cons, List.map_nil] at hc1
  go_enter Try.func8, Try.ntmps8
  go_wp2_with fail
  go_loopw [3, 5] (fun s i wr => ∃ (n : Int) (a : List UInt8), i = .int .i64 n ∧ s = .string ⟨a.toArray⟩ ∧ 0 ≤ n ∧ n ≤ 1114111 ∧ a.length ≤ 7 ∧ Hid (DgAt 10 r n a) ∧ Hid (Len10 n a.length) ∧ Below w.heap.size w wr) (fun s i _ => (intOf i).toNat + (if strLen s = 0 then 1 else 0))
  case atStart => exact ⟨r, [], rfl, rfl, hr0, hr1, by simp, DgAt.start 10 r hr0 hr1, Or.inl rfl, Below.refl _ _⟩
  case round =>
    obtain ⟨n, a, rfl, rfl, hn0, hn1, hal, hdg, hlen, hbl⟩ := hrel
    replace hbl := Lib.hid hbl
    have hm0 : 0 ≤ n % 10 := by omega
    have hm1 : n % 10 < 10 := by omega
    by_cases hp : 0 < n
    · have hst : Hid (DgAt 10 r (n / 10) (decC (n % 10) :: a)) := hdg.out.dec
      have hln : Hid (Len10 (n / 10) (a.length + 1)) := hlen.out.next hn0 hn1 (Or.inl hp)
      have hl7 := hln.out.le
      clear hdg hlen
      go_wp2_with fail
      exact ⟨⟨n / 10, decC (n % 10) :: a, rfl, rfl, by omega, by omega, hl7, hst.out, hln.out, hbl.out.alloc hbl.out.size _⟩, less_one (by omega)⟩
    obtain rfl : n = 0 := by omega
    by_cases ha : a = []
    · subst ha
      have hst : Hid (DgAt 10 r 0 [decC 0]) := hdg.out.dec
      have hln : Hid (Len10 0 1) := hlen.out.next (by omega) (by omega) (Or.inr rfl)
      clear hdg hlen
      go_wp2_with fail
      exact ⟨⟨0, [decC 0], rfl, rfl, by omega, by omega, by simp, hst.out, hln.out, hbl.out.alloc hbl.out.size _⟩, less_one (Or.inr ⟨rfl, rfl⟩)⟩
    have hna := named_dec hdg.out ha
    have hea : a.isEmpty = false := by cases a <;> simp_all
    have hca := fun W : World => named_any (35 :: a) W (by rw [List.length_cons]; omega)
    rw [hna] at hca
    clear hdg hlen hna hm0 hm1 hn0 hn1 hp
    replace ha := Lib.hid ha
    replace hca := Lib.hid hca
    obtain ⟨wo, hwo⟩ : ∃ wo : World, wr = wo := ⟨_, rfl⟩
    rw [hwo] at hbl ⊢
    clear hwo
    go_wp2_with fail
    go_loopw [4, 6] (fun s i wr => ∃ (n : Int) (b : List UInt8), i = .int .i64 n ∧ s = .string ⟨b.toArray⟩ ∧ 0 ≤ n ∧ n ≤ 1114111 ∧ b.length ≤ 7 ∧ Hid (DgAt 16 r n b) ∧ Hid (Len16 n b.length) ∧ wr = wo) (fun s i _ => (intOf i).toNat + (if strLen s = 0 then 1 else 0))
    case atStart => exact ⟨r, [], rfl, rfl, hr0, hr1, by simp, DgAt.start 16 r hr0 hr1, Or.inl rfl, rfl⟩
    case round =>
      obtain ⟨n, b, rfl, rfl, hn0, hn1, hbn, hdg, hlen, rfl⟩ := hrel
      have hm0 : 0 ≤ n % 16 := by omega
      have hm1 : n % 16 < 16 := by omega
      have hsl := fun W : World => hex_slice W (n % 16) hm0 hm1
      by_cases hp : 0 < n
      · have hst : Hid (DgAt 16 r (n / 16) (hexC (n % 16) :: b)) := hdg.out.hex
        have hln : Hid (Len16 (n / 16) (b.length + 1)) := hlen.out.next hn0 hn1 (Or.inl hp)
        have hl7 := hln.out.le
        clear hdg hlen
        go_wp2_with fail
        exact ⟨⟨n / 16, hexC (n % 16) :: b, rfl, by simp, by omega, by omega, by simp; omega, hst.out, hln.out, trivial⟩, less_one (by omega)⟩
      obtain rfl : n = 0 := by omega
      by_cases hb : b = []
      · subst hb
        have hst : Hid (DgAt 16 r 0 [hexC 0]) := hdg.out.hex
        have hln : Hid (Len16 0 1) := hlen.out.next (by omega) (by omega) (Or.inr rfl)
        have hsl := fun W : World => hex_slice W 0 (by omega) (by omega)
        clear hdg hlen
        go_wp2_with fail
        exact ⟨⟨0, [hexC 0], rfl, by first | rfl | simp, by omega, by omega, by simp, hst.out, hln.out, trivial⟩, less_one (Or.inr ⟨rfl, rfl⟩)⟩
      have hnb := named_hex hdg.out
      have heb : b.isEmpty = false := by cases b <;> simp_all
      have hcb := fun W : World => named_any (35 :: 120 :: b) W (by rw [List.length_cons, List.length_cons]; omega)
      rw [hnb] at hcb
      unfold runeO at hca hcb
      clear hdg hlen hnb hm0 hm1 hn0 hn1 hp hsl
      replace hb := Lib.hid hb
      cases hch : charB r
      · rw [hch, if_neg (by decide)] at hca hcb
        replace hcb := Lib.hid hcb
        go_wp2_with fail
        refine (hca.out _).mono ?_; rintro e w1 ⟨t1, rfl, ht1, hb1⟩
        clear ht1
        have k1 := Lib.hid (hbl.out.andThen hb1)
        clear hb1
        go_wp2_with fail
        refine (hcb.out _).mono ?_; rintro e w2 ⟨t2, rfl, ht2, hb2⟩
        clear ht2
        have k2 := Lib.hid (k1.out.andThen hb2)
        clear k1 hb2
        go_wp2_with fail
        refine (awake10_any _).mono ?_; rintro e w3 ⟨rfl, hb3⟩
        have k3 := Lib.hid (k2.out.andThen hb3)
        clear k2 hb3
        go_wp2_with fail
        refine (char_any r _).mono ?_; rintro e w' ⟨rfl, rfl⟩; rw [hch]
        go_wp2_with fail
        go_ret
        exact ⟨rfl, k3.out⟩
      · rw [hch, if_pos rfl] at hca hcb
        replace hcb := Lib.hid hcb
        go_wp2_with fail
        refine (hca.out _).mono ?_; rintro e w1 ⟨t1, rfl, ht1, hb1⟩
        have q1 := ht1 _ rfl
        subst q1
        clear ht1
        have k1 := Lib.hid (hbl.out.andThen hb1)
        clear hb1
        go_wp2_with fail
        refine (hcb.out _).mono ?_; rintro e w2 ⟨t2, rfl, ht2, hb2⟩
        have q2 := ht2 _ rfl
        subst q2
        clear ht2
        have k2 := Lib.hid (k1.out.andThen hb2)
        clear k1 hb2
        go_wp2_with fail
        refine (awake10_any _).mono ?_; rintro e w3 ⟨rfl, hb3⟩
        have k3 := Lib.hid (k2.out.andThen hb3)
        clear k2 hb3
        go_wp2_with fail
        refine (char_any r _).mono ?_; rintro e w' ⟨rfl, rfl⟩; rw [hch]
        go_wp2_with fail
        refine (refbytes_any r _).mono ?_; rintro e w4 ⟨rfl, hb4⟩
        have k4 := Lib.hid (k3.out.andThen hb4)
        clear k3 hb4
        go_wp2_with fail
        go_ret
        exact ⟨rfl, k4.out⟩
end Go.Proofs.Ytahjopajnckbaaa
