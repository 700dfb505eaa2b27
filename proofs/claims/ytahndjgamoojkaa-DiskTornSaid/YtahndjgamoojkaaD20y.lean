/- The law DiskTorn of layer 20: what its calls come to. -/
import Derived.Test.YtahndjgamoojkaaBR16
import Derived.Test.YtahndjgamoojkaaBR18
import Derived.Test.YtahndjgamoojkaaBR20
namespace Go.Proofs.Ytahndjgamoojkaa

def oT (t : List UInt8) : Op20 := ⟨1, [97], [], t, 0⟩
def dT0 : Dk20 := ⟨[], [], -1, false⟩
def dT1 (t : List UInt8) : Dk20 := ⟨[], [oT t], -1, false⟩
def dT2 (t : List UInt8) : Dk20 := ⟨[([97], t)], [], -1, false⟩
def dT3 (t m : List UInt8) : Dk20 := ⟨[([97], t)], [oT m], -1, false⟩
theorem name_a : name20 [97] = true := by rfl
theorem may_T0 {t : List UInt8} (h : t.length ≤ 5000) : may20 [] (oT t) = 0 := by
  have e : get20 ([] : List Fl20) [97] = none := rfl
  unfold may20 oT
  simp [name_a, e]
  omega
theorem may_T2 {t m : List UInt8} (h : t.length ≤ 5000) (hm : m.length ≤ 5000) : may20 [([97], t)] (oT m) = 0 := by
  have e : get20 [(([97] : List UInt8), t)] [97] = some t := rfl
  have e2 : data20 [(([97] : List UInt8), t)] [97] = t := rfl
  unfold may20 oT
  simp [name_a, e, e2]
  omega
theorem all_T1 (t : List UInt8) : all20 [] [oT t] = [([97], t)] := rfl
theorem val_T2 {t : List UInt8} (h : t.length ≤ 5000) : vals20 [([97], t)] = true := by
  unfold vals20
  simp [name_a, adj20]
  omega
theorem right_T0 : right20 [] [] = true := rfl
theorem right_T1 {t : List UInt8} (h : t.length ≤ 5000) : right20 [] [oT t] = true := right_more (os := []) right_T0 (may_T0 h) (by decide)
theorem right_T2 {t : List UInt8} (h : t.length ≤ 5000) : right20 [([97], t)] [] = true := by
  have := right_sync (right_T1 h)
  rwa [all_T1] at this
theorem right_T3 {t m : List UInt8} (h : t.length ≤ 5000) (hm : m.length ≤ 5000) : right20 [([97], t)] [oT m] = true := right_more (os := []) (right_T2 h) (may_T2 h hm) (by decide)
theorem do_T0 {t : List UInt8} (h : t.length ≤ 5000) : doD dT0 (oT t) = (dT1 t, 0) := by
  have e : all20 ([] : List Fl20) [] = [] := rfl
  unfold doD dT0 dT1
  simp [right_T0, e, may_T0 h, spentF]
theorem sync_T1 {t : List UInt8} (h : t.length ≤ 5000) : syncD (dT1 t) = (dT2 t, 0) := by
  unfold syncD dT1 dT2
  simp [right_T1 h, all_T1, spentF]
theorem do_T2 {t m : List UInt8} (h : t.length ≤ 5000) (hm : m.length ≤ 5000) : doD (dT2 t) (oT m) = (dT3 t m, 0) := by
  have e : all20 [(([97] : List UInt8), t)] [] = [([97], t)] := rfl
  unfold doD dT2 dT3
  simp [right_T2 h, e, may_T2 h hm, spentF]
/-- What a crash leaves of it: what was safe, and a beginning of the rest, or one with others in a window. -/
theorem fall_T3 {t m : List UInt8} (h : t.length ≤ 5000) (hm : m.length ≤ 5000) (c : Cr20) : ∃ (F : List Fl20) (x : List UInt8), fallD (dT3 t m) c (-1) = (⟨F, [], -1, false⟩, 0) ∧ F.length ≤ 8 ∧ (∀ f ∈ F, f.1.length ≤ 16 ∧ f.2.length ≤ 1048576) ∧
    getT ⟨F, [], -1, false⟩ [97] = t ++ x ∧ getC ⟨F, [], -1, false⟩ [97] = 0 ∧ x.length ≤ m.length ∧
      ((∀ i, i < x.length → x[i]? = m[i]?) ∨ c.burst = true ∧ ∃ p : Nat, ∀ i, i < x.length → x[i]? ≠ m[i]? → p / 8 ≤ i ∧ i ≤ (p + 31) / 8) := by
  obtain ⟨x, h1, h2, h3⟩ := fall_torn [97] t m c.keep c.bytes c.burst c.at_ c.bits.toNat
  have hr := fall_right (right_T3 h hm) c.keep c.bytes c.burst c.at_ c.bits.toNat
  change get20 (fall20 [([97], t)] [oT m] c.keep c.bytes c.burst c.at_ c.bits.toNat) [97] = _ at h1
  obtain ⟨F, hF⟩ : ∃ F, fall20 [([97], t)] [oT m] c.keep c.bytes c.burst c.at_ c.bits.toNat = F := ⟨_, rfl⟩
  rw [hF] at h1 hr
  have hv := (right_val hr).1
  refine ⟨F, x, ?_, hv.few, fun f hf => ⟨?_, hv.room f hf⟩, ?_, ?_, h2, h3⟩
  · unfold fallD dT3
    simp only [right_T3 h hm, hF]
    simp
  · have := hv.name f hf
    unfold name20 at this
    simp only [Bool.and_eq_true, decide_eq_true_eq] at this
    exact this.2
  · have e : all20 F [] = F := rfl
    unfold getT data20
    simp [hr, e, h1]
  · have e : all20 F [] = F := rfl
    have hp := pos_some F [97]
    rw [h1] at hp
    have hp' : pos20 F [97] < F.length := by simpa using hp.symm
    unfold getC
    simp [hr, e, hp']
end Go.Proofs.Ytahndjgamoojkaa
