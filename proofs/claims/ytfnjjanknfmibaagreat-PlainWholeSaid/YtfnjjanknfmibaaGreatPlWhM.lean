/-
  PlainWhole: what is thrown by memory changes nothing.
-/
import Derived.Test.YtfnjjanknfmibaaGreatPlAw
namespace Go.Proofs.YtfnjjanknfmibaaGreat
open Go.RowKit
set_option linter.unusedVariables false

theorem pL_thr {win ram : List UInt8} {A : Nat} {bs : List UInt8} (h : pT win ram A bs.length ≠ 0) : pL ram A bs = ram := by
  unfold pL
  split
  · next hi => exact absurd (show pT win ram A bs.length = 0 by unfold pT; rw [if_pos hi]) h
  · rfl
theorem storeL_thr {win ram : List UInt8} {A x : Nat} (h : storeT win ram A ≠ 0) : storeL ram A x = ram := by
  unfold storeL
  unfold storeT at h
  split
  · next hi =>
    rw [if_pos hi] at h
    exact pL_thr (win := win) (bs := fourL x) h
  · rfl
theorem moveL_thr {win ram : List UInt8} {A B n : Nat} (h : moveT win ram A B n ≠ 0) : moveL win ram A B n = ram := by
  unfold moveL
  unfold moveT at h
  split
  · next hi =>
    rw [if_pos hi] at h
    refine pL_thr (win := win) ?_
    rw [gL_length hi]
    exact h
  · rfl
theorem addL_thr {win ram : List UInt8} {A n : Nat} (h : addT win ram A ≠ 0) : addL win ram A n = ram := by
  unfold addL
  unfold addT at h
  split
  · next hi =>
    rw [if_pos hi] at h
    exact storeL_thr h
  · rfl
theorem four_word {bs : List UInt8} (h : bs.length = 4) : fourL (wordN bs) = bs := by
  obtain ⟨a, b, c, d, rfl⟩ := list4 h
  have ha := a.toNat_lt
  have hb := b.toNat_lt
  have hc := c.toNat_lt
  have hd := d.toNat_lt
  unfold fourL wordN
  simp only [List.getD_cons_zero, List.getD_cons_succ]
  have e1 : UInt8.ofNat (a.toNat + 256 * b.toNat + 65536 * c.toNat + 16777216 * d.toNat) = a := UInt8.toNat_inj.1 (by rw [UInt8.toNat_ofNat']; omega)
  have e2 : UInt8.ofNat ((a.toNat + 256 * b.toNat + 65536 * c.toNat + 16777216 * d.toNat) / 256) = b := UInt8.toNat_inj.1 (by rw [UInt8.toNat_ofNat']; omega)
  have e3 : UInt8.ofNat ((a.toNat + 256 * b.toNat + 65536 * c.toNat + 16777216 * d.toNat) / 65536) = c := UInt8.toNat_inj.1 (by rw [UInt8.toNat_ofNat']; omega)
  have e4 : UInt8.ofNat ((a.toNat + 256 * b.toNat + 65536 * c.toNat + 16777216 * d.toNat) / 16777216) = d := UInt8.toNat_inj.1 (by rw [UInt8.toNat_ofNat']; omega)
  rw [e1, e2, e3, e4]
theorem put_same (ram : List UInt8) (o : Nat) (h : o + 4 ≤ ram.length) : putAt ram o ((ram.drop o).take 4) = ram := by
  unfold putAt
  have hl : ((ram.drop o).take 4).length = 4 := by simp; omega
  rw [hl, ← List.drop_drop, List.take_append_drop, List.take_append_drop]
theorem addL_same {win ram : List UInt8} {A : Nat} (hw : win.length ≤ 65536) : addL win ram A 0 = ram := by
  by_cases h : addT win ram A = 0
  · unfold addT at h
    unfold addL
    by_cases h1 : loadT win ram A = 0
    · rw [if_pos h1] at h ⊢
      unfold storeT at h
      unfold storeL
      by_cases h4 : A % 4 = 0
      · rw [if_pos h4] at h ⊢
        unfold pT at h
        by_cases hi : inAt 1048576 ram A 4
        · have hnw : ¬ inAt 4096 win A 4 := by unfold inAt at *; omega
          have hx : loadX win ram A = wordN ((ram.drop (A - 1048576)).take 4) := by
            unfold loadX gL
            rw [if_pos h4, if_neg hnw, if_pos hi]
          have hl : ((ram.drop (A - 1048576)).take 4).length = 4 := by unfold inAt at hi; simp; omega
          have hlt := loadX_lt win ram A
          rw [Nat.add_zero, Nat.mod_eq_of_lt hlt, hx, four_word hl]
          unfold pL
          rw [hl, if_pos hi]
          exact put_same _ _ (by unfold inAt at hi; omega)
        · rw [if_neg hi] at h
          split at h
          · simp at h
          · simp at h
      · rw [if_neg h4]
    · rw [if_neg h1]
  · exact addL_thr h
theorem triedL_same {win ram : List UInt8} {A : Nat} (hw : win.length ≤ 65536) : triedL win ram A = ram := by
  unfold triedL
  split
  · rw [addL_same hw, addL_same hw]
  · exact addL_same hw
end Go.Proofs.YtfnjjanknfmibaaGreat
