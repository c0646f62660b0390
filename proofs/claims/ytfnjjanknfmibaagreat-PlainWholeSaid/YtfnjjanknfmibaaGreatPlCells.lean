/-
  Plain primitives: two lists compared.
-/
import Derived.Test.YtfnjjanknfmibaaGreatStkD
import Derived.BigQuiet
import Derived.Deep.QuietTactic
namespace Go.Proofs.YtfnjjanknfmibaaGreat
open Go.RowKit
set_option linter.unusedVariables false

set_option maxRecDepth 100000 in
set_option maxHeartbeats 2000000 in
theorem cells12_any (w : World) (va vb : Value) (l m : List (BitVec 32)) (Ma oa Mb ob : Nat) (ha : UReads w va l Ma oa) (hb : UReads w vb m Mb ob) (hl : l.length ≤ maxLen) :
    Calls Tryz.prog 9 #[va, vb] w fun e w' => e = .returned (.bool (decide (l = m))) ∧ Keeps [] w w' := by
  have hml : maxLen = 9223372036854775807 := rfl
  obtain ⟨aa, ca, rfl, hca⟩ := ha.shape
  obtain ⟨ab, cb, rfl, hcb⟩ := hb.shape
  by_cases hln : l.length = m.length
  · by_cases h0 : l = []
    · subst h0
      obtain rfl : m = [] := List.eq_nil_of_length_eq_zero hln.symm
      clear ha hb hca hcb hl
      rw [show decide (([] : List (BitVec 32)) = []) = true from rfl]
      simp only [List.length_nil]
      go_enter Tryz.func9, Tryz.ntmps9
      go_upto_region 4 with fail
      go_loopw [5, 13] (fun _ i wr => ∃ j : Nat, j ≤ 0 ∧ i = .int .i64 j ∧ wr = w) (fun _ i _ => 0 - (intOf i).toNat)
      case atStart => exact ⟨0, by omega, rfl, rfl⟩
      case round =>
        obtain ⟨j, hj, rfl, rfl⟩ := hrel
        obtain rfl : j = 0 := by omega
        go_wp2
        go_ret
        exact ⟨rfl, Keeps.refl _ _⟩
    · obtain ⟨c1, e1, _, h1⟩ := ha.cells h0
      obtain ⟨c2, e2, _, h2⟩ := hb.cells (by intro e; subst e; exact h0 (List.eq_nil_of_length_eq_zero hln))
      injection e1 with e1 _ e1'
      injection e2 with e2 _ e2'
      subst e1 e2 e1' e2'
      have HA := Lib.hid h1
      have HB := Lib.hid h2
      have HW := Lib.hid (Keeps.refl [] w)
      obtain ⟨n, hn⟩ : ∃ n, l.length = n := ⟨_, rfl⟩
      have hm' : m.length = n := by omega
      have hl' : n ≤ maxLen := by omega
      have hca' : n ≤ ca := by omega
      have hcb' : n ≤ cb := by omega
      have HN := Lib.hid hn
      have hlm := Lib.hid hm'
      obtain ⟨R, hR⟩ : ∃ R, R = decide (l = m) := ⟨_, rfl⟩
      have HR := Lib.hid hR
      rw [← hR, hn, hm']
      clear ha hb h1 h2 hn hR h0 hln hm' hl hca hcb
      go_enter Tryz.func9, Tryz.ntmps9
      go_upto_region 4 with fail
      go_loopw [5, 13] (fun _ i wr => ∃ j : Nat, j ≤ n ∧ i = .int .i64 j ∧ Hid (l.take j = m.take j) ∧ Hid (Keeps [] w wr)) (fun _ i _ => n - (intOf i).toNat)
      case atStart => exact ⟨0, by omega, rfl, rfl, HW⟩
      case round =>
        obtain ⟨j, hj, rfl, ht, hk⟩ := hrel
        by_cases hlt : j < n
        · have hji : (j : Int) < n := by omega
          have hj1 : j < l.length := by have := HN.out; omega
          have hj2 : j < m.length := by have := HN.out; have := hlm.out; omega
          have q1 := hk.out.cell (HA.out j l[j] (List.getElem?_eq_getElem hj1)) (by simp)
          have q2 := hk.out.cell (HB.out j m[j] (List.getElem?_eq_getElem hj2)) (by simp)
          have hst : l[j] = m[j] → l.take (j + 1) = m.take (j + 1) := by
            intro e
            rw [List.take_succ_eq_append_getElem hj1, List.take_succ_eq_append_getElem hj2, ht.out, e]
          have hne : l[j] ≠ m[j] → l ≠ m := by intro e e'; subst e'; exact e rfl
          have HST := Lib.hid hst
          have HNE := Lib.hid hne
          clear hst hne
          generalize l[j] = x at *
          generalize m[j] = y at *
          unfold uv at *
          by_cases hxy : x = y
          · have HT := Lib.hid (HST.out hxy)
            subst hxy
            generalize (x.toNat : Int) = X at *
            clear HST HNE
            go_wp2_with (first | go_quiet (fail))
            go_roundw
            case rel => exact ⟨j + 1, by omega, by go_num, HT, Lib.hid (hk.out.trans (Keeps.drewN _ _ _))⟩
            case measure => simp [intOf]; omega
          · have hq : ¬ ((x.toNat : Int) = (y.toNat : Int)) := by intro e; exact hxy (BitVec.eq_of_toNat_eq (by omega))
            have hr : R = false := by rw [HR.out]; exact decide_eq_false (HNE.out hxy)
            clear HR HST HNE hxy
            generalize (x.toNat : Int) = X at *
            generalize (y.toNat : Int) = Y at *
            go_wp2_with (first | go_quiet (fail))
            go_ret
            exact ⟨by rw [hr]; rfl, hk.out.trans (Keeps.drewN _ _ _)⟩
        · obtain rfl : j = n := by omega
          have hr : R = true := by
            rw [HR.out]
            have := ht.out
            rw [List.take_of_length_le (by have := HN.out; omega), List.take_of_length_le (by have := HN.out; have := hlm.out; omega)] at this
            exact decide_eq_true this
          have HK := Lib.hid hk.out
          clear ht hk
          go_wp2
          go_ret
          exact ⟨by rw [hr]; rfl, HK.out⟩
  · have hne : decide (l = m) = false := decide_eq_false (fun e => hln (by rw [e]))
    rw [hne]
    clear ha hb hne
    generalize hn : l.length = n at *
    generalize hm : m.length = k at *
    have hq : ¬ ((n : Int) = (k : Int)) := by omega
    go_enter Tryz.func9, Tryz.ntmps9
    go_wp2
    go_ret
    exact ⟨rfl, Keeps.refl _ _⟩
end Go.Proofs.YtfnjjanknfmibaaGreat
