/-
  Package number: bytes reversed where they stand; Text.
-/
import Derived.Test.YtfnjjanknfmibaaNuF
import Derived.Deep.RegionLaw
namespace Go.Proofs.Ytfnjjanknfmibaa
open Go.RowKit Go.Deep
set_option linter.unusedVariables false

/-- Of n things the first k, and the last k, are turned. -/
def turnK (l : List UInt8) (k t : Nat) : UInt8 := if t < k ∨ l.length - k ≤ t then l.getD (l.length - 1 - t) 0 else l.getD t 0
def rowK (l : List UInt8) (k : Nat) : List Value := (List.range l.length).map fun t => bv (turnK l k t)
theorem rowK_at (l : List UInt8) (k t : Nat) (h : t < l.length) : (rowK l k)[t]? = some (bv (turnK l k t)) := by
  unfold rowK
  rw [List.getElem?_map, List.getElem?_range h]
  rfl
theorem rowK_zero (l : List UInt8) : rowK l 0 = l.map bv := by
  apply List.ext_getElem?
  intro t
  by_cases h : t < l.length
  · rw [rowK_at l 0 t h, List.getElem?_map, List.getElem?_eq_getElem h]
    unfold turnK
    rw [if_neg (by omega), List.getD, List.getElem?_eq_getElem h]
    rfl
  · unfold rowK
    rw [List.getElem?_eq_none (by simp; omega), List.getElem?_eq_none (by simp; omega)]
theorem rowK_end (l : List UInt8) (k : Nat) (h : l.length ≤ 2 * k + 1) : rowK l k = l.reverse.map bv := by
  apply List.ext_getElem?
  intro t
  by_cases ht : t < l.length
  · rw [rowK_at l k t ht, List.getElem?_map, List.getElem?_reverse ht, List.getElem?_eq_getElem (by omega)]
    unfold turnK
    by_cases hc : t < k ∨ l.length - k ≤ t
    · rw [if_pos hc, List.getD, List.getElem?_eq_getElem (by omega)]
      rfl
    · rw [if_neg hc]
      have e : l.length - 1 - t = t := by omega
      rw [List.getD, List.getElem?_eq_getElem ht]
      simp only [Option.getD_some, Option.map_some, e]
  · unfold rowK
    rw [List.getElem?_eq_none (by simp; omega), List.getElem?_eq_none (by simp; omega)]
theorem rowK_step (l : List UInt8) (k j : Nat) (hj : k + j = l.length - 1) (hl : k < j) :
    ((rowK l k).set k (bv (turnK l k j))).set j (bv (turnK l k k)) = rowK l (k + 1) := by
  have hk1 : turnK l k j = l.getD j 0 := by unfold turnK; rw [if_neg (by omega)]
  have hk2 : turnK l k k = l.getD k 0 := by unfold turnK; rw [if_neg (by omega)]
  rw [hk1, hk2]
  apply List.ext_getElem?
  intro t
  have hlen : (rowK l k).length = l.length := by unfold rowK; simp
  by_cases ht : t < l.length
  · rw [rowK_at l (k + 1) t ht, List.getElem?_set, List.getElem?_set, rowK_at l k t ht]
    simp only [List.length_set, hlen]
    unfold turnK
    by_cases e1 : j = t
    · subst e1
      rw [if_pos rfl, if_pos ht, if_pos (by omega)]
      rw [show l.length - 1 - j = k by omega]
    · rw [if_neg e1]
      by_cases e2 : k = t
      · subst e2
        rw [if_pos rfl, if_pos ht, if_pos (by omega)]
        rw [show l.length - 1 - k = j by omega]
      · rw [if_neg e2]
        by_cases c : t < k ∨ l.length - k ≤ t
        · rw [if_pos c, if_pos (by omega)]
        · rw [if_neg c, if_neg (by omega)]
  · rw [List.getElem?_eq_none (by simp [hlen]; omega), List.getElem?_eq_none (by unfold rowK; simp; omega)]

set_option maxRecDepth 100000 in
set_option maxHeartbeats 2000000 in
theorem nReverse_any (w : World) (base g cap : Nat) (l : List UInt8) (hl : l.length ≤ 65536) (ho : w.ownsRow base 5 1 (.slice (some ⟨g, 0, none⟩) l.length cap) l.length (l.map bv)) :
    Calls Try.prog 59 #[.slice (some ⟨g, 0, none⟩) l.length cap] w fun e w' => e = .returned (.tuple #[]) ∧ w'.ownsRow base 5 1 (.slice (some ⟨g, 0, none⟩) l.length cap) l.length (l.reverse.map bv) ∧ Keeps [g] w w' := by
  have H0 := Lib.hid (show w.ownsRow base 5 1 (.slice (some ⟨g, 0, none⟩) l.length cap) l.length (rowK l 0) by rw [rowK_zero]; exact ho)
  have HAT := Lib.hid (rowK_at l)
  have HEND := Lib.hid (rowK_end l)
  have HSTEP := Lib.hid (rowK_step l)
  clear ho
  generalize hn : l.length = n at *
  have HN := Lib.hid hn
  clear hn
  go_enter Try.func59, Try.ntmps59
  go_wp2
  go_loopw [2, 3] (fun i j wr => ∃ (k : Nat) (jj : Int), jj = (n : Int) - 1 - (k : Int) ∧ 2 * k ≤ n + 1 ∧ i = .int .i64 (k : Int) ∧ j = .int .i64 jj ∧ Hid (wr.ownsRow base 5 1 (.slice (some ⟨g, 0, none⟩) n cap) n (rowK l k)) ∧ Hid (Keeps [g] w wr)) (fun i _ _ => n - (intOf i).toNat)
  case atStart => exact ⟨0, _, by simp, by omega, rfl, rfl, H0.out, Keeps.refl _ _⟩
  case round =>
    obtain ⟨k, jj, hjj, hk, rfl, rfl, HO, HK⟩ := hrel
    by_cases hlt : (k : Int) < jj
    · obtain ⟨j, rfl⟩ := Int.eq_ofNat_of_zero_le (show 0 ≤ jj by omega)
      have hj : k + j = n - 1 := by omega
      have hkj : k < j := by omega
      have hjn : j < n := by omega
      have hkn : k < n := by omega
      have c1 : wr.cell? ⟨g, k, none⟩ = some (bv (turnK l k k)) := by rw [HO.out.cellAt k (by omega)]; exact HAT.out k k hkn
      have c2 : wr.cell? ⟨g, j, none⟩ = some (bv (turnK l k j)) := by rw [HO.out.cellAt j (by omega)]; exact HAT.out k j hjn
      have f1 := HO.out.frozenAt k
      have f2 := HO.out.frozenAt j
      have HS := Lib.hid (HSTEP.out k j hj hkj)
      generalize turnK l k k = x at *
      generalize turnK l k j = y at *
      have HJ := Lib.hid hjj
      unfold bv at c1 c2
      clear hjj
      go_wp2
      have HR := Lib.hid (show (((wr.setCell ⟨g, k, none⟩ (.int .u8 (y.toNat : Int))).setCell ⟨g, j, none⟩ (.int .u8 (x.toNat : Int))).drew).ownsRow base 5 1 (.slice (some ⟨g, 0, none⟩) n cap) n (rowK l (k + 1)) from by
        have h1 := (HO.out.stored k (bv y)).1
        have h2 := (World.ownsRow.stored h1 j (bv x)).1
        rw [HS.out] at h2
        exact h2.drew)
      have HKR := Lib.hid (show Keeps [g] w ((wr.setCell ⟨g, k, none⟩ (.int .u8 (y.toNat : Int))).setCell ⟨g, j, none⟩ (.int .u8 (x.toNat : Int))).drew from ((HK.out.trans (Keeps.setCell _ (by simp) _)).trans (Keeps.setCell _ (by simp) _)).trans (Keeps.drew _ _))
      have HJ2 := Lib.hid (show ((j - 1 : Nat) : Int) = (n : Int) - 1 - ((k + 1 : Nat) : Int) ∧ 2 * (k + 1) ≤ n + 1 ∧ (j : Int) - 1 = ((j - 1 : Nat) : Int) ∧ k + 1 ≤ n by have := HJ.out; omega)
      go_region_law (fail)
      all_goals
        generalize ((wr.setCell ⟨g, k, none⟩ (.int .u8 (y.toNat : Int))).setCell ⟨g, j, none⟩ (.int .u8 (x.toNat : Int))).drew = V at *
        clear c1 c2 f1 f2
        go_wp2
        go_roundw
        case rel => exact ⟨k + 1, (j : Int) - 1, by have := HJ2.out; omega, HJ2.out.2.1, by go_num, rfl, HR.out, HKR.out⟩
        case measure => simp [intOf]; have := HJ2.out; omega
    · have HE := Lib.hid (HEND.out k (by omega))
      have hlt2 : decide ((k : Int) < jj) = false := decide_eq_false hlt
      have HJ := Lib.hid hjj
      clear hlt hjj
      go_wp2
      go_end0
      exact ⟨rfl, by rw [← HE.out]; exact HO.out, HK.out⟩
end Go.Proofs.Ytfnjjanknfmibaa
