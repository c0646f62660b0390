/-
  Contracts of package cell: Divide, Symmetric, Floored, whatever they answer; of the document's: Double, Product, Shift, Long.
-/
import Derived.Test.YtfnjjanknfmibaaCellB
namespace Go.Proofs.Ytfnjjanknfmibaa
set_option linter.unusedVariables false
open Go.RowKit

theorem cDivide_is (w : World) (lo hi n R Q E : Int) (l0 : 0 ≤ lo) (l1 : lo < 4294967296) (h0 : 0 ≤ hi) (h1 : hi < 4294967296) (n1 : n < 4294967296) (h : Cell.IsDivU (hi * 4294967296 + lo) n R Q E) :
    Calls Try.prog 54 #[.int .u32 lo, .int .u32 hi, .int .u32 n] w fun e w' => e = .returned (.tuple #[.int .u32 R, .int .u32 Q, .int .i32 E]) ∧ Keeps [] w w' := by
  rcases h with ⟨rfl, rfl, rfl, rfl⟩ | ⟨n0, hq, rfl, rfl, rfl⟩ | ⟨n0, hq, rfl, rfl, rfl⟩
  · exact (cDivide_zero w lo hi).mono fun e w' ⟨he, hw⟩ => ⟨he, hw ▸ Keeps.refl _ _⟩
  · exact (cDivide_big w lo hi n l0 l1 h0 h1 n0 n1 hq).mono fun e w' ⟨he, hw⟩ => ⟨he, hw ▸ Keeps.refl _ _⟩
  · exact cDivide_small w lo hi n l0 l1 h0 h1 n0 n1 hq

theorem wrap64_of (x : Int) (h0 : -9223372036854775808 ≤ x) (h1 : x < 9223372036854775808) : wrap64 x = x := by unfold wrap64; omega

theorem r7Double_any (w : World) (lo hi : Int) (l0 : 0 ≤ lo) (l1 : lo < 4294967296) (h0 : 0 ≤ hi) (h1 : hi < 4294967296) :
    Calls Try.prog 56 #[.int .u32 lo, .int .u32 hi] w fun e w' => e = .returned (.int .u64 (lo + hi * 4294967296)) ∧ w = w' := by
  go_enter Try.func56, Try.ntmps56
  go_wp2
  go_ret
  exact ⟨rfl, rfl⟩

set_option maxHeartbeats 1000000 in
theorem r7Long_nat (w : World) (x m : Nat) (hx : x < 18446744073709551616) (hm0 : 0 < m) (hm : m ≤ 4294967296) :
    Calls Try.prog 55 #[.int .u64 x, .int .u64 m] w fun e w' => e = .returned (.tuple #[.int .u64 ((x : Int) % (m : Int)), .int .u64 ((x : Int) / (m : Int))]) ∧ w = w' := by
  go_enter Try.func55, Try.ntmps55
  go_wp2
  go_loop [6, 7, 8] (fun r q i => ∃ j : Nat, j ≤ 64 ∧ i = .int .i64 ((j : Int) - 1) ∧ r = .int .u64 ((x / 2 ^ j % m : Nat) : Int) ∧ q = .int .u64 ((x / 2 ^ j / m : Nat) : Int)) (fun _ _ i => (intOf i + 1).toNat)
  case atStart =>
    have : x / 2 ^ 64 = 0 := Nat.div_eq_of_lt (by omega)
    exact ⟨64, by omega, rfl, by rw [this]; simp, by rw [this]; simp⟩
  case round =>
    obtain ⟨j, hj, rfl, rfl, rfl⟩ := hrel
    rcases Nat.eq_zero_or_pos j with rfl | hj0
    · rw [Nat.pow_zero, Nat.div_one]
      go_wp2
      go_ret2
      exact ⟨rfl, rfl⟩
    · obtain ⟨i, rfl⟩ : ∃ i, j = i + 1 := ⟨j - 1, by omega⟩
      have hh := Cell.half_pow x i
      have hstep := Cell.long_step (x / 2 ^ i) m hm0
      have hle : x / 2 ^ i ≤ x := Nat.div_le_self _ _
      have hqle : x / 2 ^ i / m ≤ x := Nat.le_trans (Nat.div_le_self _ _) hle
      have hi : i < 64 := by omega
      have hpow : (x : Int) / 2 ^ i = ((x / 2 ^ i : Nat) : Int) := by simp
      have hrl := Nat.mod_lt (x / 2 ^ i / 2) hm0
      have hqh : x / 2 ^ i / 2 / m + x / 2 ^ i / 2 / m ≤ x := by
        have := Nat.div_le_self (x / 2 ^ i / 2) m
        omega
      rw [hh, show ((i + 1 : Nat) : Int) - 1 = (i : Int) by omega]
      obtain ⟨hs1, hs2⟩ := hstep
      generalize hy : x / 2 ^ i = y at *
      have HY := Lib.hid hy
      clear hy
      generalize y / 2 % m = r at *
      generalize y / 2 / m = q at *
      have HH := Lib.hid hh
      clear hh
      have hmin : min i 64 = i := by omega
      have hy0 : (y : Int) % 2 < 2 := by omega
      have hy1 : 0 ≤ (y : Int) % 2 := by omega
      have hr63 : decide ((9223372036854775808 : Int) ≤ (r : Int)) = false := by simp; omega
      by_cases hc : m ≤ 2 * r + y % 2
      all_goals
        first | rw [if_pos hc] at hs1 | rw [if_neg hc] at hs1
        first | rw [if_pos hc] at hs2 | rw [if_neg hc] at hs2
        have HS1 := Lib.hid hs1
        have HS2 := Lib.hid hs2
        have HC := Lib.hid hc
        have hc' : decide ((m : Int) ≤ (r : Int) + r + (y : Int) % 2) = decide (m ≤ 2 * r + y % 2) := by rw [decide_eq_decide]; omega
        simp only [hc, decide_true, decide_false] at hc'
        first | have hcI : (m : Int) ≤ (r : Int) + r + (y : Int) % 2 := by omega
              | skip
        clear hs1 hs2 hc
        go_wp2
        go_round
        case rel =>
          refine ⟨i, by omega, rfl, ?_, ?_⟩
          · rw [HY.out, HS1.out]; have := HC.out; go_num
          · rw [HY.out, HS2.out]; have := HC.out; go_num
        case measure => simp [intOf] <;> omega
end Go.Proofs.Ytfnjjanknfmibaa
