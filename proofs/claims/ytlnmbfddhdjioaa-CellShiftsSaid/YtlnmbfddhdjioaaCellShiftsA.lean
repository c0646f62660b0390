/-
  CellShifts, walked.
-/
import Derived.Test.YtlnmbfddhdjioaaCellH
namespace Go.Proofs.Ytlnmbfddhdjioaa
set_option linter.unusedVariables false
open Go.RowKit

theorem cShiftL_to (w : World) (x k V : Int) (k0 : 0 ≤ k) (h : x * 2 ^ min k.toNat 32 % 4294967296 = V) :
    Calls Try.prog 12 #[.int .u32 x, .int .u32 k, .bool true] w fun e w' => e = .returned (.int .u32 V) ∧ w = w' := by
  rw [← h]; exact cShiftL_any w x k k0
theorem cShiftR_to (w : World) (x k V : Int) (k0 : 0 ≤ k) (h : x / 2 ^ min k.toNat 32 = V) :
    Calls Try.prog 12 #[.int .u32 x, .int .u32 k, .bool false] w fun e w' => e = .returned (.int .u32 V) ∧ w = w' := by
  rw [← h]; exact cShiftR_any w x k k0

theorem shift_facts (x k : Nat) (hx : x < 4294967296) (hk : k < 32) :
    (x * 2 ^ k % 4294967296) / 2 ^ k = x % 2 ^ (32 - k) ∧ x / 2 ^ k * 2 ^ k % 4294967296 = x - x % 2 ^ k ∧ 1 ≤ 2 ^ k ∧ 2 ^ k ≤ 2147483648 ∧ 2 ^ (32 - k) * 2 ^ k = 4294967296 := by
  have hp : 2 ^ (32 - k) * 2 ^ k = 4294967296 := by rw [← Nat.pow_add]; rw [show 32 - k + k = 32 by omega]
  have h1 : 1 ≤ 2 ^ k := Nat.one_le_two_pow
  have h2 : 2 ^ k ≤ 2147483648 := by have := Nat.pow_le_pow_right (n := 2) (by decide) (show k ≤ 31 by omega); omega
  refine ⟨?_, ?_, h1, h2, hp⟩
  · rw [← hp, Nat.mul_mod_mul_right, Nat.mul_div_cancel _ (by omega)]
  · have := Nat.div_add_mod x (2 ^ k)
    rw [Nat.mul_comm] at this
    omega

theorem bits_andNot32 (x y : BitVec 32) : bits .andNot .u32 (x.toNat : Int) (y.toNat : Int) = ((x &&& ~~~ y).toNat : Int) := by
  unfold bits
  simp only [bits_ofInt]
  exact wrap_nat32 _

theorem toNat32 (n : Nat) (h : n < 4294967296) : (BitVec.ofNat 32 n).toNat = n := by rw [BitVec.toNat_ofNat]; exact Nat.mod_eq_of_lt h

theorem and_low (x n : Nat) (hx : x < 4294967296) (hn : n ≤ 32) : bits .and .u32 (x : Int) ((2 ^ n - 1 : Nat) : Int) = ((x % 2 ^ n : Nat) : Int) := by
  have hp : 2 ^ n ≤ 4294967296 := by have := Nat.pow_le_pow_right (n := 2) (by decide) hn; omega
  have h1 : 1 ≤ 2 ^ n := Nat.one_le_two_pow
  have h := bits_and32 (BitVec.ofNat 32 x) (BitVec.ofNat 32 (2 ^ n - 1))
  rw [BitVec.toNat_and, toNat32 _ hx, toNat32 _ (by omega), Nat.and_two_pow_sub_one_eq_mod] at h
  exact h

theorem and_high (x n : Nat) (hx : x < 4294967296) (hn : n < 32) : bits .andNot .u32 (x : Int) ((2 ^ n - 1 : Nat) : Int) = ((x - x % 2 ^ n : Nat) : Int) := by
  have hp : 2 ^ n ≤ 4294967296 := by have := Nat.pow_le_pow_right (n := 2) (by decide) (show n ≤ 32 by omega); omega
  have h1 : 1 ≤ 2 ^ n := Nat.one_le_two_pow
  have h := bits_andNot32 (BitVec.ofNat 32 x) (BitVec.ofNat 32 (2 ^ n - 1))
  rw [toNat32 _ hx, toNat32 _ (by omega)] at h
  rw [h]
  clear h
  have hz : (BitVec.ofNat 32 x &&& BitVec.ofNat 32 (2 ^ n - 1)) &&& (BitVec.ofNat 32 x &&& ~~~ BitVec.ofNat 32 (2 ^ n - 1)) = 0#32 := by
    ext i hi
    simp only [BitVec.getElem_and, BitVec.getElem_not, BitVec.getElem_zero]
    cases (BitVec.ofNat 32 x)[i] <;> cases (BitVec.ofNat 32 (2 ^ n - 1))[i] <;> rfl
  have ho : (BitVec.ofNat 32 x &&& BitVec.ofNat 32 (2 ^ n - 1)) ||| (BitVec.ofNat 32 x &&& ~~~ BitVec.ofNat 32 (2 ^ n - 1)) = BitVec.ofNat 32 x := by
    ext i hi
    simp only [BitVec.getElem_and, BitVec.getElem_not, BitVec.getElem_or]
    cases (BitVec.ofNat 32 x)[i] <;> cases (BitVec.ofNat 32 (2 ^ n - 1))[i] <;> rfl
  have ha := BitVec.add_eq_or_of_and_eq_zero _ _ hz
  rw [ho] at ha
  have hs := BitVec.toNat_add_of_and_eq_zero hz
  rw [ha, BitVec.toNat_and, toNat32 _ hx, toNat32 _ (by omega), Nat.and_two_pow_sub_one_eq_mod] at hs
  omega

set_option maxRecDepth 100000 in
set_option maxHeartbeats 1000000 in
theorem CellShifts_any (w : World) (x k : Int) (x0 : 0 ≤ x) (x1 : x ≤ 4294967295) (k0 : 0 ≤ k) (k1 : k ≤ 4294967295) :
    Calls Try.prog 7 #[.int .u32 x, .int .u32 k] w fun e w' => e = .returned (.bool true) ∧ Keeps [] w w' := by
  by_cases hk : 32 ≤ k
  · have A1 := Lib.hid fun v => cShiftL_to v x k 0 k0 (by rw [show min k.toNat 32 = 32 by omega]; omega)
    have A2 := Lib.hid fun v => cShiftR_to v x k 0 k0 (by rw [show min k.toNat 32 = 32 by omega]; omega)
    go_enter Try.func7, Try.ntmps7
    go_wp2_with (first
      | ((with_reducible refine (A1.out _).mono ?_); rintro e w' ⟨rfl, rfl⟩)
      | ((with_reducible refine (A2.out _).mono ?_); rintro e w' ⟨rfl, rfl⟩)
      | (go_at_call 21; refine (awake7_any _).mono ?_; rintro e w' ⟨rfl, K⟩))
    go_ret
    exact ⟨rfl, K⟩
  · obtain ⟨y, rfl⟩ := Int.eq_ofNat_of_zero_le x0
    obtain ⟨j, rfl⟩ := Int.eq_ofNat_of_zero_le k0
    have hy : y < 4294967296 := by omega
    have hj : j < 32 := by omega
    obtain ⟨f1, f2, f3, f4, f5⟩ := shift_facts y j hy hj
    have hm : min (j : Int).toNat 32 = j := by omega
    have hLlt := Nat.mod_lt (y * 2 ^ j) (show 4294967296 > 0 by decide)
    have hm1 : (y * 2 ^ j % 4294967296) / 2 ^ j = y % 2 ^ (32 - j) := f1
    obtain ⟨L, hL⟩ : ∃ L : Nat, y * 2 ^ j % 4294967296 = L := ⟨_, rfl⟩
    obtain ⟨P, hP⟩ : ∃ P : Nat, 2 ^ j = P := ⟨_, rfl⟩
    obtain ⟨R, hR⟩ : ∃ R : Nat, y / 2 ^ j = R := ⟨_, rfl⟩
    obtain ⟨B, hB⟩ : ∃ B : Nat, L / 2 ^ j = B := ⟨_, rfl⟩
    obtain ⟨F, hF⟩ : ∃ F : Nat, R * 2 ^ j % 4294967296 = F := ⟨_, rfl⟩
    have A1 := Lib.hid fun v => cShiftL_to v y j L k0 (by rw [hm]; have := congrArg (Nat.cast (R := Int)) hL; simpa using this)
    have A2 := Lib.hid fun v => cShiftR_to v y j R k0 (by rw [hm]; have := congrArg (Nat.cast (R := Int)) hR; simpa using this)
    have A3 := Lib.hid fun v => cShiftR_to v L j B k0 (by rw [hm]; have := congrArg (Nat.cast (R := Int)) hB; simpa using this)
    have A4 := Lib.hid fun v => cShiftL_to v R j F k0 (by rw [hm]; have := congrArg (Nat.cast (R := Int)) hF; simpa using this)
    have G1 := Lib.hid f1
    have G2 := Lib.hid f2
    have G5 := Lib.hid f5
    have GP := Lib.hid hP
    have GR := Lib.hid hR
    have GB := Lib.hid hB
    have GF := Lib.hid hF
    have GL := Lib.hid hL
    have p1 : 1 ≤ P := by rw [← hP]; exact f3
    have p2 : P ≤ 2147483648 := by rw [← hP]; exact f4
    have e1 : (2 : Int) ^ j % 4294967296 = (P : Int) := by
      have : (2 : Int) ^ j = (P : Int) := by rw [← hP]; simp
      rw [this]; omega
    have hL' : y * P % 4294967296 = L := by rw [← hP]; exact hL
    have A5 := Lib.hid fun v => cProduct_to v y P L ((y * P / 4294967296 : Nat) : Int) (by omega) (by omega) (by omega) (by omega) (by omega) (by omega) (by rw [← Int.natCast_mul]; omega)
    have hR' : (y : Int) / (P : Int) = (R : Int) := by rw [← Int.natCast_ediv, ← hP, hR]
    have A6 := Lib.hid fun v => cDivide_is v y 0 P ((y : Int) % (P : Int)) R 0 (by omega) (by omega) (by decide) (by decide) (by omega) (isDivU_ok _ _ _ _ (by omega) (by rw [Int.zero_mul, Int.zero_add, hR']; have := Nat.div_le_self y (2 ^ j); omega) (by rw [Int.zero_mul, Int.zero_add]) (by rw [Int.zero_mul, Int.zero_add, hR']))
    have hn1 : 1 ≤ 2 ^ (32 - j) := Nat.one_le_two_pow
    have hn2 : 2 ^ (32 - j) ≤ 4294967296 := by have := Nat.pow_le_pow_right (n := 2) (by decide) (show 32 - j ≤ 32 by omega); omega
    have e2 : bits .and .u32 (y : Int) ((2 ^ (32 - j) - 1) % 4294967296) = (B : Int) := by
      have h : ((2 : Int) ^ (32 - j) - 1) % 4294967296 = ((2 ^ (32 - j) - 1 : Nat) : Int) := by
        rw [Int.natCast_sub hn1]; simp only [Int.natCast_pow]; have : ((2 : Nat) : Int) ^ (32 - j) = ((2 ^ (32 - j) : Nat) : Int) := by simp
        simp only [Int.cast_ofNat_Int] at this ⊢
        rw [this]; omega
      rw [h, and_low y (32 - j) hy (by omega), ← f1, hL, hB]
    have e3 : bits .andNot .u32 (y : Int) ((P : Int) - 1) = (F : Int) := by
      have h : (P : Int) - 1 = ((2 ^ j - 1 : Nat) : Int) := by omega
      rw [h, and_high y j hy hj, ← f2, hR, hF]
    clear f1 f2 f3 f4 f5 hP hR hB hF hL hm1 hLlt hm hL' hR' hn1 hn2
    go_enter Try.func7, Try.ntmps7
    go_wp2_with (first
      | ((with_reducible refine (A1.out _).mono ?_); rintro e w' ⟨rfl, rfl⟩)
      | ((with_reducible refine (A2.out _).mono ?_); rintro e w' ⟨rfl, rfl⟩)
      | ((with_reducible refine (A5.out _).mono ?_); rintro e w' ⟨rfl, rfl⟩)
      | ((with_reducible refine (A6.out _).mono ?_); rintro e w' ⟨rfl, K0⟩)
      | ((with_reducible refine (A3.out _).mono ?_); rintro e w' ⟨rfl, rfl⟩)
      | ((with_reducible refine (A4.out _).mono ?_); rintro e w' ⟨rfl, rfl⟩)
      | (go_at_call 21; refine (awake7_any _).mono ?_; rintro e w' ⟨rfl, K⟩))
    go_ret
    exact ⟨rfl, K0.trans K⟩
end Go.Proofs.Ytlnmbfddhdjioaa
