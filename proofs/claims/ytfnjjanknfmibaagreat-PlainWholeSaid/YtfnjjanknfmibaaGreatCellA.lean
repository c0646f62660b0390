/-
  Contracts of package cell.
-/
import Derived.Test.YtfnjjanknfmibaaGreatRows
import Derived.Test.YtfnjjanknfmibaaGreatGround
import Derived.Test.YtfnjjanknfmibaaGreatCellMath
import Derived.Deep.QuietTactic
import Derived.BigQuiet
import Derived.Outline
import Derived.Laws.Bits64b
import Derived.Laws.Shifts
namespace Go.Proofs.YtfnjjanknfmibaaGreat
open Go.RowKit

theorem or_add (hi lo : Nat) (h : hi < 4294967296) (l : lo < 4294967296) : bits .or .u64 ((hi : Int) * 4294967296) (lo : Int) = (hi : Int) * 4294967296 + (lo : Int) := by
  rw [show ((hi : Int) * 4294967296) = ((hi * 4294967296 : Nat) : Int) by omega, bits_or_u64_nat _ _ (by omega) (by omega)]
  have := Nat.shiftLeft_add_eq_or_of_lt (i := 32) (b := lo) (by omega) hi
  simp only [Nat.shiftLeft_eq, Nat.reducePow] at this
  omega

theorem or_addI (hi lo : Int) (h0 : 0 ≤ hi) (h : hi < 4294967296) (l0 : 0 ≤ lo) (l : lo < 4294967296) : bits .or .u64 (hi * 4294967296) lo = hi * 4294967296 + lo := by
  obtain ⟨a, rfl⟩ := Int.eq_ofNat_of_zero_le h0
  obtain ⟨b, rfl⟩ := Int.eq_ofNat_of_zero_le l0
  exact or_add a b (by omega) (by omega)

theorem cDouble_any (w : World) (lo hi : Int) (l0 : 0 ≤ lo) (l : lo < 4294967296) (h0 : 0 ≤ hi) (h : hi < 4294967296) :
    Calls Tryz.prog 148 #[.int .u32 lo, .int .u32 hi] w fun e w' => e = .returned (.int .u64 (hi * 4294967296 + lo)) ∧ w = w' := by
  have H := Lib.hid (or_addI hi lo h0 h l0 l)
  go_enter Tryz.func148, Tryz.ntmps148
  go_wp2
  go_ret
  exact ⟨congrArg (fun x => Ending.returned (.int .u64 x)) H.out, rfl⟩

theorem cApart_any (w : World) (d : Int) (h0 : 0 ≤ d) (h : d < 18446744073709551616) :
    Calls Tryz.prog 151 #[.int .u64 d] w fun e w' => e = .returned (.tuple #[.int .u32 (d % 4294967296), .int .u32 (d / 4294967296)]) ∧ w = w' := by
  go_enter Tryz.func151, Tryz.ntmps151
  go_wp2
  go_ret2
  exact ⟨rfl, rfl⟩

theorem cProduct_any (w : World) (a b : Int) (a0 : 0 ≤ a) (a1 : a < 4294967296) (b0 : 0 ≤ b) (b1 : b < 4294967296) :
    Calls Tryz.prog 69 #[.int .u32 a, .int .u32 b] w fun e w' => e = .returned (.tuple #[.int .u32 (a * b % 4294967296), .int .u32 (a * b / 4294967296)]) ∧ w = w' := by
  have p0 : 0 ≤ a * b := Int.mul_nonneg a0 b0
  have p1 : a * b < 18446744073709551616 := by
    have := Int.mul_le_mul (show a ≤ 4294967295 by omega) (show b ≤ 4294967295 by omega) b0 (by decide)
    omega
  go_enter Tryz.func69, Tryz.ntmps69
  go_wp2_with (go_at_call 151; refine (cApart_any _ _ p0 p1).mono ?_; rintro e w' ⟨rfl, rfl⟩)
  go_ret2
  exact ⟨rfl, rfl⟩

theorem cSigned_any (w : World) (a b : Int) (a0 : -2147483648 ≤ a) (a1 : a < 2147483648) (b0 : -2147483648 ≤ b) (b1 : b < 2147483648) :
    Calls Tryz.prog 72 #[.int .i32 a, .int .i32 b] w fun e w' => e = .returned (.tuple #[.int .u32 (a * b % 4294967296), .int .i32 (wrap32 (a * b % 18446744073709551616 / 4294967296))]) ∧ w = w' := by
  have p0 : -4611686018427387904 ≤ a * b ∧ a * b ≤ 4611686018427387904 := by
    have h : (a * b).natAbs ≤ 2147483648 * 2147483648 := by rw [Int.natAbs_mul]; exact Nat.mul_le_mul (by omega) (by omega)
    omega
  obtain ⟨p0, p1⟩ := p0
  have q0 := Int.emod_nonneg (a * b) (show (18446744073709551616 : Int) ≠ 0 by decide)
  have q1 := Int.emod_lt_of_pos (a * b) (show (0 : Int) < 18446744073709551616 by decide)
  go_enter Tryz.func72, Tryz.ntmps72
  go_wp2_with (go_at_call 151; refine (cApart_any _ (a * b % 18446744073709551616) q0 q1).mono ?_; rintro e w' ⟨rfl, rfl⟩)
  go_ret2
  exact ⟨rfl, rfl⟩

theorem cSum_any (w : World) (a b c d : Int) (a0 : 0 ≤ a) (a1 : a < 4294967296) (b0 : 0 ≤ b) (b1 : b < 4294967296) (c0 : 0 ≤ c) (c1 : c < 4294967296) (d0 : 0 ≤ d) (d1 : d < 4294967296) :
    Calls Tryz.prog 75 #[.int .u32 a, .int .u32 b, .int .u32 c, .int .u32 d] w fun e w' => e = .returned (.tuple #[.int .u32 ((b * 4294967296 + a + (d * 4294967296 + c)) % 4294967296), .int .u32 ((b * 4294967296 + a + (d * 4294967296 + c)) % 18446744073709551616 / 4294967296)]) ∧ w = w' := by
  go_enter Tryz.func75, Tryz.ntmps75
  go_wp2_with (first | (go_at_call 148; refine (cDouble_any _ _ _ (by omega) (by omega) (by omega) (by omega)).mono ?_; rintro e w' ⟨rfl, rfl⟩) | (go_at_call 151; refine (cApart_any _ ((b * 4294967296 + a + (d * 4294967296 + c)) % 18446744073709551616) (by omega) (by omega)).mono ?_; rintro e w' ⟨rfl, rfl⟩))
  go_ret2
  exact ⟨rfl, rfl⟩

theorem cNegative_any (w : World) (a b : Int) (a0 : 0 ≤ a) (a1 : a < 4294967296) (b0 : 0 ≤ b) (b1 : b < 4294967296) :
    Calls Tryz.prog 77 #[.int .u32 a, .int .u32 b] w fun e w' => e = .returned (.tuple #[.int .u32 ((-(b * 4294967296 + a)) % 4294967296), .int .u32 ((-(b * 4294967296 + a)) % 18446744073709551616 / 4294967296)]) ∧ w = w' := by
  go_enter Tryz.func77, Tryz.ntmps77
  go_wp2_with (first | (go_at_call 148; refine (cDouble_any _ _ _ (by omega) (by omega) (by omega) (by omega)).mono ?_; rintro e w' ⟨rfl, rfl⟩) | (go_at_call 151; refine (cApart_any _ ((-(b * 4294967296 + a)) % 18446744073709551616) (by omega) (by omega)).mono ?_; rintro e w' ⟨rfl, rfl⟩))
  go_ret2
  exact ⟨rfl, rfl⟩

theorem cShiftL_any (w : World) (x k : Int) (k0 : 0 ≤ k) :
    Calls Tryz.prog 139 #[.int .u32 x, .int .u32 k, .bool true] w fun e w' => e = .returned (.int .u32 (x * 2 ^ min k.toNat 32 % 4294967296)) ∧ w = w' := by
  go_enter Tryz.func139, Tryz.ntmps139
  go_wp2
  go_ret
  exact ⟨rfl, rfl⟩

theorem cShiftR_any (w : World) (x k : Int) (k0 : 0 ≤ k) :
    Calls Tryz.prog 139 #[.int .u32 x, .int .u32 k, .bool false] w fun e w' => e = .returned (.int .u32 (x / 2 ^ min k.toNat 32)) ∧ w = w' := by
  go_enter Tryz.func139, Tryz.ntmps139
  go_wp2
  go_ret
  exact ⟨rfl, rfl⟩

/-- A division of cells without signs. -/
theorem cDivide_zero (w : World) (lo hi : Int) :
    Calls Tryz.prog 62 #[.int .u32 lo, .int .u32 hi, .int .u32 0] w fun e w' => e = .returned (.tuple #[.int .u32 0, .int .u32 0, .int .i32 (-10)]) ∧ w = w' := by
  go_enter Tryz.func62, Tryz.ntmps62
  go_wp2
  exact bodyPost_ret (v := .tuple #[.int .u32 0, .int .u32 0, .int .i32 (-10)]) (by simp [results, Tryz.results62, go_sem]) rfl ⟨rfl, rfl⟩

theorem cDivide_big (w : World) (lo hi n : Int) (l0 : 0 ≤ lo) (l1 : lo < 4294967296) (h0 : 0 ≤ hi) (h1 : hi < 4294967296) (n0 : 0 < n) (n1 : n < 4294967296) (hq : 4294967296 ≤ (hi * 4294967296 + lo) / n) :
    Calls Tryz.prog 62 #[.int .u32 lo, .int .u32 hi, .int .u32 n] w fun e w' => e = .returned (.tuple #[.int .u32 0, .int .u32 0, .int .i32 (-11)]) ∧ w = w' := by
  go_enter Tryz.func62, Tryz.ntmps62
  go_wp2_with (go_at_call 148; refine (cDouble_any _ _ _ (by omega) (by omega) (by omega) (by omega)).mono ?_; rintro e w' ⟨rfl, rfl⟩)
  exact bodyPost_ret (v := .tuple #[.int .u32 0, .int .u32 0, .int .i32 (-11)]) (by simp [results, Tryz.results62, go_sem]) rfl ⟨rfl, rfl⟩

theorem cDivide_small (w : World) (lo hi n : Int) (l0 : 0 ≤ lo) (l1 : lo < 4294967296) (h0 : 0 ≤ hi) (h1 : hi < 4294967296) (n0 : 0 < n) (n1 : n < 4294967296) (hq : (hi * 4294967296 + lo) / n < 4294967296) :
    Calls Tryz.prog 62 #[.int .u32 lo, .int .u32 hi, .int .u32 n] w fun e w' => e = .returned (.tuple #[.int .u32 ((hi * 4294967296 + lo) % n), .int .u32 ((hi * 4294967296 + lo) / n), .int .i32 0]) ∧ Keeps [] w w' := by
  have q0 : 0 ≤ (hi * 4294967296 + lo) / n := Int.ediv_nonneg (by omega) (by omega)
  have r0 := Int.emod_nonneg (hi * 4294967296 + lo) (show n ≠ 0 by omega)
  have r1 := Int.emod_lt_of_pos (hi * 4294967296 + lo) n0
  go_enter Tryz.func62, Tryz.ntmps62
  go_wp2_with (go_at_call 148; refine (cDouble_any _ _ _ (by omega) (by omega) (by omega) (by omega)).mono ?_; rintro e w' ⟨rfl, rfl⟩)
  go_quiet (fail)
  go_wp2
  exact bodyPost_ret (v := .tuple #[.int .u32 ((hi * 4294967296 + lo) % n), .int .u32 ((hi * 4294967296 + lo) / n), .int .i32 0]) (by simp [results, Tryz.results62, go_sem]) rfl ⟨rfl, Keeps.drewN _ _ _⟩

theorem cFlag_true (w : World) : Calls Tryz.prog 123 #[.bool true] w fun e w' => e = .returned (.int .u32 4294967295) ∧ w = w' := by
  go_enter Tryz.func123, Tryz.ntmps123
  go_wp2
  go_ret
  exact ⟨rfl, rfl⟩

theorem cFlag_false (w : World) : Calls Tryz.prog 123 #[.bool false] w fun e w' => e = .returned (.int .u32 0) ∧ w = w' := by
  go_enter Tryz.func123, Tryz.ntmps123
  go_wp2
  go_ret
  exact ⟨rfl, rfl⟩
end Go.Proofs.YtfnjjanknfmibaaGreat
