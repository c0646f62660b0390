/-
  Contracts of package cell.
-/
import Derived.Test.YtfnjjanknfmibaaRows
import Derived.Test.YtfnjjanknfmibaaGround
import Derived.Test.YtfnjjanknfmibaaCellMath
import Derived.Deep.QuietTactic
import Derived.BigQuiet
import Derived.Outline
import Derived.Laws.Bits64b
import Derived.Laws.Shifts
namespace Go.Proofs.Ytfnjjanknfmibaa
open Go.RowKit

theorem or_add (hi lo : Nat) (h : hi < 4294967296) (l : lo < 4294967296) : bits .or .u64 ((hi : Int) * 4294967296) (lo : Int) = (hi : Int) * 4294967296 + (lo : Int) := by
  rw [show ((hi : Int) * 4294967296) = ((hi * 4294967296 : Nat) : Int) by omega, bits_or_u64_nat _ _ (by omega) (by omega)]
  have := Nat.shiftLeft_add_eq_or_of_lt (i := 32) (b := lo) (by omega) hi
  simp only [Nat.shiftLeft_eq, Nat.reducePow] at this
  omega

theorem or_addI (hi lo : Int) (h0 : 0 ≤ hi) (h : hi < 4294967296) (l0 : 0 ≤ lo) (l : lo < 4294967296) : bits .or .u64 (hi * 4294967296) lo = hi * 4294967296 + lo := by
  obtain ⟨a, rfl⟩ := Int.eq_ofNat_of_zero_le h0
  obtain ⟨b, rfl⟩ := Int.eq_ofNat_of_zero_le l0
  exact or_add a b (by omega) (by omega)

theorem cDouble_any (w : World) (lo hi : Int) (l0 : 0 ≤ lo) (l : lo < 4294967296) (h0 : 0 ≤ hi) (h : hi < 4294967296) :
    Calls Try.prog 74 #[.int .u32 lo, .int .u32 hi] w fun e w' => e = .returned (.int .u64 (hi * 4294967296 + lo)) ∧ w = w' := by
  have H := Lib.hid (or_addI hi lo h0 h l0 l)
  go_enter Try.func74, Try.ntmps74
  go_wp2
  go_ret
  exact ⟨congrArg (fun x => Ending.returned (.int .u64 x)) H.out, rfl⟩

theorem cApart_any (w : World) (d : Int) (h0 : 0 ≤ d) (h : d < 18446744073709551616) :
    Calls Try.prog 73 #[.int .u64 d] w fun e w' => e = .returned (.tuple #[.int .u32 (d % 4294967296), .int .u32 (d / 4294967296)]) ∧ w = w' := by
  go_enter Try.func73, Try.ntmps73
  go_wp2
  go_ret2
  exact ⟨rfl, rfl⟩

theorem cProduct_any (w : World) (a b : Int) (a0 : 0 ≤ a) (a1 : a < 4294967296) (b0 : 0 ≤ b) (b1 : b < 4294967296) :
    Calls Try.prog 82 #[.int .u32 a, .int .u32 b] w fun e w' => e = .returned (.tuple #[.int .u32 (a * b % 4294967296), .int .u32 (a * b / 4294967296)]) ∧ w = w' := by
  have p0 : 0 ≤ a * b := Int.mul_nonneg a0 b0
  have p1 : a * b < 18446744073709551616 := by
    have := Int.mul_le_mul (show a ≤ 4294967295 by omega) (show b ≤ 4294967295 by omega) b0 (by decide)
    omega
  go_enter Try.func82, Try.ntmps82
  go_wp2_with (go_at_call 73; refine (cApart_any _ _ p0 p1).mono ?_; rintro e w' ⟨rfl, rfl⟩)
  go_ret2
  exact ⟨rfl, rfl⟩

theorem cSum_any (w : World) (a b c d : Int) (a0 : 0 ≤ a) (a1 : a < 4294967296) (b0 : 0 ≤ b) (b1 : b < 4294967296) (c0 : 0 ≤ c) (c1 : c < 4294967296) (d0 : 0 ≤ d) (d1 : d < 4294967296) :
    Calls Try.prog 83 #[.int .u32 a, .int .u32 b, .int .u32 c, .int .u32 d] w fun e w' => e = .returned (.tuple #[.int .u32 ((b * 4294967296 + a + (d * 4294967296 + c)) % 4294967296), .int .u32 ((b * 4294967296 + a + (d * 4294967296 + c)) % 18446744073709551616 / 4294967296)]) ∧ w = w' := by
  go_enter Try.func83, Try.ntmps83
  go_wp2_with (first | (go_at_call 74; refine (cDouble_any _ _ _ (by omega) (by omega) (by omega) (by omega)).mono ?_; rintro e w' ⟨rfl, rfl⟩) | (go_at_call 73; refine (cApart_any _ ((b * 4294967296 + a + (d * 4294967296 + c)) % 18446744073709551616) (by omega) (by omega)).mono ?_; rintro e w' ⟨rfl, rfl⟩))
  go_ret2
  exact ⟨rfl, rfl⟩

theorem cNegative_any (w : World) (a b : Int) (a0 : 0 ≤ a) (a1 : a < 4294967296) (b0 : 0 ≤ b) (b1 : b < 4294967296) :
    Calls Try.prog 50 #[.int .u32 a, .int .u32 b] w fun e w' => e = .returned (.tuple #[.int .u32 ((-(b * 4294967296 + a)) % 4294967296), .int .u32 ((-(b * 4294967296 + a)) % 18446744073709551616 / 4294967296)]) ∧ w = w' := by
  go_enter Try.func50, Try.ntmps50
  go_wp2_with (first | (go_at_call 74; refine (cDouble_any _ _ _ (by omega) (by omega) (by omega) (by omega)).mono ?_; rintro e w' ⟨rfl, rfl⟩) | (go_at_call 73; refine (cApart_any _ ((-(b * 4294967296 + a)) % 18446744073709551616) (by omega) (by omega)).mono ?_; rintro e w' ⟨rfl, rfl⟩))
  go_ret2
  exact ⟨rfl, rfl⟩

/-- A division of cells without signs. -/
theorem cDivide_zero (w : World) (lo hi : Int) :
    Calls Try.prog 54 #[.int .u32 lo, .int .u32 hi, .int .u32 0] w fun e w' => e = .returned (.tuple #[.int .u32 0, .int .u32 0, .int .i32 (-10)]) ∧ w = w' := by
  go_enter Try.func54, Try.ntmps54
  go_wp2
  exact bodyPost_ret (v := .tuple #[.int .u32 0, .int .u32 0, .int .i32 (-10)]) (by simp [results, Try.results54, go_sem]) rfl ⟨rfl, rfl⟩

theorem cDivide_big (w : World) (lo hi n : Int) (l0 : 0 ≤ lo) (l1 : lo < 4294967296) (h0 : 0 ≤ hi) (h1 : hi < 4294967296) (n0 : 0 < n) (n1 : n < 4294967296) (hq : 4294967296 ≤ (hi * 4294967296 + lo) / n) :
    Calls Try.prog 54 #[.int .u32 lo, .int .u32 hi, .int .u32 n] w fun e w' => e = .returned (.tuple #[.int .u32 0, .int .u32 0, .int .i32 (-11)]) ∧ w = w' := by
  go_enter Try.func54, Try.ntmps54
  go_wp2_with (go_at_call 74; refine (cDouble_any _ _ _ (by omega) (by omega) (by omega) (by omega)).mono ?_; rintro e w' ⟨rfl, rfl⟩)
  exact bodyPost_ret (v := .tuple #[.int .u32 0, .int .u32 0, .int .i32 (-11)]) (by simp [results, Try.results54, go_sem]) rfl ⟨rfl, rfl⟩

theorem cDivide_small (w : World) (lo hi n : Int) (l0 : 0 ≤ lo) (l1 : lo < 4294967296) (h0 : 0 ≤ hi) (h1 : hi < 4294967296) (n0 : 0 < n) (n1 : n < 4294967296) (hq : (hi * 4294967296 + lo) / n < 4294967296) :
    Calls Try.prog 54 #[.int .u32 lo, .int .u32 hi, .int .u32 n] w fun e w' => e = .returned (.tuple #[.int .u32 ((hi * 4294967296 + lo) % n), .int .u32 ((hi * 4294967296 + lo) / n), .int .i32 0]) ∧ Keeps [] w w' := by
  have q0 : 0 ≤ (hi * 4294967296 + lo) / n := Int.ediv_nonneg (by omega) (by omega)
  have r0 := Int.emod_nonneg (hi * 4294967296 + lo) (show n ≠ 0 by omega)
  have r1 := Int.emod_lt_of_pos (hi * 4294967296 + lo) n0
  go_enter Try.func54, Try.ntmps54
  go_wp2_with (go_at_call 74; refine (cDouble_any _ _ _ (by omega) (by omega) (by omega) (by omega)).mono ?_; rintro e w' ⟨rfl, rfl⟩)
  go_quiet (fail)
  go_wp2
  exact bodyPost_ret (v := .tuple #[.int .u32 ((hi * 4294967296 + lo) % n), .int .u32 ((hi * 4294967296 + lo) / n), .int .i32 0]) (by simp [results, Try.results54, go_sem]) rfl ⟨rfl, Keeps.drewN _ _ _⟩

end Go.Proofs.Ytfnjjanknfmibaa
