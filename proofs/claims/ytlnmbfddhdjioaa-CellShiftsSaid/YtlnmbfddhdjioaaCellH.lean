/-
  Sums, products and shifts, by what they answer.
-/
import Derived.Test.YtlnmbfddhdjioaaCellG
namespace Go.Proofs.Ytlnmbfddhdjioaa
set_option linter.unusedVariables false
open Go.RowKit

theorem cSum_to (w : World) (a b c d lo hi : Int) (a0 : 0 ≤ a) (a1 : a < 4294967296) (b0 : 0 ≤ b) (b1 : b < 4294967296) (c0 : 0 ≤ c) (c1 : c < 4294967296) (d0 : 0 ≤ d) (d1 : d < 4294967296)
    (l0 : 0 ≤ lo) (l1 : lo < 4294967296) (h : (b * 4294967296 + a + (d * 4294967296 + c)) % 18446744073709551616 = hi * 4294967296 + lo) :
    Calls Try.prog 19 #[.int .u32 a, .int .u32 b, .int .u32 c, .int .u32 d] w fun e w' => e = .returned (.tuple #[.int .u32 lo, .int .u32 hi]) ∧ w = w' := by
  have k := cSum_any w a b c d a0 a1 b0 b1 c0 c1 d0 d1
  rw [show (b * 4294967296 + a + (d * 4294967296 + c)) % 4294967296 = lo by omega, show (b * 4294967296 + a + (d * 4294967296 + c)) % 18446744073709551616 / 4294967296 = hi by omega] at k
  exact k

theorem cNegative_to (w : World) (a b lo hi : Int) (a0 : 0 ≤ a) (a1 : a < 4294967296) (b0 : 0 ≤ b) (b1 : b < 4294967296)
    (l0 : 0 ≤ lo) (l1 : lo < 4294967296) (h : (-(b * 4294967296 + a)) % 18446744073709551616 = hi * 4294967296 + lo) :
    Calls Try.prog 20 #[.int .u32 a, .int .u32 b] w fun e w' => e = .returned (.tuple #[.int .u32 lo, .int .u32 hi]) ∧ w = w' := by
  have k := cNegative_any w a b a0 a1 b0 b1
  rw [show (-(b * 4294967296 + a)) % 4294967296 = lo by omega, show (-(b * 4294967296 + a)) % 18446744073709551616 / 4294967296 = hi by omega] at k
  exact k

theorem cProduct_to (w : World) (a b lo hi : Int) (a0 : 0 ≤ a) (a1 : a < 4294967296) (b0 : 0 ≤ b) (b1 : b < 4294967296)
    (l0 : 0 ≤ lo) (l1 : lo < 4294967296) (h : a * b = hi * 4294967296 + lo) :
    Calls Try.prog 8 #[.int .u32 a, .int .u32 b] w fun e w' => e = .returned (.tuple #[.int .u32 lo, .int .u32 hi]) ∧ w = w' := by
  have k := cProduct_any w a b a0 a1 b0 b1
  rw [show a * b % 4294967296 = lo by omega, show a * b / 4294967296 = hi by omega] at k
  exact k

/-- A number of 64 bits is a low and a high cell. -/
theorem halves (X : Int) (h0 : 0 ≤ X) (h1 : X < 18446744073709551616) : ∃ lo hi : Int, X = hi * 4294967296 + lo ∧ 0 ≤ lo ∧ lo < 4294967296 ∧ 0 ≤ hi ∧ hi < 4294967296 :=
  ⟨X % 4294967296, X / 4294967296, by omega, by omega, by omega, by omega, by omega⟩

theorem mul_lt (a b : Int) (a0 : 0 ≤ a) (a1 : a < 4294967296) (b0 : 0 ≤ b) (b1 : b < 4294967296) : 0 ≤ a * b ∧ a * b < 18446744073709551616 := by
  refine ⟨Int.mul_nonneg a0 b0, ?_⟩
  have := Int.mul_le_mul (show a ≤ 4294967295 by omega) (show b ≤ 4294967295 by omega) b0 (by decide)
  omega
end Go.Proofs.Ytlnmbfddhdjioaa
