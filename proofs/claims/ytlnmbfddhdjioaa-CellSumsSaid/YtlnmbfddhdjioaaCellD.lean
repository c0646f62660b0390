/-
  Contracts of the document's: Divide, Both, Shift; of the statements' own: less, awake.
-/
import Derived.Test.YtlnmbfddhdjioaaCellC
namespace Go.Proofs.Ytlnmbfddhdjioaa
set_option linter.unusedVariables false
open Go.RowKit

theorem r7Long_any (w : World) (x m : Int) (x0 : 0 ≤ x) (hx : x < 18446744073709551616) (hm0 : 0 < m) (hm : m ≤ 4294967296) :
    Calls Try.prog 25 #[.int .u64 x, .int .u64 m] w fun e w' => e = .returned (.tuple #[.int .u64 (x % m), .int .u64 (x / m)]) ∧ w = w' := by
  obtain ⟨a, rfl⟩ := Int.eq_ofNat_of_zero_le x0
  obtain ⟨b, rfl⟩ := Int.eq_ofNat_of_zero_le (Int.le_of_lt hm0)
  exact r7Long_nat w a b (by omega) (by omega) (by omega)

set_option maxHeartbeats 1000000 in
theorem r7Divide_is (w : World) (lo hi n R Q E : Int) (l0 : 0 ≤ lo) (l1 : lo < 4294967296) (h0 : 0 ≤ hi) (h1 : hi < 4294967296) (n1 : n < 4294967296) (h : Cell.IsDivU (hi * 4294967296 + lo) n R Q E) :
    Calls Try.prog 15 #[.int .u32 lo, .int .u32 hi, .int .u32 n] w fun e w' => e = .returned (.tuple #[.int .u32 R, .int .u32 Q, .int .i32 E]) ∧ w = w' := by
  rw [Int.add_comm] at h
  rcases h with ⟨rfl, rfl, rfl, rfl⟩ | ⟨n0, hq, rfl, rfl, rfl⟩ | ⟨n0, hq, rfl, rfl, rfl⟩
  · go_enter Try.func15, Try.ntmps15
    go_wp2
    exact bodyPost_ret (v := .tuple #[.int .u32 0, .int .u32 0, .int .i32 (-10)]) (by simp [results, Try.results15, go_sem]) rfl ⟨rfl, rfl⟩
  · go_enter Try.func15, Try.ntmps15
    go_wp2_with (first | (go_at_call 10; refine (r7Double_any _ _ _ l0 l1 h0 h1).mono ?_; rintro e w' ⟨rfl, rfl⟩) | (go_at_call 25; refine (r7Long_any _ (lo + hi * 4294967296) n (by omega) (by omega) n0 (by omega)).mono ?_; rintro e w' ⟨rfl, rfl⟩))
    exact bodyPost_ret (v := .tuple #[.int .u32 0, .int .u32 0, .int .i32 (-11)]) (by simp [results, Try.results15, go_sem]) rfl ⟨rfl, rfl⟩
  · have q0 : 0 ≤ (lo + hi * 4294967296) / n := Int.ediv_nonneg (by omega) (by omega)
    have r0 := Int.emod_nonneg (lo + hi * 4294967296) (show n ≠ 0 by omega)
    have r1 := Int.emod_lt_of_pos (lo + hi * 4294967296) n0
    go_enter Try.func15, Try.ntmps15
    go_wp2_with (first | (go_at_call 10; refine (r7Double_any _ _ _ l0 l1 h0 h1).mono ?_; rintro e w' ⟨rfl, rfl⟩) | (go_at_call 25; refine (r7Long_any _ (lo + hi * 4294967296) n (by omega) (by omega) n0 (by omega)).mono ?_; rintro e w' ⟨rfl, rfl⟩))
    exact bodyPost_ret (v := .tuple #[.int .u32 ((lo + hi * 4294967296) % n), .int .u32 ((lo + hi * 4294967296) / n), .int .i32 0]) (by simp [results, Try.results15, go_sem]) rfl ⟨rfl, rfl⟩

theorem less7_any (w : World) (a b : Int) (a0 : -2147483648 ≤ a) (a1 : a < 2147483648) (b0 : -2147483648 ≤ b) (b1 : b < 2147483648) (h : b.natAbs < a.natAbs) :
    Calls Try.prog 22 #[.int .i32 a, .int .i32 b] w fun e w' => e = .returned (.bool false) ∧ w = w' := by
  go_enter Try.func22, Try.ntmps22
  go_wp2
  all_goals
    go_ret
    refine ⟨?_, rfl⟩
    first | rfl | (simp; omega)

end Go.Proofs.Ytlnmbfddhdjioaa
