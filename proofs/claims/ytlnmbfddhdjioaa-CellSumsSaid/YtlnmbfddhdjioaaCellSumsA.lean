/-
  CellSums, walked.
-/
import Derived.Test.YtlnmbfddhdjioaaCellH
namespace Go.Proofs.Ytlnmbfddhdjioaa
set_option linter.unusedVariables false
open Go.RowKit

set_option maxRecDepth 100000 in
set_option maxHeartbeats 1000000 in
theorem CellSums_any (w : World) (a b c d e f : Int) (a0 : 0 ≤ a) (a1 : a ≤ 4294967295) (b0 : 0 ≤ b) (b1 : b ≤ 4294967295) (c0 : 0 ≤ c) (c1 : c ≤ 4294967295) (d0 : 0 ≤ d) (d1 : d ≤ 4294967295) (e0 : 0 ≤ e) (e1 : e ≤ 4294967295) (f0 : 0 ≤ f) (f1 : f ≤ 4294967295) :
    Calls Try.prog 6 #[.int .u32 a, .int .u32 b, .int .u32 c, .int .u32 d, .int .u32 e, .int .u32 f] w fun e w' => e = .returned (.bool true) ∧ Keeps [] w w' := by
  obtain ⟨x, y, hxy, x0, x1, y0, y1⟩ := halves ((b * 4294967296 + a + (d * 4294967296 + c)) % 18446744073709551616) (by omega) (by omega)
  obtain ⟨z, v, hzv, z0, z1, v0, v1⟩ := halves ((y * 4294967296 + x + (f * 4294967296 + e)) % 18446744073709551616) (by omega) (by omega)
  obtain ⟨u, t, hut, u0, u1, t0, t1⟩ := halves ((d * 4294967296 + c + (f * 4294967296 + e)) % 18446744073709551616) (by omega) (by omega)
  obtain ⟨n, m, hnm, n0, n1, m0, m1⟩ := halves ((-(b * 4294967296 + a)) % 18446744073709551616) (by omega) (by omega)
  have hp := mul_lt a b a0 (by omega) b0 (by omega)
  obtain ⟨pl, ph, hpp, p0, p1, p2, p3⟩ := halves (a * b) hp.1 hp.2
  have hq := mul_lt a (b / 2) a0 (by omega) (by omega) (by omega)
  obtain ⟨ql, qh, hqq, q0, q1, q2, q3⟩ := halves (a * (b / 2)) hq.1 hq.2
  have hr := mul_lt a (b - b / 2) a0 (by omega) (by omega) (by omega)
  obtain ⟨rl, rh, hrr, r0, r1, r2, r3⟩ := halves (a * (b - b / 2)) hr.1 hr.2
  have hsum : a * (b - b / 2) = a * b - a * (b / 2) := Int.mul_sub _ _ _
  have S1 := Lib.hid fun k => cSum_to k a b c d x y a0 (by omega) b0 (by omega) c0 (by omega) d0 (by omega) x0 x1 hxy
  have S2 := Lib.hid fun k => cSum_to k x y e f z v x0 (by omega) y0 (by omega) e0 (by omega) f0 (by omega) z0 z1 hzv
  have S3 := Lib.hid fun k => cSum_to k c d e f u t c0 (by omega) d0 (by omega) e0 (by omega) f0 (by omega) u0 u1 hut
  have S4 := Lib.hid fun k => cSum_to k a b u t z v a0 (by omega) b0 (by omega) u0 (by omega) t0 (by omega) z0 z1 (by omega)
  have S5 := Lib.hid fun k => cSum_to k a b n m 0 0 a0 (by omega) b0 (by omega) n0 (by omega) m0 (by omega) (by decide) (by decide) (by omega)
  have N1 := Lib.hid fun k => cNegative_to k a b n m a0 (by omega) b0 (by omega) n0 n1 hnm
  have P1 := Lib.hid fun k => cProduct_to k a b pl ph a0 (by omega) b0 (by omega) p0 p1 hpp
  have P2 := Lib.hid fun k => cProduct_to k b a pl ph b0 (by omega) a0 (by omega) p0 p1 (by rw [Int.mul_comm]; exact hpp)
  have P3 := Lib.hid fun k => cProduct_to k a (b / 2) ql qh a0 (by omega) (by omega) (by omega) q0 q1 hqq
  have P4 := Lib.hid fun k => cProduct_to k a (b - b / 2) rl rh a0 (by omega) (by omega) (by omega) r0 r1 hrr
  have S6 := Lib.hid fun k => cSum_to k ql qh rl rh pl ph q0 (by omega) q2 (by omega) r0 (by omega) r2 (by omega) p0 p1 (by omega)
  clear hxy hzv hut hnm hp hpp hq hqq hr hrr hsum
  go_enter Try.func6, Try.ntmps6
  go_wp2_with (first
    | ((with_reducible refine (S1.out _).mono ?_); rintro e w' ⟨rfl, rfl⟩)
    | ((with_reducible refine (S2.out _).mono ?_); rintro e w' ⟨rfl, rfl⟩)
    | ((with_reducible refine (S3.out _).mono ?_); rintro e w' ⟨rfl, rfl⟩)
    | ((with_reducible refine (S4.out _).mono ?_); rintro e w' ⟨rfl, rfl⟩)
    | ((with_reducible refine (S5.out _).mono ?_); rintro e w' ⟨rfl, rfl⟩)
    | ((with_reducible refine (S6.out _).mono ?_); rintro e w' ⟨rfl, rfl⟩)
    | ((with_reducible refine (N1.out _).mono ?_); rintro e w' ⟨rfl, rfl⟩)
    | ((with_reducible refine (P1.out _).mono ?_); rintro e w' ⟨rfl, rfl⟩)
    | ((with_reducible refine (P2.out _).mono ?_); rintro e w' ⟨rfl, rfl⟩)
    | ((with_reducible refine (P3.out _).mono ?_); rintro e w' ⟨rfl, rfl⟩)
    | ((with_reducible refine (P4.out _).mono ?_); rintro e w' ⟨rfl, rfl⟩)
    | (go_at_call 21; refine (awake7_any _).mono ?_; rintro e w' ⟨rfl, K⟩))
  go_ret
  exact ⟨rfl, K⟩
end Go.Proofs.Ytlnmbfddhdjioaa
