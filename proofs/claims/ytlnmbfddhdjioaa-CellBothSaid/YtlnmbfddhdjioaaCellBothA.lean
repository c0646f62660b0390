/-
  CellBoth, walked.
-/
import Derived.Test.YtlnmbfddhdjioaaCellG
namespace Go.Proofs.Ytlnmbfddhdjioaa
set_option linter.unusedVariables false
open Go.RowKit

set_option maxRecDepth 100000 in
set_option maxHeartbeats 1000000 in
theorem CellBoth_any (w : World) (lo hi n : Int) (l0 : 0 ≤ lo) (l1 : lo ≤ 4294967295) (h0 : -2147483648 ≤ hi) (h1 : hi ≤ 2147483647) (n1 : -2147483648 ≤ n) (n2 : n ≤ 2147483647) :
    Calls Try.prog 5 #[.int .u32 lo, .int .i32 hi, .int .i32 n] w fun e w' => e = .returned (.bool true) ∧ Keeps [] w w' := by
  have KP := Keeps.refl [] w
  obtain ⟨R, Q, E, I1⟩ := Cell.isDiv_some false (hi * 4294967296 + lo) n
  obtain ⟨S, T, F, I2⟩ := Cell.isDiv_some true (hi * 4294967296 + lo) n
  have hc := Cell.both_cases _ n R Q E S T F n1 (by omega) I1 I2
  obtain ⟨r0, r1, q0, q1⟩ := Cell.isDiv_bounds _ _ n R Q E n1 (by omega) I1
  obtain ⟨s0, s1, t0, t1⟩ := Cell.isDiv_bounds _ _ n S T F n1 (by omega) I2
  have A1 := fun v => cSymmetric_is v lo hi n R Q E l0 (by omega) h0 (by omega) n1 (by omega) I1
  have A2 := fun v => cFloored_is v lo hi n S T F l0 (by omega) h0 (by omega) n1 (by omega) I2
  have HA1 := Lib.hid A1
  have HA2 := Lib.hid A2
  clear A1 A2 I1 I2
  have hD : (hi * 4294967296 + lo < 0) ↔ hi < 0 := by omega
  rw [hD] at hc
  clear hD
  rcases hc with ⟨rfl, rfl⟩ | ⟨rfl, rfl⟩ | ⟨rfl, rfl⟩ | ⟨rfl, rfl, rfl, hr⟩ | ⟨rfl, rfl, rfl, rfl, hs⟩ | ⟨rfl, rfl, hr, hs, rfl, rfl, b1, b2, b3, b4⟩
  · go_enter Try.func5, Try.ntmps5
    go_wp2_with (first
      | (go_at_call 16; refine (HA1.out _).mono ?_; rintro e w' ⟨rfl, K⟩; replace KP := KP.trans K; clear K)
      | (go_at_call 17; refine (HA2.out _).mono ?_; rintro e w' ⟨rfl, K⟩; replace KP := KP.trans K; clear K)
      | (go_at_call 21; refine (awake7_any _).mono ?_; rintro e w' ⟨rfl, K⟩; replace KP := KP.trans K; clear K))
    go_ret
    exact ⟨rfl, KP⟩
  · go_enter Try.func5, Try.ntmps5
    go_wp2_with (first
      | (go_at_call 16; refine (HA1.out _).mono ?_; rintro e w' ⟨rfl, K⟩; replace KP := KP.trans K; clear K)
      | (go_at_call 17; refine (HA2.out _).mono ?_; rintro e w' ⟨rfl, K⟩; replace KP := KP.trans K; clear K)
      | (go_at_call 21; refine (awake7_any _).mono ?_; rintro e w' ⟨rfl, K⟩; replace KP := KP.trans K; clear K))
    go_ret
    exact ⟨rfl, KP⟩
  · go_enter Try.func5, Try.ntmps5
    go_wp2_with (first
      | (go_at_call 16; refine (HA1.out _).mono ?_; rintro e w' ⟨rfl, K⟩; replace KP := KP.trans K; clear K)
      | (go_at_call 17; refine (HA2.out _).mono ?_; rintro e w' ⟨rfl, K⟩; replace KP := KP.trans K; clear K)
      | (go_at_call 21; refine (awake7_any _).mono ?_; rintro e w' ⟨rfl, K⟩; replace KP := KP.trans K; clear K))
    go_ret
    exact ⟨rfl, KP⟩
  · have g1 : (R != 0) = true := by simpa using hr
    clear hr
    go_enter Try.func5, Try.ntmps5
    go_wp2_with (first
      | (go_at_call 16; refine (HA1.out _).mono ?_; rintro e w' ⟨rfl, K⟩; replace KP := KP.trans K; clear K)
      | (go_at_call 17; refine (HA2.out _).mono ?_; rintro e w' ⟨rfl, K⟩; replace KP := KP.trans K; clear K)
      | (go_at_call 21; refine (awake7_any _).mono ?_; rintro e w' ⟨rfl, K⟩; replace KP := KP.trans K; clear K))
    go_ret
    exact ⟨rfl, KP⟩
  · by_cases hr : S = 0
    · subst hr
      clear hs
      go_enter Try.func5, Try.ntmps5
      go_wp2_with (first
      | (go_at_call 16; refine (HA1.out _).mono ?_; rintro e w' ⟨rfl, K⟩; replace KP := KP.trans K; clear K)
      | (go_at_call 17; refine (HA2.out _).mono ?_; rintro e w' ⟨rfl, K⟩; replace KP := KP.trans K; clear K)
      | (go_at_call 21; refine (awake7_any _).mono ?_; rintro e w' ⟨rfl, K⟩; replace KP := KP.trans K; clear K))
      go_ret
      exact ⟨rfl, KP⟩
    · have g1 : (S == 0) = false := by simpa using hr
      have g2 : (decide (hi < 0) == decide (n < 0)) = true := by rcases hs with e | e; exact absurd e hr; simp [e]
      clear hs hr
      go_enter Try.func5, Try.ntmps5
      go_wp2_with (first
      | (go_at_call 16; refine (HA1.out _).mono ?_; rintro e w' ⟨rfl, K⟩; replace KP := KP.trans K; clear K)
      | (go_at_call 17; refine (HA2.out _).mono ?_; rintro e w' ⟨rfl, K⟩; replace KP := KP.trans K; clear K)
      | (go_at_call 21; refine (awake7_any _).mono ?_; rintro e w' ⟨rfl, K⟩; replace KP := KP.trans K; clear K))
      go_ret
      exact ⟨rfl, KP⟩
  · have g1 : (R == 0) = false := by simpa using hr
    have g2 : (decide (hi < 0) == decide (n < 0)) = false := by
      by_cases a : hi < 0 <;> by_cases b : n < 0 <;> simp [a, b] at hs ⊢
    clear hs hr
    go_enter Try.func5, Try.ntmps5
    go_wp2_with (first
      | (go_at_call 16; refine (HA1.out _).mono ?_; rintro e w' ⟨rfl, K⟩; replace KP := KP.trans K; clear K)
      | (go_at_call 17; refine (HA2.out _).mono ?_; rintro e w' ⟨rfl, K⟩; replace KP := KP.trans K; clear K)
      | (go_at_call 21; refine (awake7_any _).mono ?_; rintro e w' ⟨rfl, K⟩; replace KP := KP.trans K; clear K))
    go_ret
    exact ⟨rfl, KP⟩
end Go.Proofs.Ytlnmbfddhdjioaa
