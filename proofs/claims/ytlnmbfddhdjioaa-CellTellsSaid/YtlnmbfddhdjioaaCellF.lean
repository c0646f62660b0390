/-
  The document's signed division, whatever it answers; its Shift.
-/
import Derived.Test.YtlnmbfddhdjioaaCellE
namespace Go.Proofs.Ytlnmbfddhdjioaa
set_option linter.unusedVariables false
open Go.RowKit

theorem r7Both_is (w : World) (fl : Bool) (lo hi n R Q E : Int) (l0 : 0 ≤ lo) (l1 : lo < 4294967296) (h0 : -2147483648 ≤ hi) (h1 : hi < 2147483648) (n1 : -2147483648 ≤ n) (n2 : n < 2147483648) (h : Cell.IsDiv fl (hi * 4294967296 + lo) n R Q E) :
    Calls Try.prog 18 #[.int .u32 lo, .int .i32 hi, .int .i32 n, .bool fl] w fun e w' => e = .returned (.tuple #[.int .i32 R, .int .i32 Q, .int .i32 E]) ∧ w = w' := by
  by_cases n0 : n = 0
  · subst n0
    rcases h with ⟨_, rfl, rfl, rfl⟩ | ⟨h, _⟩ | ⟨h, _⟩
    · exact r7Both_zero w fl lo hi
    · exact absurd rfl h
    · exact absurd rfl h
  obtain ⟨X, m, q, r, hX, hm, hq, hr, k0, k1, k2, k3, d1, d2⟩ := Cell.facts (hi * 4294967296 + lo) n n0
  by_cases c1 : hi < 0 <;> by_cases c2 : n < 0
  · have hD : hi * 4294967296 + lo < 0 := by omega
    rw [if_neg (by simp only [ne_eq, eq_iff_iff]; omega)] at d1
    rw [if_pos hD] at d2
    have two : Two X m q r := ⟨hq.symm, hr.symm, by omega, by omega, by omega, by omega, k0, k1, k2, k3⟩
    have hX2 : X = -(hi * 4294967296 + lo) := by omega
    have hm2 : m = -n := by omega
    cases fl
    · have hQ : Cell.quoOf false (hi * 4294967296 + lo) n = q := by rw [Cell.quo_false, d1]
      have hR : Cell.remOf false (hi * 4294967296 + lo) n = -r := by rw [Cell.rem_false, d2]
      rcases h with ⟨g, _⟩ | ⟨_, g, rfl, rfl, rfl⟩ | ⟨_, g0, g1, rfl, rfl, rfl⟩
      · exact absurd g n0
      · rw [hQ] at g; exact r7Both_nn_false_any_throws w lo hi n X m q r l0 l1 h0 h1 n1 n2 (by omega) (by omega) hX2 hm2 two (by omega)
      · rw [hQ] at g0 g1; rw [hQ, hR]; exact r7Both_nn_false_any_tells w lo hi n X m q r l0 l1 h0 h1 n1 n2 (by omega) (by omega) hX2 hm2 two (by omega)
    · have hL : Cell.lessB (-r) n = false := by
        unfold Cell.lessB
        have e1 : decide (-r ≠ 0) = decide (r ≠ 0) := by rw [decide_eq_decide]; omega
        have e2 : decide (-r < 0) = decide (0 < r) := by rw [decide_eq_decide]; omega
        have e3 : decide (n < 0) = true := by simp; omega
        rw [e1, e2, e3]
        rcases Int.lt_or_eq_of_le k0 with g | g
        · rw [decide_eq_true g]; simp
        · rw [show decide (r ≠ 0) = false by simp; omega]; rfl
      have hQ : Cell.quoOf true (hi * 4294967296 + lo) n = q := by rw [Cell.quo_true, d1, d2, hL]; rfl
      have hR : Cell.remOf true (hi * 4294967296 + lo) n = -r := by rw [Cell.rem_true, d2, hL]; rfl
      rcases h with ⟨g, _⟩ | ⟨_, g, rfl, rfl, rfl⟩ | ⟨_, g0, g1, rfl, rfl, rfl⟩
      · exact absurd g n0
      · rw [hQ] at g; exact r7Both_nn_true_any_throws w lo hi n X m q r l0 l1 h0 h1 n1 n2 (by omega) (by omega) hX2 hm2 two (by omega)
      · rw [hQ] at g0 g1; rw [hQ, hR]; exact r7Both_nn_true_any_tells w lo hi n X m q r l0 l1 h0 h1 n1 n2 (by omega) (by omega) hX2 hm2 two (by omega)
  · have hD : hi * 4294967296 + lo < 0 := by omega
    rw [if_pos (by simp only [ne_eq, eq_iff_iff]; omega)] at d1
    rw [if_pos hD] at d2
    obtain rfl : m = n := by omega
    have two : Two X m q r := ⟨hq.symm, hr.symm, by omega, by omega, by omega, by omega, k0, k1, k2, k3⟩
    have hX2 : X = -(hi * 4294967296 + lo) := by omega
    cases fl
    · have hQ : Cell.quoOf false (hi * 4294967296 + lo) m = -q := by rw [Cell.quo_false, d1]
      have hR : Cell.remOf false (hi * 4294967296 + lo) m = -r := by rw [Cell.rem_false, d2]
      rcases h with ⟨g, _⟩ | ⟨_, g, rfl, rfl, rfl⟩ | ⟨_, g0, g1, rfl, rfl, rfl⟩
      · exact absurd g n0
      · rw [hQ] at g; exact r7Both_np_false_any_throws w lo hi m X q r l0 l1 h0 h1 n1 n2 (by omega) (by omega) hX2 two (by omega)
      · rw [hQ] at g0 g1; rw [hQ, hR]; exact r7Both_np_false_any_tells w lo hi m X q r l0 l1 h0 h1 n1 n2 (by omega) (by omega) hX2 two (by omega)
    · by_cases c3 : 0 < r
      · have hL : Cell.lessB (-r) m = true := by
          unfold Cell.lessB
          have e1 : decide (-r ≠ 0) = decide (r ≠ 0) := by rw [decide_eq_decide]; omega
          have e2 : decide (-r < 0) = decide (0 < r) := by rw [decide_eq_decide]; omega
          have e3 : decide (m < 0) = false := by simp; omega
          rw [e1, e2, e3]
          have e4 : decide (r ≠ 0) = true := by simp; omega
          rw [e4]; simp; omega
        have hQ : Cell.quoOf true (hi * 4294967296 + lo) m = -(q + 1) := by rw [Cell.quo_true, d1, d2, hL] <;> (show -q - 1 = _; omega)
        have hR : Cell.remOf true (hi * 4294967296 + lo) m = (m - r) := by rw [Cell.rem_true, d2, hL] <;> (show -r + m = _; omega)
        rcases h with ⟨g, _⟩ | ⟨_, g, rfl, rfl, rfl⟩ | ⟨_, g0, g1, rfl, rfl, rfl⟩
        · exact absurd g n0
        · rw [hQ] at g; exact r7Both_np_true_pos_throws w lo hi m X q r l0 l1 h0 h1 n1 n2 (by omega) (by omega) hX2 two c3 (by omega)
        · rw [hQ] at g0 g1; rw [hQ, hR]; exact r7Both_np_true_pos_tells w lo hi m X q r l0 l1 h0 h1 n1 n2 (by omega) (by omega) hX2 two c3 (by omega)
      · have hL : Cell.lessB (-r) m = false := by
          unfold Cell.lessB
          have e1 : decide (-r ≠ 0) = decide (r ≠ 0) := by rw [decide_eq_decide]; omega
          have e2 : decide (-r < 0) = decide (0 < r) := by rw [decide_eq_decide]; omega
          have e3 : decide (m < 0) = false := by simp; omega
          rw [e1, e2, e3]
          have e4 : decide (r ≠ 0) = false := by simp; omega
          rw [e4]; rfl
        have hQ : Cell.quoOf true (hi * 4294967296 + lo) m = -q := by rw [Cell.quo_true, d1, d2, hL]; rfl
        have hR : Cell.remOf true (hi * 4294967296 + lo) m = 0 := by rw [Cell.rem_true, d2, hL] <;> (show -r = _; omega)
        rcases h with ⟨g, _⟩ | ⟨_, g, rfl, rfl, rfl⟩ | ⟨_, g0, g1, rfl, rfl, rfl⟩
        · exact absurd g n0
        · rw [hQ] at g; exact r7Both_np_true_zero_throws w lo hi m X q r l0 l1 h0 h1 n1 n2 (by omega) (by omega) hX2 two (by omega) (by omega)
        · rw [hQ] at g0 g1; rw [hQ, hR]; exact r7Both_np_true_zero_tells w lo hi m X q r l0 l1 h0 h1 n1 n2 (by omega) (by omega) hX2 two (by omega) (by omega)
  · have hD : ¬ hi * 4294967296 + lo < 0 := by omega
    rw [if_pos (by simp only [ne_eq, eq_iff_iff]; omega)] at d1
    rw [if_neg hD] at d2
    have two : Two X m q r := ⟨hq.symm, hr.symm, by omega, by omega, by omega, by omega, k0, k1, k2, k3⟩
    have hX2 : X = hi * 4294967296 + lo := by omega
    have hm2 : m = -n := by omega
    cases fl
    · have hQ : Cell.quoOf false (hi * 4294967296 + lo) n = -q := by rw [Cell.quo_false, d1]
      have hR : Cell.remOf false (hi * 4294967296 + lo) n = r := by rw [Cell.rem_false, d2]
      rcases h with ⟨g, _⟩ | ⟨_, g, rfl, rfl, rfl⟩ | ⟨_, g0, g1, rfl, rfl, rfl⟩
      · exact absurd g n0
      · rw [hQ] at g; exact r7Both_pn_false_any_throws w lo hi n X m q r l0 l1 h0 h1 n1 n2 (by omega) (by omega) hX2 hm2 two (by omega)
      · rw [hQ] at g0 g1; rw [hQ, hR]; exact r7Both_pn_false_any_tells w lo hi n X m q r l0 l1 h0 h1 n1 n2 (by omega) (by omega) hX2 hm2 two (by omega)
    · by_cases c3 : 0 < r
      · have hL : Cell.lessB (r) n = true := by
          unfold Cell.lessB
          have e1 : decide (r ≠ 0) = decide (r ≠ 0) := by rfl
          have e2 : decide (r < 0) = false := by simp; omega
          have e3 : decide (n < 0) = true := by simp; omega
          rw [e1, e2, e3]
          have e4 : decide (r ≠ 0) = true := by simp; omega
          rw [e4]
          rfl
        have hQ : Cell.quoOf true (hi * 4294967296 + lo) n = -(q + 1) := by rw [Cell.quo_true, d1, d2, hL] <;> (show -q - 1 = _; omega)
        have hR : Cell.remOf true (hi * 4294967296 + lo) n = -(m - r) := by rw [Cell.rem_true, d2, hL] <;> (show r + n = _; omega)
        rcases h with ⟨g, _⟩ | ⟨_, g, rfl, rfl, rfl⟩ | ⟨_, g0, g1, rfl, rfl, rfl⟩
        · exact absurd g n0
        · rw [hQ] at g; exact r7Both_pn_true_pos_throws w lo hi n X m q r l0 l1 h0 h1 n1 n2 (by omega) (by omega) hX2 hm2 two c3 (by omega)
        · rw [hQ] at g0 g1; rw [hQ, hR]; exact r7Both_pn_true_pos_tells w lo hi n X m q r l0 l1 h0 h1 n1 n2 (by omega) (by omega) hX2 hm2 two c3 (by omega)
      · have hL : Cell.lessB (r) n = false := by
          unfold Cell.lessB
          have e1 : decide (r ≠ 0) = decide (r ≠ 0) := by rfl
          have e2 : decide (r < 0) = false := by simp; omega
          have e3 : decide (n < 0) = true := by simp; omega
          rw [e1, e2, e3]
          have e4 : decide (r ≠ 0) = false := by simp; omega
          rw [e4]; rfl
        have hQ : Cell.quoOf true (hi * 4294967296 + lo) n = -q := by rw [Cell.quo_true, d1, d2, hL]; rfl
        have hR : Cell.remOf true (hi * 4294967296 + lo) n = 0 := by rw [Cell.rem_true, d2, hL] <;> (show r = _; omega)
        rcases h with ⟨g, _⟩ | ⟨_, g, rfl, rfl, rfl⟩ | ⟨_, g0, g1, rfl, rfl, rfl⟩
        · exact absurd g n0
        · rw [hQ] at g; exact r7Both_pn_true_zero_throws w lo hi n X m q r l0 l1 h0 h1 n1 n2 (by omega) (by omega) hX2 hm2 two (by omega) (by omega)
        · rw [hQ] at g0 g1; rw [hQ, hR]; exact r7Both_pn_true_zero_tells w lo hi n X m q r l0 l1 h0 h1 n1 n2 (by omega) (by omega) hX2 hm2 two (by omega) (by omega)
  · have hD : ¬ hi * 4294967296 + lo < 0 := by omega
    rw [if_neg (by simp only [ne_eq, eq_iff_iff]; omega)] at d1
    rw [if_neg hD] at d2
    obtain rfl : m = n := by omega
    have two : Two X m q r := ⟨hq.symm, hr.symm, by omega, by omega, by omega, by omega, k0, k1, k2, k3⟩
    have hX2 : X = hi * 4294967296 + lo := by omega
    cases fl
    · have hQ : Cell.quoOf false (hi * 4294967296 + lo) m = q := by rw [Cell.quo_false, d1]
      have hR : Cell.remOf false (hi * 4294967296 + lo) m = r := by rw [Cell.rem_false, d2]
      rcases h with ⟨g, _⟩ | ⟨_, g, rfl, rfl, rfl⟩ | ⟨_, g0, g1, rfl, rfl, rfl⟩
      · exact absurd g n0
      · rw [hQ] at g; exact r7Both_pp_false_any_throws w lo hi m X q r l0 l1 h0 h1 n1 n2 (by omega) (by omega) hX2 two (by omega)
      · rw [hQ] at g0 g1; rw [hQ, hR]; exact r7Both_pp_false_any_tells w lo hi m X q r l0 l1 h0 h1 n1 n2 (by omega) (by omega) hX2 two (by omega)
    · have hL : Cell.lessB (r) m = false := by
        unfold Cell.lessB
        have e1 : decide (r ≠ 0) = decide (r ≠ 0) := by rfl
        have e2 : decide (r < 0) = false := by simp; omega
        have e3 : decide (m < 0) = false := by simp; omega
        rw [e1, e2, e3]
        simp
      have hQ : Cell.quoOf true (hi * 4294967296 + lo) m = q := by rw [Cell.quo_true, d1, d2, hL]; rfl
      have hR : Cell.remOf true (hi * 4294967296 + lo) m = r := by rw [Cell.rem_true, d2, hL]; rfl
      rcases h with ⟨g, _⟩ | ⟨_, g, rfl, rfl, rfl⟩ | ⟨_, g0, g1, rfl, rfl, rfl⟩
      · exact absurd g n0
      · rw [hQ] at g; exact r7Both_pp_true_any_throws w lo hi m X q r l0 l1 h0 h1 n1 n2 (by omega) (by omega) hX2 two (by omega)
      · rw [hQ] at g0 g1; rw [hQ, hR]; exact r7Both_pp_true_any_tells w lo hi m X q r l0 l1 h0 h1 n1 n2 (by omega) (by omega) hX2 two (by omega)

theorem sh_step (x i : Nat) : x * 2 ^ (i + 1) % 4294967296 = (x * 2 ^ i % 4294967296 + x * 2 ^ i % 4294967296) % 4294967296 := by
  rw [Nat.pow_succ, ← Nat.mul_assoc]; omega

set_option maxHeartbeats 1000000 in
theorem r7ShiftL_any (w : World) (x k : Nat) (hx : x < 4294967296) (hk : k < 4294967296) :
    Calls Try.prog 13 #[.int .u32 x, .int .u32 k, .bool true] w fun e w' => e = .returned (.int .u32 ((x : Int) * 2 ^ min (k : Int).toNat 32 % 4294967296)) ∧ w = w' := by
  have hend : ((x : Int) * 2 ^ min (k : Int).toNat 32 % 4294967296) = ((x * 2 ^ min k 32 % 4294967296 : Nat) : Int) := by simp
  rw [hend]
  obtain ⟨V, hV⟩ : ∃ V : Int, ((x * 2 ^ min k 32 % 4294967296 : Nat) : Int) = V := ⟨_, rfl⟩
  rw [hV]
  have HV := Lib.hid hV
  clear hend hV
  go_enter Try.func13, Try.ntmps13
  go_wp2
  go_loop [0, 7] (fun t i => ∃ j : Nat, j ≤ min k 32 ∧ i = .int .u32 (j : Int) ∧ t = .int .u32 ((x * 2 ^ j % 4294967296 : Nat) : Int)) (fun _ i => min k 32 - (intOf i).toNat)
  case atStart => exact ⟨0, Nat.zero_le _, rfl, by simp; omega⟩
  case round =>
    obtain ⟨j, hj, rfl, rfl⟩ := hrel
    have hs := sh_step x j
    have hlt := Nat.mod_lt (x * 2 ^ j) (show 4294967296 > 0 by decide)
    by_cases hc : j < min k 32
    · have c1 : j < k := by omega
      have c2 : j < 32 := by omega
      generalize x * 2 ^ j % 4294967296 = t at *
      have HS := Lib.hid hs
      have HC := Lib.hid hc
      have HJ := Lib.hid hj
      clear hs hc hj
      go_wp2
      go_round
      case rel => exact ⟨j + 1, by have := HC.out; omega, by go_num, by rw [HS.out]; go_num⟩
      case measure => have := HC.out; simp [intOf] <;> omega
    · have he : j = min k 32 := by omega
      rcases Nat.lt_or_ge j k with c | c
      · have c2 : j = 32 := by omega
        subst c2
        have HE := Lib.hid he
        clear he hc hj hs
        generalize ht : x * 2 ^ 32 % 4294967296 = t at *
        have HT := Lib.hid ht
        clear ht
        go_wp2
        go_ret
        exact ⟨congrArg (fun z => Ending.returned (.int .u32 z)) (by rw [← HV.out, ← HE.out, HT.out]), rfl⟩
      · have c2 : j = k := by omega
        have HE := Lib.hid he
        clear he hc hj hs
        generalize ht : x * 2 ^ j % 4294967296 = t at *
        have HT := Lib.hid ht
        clear ht
        go_wp2
        go_ret
        exact ⟨congrArg (fun z => Ending.returned (.int .u32 z)) (by rw [← HV.out, ← HE.out, HT.out]), rfl⟩

set_option maxHeartbeats 1000000 in
theorem r7ShiftR_any (w : World) (x k : Nat) (hx : x < 4294967296) (hk : k < 4294967296) :
    Calls Try.prog 13 #[.int .u32 x, .int .u32 k, .bool false] w fun e w' => e = .returned (.int .u32 ((x : Int) / 2 ^ min (k : Int).toNat 32)) ∧ w = w' := by
  have hend : ((x : Int) / 2 ^ min (k : Int).toNat 32) = ((x / 2 ^ min k 32 : Nat) : Int) := by simp
  rw [hend]
  obtain ⟨V, hV⟩ : ∃ V : Int, ((x / 2 ^ min k 32 : Nat) : Int) = V := ⟨_, rfl⟩
  rw [hV]
  have HV := Lib.hid hV
  clear hend hV
  go_enter Try.func13, Try.ntmps13
  go_wp2
  go_loop [0, 7] (fun t i => ∃ j : Nat, j ≤ min k 32 ∧ i = .int .u32 (j : Int) ∧ t = .int .u32 ((x / 2 ^ j : Nat) : Int)) (fun _ i => min k 32 - (intOf i).toNat)
  case atStart => exact ⟨0, Nat.zero_le _, rfl, by simp⟩
  case round =>
    obtain ⟨j, hj, rfl, rfl⟩ := hrel
    have hs := Cell.half_pow x j
    have hlt : x / 2 ^ j ≤ x := Nat.div_le_self _ _
    by_cases hc : j < min k 32
    · have c1 : j < k := by omega
      have c2 : j < 32 := by omega
      generalize x / 2 ^ j = t at *
      have HS := Lib.hid hs
      have HC := Lib.hid hc
      have HJ := Lib.hid hj
      clear hs hc hj
      go_wp2
      go_round
      case rel => exact ⟨j + 1, by have := HC.out; omega, by go_num, by rw [HS.out]; go_num⟩
      case measure => have := HC.out; simp [intOf] <;> omega
    · have he : j = min k 32 := by omega
      rcases Nat.lt_or_ge j k with c | c
      · have c2 : j = 32 := by omega
        subst c2
        have HE := Lib.hid he
        clear he hc hj hs
        generalize ht : x / 2 ^ 32 = t at *
        have HT := Lib.hid ht
        clear ht
        go_wp2
        go_ret
        exact ⟨congrArg (fun z => Ending.returned (.int .u32 z)) (by rw [← HV.out, ← HE.out, HT.out]), rfl⟩
      · have c2 : j = k := by omega
        have HE := Lib.hid he
        clear he hc hj hs
        generalize ht : x / 2 ^ j = t at *
        have HT := Lib.hid ht
        clear ht
        go_wp2
        go_ret
        exact ⟨congrArg (fun z => Ending.returned (.int .u32 z)) (by rw [← HV.out, ← HE.out, HT.out]), rfl⟩
end Go.Proofs.Ytlnmbfddhdjioaa
