/-
  Contracts of package cell: Divide, Symmetric, Floored, whatever they answer; of the document's: Double, Product, Shift, Long.
-/
import Derived.Test.YtlnmbfddhdjioaaCellB
namespace Go.Proofs.Ytlnmbfddhdjioaa
set_option linter.unusedVariables false
open Go.RowKit

theorem cDivide_is (w : World) (lo hi n R Q E : Int) (l0 : 0 ≤ lo) (l1 : lo < 4294967296) (h0 : 0 ≤ hi) (h1 : hi < 4294967296) (n1 : n < 4294967296) (h : Cell.IsDivU (hi * 4294967296 + lo) n R Q E) :
    Calls Try.prog 14 #[.int .u32 lo, .int .u32 hi, .int .u32 n] w fun e w' => e = .returned (.tuple #[.int .u32 R, .int .u32 Q, .int .i32 E]) ∧ Keeps [] w w' := by
  rcases h with ⟨rfl, rfl, rfl, rfl⟩ | ⟨n0, hq, rfl, rfl, rfl⟩ | ⟨n0, hq, rfl, rfl, rfl⟩
  · exact (cDivide_zero w lo hi).mono fun e w' ⟨he, hw⟩ => ⟨he, hw ▸ Keeps.refl _ _⟩
  · exact (cDivide_big w lo hi n l0 l1 h0 h1 n0 n1 hq).mono fun e w' ⟨he, hw⟩ => ⟨he, hw ▸ Keeps.refl _ _⟩
  · exact cDivide_small w lo hi n l0 l1 h0 h1 n0 n1 hq

set_option maxHeartbeats 1000000 in
theorem cDivided_zero (w : World) (lo hi : Int) (f : Value) :
    Calls Try.prog 27 #[.int .u32 lo, .int .i32 hi, .int .i32 0, f] w fun e w' => e = .returned (.tuple #[.int .i32 0, .int .i32 0, .int .i32 (-10)]) ∧ w = w' := by
  go_enter Try.func27, Try.ntmps27
  go_wp2
  exact bodyPost_ret (v := .tuple #[.int .i32 0, .int .i32 0, .int .i32 (-10)]) (by simp [results, Try.results27, go_sem]) rfl ⟨rfl, rfl⟩

theorem wrap64_of (x : Int) (h0 : -9223372036854775808 ≤ x) (h1 : x < 9223372036854775808) : wrap64 x = x := by unfold wrap64; omega

theorem cDivided_symIs (w : World) (lo hi n R Q E : Int) (l0 : 0 ≤ lo) (l1 : lo < 4294967296) (h0 : -2147483648 ≤ hi) (h1 : hi < 2147483648) (n1 : -2147483648 ≤ n) (n2 : n < 2147483648) (h : Cell.IsDiv false (hi * 4294967296 + lo) n R Q E) :
    Calls Try.prog 27 #[.int .u32 lo, .int .i32 hi, .int .i32 n, .func (.func 26) #[] #[]] w fun e w' => e = .returned (.tuple #[.int .i32 R, .int .i32 Q, .int .i32 E]) ∧ Keeps [] w w' := by
  rcases h with ⟨rfl, rfl, rfl, rfl⟩ | ⟨n0, hq, rfl, rfl, rfl⟩ | ⟨n0, hq0, hq1, rfl, rfl, rfl⟩
  · exact (cDivided_zero w lo hi _).mono fun e w' ⟨he, hw⟩ => ⟨he, hw ▸ Keeps.refl _ _⟩
  · rw [Cell.quo_false] at hq
    refine cDivided_sym_big w lo hi n _ _ _ l0 l1 h0 h1 n0 n1 n2 rfl rfl rfl (Cell.tmod_lt _ _ n0) ?_
    rcases Cell.tdiv_cases (hi * 4294967296 + lo) n n0 (by omega) (by omega) with ⟨g0, g1, g2⟩ | ⟨g0, g1⟩
    · rw [wrap64_of _ g0 g1]; exact hq
    · rw [g0]; left; unfold wrap64; omega
  · rw [Cell.quo_false] at hq0 hq1 ⊢
    rw [Cell.rem_false]
    have g := wrap64_of ((hi * 4294967296 + lo).tdiv n) (by omega) (by omega)
    have k := cDivided_sym_small w lo hi n _ _ _ l0 l1 h0 h1 n0 n1 n2 rfl rfl rfl (Cell.tmod_lt _ _ n0) (by rw [g]; exact hq0) (by rw [g]; exact hq1)
    rw [g] at k
    exact k

theorem cDivided_floIs (w : World) (b : Nat) (lo hi n R Q E : Int) (l0 : 0 ≤ lo) (l1 : lo < 4294967296) (h0 : -2147483648 ≤ hi) (h1 : hi < 2147483648) (n1 : -2147483648 ≤ n) (n2 : n < 2147483648) (hc : w.cell? ⟨b, 0, none⟩ = some (.int .i32 n)) (h : Cell.IsDiv true (hi * 4294967296 + lo) n R Q E) :
    Calls Try.prog 27 #[.int .u32 lo, .int .i32 hi, .int .i32 n, .func (.func 28) #[] #[.pointer (some ⟨b, 0, none⟩)]] w fun e w' => e = .returned (.tuple #[.int .i32 R, .int .i32 Q, .int .i32 E]) ∧ Keeps [] w w' := by
  rcases h with ⟨rfl, rfl, rfl, rfl⟩ | ⟨n0, hq, rfl, rfl, rfl⟩ | ⟨n0, hq0, hq1, rfl, rfl, rfl⟩
  · exact (cDivided_zero w lo hi _).mono fun e w' ⟨he, hw⟩ => ⟨he, hw ▸ Keeps.refl _ _⟩
  · rw [Cell.quo_true] at hq
    rcases Cell.tdiv_cases (hi * 4294967296 + lo) n n0 (by omega) (by omega) with ⟨g0, g1, g2⟩ | ⟨g0, g1⟩
    · cases hl : Cell.lessB ((hi * 4294967296 + lo).tmod n) n
      · rw [hl] at hq
        exact cDivided_flo_big w b lo hi n _ _ _ l0 l1 h0 h1 n0 n1 n2 rfl rfl rfl (Cell.tmod_lt _ _ n0) hc hl (by rw [wrap64_of _ g0 g1]; exact hq)
      · rw [hl] at hq
        have g3 := g2 (fun e => by rw [e] at hl; cases hl)
        exact cDivided_les_big w b lo hi n _ _ _ l0 l1 h0 h1 n0 n1 n2 rfl rfl rfl (Cell.tmod_lt _ _ n0) hc hl (by rw [wrap64_of _ g0 g1]; exact g3) (by rw [wrap64_of _ g0 g1]; exact hq)
    · exact cDivided_flo_big w b lo hi n _ _ _ l0 l1 h0 h1 n0 n1 n2 rfl rfl rfl (Cell.tmod_lt _ _ n0) hc (by rw [g1]; rfl) (by rw [g0]; left; unfold wrap64; omega)
  · rw [Cell.quo_true] at hq0 hq1 ⊢
    rw [Cell.rem_true]
    rcases Cell.tdiv_cases (hi * 4294967296 + lo) n n0 (by omega) (by omega) with ⟨g0, g1, g2⟩ | ⟨g0, g1⟩
    · have g := wrap64_of _ g0 g1
      cases hl : Cell.lessB ((hi * 4294967296 + lo).tmod n) n
      · rw [hl] at hq0 hq1
        have k := cDivided_flo_small w b lo hi n _ _ _ l0 l1 h0 h1 n0 n1 n2 rfl rfl rfl (Cell.tmod_lt _ _ n0) hc hl (by rw [g]; exact hq0) (by rw [g]; exact hq1)
        rw [g] at k
        exact k
      · rw [hl] at hq0 hq1
        have g3 := g2 (fun e => by rw [e] at hl; cases hl)
        have k := cDivided_les_small w b lo hi n _ _ _ l0 l1 h0 h1 n0 n1 n2 rfl rfl rfl (Cell.tmod_lt _ _ n0) hc hl (by rw [g]; exact g3) (by rw [g]; exact hq0) (by rw [g]; exact hq1)
        rw [g] at k
        exact k
    · rw [g1, g0] at hq1
      rw [show Cell.lessB 0 n = false from rfl] at hq1
      exact absurd hq1 (by decide)

theorem cSymmetric_is (w : World) (lo hi n R Q E : Int) (l0 : 0 ≤ lo) (l1 : lo < 4294967296) (h0 : -2147483648 ≤ hi) (h1 : hi < 2147483648) (n1 : -2147483648 ≤ n) (n2 : n < 2147483648) (h : Cell.IsDiv false (hi * 4294967296 + lo) n R Q E) :
    Calls Try.prog 16 #[.int .u32 lo, .int .i32 hi, .int .i32 n] w fun e w' => e = .returned (.tuple #[.int .i32 R, .int .i32 Q, .int .i32 E]) ∧ Keeps [] w w' := by
  have H := Lib.hid h
  clear h
  go_enter Try.func16, Try.ntmps16
  go_wp2_with (go_at_call 27; refine (cDivided_symIs _ lo hi n R Q E l0 l1 h0 h1 n1 n2 H.out).mono ?_; rintro e w' ⟨rfl, K⟩)
  exact bodyPost_ret (v := .tuple #[.int .i32 R, .int .i32 Q, .int .i32 E]) (by simp [results, Try.results16, go_sem]) rfl ⟨rfl, K⟩

theorem cFloored_is (w : World) (lo hi n R Q E : Int) (l0 : 0 ≤ lo) (l1 : lo < 4294967296) (h0 : -2147483648 ≤ hi) (h1 : hi < 2147483648) (n1 : -2147483648 ≤ n) (n2 : n < 2147483648) (h : Cell.IsDiv true (hi * 4294967296 + lo) n R Q E) :
    Calls Try.prog 17 #[.int .u32 lo, .int .i32 hi, .int .i32 n] w fun e w' => e = .returned (.tuple #[.int .i32 R, .int .i32 Q, .int .i32 E]) ∧ Keeps [] w w' := by
  have H := Lib.hid h
  clear h
  have hc := cell_alloc_new w #[.int .i32 n] 21 0
  go_enter Try.func17, Try.ntmps17
  go_wp2_with (go_at_call 27; refine (cDivided_floIs _ w.heap.size lo hi n R Q E l0 l1 h0 h1 n1 n2 (by exact hc) H.out).mono ?_; rintro e w' ⟨rfl, K⟩)
  exact bodyPost_ret (v := .tuple #[.int .i32 R, .int .i32 Q, .int .i32 E]) (by simp [results, Try.results17, go_sem]) rfl ⟨rfl, (Keeps.alloc [] _ _).trans K⟩

theorem r7Double_any (w : World) (lo hi : Int) (l0 : 0 ≤ lo) (l1 : lo < 4294967296) (h0 : 0 ≤ hi) (h1 : hi < 4294967296) :
    Calls Try.prog 10 #[.int .u32 lo, .int .u32 hi] w fun e w' => e = .returned (.int .u64 (lo + hi * 4294967296)) ∧ w = w' := by
  go_enter Try.func10, Try.ntmps10
  go_wp2
  go_ret
  exact ⟨rfl, rfl⟩

set_option maxHeartbeats 1000000 in
theorem r7Product_nat (w : World) (a b : Nat) (ha : a < 4294967296) (hb : b < 4294967296) :
    Calls Try.prog 11 #[.int .u32 a, .int .u32 b] w fun e w' => e = .returned (.int .u64 ((a * b : Nat) : Int)) ∧ w = w' := by
  go_enter Try.func11, Try.ntmps11
  go_wp2
  go_loop [1, 5, 6] (fun t o x => ∃ k : Nat, t = .int .u32 ((b / 2 ^ k : Nat) : Int) ∧ o = .int .u64 ((a * (b % 2 ^ k) : Nat) : Int) ∧ x = .int .u64 ((a * 2 ^ k : Nat) : Int)) (fun t _ _ => (intOf t).toNat)
  case atStart => exact ⟨0, by simp, by simp [Nat.mod_one], by simp⟩
  case round =>
    obtain ⟨k, rfl, rfl, rfl⟩ := hrel
    have hs := Cell.prod_step a b k
    have hd := Cell.prod_done a b k
    have hh := Cell.half_pow b k
    have hle : b / 2 ^ k ≤ b := Nat.div_le_self _ _
    have hx := Cell.pow_of_pos b k hb
    have hm : a * (b % 2 ^ k) ≤ 18446744065119617025 := Nat.le_trans (Nat.mul_le_mul_left _ (Nat.mod_le _ _)) (Cell.prod_lt a b ha hb)
    have hp : a * 2 ^ (k + 1) = a * 2 ^ k + a * 2 ^ k := by rw [Nat.pow_succ, ← Nat.mul_assoc]; omega
    have hm1 : a * (b % 2 ^ (k + 1)) ≤ 18446744065119617025 := Nat.le_trans (Nat.mul_le_mul_left _ (Nat.mod_le _ _)) (Cell.prod_lt a b ha hb)
    have hb2 : a * (b % 2 ^ k) + (b / 2 ^ k % 2) * (a * 2 ^ k) ≤ 18446744065119617025 := by rw [← hs]; exact hm1
    by_cases h0 : 0 < b / 2 ^ k
    · have hx1 : a * 2 ^ k ≤ 9223372034707292160 := Nat.le_trans (Nat.mul_le_mul (show a ≤ 4294967295 by omega) (hx h0).2) (by decide)
      generalize b / 2 ^ k = t at *
      generalize a * (b % 2 ^ k) = o at *
      generalize a * 2 ^ k = x at *
      have HS := Lib.hid hs
      have HH := Lib.hid hh
      have HP := Lib.hid hp
      clear hs hd hh hx hp
      rcases Nat.mod_two_eq_zero_or_one t with g | g
      all_goals
        have hc : ((t : Int) % 2 == 1) = (t % 2 == 1) := by rw [Bool.eq_iff_iff]; simp; omega
        rw [g] at hc
        simp only [Nat.reduceBEq] at hc
        have HS1 := HS.out
        rw [g] at HS1
        have HS2 := Lib.hid HS1
        rw [g] at hb2
        simp only [Nat.zero_mul, Nat.one_mul] at hb2
        clear HS1
        go_wp2
        go_round
        case rel =>
          refine ⟨k + 1, ?_, ?_, ?_⟩
          · rw [HH.out]; go_num
          · rw [HS2.out]; go_num
          · rw [HP.out]; go_num
        case measure => simp [intOf]; omega
    · have h1 : b / 2 ^ k = 0 := Nat.eq_zero_of_not_pos h0
      rw [h1]
      have hd1 := hd h1
      generalize a * (b % 2 ^ k) = o at *
      generalize a * 2 ^ k = x at *
      have HD := Lib.hid hd1
      clear hd1 hb2 hm1 hm hle
      clear hd hs hh hx hp h0 h1
      go_wp2
      go_ret
      rw [HD.out]
      exact ⟨rfl, rfl⟩

theorem r7Product_any (w : World) (a b : Int) (a0 : 0 ≤ a) (a1 : a < 4294967296) (b0 : 0 ≤ b) (b1 : b < 4294967296) :
    Calls Try.prog 11 #[.int .u32 a, .int .u32 b] w fun e w' => e = .returned (.int .u64 (a * b)) ∧ w = w' := by
  obtain ⟨m, rfl⟩ := Int.eq_ofNat_of_zero_le a0
  obtain ⟨n, rfl⟩ := Int.eq_ofNat_of_zero_le b0
  have := r7Product_nat w m n (by omega) (by omega)
  rw [Int.natCast_mul] at this
  exact this

set_option maxHeartbeats 1000000 in
theorem r7Long_nat (w : World) (x m : Nat) (hx : x < 18446744073709551616) (hm0 : 0 < m) (hm : m ≤ 4294967296) :
    Calls Try.prog 25 #[.int .u64 x, .int .u64 m] w fun e w' => e = .returned (.tuple #[.int .u64 ((x : Int) % (m : Int)), .int .u64 ((x : Int) / (m : Int))]) ∧ w = w' := by
  go_enter Try.func25, Try.ntmps25
  go_wp2
  go_loop [6, 7, 8] (fun r q i => ∃ j : Nat, j ≤ 64 ∧ i = .int .i64 ((j : Int) - 1) ∧ r = .int .u64 ((x / 2 ^ j % m : Nat) : Int) ∧ q = .int .u64 ((x / 2 ^ j / m : Nat) : Int)) (fun _ _ i => (intOf i + 1).toNat)
  case atStart =>
    have : x / 2 ^ 64 = 0 := Nat.div_eq_of_lt (by omega)
    exact ⟨64, by omega, rfl, by rw [this]; simp, by rw [this]; simp⟩
  case round =>
    obtain ⟨j, hj, rfl, rfl, rfl⟩ := hrel
    rcases Nat.eq_zero_or_pos j with rfl | hj0
    · rw [Nat.pow_zero, Nat.div_one]
      go_wp2
      go_ret2
      exact ⟨rfl, rfl⟩
    · obtain ⟨i, rfl⟩ : ∃ i, j = i + 1 := ⟨j - 1, by omega⟩
      have hh := Cell.half_pow x i
      have hstep := Cell.long_step (x / 2 ^ i) m hm0
      have hle : x / 2 ^ i ≤ x := Nat.div_le_self _ _
      have hqle : x / 2 ^ i / m ≤ x := Nat.le_trans (Nat.div_le_self _ _) hle
      have hi : i < 64 := by omega
      have hpow : (x : Int) / 2 ^ i = ((x / 2 ^ i : Nat) : Int) := by simp
      have hrl := Nat.mod_lt (x / 2 ^ i / 2) hm0
      have hqh : x / 2 ^ i / 2 / m + x / 2 ^ i / 2 / m ≤ x := by
        have := Nat.div_le_self (x / 2 ^ i / 2) m
        omega
      rw [hh, show ((i + 1 : Nat) : Int) - 1 = (i : Int) by omega]
      obtain ⟨hs1, hs2⟩ := hstep
      generalize hy : x / 2 ^ i = y at *
      have HY := Lib.hid hy
      clear hy
      generalize y / 2 % m = r at *
      generalize y / 2 / m = q at *
      have HH := Lib.hid hh
      clear hh
      have hmin : min i 64 = i := by omega
      have hy0 : (y : Int) % 2 < 2 := by omega
      have hy1 : 0 ≤ (y : Int) % 2 := by omega
      have hr63 : decide ((9223372036854775808 : Int) ≤ (r : Int)) = false := by simp; omega
      by_cases hc : m ≤ 2 * r + y % 2
      all_goals
        first | rw [if_pos hc] at hs1 | rw [if_neg hc] at hs1
        first | rw [if_pos hc] at hs2 | rw [if_neg hc] at hs2
        have HS1 := Lib.hid hs1
        have HS2 := Lib.hid hs2
        have HC := Lib.hid hc
        have hc' : decide ((m : Int) ≤ (r : Int) + r + (y : Int) % 2) = decide (m ≤ 2 * r + y % 2) := by rw [decide_eq_decide]; omega
        simp only [hc, decide_true, decide_false] at hc'
        first | have hcI : (m : Int) ≤ (r : Int) + r + (y : Int) % 2 := by omega
              | skip
        clear hs1 hs2 hc
        go_wp2
        go_round
        case rel =>
          refine ⟨i, by omega, rfl, ?_, ?_⟩
          · rw [HY.out, HS1.out]; have := HC.out; go_num
          · rw [HY.out, HS2.out]; have := HC.out; go_num
        case measure => simp [intOf] <;> omega
end Go.Proofs.Ytlnmbfddhdjioaa
