/-
  NumberSteps, walked.
-/
import Derived.Test.YtfnjjanknfmibaaNuI
import Derived.Test.YtfnjjanknfmibaaNuRd
namespace Go.Proofs.Ytfnjjanknfmibaa
open Go.RowKit Go.Deep
set_option linter.unusedVariables false

/-- What is left of the digits, of what number. -/
def LeftN (b : Nat) (rest : List UInt8) (n : Nat) : Prop := (∃ k, rest = digsF b k n ∧ 1 ≤ k ∧ n < 2 ^ k ∧ n < 18446744073709551616) ∨ (rest = [] ∧ n = 0)
theorem LeftN.step {b : Nat} {rest : List UInt8} {n : Nat} (hb : 2 ≤ b ∧ b ≤ 36) (h : LeftN b rest n) (hr : rest ≠ []) : ∃ r, rest = letN (n % b) :: r ∧ LeftN b r (n / b) ∧ n < 18446744073709551616 := by
  rcases h with ⟨k, rfl, hk, hn, h64⟩ | ⟨h, _⟩
  · cases k with
    | zero => omega
    | succ k =>
      refine ⟨if n / b = 0 then [] else digsF b k (n / b), rfl, ?_, h64⟩
      have hlt : n / b < 2 ^ k := Nat.div_lt_of_lt_mul (by
        have : 2 * 2 ^ k ≤ b * 2 ^ k := Nat.mul_le_mul_right _ hb.1
        have e : 2 ^ (k + 1) = 2 * 2 ^ k := by rw [Nat.pow_succ]; omega
        omega)
      by_cases hz : n / b = 0
      · rw [if_pos hz]
        exact .inr ⟨rfl, hz⟩
      · rw [if_neg hz]
        refine .inl ⟨k, rfl, ?_, hlt, Nat.lt_of_le_of_lt (Nat.div_le_self _ _) h64⟩
        cases k with
        | zero => exact absurd (Nat.lt_one_iff.1 hlt) hz
        | succ k => omega
  · exact absurd h hr
theorem LeftN.zero {b : Nat} {rest : List UInt8} {n : Nat} (h : LeftN b rest n) (hr : rest = []) : n = 0 := by
  rcases h with ⟨k, h, hk, _⟩ | ⟨_, h⟩
  · cases k with
    | zero => omega
    | succ k => rw [hr] at h; unfold digsF at h; cases h
  · exact h

set_option maxRecDepth 100000 in
set_option maxHeartbeats 2000000 in
theorem NumberSteps_any (w : World) (lo0 hi0 bs : Nat) (hlo : lo0 < 4294967296) (hhi : hi0 < 4294967296) (hbs : bs < 256) : Calls Try.prog 6 #[.int .u32 (lo0 : Int), .int .u32 (hi0 : Int), .int .u8 (bs : Int)] w fun e w' => e = .returned (.bool true) ∧ Keeps [] w w' := by
  obtain ⟨b, hb⟩ : ∃ b, b = 2 + bs % 35 := ⟨_, rfl⟩
  have hb2 : 2 ≤ b ∧ b ≤ 36 := by omega
  have eb : 2 + (bs : Int) % 35 = (b : Int) := by omega
  obtain ⟨N, hN⟩ : ∃ N, N = hi0 * 4294967296 + lo0 := ⟨_, rfl⟩
  have hN64 : N < 18446744073709551616 := by omega
  have HT := Lib.hid (nText_ok w lo0 hi0 b N hb2 hN64 (by omega) (by omega) false false rfl)
  rw [show textN b (if false = true then negN N else N) false = (digs b N).reverse from rfl] at HT
  have hlen : (digs b N).length ≤ 64 := digsF_len b 64 N
  have HL0 := Lib.hid (show LeftN b (digs b N) N from .inl ⟨64, rfl, by decide, by simpa using hN64, hN64⟩)
  have HLH := Lib.hid (show lo0 = N % 4294967296 ∧ hi0 = N / 4294967296 by omega)
  have HB := Lib.hid hb2
  generalize digs b N = D at *
  have HIX := Lib.hid (fun W k c h => run_str_at W D.reverse k c h)
  have hsz := str_size D.reverse
  rw [List.length_reverse] at hsz
  generalize hm : D.length = m at *
  have HM := Lib.hid hm
  clear hm hb hN hN64 hlo hhi hb2
  unfold str at *
  generalize ByteArray.mk D.reverse.toArray = S at *
  go_enter Try.func6, Try.ntmps6
  go_upto_region 5 with (go_at_call 30; refine HT.out.mono ?_; rintro e w1 ⟨rfl, hk⟩; have HK := Lib.hid hk; clear hk)
  go_wp2
  go_loopw [0, 1, 10] (fun lv hv i wr => ∃ (k n lo hi : Nat) (ii : Int), k ≤ m ∧ ii = (m : Int) - 1 - (k : Int) ∧ lv = .int .u32 (lo : Int) ∧ hv = .int .u32 (hi : Int) ∧ i = .int .i64 ii ∧ Hid (LeftN b (D.drop k) n ∧ lo = n % 4294967296 ∧ hi = n / 4294967296) ∧ Hid (Keeps [] w1 wr)) (fun _ _ i _ => (intOf i + 1).toNat)
  case atStart => exact ⟨0, N, lo0, hi0, _, by omega, by simp, rfl, rfl, rfl, ⟨HL0.out, HLH.out.1, HLH.out.2⟩, Keeps.refl _ _⟩
  case round =>
    obtain ⟨k, n, lo, hi, ii, hk, hii, rfl, rfl, rfl, HI, HKr⟩ := hrel
    by_cases hlt : k < m
    · obtain ⟨r, hr, hl, h64⟩ := HI.out.1.step HB.out (by intro e; have := congrArg List.length e; simp at this; have := HM.out; omega)
      have hDk : D[k]? = some (letN (n % b)) := by
        have : (D.drop k)[0]? = some (letN (n % b)) := by rw [hr]; rfl
        simpa using this
      have hrd : D.drop (k + 1) = r := by
        have : (D.drop k).drop 1 = r := by rw [hr]; rfl
        rwa [List.drop_drop] at this
      obtain ⟨j, rfl⟩ := Int.eq_ofNat_of_zero_le (show 0 ≤ ii by omega)
      have hrv : D.reverse[j]? = some (letN (n % b)) := by
        rw [List.getElem?_reverse (by have := HM.out; omega), show D.length - 1 - j = k by have := HM.out; omega]
        exact hDk
      have hix := fun W => HIX.out W j _ hrv
      have hmb := Nat.mod_lt n (show 0 < b by have := HB.out; omega)
      have HST := Lib.hid (fun W => nStep_ok W lo hi b HB.out (by have := HI.out.2; omega) (by have := HI.out.2; omega) n (by have := HI.out.2; omega) (n / b % 4294967296) (n / b / 4294967296) rfl rfl (letN (n % b)) rfl)
      have hdg := let_dig HB.out hmb
      have HDG := Lib.hid (fun W => nDigit_any W (letN (n % b)).toNat b (letN (n % b)).toNat_lt)
      rw [hdg] at HDG
      have q1 : decide ((b : Int) ≤ ((n % b : Nat) : Int)) = false := decide_eq_false (by omega)
      have q2 : decide (b ≤ n % b) = false := decide_eq_false (by omega)
      have HNX := Lib.hid (show LeftN b (D.drop (k + 1)) (n / b) by rw [hrd]; exact hl)
      unfold bv at HST hix
      generalize (letN (n % b)).toNat = cn at *
      obtain ⟨v, hv⟩ : ∃ v, v = n % b := ⟨_, rfl⟩
      obtain ⟨n2, hn2⟩ : ∃ n2, n2 = n / b := ⟨_, rfl⟩
      obtain ⟨l2, hl2⟩ : ∃ l2, l2 = n2 % 4294967296 := ⟨_, rfl⟩
      obtain ⟨h2, hh2⟩ : ∃ h2, h2 = n2 / 4294967296 := ⟨_, rfl⟩
      rw [← hn2, ← hl2, ← hh2] at HST
      rw [← hn2] at HNX
      simp only [Option.getD_some, Option.isSome_some] at HDG
      rw [← hv] at HDG q1 q2
      have HLH2 := Lib.hid (And.intro hl2 hh2)
      have HII := Lib.hid hii
      have hj64 : (j : Int) ≤ 64 := by omega
      have HLT := Lib.hid hlt
      clear hr hl h64 hDk hrd hrv hmb hdg hv hn2 hl2 hh2 hlt hii
      go_wp2_with (first
        | (go_at_call 28; refine (HST.out _).mono ?_; rintro e w2 ⟨rfl, hk⟩; have HK2 := Lib.hid hk; clear hk)
        | (go_at_call 24; refine (HDG.out _).mono ?_; rintro e w' ⟨rfl, rfl⟩))
      go_roundw
      case rel => exact ⟨k + 1, n2, l2, h2, (j : Int) - 1, HLT.out, by have := HII.out; omega, rfl, rfl, by go_num, ⟨HNX.out, HLH2.out.1, HLH2.out.2⟩, HKr.out.trans HK2.out⟩
      case measure => simp [intOf]
    · obtain rfl : k = m := by omega
      have hz := HI.out.1.zero (by rw [List.drop_eq_nil_iff]; have := HM.out; omega)
      obtain rfl : lo = 0 := by rw [HI.out.2.1, hz]
      obtain rfl : hi = 0 := by rw [HI.out.2.2, hz]
      obtain rfl : ii = -1 := by omega
      clear hz hii
      go_wp2_with (go_at_call 23; refine (awake13_any _).mono ?_; rintro e w9 ⟨rfl, hk⟩; have HK9 := Lib.hid hk; clear hk)
      go_ret
      exact ⟨rfl, (HK.out.trans HKr.out).trans HK9.out⟩
end Go.Proofs.Ytfnjjanknfmibaa
