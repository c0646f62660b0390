/-
  NumberTells, walked.
-/
import Derived.Test.YtfnjjanknfmibaaNuRefC
namespace Go.Proofs.Ytfnjjanknfmibaa
open Go.RowKit Go.Deep
set_option linter.unusedVariables false

set_option maxRecDepth 100000 in
set_option maxHeartbeats 2000000 in
theorem NumberTells_long (w : World) (S : ByteArray) (n : Nat) (hn : S.size = n) (h : 100 < n) (b c lo hi : Int) (sg : Bool) : Calls Try.prog 4 #[.string S, .int .u32 b, .int .u8 c, .int .u32 lo, .int .u32 hi, .bool sg] w fun e w' => e = .returned (.bool true) ∧ Keeps [] w w' := by
  have q : decide ((100 : Int) < (n : Int)) = true := decide_eq_true (by omega)
  clear h
  go_enter Try.func4, Try.ntmps4
  go_wp2_with (go_at_call 23; refine (awake13_any _).mono ?_; rintro e w9 ⟨rfl, hk⟩; have HK9 := Lib.hid hk; clear hk)
  go_ret
  exact ⟨rfl, HK9.out⟩

set_option maxRecDepth 100000 in
set_option maxHeartbeats 2000000 in
theorem NumberTells_any (w : World) (l : List UInt8) (b : Nat) (c : UInt8) (lo hi : Nat) (sg : Bool) (hlo : lo < 4294967296) (hhi : hi < 4294967296) (hb32 : b < 4294967296) : Calls Try.prog 4 #[str l, .int .u32 (b : Int), .int .u8 (c.toNat : Int), .int .u32 (lo : Int), .int .u32 (hi : Int), .bool sg] w fun e w' => e = .returned (.bool true) ∧ Keeps [] w w' := by
  by_cases hlen : 100 < l.length
  · exact NumberTells_long w _ l.length (str_size l) hlen _ _ _ _ _
  have hml : l.length ≤ maxLen := by unfold maxLen; omega
  have HD1 := Lib.hid (fun W => nDigit_any W c.toNat b c.toNat_lt)
  have HD2 := Lib.hid (fun W => r13Digit_any W c.toNat b c.toNat_lt)
  have HR1 := Lib.hid (fun W => nRead_any W l b hml)
  have HR2 := Lib.hid (fun W => r13Read_any W l b hml hb32)
  generalize (readN l b).low = x at *
  generalize (readN l b).high = y at *
  generalize (readN l b).dbl = dd at *
  generalize (readN l b).ok = ok at *
  generalize (digN b c.toNat).isSome = ds at *
  generalize (digN b c.toNat).getD 0 = dv at *
  have hsz := str_size l
  obtain ⟨N, hN⟩ : ∃ N, N = hi * 4294967296 + lo := ⟨_, rfl⟩
  have hN64 : N < 18446744073709551616 := by omega
  have hq : decide ((100 : Int) < (l.length : Int)) = false := decide_eq_false (by omega)
  by_cases hb : 2 ≤ b ∧ b ≤ 36
  · have HS1 := Lib.hid (fun W => nStep_ok W lo hi b hb hlo hhi N hN _ _ rfl rfl _ rfl)
    have HS2 := Lib.hid (fun W => r13Step_ok W lo hi b hb hlo hhi N hN _ _ rfl rfl _ rfl)
    have HT1 := Lib.hid (fun W => nText_ok W lo hi b N hb hN64 (by omega) (by omega) sg _ rfl)
    have HT2 := Lib.hid (fun W => r13Text_ok W lo hi b N hb hN64 (by omega) (by omega) sg _ rfl _ rfl)
    clear hb hN hN64 hlo hhi hml hlen hb32
    generalize textN b (if (sg && decide (2147483648 ≤ hi)) = true then negN N else N) (sg && decide (2147483648 ≤ hi)) = T at *
    generalize N / b % 4294967296 = s1 at *
    generalize N / b / 4294967296 = s2 at *
    unfold bv at *
    generalize (letN (N % b)).toNat = s3 at *
    unfold str at *
    generalize ByteArray.mk T.toArray = ST at *
    generalize ByteArray.mk l.toArray = S at *
    generalize l.length = n at *
    generalize c.toNat = cn at *
    go_enter Try.func4, Try.ntmps4
    go_wp2_with (first
      | (go_at_call 24; refine (HD1.out _).mono ?_; rintro e w' ⟨rfl, rfl⟩)
      | (go_at_call 25; refine (HD2.out _).mono ?_; rintro e w' ⟨rfl, rfl⟩)
      | (go_at_call 26; refine (HR1.out _).mono ?_; rintro e w1 ⟨rfl, hk⟩; have K1 := Lib.hid hk; clear hk)
      | (go_at_call 27; refine (HR2.out _).mono ?_; rintro e w' ⟨rfl, rfl⟩)
      | (go_at_call 28; refine (HS1.out _).mono ?_; rintro e w2 ⟨rfl, hk⟩; have K2 := Lib.hid (K1.out.trans hk); clear hk)
      | (go_at_call 29; refine (HS2.out _).mono ?_; rintro e w' ⟨rfl, rfl⟩)
      | (go_at_call 30; refine (HT1.out _).mono ?_; rintro e w3 ⟨rfl, hk⟩; have K3 := Lib.hid (K2.out.trans hk); clear hk)
      | (go_at_call 31; refine (HT2.out _).mono ?_; rintro e w4 ⟨rfl, hk⟩; have K4 := Lib.hid (K3.out.trans hk); clear hk)
      | (go_at_call 23; refine (awake13_any _).mono ?_; rintro e w9 ⟨rfl, hk⟩; have HK9 := Lib.hid (K4.out.trans hk); clear hk))
    go_ret
    exact ⟨rfl, HK9.out⟩
  · have HS1 := Lib.hid (fun W => nStep_none W (lo : Int) (hi : Int) b hb)
    have HS2 := Lib.hid (fun W => r13Step_none W (lo : Int) (hi : Int) b hb)
    have HT1 := Lib.hid (fun W => nText_none W (lo : Int) (hi : Int) b sg hb)
    have HT2 := Lib.hid (fun W => r13Text_none W (lo : Int) (hi : Int) b sg hb)
    clear hb hN hN64 hlo hhi hml hlen hb32
    unfold str at *
    generalize ByteArray.mk ([] : List UInt8).toArray = ST at *
    generalize ByteArray.mk l.toArray = S at *
    generalize l.length = n at *
    generalize c.toNat = cn at *
    go_enter Try.func4, Try.ntmps4
    go_wp2_with (first
      | (go_at_call 24; refine (HD1.out _).mono ?_; rintro e w' ⟨rfl, rfl⟩)
      | (go_at_call 25; refine (HD2.out _).mono ?_; rintro e w' ⟨rfl, rfl⟩)
      | (go_at_call 26; refine (HR1.out _).mono ?_; rintro e w1 ⟨rfl, hk⟩; have K1 := Lib.hid hk; clear hk)
      | (go_at_call 27; refine (HR2.out _).mono ?_; rintro e w' ⟨rfl, rfl⟩)
      | (go_at_call 28; refine (HS1.out _).mono ?_; rintro e w' ⟨rfl, rfl⟩)
      | (go_at_call 29; refine (HS2.out _).mono ?_; rintro e w' ⟨rfl, rfl⟩)
      | (go_at_call 30; refine (HT1.out _).mono ?_; rintro e w' ⟨rfl, rfl⟩)
      | (go_at_call 31; refine (HT2.out _).mono ?_; rintro e w' ⟨rfl, rfl⟩)
      | (go_at_call 23; refine (awake13_any _).mono ?_; rintro e w9 ⟨rfl, hk⟩; have HK9 := Lib.hid (K1.out.trans hk); clear hk))
    go_ret
    exact ⟨rfl, HK9.out⟩
end Go.Proofs.Ytfnjjanknfmibaa
