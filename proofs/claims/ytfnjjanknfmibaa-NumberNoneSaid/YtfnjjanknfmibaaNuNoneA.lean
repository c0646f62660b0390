/-
  NumberNone, walked.
-/
import Derived.Test.YtfnjjanknfmibaaNuI
import Derived.Test.YtfnjjanknfmibaaNuRd
namespace Go.Proofs.Ytfnjjanknfmibaa
open Go.RowKit Go.Deep
set_option linter.unusedVariables false

theorem rd_z (W : World) (b : Nat) : Calls Try.prog 26 #[.string ⟨#[39, 122, 39]⟩, .int .u32 (b : Int)] W fun e w' => e = .returned (.tuple #[.int .u32 122, .int .u32 0, .bool false, .bool true]) ∧ Keeps [] W w' :=
  nRead_any W [39, 122, 39] b (by unfold maxLen; decide)

set_option maxRecDepth 100000 in
set_option maxHeartbeats 2000000 in
theorem NumberNone_any (w : World) (b : Nat) (c : UInt8) (lo : Nat) : Calls Try.prog 8 #[.int .u32 (b : Int), .int .u8 (c.toNat : Int), .int .u32 (lo : Int)] w fun e w' => e = .returned (.bool true) ∧ Keeps [] w w' := by
  by_cases hb : 2 ≤ b ∧ b ≤ 36
  · have b1 : (2 : Int) ≤ (b : Int) := by omega
    have b2 : (b : Int) ≤ 36 := by omega
    have HD := Lib.hid (nDigit_any w c.toNat b c.toNat_lt)
    cases hd : digN b c.toNat with
    | none =>
      rw [hd] at HD
      clear hd hb
      generalize c.toNat = cn at *
      go_enter Try.func8, Try.ntmps8
      go_wp2_with (first
        | (go_at_call 24; refine HD.out.mono ?_; rintro e w' ⟨rfl, rfl⟩)
        | (go_at_call 23; refine (awake13_any _).mono ?_; rintro e w9 ⟨rfl, hk⟩; have HK9 := Lib.hid hk; clear hk))
      go_ret
      exact ⟨rfl, HK9.out⟩
    | some d =>
      rw [hd] at HD
      have hlt := (digN_some hd).2.2
      have q : decide ((d : Int) < (b : Int)) = true := decide_eq_true (by omega)
      have q2 : decide (d < b) = true := decide_eq_true hlt
      clear hd hb hlt
      generalize c.toNat = cn at *
      go_enter Try.func8, Try.ntmps8
      go_wp2_with (first
        | (go_at_call 24; refine HD.out.mono ?_; rintro e w' ⟨rfl, rfl⟩)
        | (go_at_call 23; refine (awake13_any _).mono ?_; rintro e w9 ⟨rfl, hk⟩; have HK9 := Lib.hid hk; clear hk))
      go_ret
      exact ⟨rfl, HK9.out⟩
  · have HD := Lib.hid (fun W => nDigit_any W c.toNat b c.toNat_lt)
    have hd : digN b c.toNat = none := by
      unfold digN
      cases worthN c.toNat with
      | none => rfl
      | some v => exact if_neg (fun h => hb ⟨h.1, h.2.1⟩)
    rw [hd] at HD
    have HS := Lib.hid (fun W => nStep_none W (lo : Int) 0 b hb)
    have HT := Lib.hid (fun W => nText_none W (lo : Int) 0 b false hb)
    have HR := Lib.hid (fun W => nRead_any W [c] b (by unfold maxLen; simp))
    rw [read_byte b hb c] at HR
    simp only [] at HR
    have hcv : ∀ W : World, (convert 49 9 (.slice (some ⟨W.heap.size, 0, none⟩) 1 1)).run Try.prog (W.alloc (.cells #[.int .u8 (c.toNat : Int)] 5)) = .ok (.string ⟨[c].toArray⟩) (W.alloc (.cells #[.int .u8 (c.toNat : Int)] 5)) := fun W => conv_reads (Reads.lit W [c] _ 5 1 (0, 0) rfl rfl)
    have ways : ¬ (2 : Int) ≤ (b : Int) ∨ ((2 : Int) ≤ (b : Int) ∧ ¬ (b : Int) ≤ 36) := by omega
    clear hd hb
    unfold str at *
    generalize ByteArray.mk [c].toArray = S at *
    generalize c.toNat = cn at *
    rcases ways with h1 | ⟨h1, h2⟩
    · go_enter Try.func8, Try.ntmps8
      go_wp2_with (first
        | (go_at_call 24; refine (HD.out _).mono ?_; rintro e w' ⟨rfl, rfl⟩)
        | (go_at_call 28; refine (HS.out _).mono ?_; rintro e w' ⟨rfl, rfl⟩)
        | (go_at_call 30; refine (HT.out _).mono ?_; rintro e w' ⟨rfl, rfl⟩)
        | (go_at_call_of 26 (Value.string S); refine (HR.out _).mono ?_; rintro e w2 ⟨rfl, hk⟩; have HK2 := Lib.hid hk; clear hk)
        | (go_at_call 26; refine (rd_z _ b).mono ?_; rintro e w3 ⟨rfl, hk⟩; have HK3 := Lib.hid hk; clear hk)
        | (go_at_call 23; refine (awake13_any _).mono ?_; rintro e w9 ⟨rfl, hk⟩; have HK9 := Lib.hid hk; clear hk))
      go_ret
      exact ⟨rfl, (((Keeps.alloc [] w _).trans HK2.out).trans HK3.out).trans HK9.out⟩
    · go_enter Try.func8, Try.ntmps8
      go_wp2_with (first
        | (go_at_call 24; refine (HD.out _).mono ?_; rintro e w' ⟨rfl, rfl⟩)
        | (go_at_call 28; refine (HS.out _).mono ?_; rintro e w' ⟨rfl, rfl⟩)
        | (go_at_call 30; refine (HT.out _).mono ?_; rintro e w' ⟨rfl, rfl⟩)
        | (go_at_call_of 26 (Value.string S); refine (HR.out _).mono ?_; rintro e w2 ⟨rfl, hk⟩; have HK2 := Lib.hid hk; clear hk)
        | (go_at_call 26; refine (rd_z _ b).mono ?_; rintro e w3 ⟨rfl, hk⟩; have HK3 := Lib.hid hk; clear hk)
        | (go_at_call 23; refine (awake13_any _).mono ?_; rintro e w9 ⟨rfl, hk⟩; have HK9 := Lib.hid hk; clear hk))
      go_ret
      exact ⟨rfl, (((Keeps.alloc [] w _).trans HK2.out).trans HK3.out).trans HK9.out⟩
end Go.Proofs.Ytfnjjanknfmibaa
