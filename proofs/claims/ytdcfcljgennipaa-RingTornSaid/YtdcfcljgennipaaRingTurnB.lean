/-
  Contracts: the statements' turn and spread.
-/
import Derived.Test.YtdcfcljgennipaaRingTurnA
namespace Go.Proofs.Ytdcfcljgennipaa
open Go.RowKit

set_option maxRecDepth 100000 in
set_option maxHeartbeats 1000000 in
/-- A turn whose clearing is done. -/
theorem turn5_ok {F B W M : Nat} {s : FS} (w : World) (hF : FlashAt w F B W M s) (hd : s.down = false) (first n : Nat) (hn : 3 ≤ n) (hfit : first + n ≤ s.wear.length) (now : Int) (x : BitVec 32) (c : Hdr) (p : Nat) (hp : c.sector = (p : Int))
    (hpick : s.pick now (lookL s.bs first n) = some c) (hwr : ∀ x ∈ s.wear, 0 ≤ x ∧ x < 9223372036854775807) (s1 s2 : FS) (e2 : Int) (hc : s.clear p = (s1, 0)) (ho : s1.opened p x = (s2, e2)) (hpl : p < 1000) :
    Calls Try.prog 39 #[.pointer (some ⟨F, 0, none⟩), .int .i64 first, .int .i64 n, .int .i64 now, uv x] w fun e w' => e = .returned (.tuple #[.int .i64 p, .int .i64 e2]) ∧ FlashAt w' F B W M s2 ∧ Keeps [F, B, W] w w' := by
  have HL := Lib.hid (Look_ok w hF hd first n hn hfit)
  have HF := Lib.hid hF
  have hlt := hF.lt
  have HLN := Lib.hid (lookL_length s.bs first n)
  have hfew := hF.few
  have HP := Lib.hid (show ∀ (U : World) lv, FlashAt U F B W M s → HdrsAt U lv (lookL s.bs first n) → Calls Try.prog 34 #[.pointer (some ⟨F, 0, none⟩), lv, .int .i64 now] U fun e w' => e = .returned (.tuple #[.int .i64 p, .int .i64 0]) ∧ Keeps [] U w' from fun U lv h1 h2 => by
    have := Pick_any U h1 (by omega) lv _ h2 (by rw [lookL_length]; omega) now
    rw [hpick] at this
    dsimp only [Option.getD, Option.isSome] at this
    rw [hp] at this
    exact this)
  have HC := Lib.hid (show ∀ (U : World), FlashAt U F B W M s → Calls Try.prog 37 #[.pointer (some ⟨F, 0, none⟩), .int .i64 p] U fun e w' => e = .returned (.int .i64 0) ∧ FlashAt w' F B W M s1 ∧ Keeps [F, B, W] U w' from fun U h => by
    have := Clear_any U h p (by omega) hwr
    rwa [hc] at this)
  have HO := Lib.hid (show ∀ (U : World), FlashAt U F B W M s1 → Calls Try.prog 38 #[.pointer (some ⟨F, 0, none⟩), .int .i64 p, uv x] U fun e w' => e = .returned (.int .i64 e2) ∧ FlashAt w' F B W M s2 ∧ Keeps [F, B] U w' from fun U h => by
    have := Open_any U h p (by omega) x
    rwa [ho] at this)
  clear hF hd hfit hpick hwr hc ho hp
  unfold uv at *
  generalize (x.toNat : Int) = y at *
  go_enter Try.func39, Try.ntmps39
  go_wp2_with fail
  refine HL.out.mono ?_
  rintro e w1 ⟨g, cp, rfl, hg, hh, k1⟩
  have HH := Lib.hid hh
  have HF1 := Lib.hid (HF.out.keeps k1 (by simp) (by simp) (by simp) (by simp))
  have K1 := Lib.hid k1
  clear hh k1 HL HF
  go_wp2_with fail
  refine (HP.out w1 _ HF1.out HH.out).mono ?_
  rintro e w2 ⟨rfl, k2⟩
  have HF2 := Lib.hid (HF1.out.keeps k2 (by simp) (by simp) (by simp) (by simp))
  have K2 := Lib.hid (K1.out.trans k2)
  clear k2 HH HF1 HP
  go_wp2_with fail
  refine (HC.out w2 HF2.out).mono ?_
  rintro e w3 ⟨rfl, hF3, k3⟩
  have HF3 := Lib.hid hF3
  have K3 := Lib.hid ((K2.out.mono (by simp)).trans k3)
  clear hF3 k3 HC HF2
  go_wp2_with fail
  refine (HO.out w3 HF3.out).mono ?_
  rintro e w4 ⟨rfl, hF4, k4⟩
  have HF4 := Lib.hid hF4
  have K4 := Lib.hid (K3.out.trans (k4.mono (by simp)))
  clear hF4 k4 HO HF3
  go_wp2
  go_ret2
  exact ⟨rfl, HF4.out, K4.out⟩

set_option maxRecDepth 100000 in
set_option maxHeartbeats 1000000 in
/-- A turn whose clearing is torn. -/
theorem turn5_torn {F B W M : Nat} {s : FS} (w : World) (hF : FlashAt w F B W M s) (hd : s.down = false) (first n : Nat) (hn : 3 ≤ n) (hfit : first + n ≤ s.wear.length) (now : Int) (x : BitVec 32) (c : Hdr) (p : Nat) (hp : c.sector = (p : Int))
    (hpick : s.pick now (lookL s.bs first n) = some c) (hwr : ∀ x ∈ s.wear, 0 ≤ x ∧ x < 9223372036854775807) (s1 : FS) (e1 : Int) (hc : s.clear p = (s1, e1)) (he : e1 ≠ 0) (hpl : p < 1000) :
    Calls Try.prog 39 #[.pointer (some ⟨F, 0, none⟩), .int .i64 first, .int .i64 n, .int .i64 now, uv x] w fun e w' => e = .returned (.tuple #[.int .i64 p, .int .i64 e1]) ∧ FlashAt w' F B W M s1 ∧ Keeps [F, B, W] w w' := by
  have HL := Lib.hid (Look_ok w hF hd first n hn hfit)
  have HF := Lib.hid hF
  have hlt := hF.lt
  have hfew := hF.few
  have HP := Lib.hid (show ∀ (U : World) lv, FlashAt U F B W M s → HdrsAt U lv (lookL s.bs first n) → Calls Try.prog 34 #[.pointer (some ⟨F, 0, none⟩), lv, .int .i64 now] U fun e w' => e = .returned (.tuple #[.int .i64 p, .int .i64 0]) ∧ Keeps [] U w' from fun U lv h1 h2 => by
    have := Pick_any U h1 (by omega) lv _ h2 (by rw [lookL_length]; omega) now
    rw [hpick] at this
    dsimp only [Option.getD, Option.isSome] at this
    rw [hp] at this
    exact this)
  have HC := Lib.hid (show ∀ (U : World), FlashAt U F B W M s → Calls Try.prog 37 #[.pointer (some ⟨F, 0, none⟩), .int .i64 p] U fun e w' => e = .returned (.int .i64 e1) ∧ FlashAt w' F B W M s1 ∧ Keeps [F, B, W] U w' from fun U h => by
    have := Clear_any U h p (by omega) hwr
    rwa [hc] at this)
  have hb : ((e1 != 0) : Bool) = true := by simpa using he
  clear hF hd hfit hpick hwr hc hp he
  unfold uv at *
  generalize (x.toNat : Int) = y at *
  go_enter Try.func39, Try.ntmps39
  go_wp2_with fail
  refine HL.out.mono ?_
  rintro e w1 ⟨g, cp, rfl, hg, hh, k1⟩
  have HH := Lib.hid hh
  have HF1 := Lib.hid (HF.out.keeps k1 (by simp) (by simp) (by simp) (by simp))
  have K1 := Lib.hid k1
  clear hh k1 HL HF
  go_wp2_with fail
  refine (HP.out w1 _ HF1.out HH.out).mono ?_
  rintro e w2 ⟨rfl, k2⟩
  have HF2 := Lib.hid (HF1.out.keeps k2 (by simp) (by simp) (by simp) (by simp))
  have K2 := Lib.hid (K1.out.trans k2)
  clear k2 HH HF1 HP
  go_wp2_with fail
  refine (HC.out w2 HF2.out).mono ?_
  rintro e w3 ⟨rfl, hF3, k3⟩
  have HF3 := Lib.hid hF3
  have K3 := Lib.hid ((K2.out.mono (by simp)).trans k3)
  clear hF3 k3 HC HF2
  go_wp2
  go_ret2
  exact ⟨rfl, HF3.out, K3.out⟩

set_option maxRecDepth 100000 in
set_option maxHeartbeats 1000000 in
theorem spread5_any {F B W M : Nat} {s : FS} (w : World) (hF : FlashAt w F B W M s) (first n : Nat) (hf : first + n ≤ 256) (hn : 0 < n) (hb : ∀ k : Nat, 0 ≤ s.wearOf k ∧ s.wearOf k ≤ 1000) (hs : ∀ x y : Nat, (first ≤ x ∧ x < first + n) → (first ≤ y ∧ y < first + n) → s.wearOf x ≤ s.wearOf y + 2) :
    Calls Try.prog 40 #[.pointer (some ⟨F, 0, none⟩), .int .i64 first, .int .i64 n] w fun e w' => ∃ d : Int, e = .returned (.int .i64 d) ∧ d ≤ 2 ∧ w = w' := by
  have HW := Lib.hid (fun k : Nat => Wear_any w hF k)
  have HB := Lib.hid hb
  have HS := Lib.hid hs
  have hf1 : (first : Int) + n ≤ 256 := by omega
  have W0 := HW.out first
  have HW0 := Lib.hid W0
  clear hF hb hs W0
  go_enter Try.func40, Try.ntmps40
  go_wp2_with (go_at_call 31; refine HW0.out.mono ?_; rintro e w' ⟨rfl, rfl⟩)
  go_loopw [7, 8, 9] (fun l m k wr => ∃ (a b q : Nat), (first ≤ a ∧ a < first + n) ∧ (first ≤ b ∧ b < first + n) ∧ first ≤ q ∧ q ≤ first + n ∧ k = .int .i64 q ∧ l = .int .i64 (s.wearOf a) ∧ m = .int .i64 (s.wearOf b) ∧ wr = w) (fun _ _ k _ => first + n - (intOf k).toNat)
  case atStart => exact ⟨first, first, first, ⟨by omega, by omega⟩, ⟨by omega, by omega⟩, by omega, by omega, rfl, rfl, rfl, rfl⟩
  case round =>
    obtain ⟨a, b, q, ha, hb, hq1, hq2, rfl, rfl, rfl, rfl⟩ := hrel
    by_cases hlt : q < first + n
    · have hqi : (q : Int) < (first : Int) + n := by omega
      have WQ := HW.out q
      have HWQ := Lib.hid WQ
      clear WQ
      have c1 : s.wearOf q < s.wearOf a ∨ ¬ s.wearOf q < s.wearOf a := by omega
      have c2 : s.wearOf b < s.wearOf q ∨ ¬ s.wearOf b < s.wearOf q := by omega
      rcases c1 with c1 | c1 <;> rcases c2 with c2 | c2
      all_goals
        go_wp2_with (go_at_call 31; refine HWQ.out.mono ?_; rintro e w' ⟨rfl, rfl⟩)
        go_roundw
        case rel =>
          first
          | exact ⟨q, q, q + 1, ⟨by omega, by omega⟩, ⟨by omega, by omega⟩, by omega, by omega, by go_num, rfl, rfl, by trivial⟩
          | exact ⟨q, b, q + 1, ⟨by omega, by omega⟩, hb, by omega, by omega, by go_num, rfl, rfl, by trivial⟩
          | exact ⟨a, q, q + 1, ha, ⟨by omega, by omega⟩, by omega, by omega, by go_num, rfl, rfl, by trivial⟩
          | exact ⟨a, b, q + 1, ha, hb, by omega, by omega, by go_num, rfl, rfl, by trivial⟩
        case measure => simp [intOf]; omega
    · obtain rfl : q = first + n := by omega
      have h2 := HS.out b a hb ha
      have b1 := HB.out a
      have b2 := HB.out b
      have hqi : ¬ ((first + n : Nat) : Int) < (first : Int) + n := by omega
      generalize s.wearOf a = wa at *
      generalize s.wearOf b = wb at *
      generalize hqq : first + n = qq at *
      go_wp2
      go_ret
      exact ⟨_, rfl, by omega, rfl⟩
end Go.Proofs.Ytdcfcljgennipaa
