/-
  Contracts of crc: the effect of zero bits, its table, Add, Begin, End, Of.
-/
import Derived.Test.YtdcfcljgennipaaRows
import Derived.Test.YtdcfcljgennipaaVoc
import Derived.Test.YtdcfcljgennipaaWords
import Derived.Test.YtdcfcljgennipaaCrcN
import Derived.Deep.QuietTactic
import Derived.BigQuiet
import Derived.Outline
namespace Go.Proofs.Ytdcfcljgennipaa
open Go.RowKit

theorem and_one (s : BitVec 32) : bits .and .u32 (s.toNat : Int) 1 = if s.getLsbD 0 then 1 else 0 := by
  rw [show (1 : Int) = ((1#32).toNat : Int) from rfl, bits_and32]
  cases h : s.getLsbD 0
  · rw [show s &&& 1#32 = 0#32 by ext i hi; simp; cases i <;> simp_all]; rfl
  · rw [show s &&& 1#32 = 1#32 by ext i hi; simp; cases i <;> simp_all]; rfl

theorem shr_one (s : BitVec 32) : (s.toNat : Int) / (2 : Int) = ((s >>> 1).toNat : Int) := by
  rw [BitVec.toNat_ushiftRight, Nat.shiftRight_eq_div_pow]; omega

set_option maxRecDepth 100000 in
set_option maxHeartbeats 400000 in
theorem zeroBitsFn_any (w : World) (b : Nat) (n : Nat) (s : BitVec 32) (hn : n ≤ 32) (hc : w.cell? ⟨b, 0, none⟩ = some (.int .i64 n)) :
    Calls Try.prog 103 #[uv s, .pointer (some ⟨b, 0, none⟩)] w fun e w' => e = .returned (uv (zb n s)) ∧ w = w' := by
  go_enter Try.func103, Try.ntmps103
  go_wp2
  go_loop [0, 6] (fun t i => ∃ k : Nat, k ≤ n ∧ i = .int .i64 k ∧ t = uv (zb k s)) (fun _ i => n - (intOf i).toNat)
  case atStart => exact ⟨0, Nat.zero_le _, rfl, rfl⟩
  case round =>
    obtain ⟨k, hk, rfl, rfl⟩ := hrel
    have HS := Lib.hid (zb_succ k s)
    generalize hz : zb k s = t at *
    have HZ := Lib.hid hz
    clear hz
    have h1 := and_one t
    have H2 := Lib.hid (shr_one t)
    have H3 := Lib.hid (show bits .xor .u32 ((t.toNat : Int) / (2 : Int)) 3988292384 = ((t >>> 1 ^^^ poly).toNat : Int) by rw [shr_one]; exact bits_xor32 _ poly)
    have HT := Lib.hid (show step1 t = if t.getLsbD 0 then (t >>> 1) ^^^ poly else t >>> 1 from rfl)
    by_cases hlt : k < n
    · cases hb : t.getLsbD 0
      all_goals
        rw [hb] at h1
        simp only [Bool.false_eq_true, if_false, if_true] at h1
        rw [hb] at HT
        clear hb
        go_wp2
        go_round
        case rel => exact ⟨k + 1, by omega, by go_num, by rw [HS.out, HT.out]; first | exact congrArg (Value.int .u32) H2.out | exact congrArg (Value.int .u32) H3.out⟩
        case measure => simp [intOf]; omega
    · go_wp2
      go_ret
      have : k = n := by omega
      subst this
      rw [HZ.out]
      exact ⟨rfl, rfl⟩
end Go.Proofs.Ytdcfcljgennipaa
