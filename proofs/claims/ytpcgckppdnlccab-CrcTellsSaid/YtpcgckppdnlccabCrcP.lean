/-
  CrcBurst, walked.
-/
import Derived.Test.YtpcgckppdnlccabCrcK
import Derived.Test.YtpcgckppdnlccabCrcO
namespace Go.Proofs.Ytpcgckppdnlccab
open Go.RowKit

theorem burst_get_byte (b : List UInt8) (bit : Nat) (ch : BitVec 32) (k : Nat) (h : (bit + k) / 8 < b.length) : (burst b bit ch k)[(bit + k) / 8]? = some ((burst b bit ch k).getD ((bit + k) / 8) 0) := by
  rw [List.getD_eq_getElem?_getD, List.getElem?_eq_getElem (by rw [burst_length]; exact h)]; rfl

theorem mask8_mod (r : Nat) (h : r < 8) : (2 : Int) ^ r % 256 = ((mask8 r).toNat : Int) := by
  rw [mask8_nat r h]
  have e : (2 : Int) ^ r = ((2 ^ r : Nat) : Int) := by rw [Int.natCast_pow]; rfl
  have : (2 : Nat) ^ r < 2 ^ 8 := Nat.pow_lt_pow_right (by decide) h
  rw [e]
  generalize (2 : Nat) ^ r = q at *
  omega

set_option maxHeartbeats 1000000 in
theorem CrcBurst_aside (w : World) (a : Option Addr) (n cap : Nat) (at' ch : Int) (h : n < 5 ∨ 400 < n ∨ ch = 0) (hn : n ≤ maxLen) :
    Calls Try.prog 5 #[.slice a n cap, .int .u16 at', .int .u32 ch] w fun e w' => e = .returned (.bool true) ∧ Keeps [] w w' := by
  unfold maxLen at hn
  by_cases h5 : n < 5
  · clear h
    have h5' : (n : Int) < 5 := by omega
    go_enter Try.func5, Try.ntmps5
    go_wp2_with (go_at_call 7; refine (awake2_any _).mono ?_; rintro e w1 ⟨rfl, k1⟩; have K1 := Lib.hid k1; clear k1)
    go_ret
    exact ⟨rfl, K1.out⟩
  · have h5' : decide ((n : Int) < 5) = false := by simp; omega
    by_cases h4 : 400 < n
    · clear h
      have h4' : (400 : Int) < n := by omega
      go_enter Try.func5, Try.ntmps5
      go_wp2_with (go_at_call 7; refine (awake2_any _).mono ?_; rintro e w1 ⟨rfl, k1⟩; have K1 := Lib.hid k1; clear k1)
      go_ret
      exact ⟨rfl, K1.out⟩
    · obtain rfl : ch = 0 := by omega
      have h4' : decide ((400 : Int) < n) = false := by simp; omega
      clear h
      go_enter Try.func5, Try.ntmps5
      go_wp2_with (go_at_call 7; refine (awake2_any _).mono ?_; rintro e w1 ⟨rfl, k1⟩; have K1 := Lib.hid k1; clear k1)
      go_ret
      exact ⟨rfl, K1.out⟩

set_option maxHeartbeats 4000000 in
theorem CrcBurst_small (w : World) (a : Option Addr) (cap bit : Nat) (at' : Int) (ch : BitVec 32) (l : List UInt8) (M : Nat) (hr : Reads w (.slice a l.length cap) l M) (h5 : 5 ≤ l.length) (h4 : l.length ≤ 400) (h0 : 0 ≤ at' ∧ at' ≤ 65535) (hch : ch ≠ 0#32)
    (hi : at' % (8 * (l.length : Int) - 31) = (bit : Int)) :
    Calls Try.prog 5 #[.slice a l.length cap, .int .u16 at', uv ch] w fun e w' => e = .returned (.bool true) ∧ Keeps [] w w' := by
  have HI := Lib.hid hi
  have HR := Lib.hid hr
  have hbl : (bit : Int) < 8 * (l.length : Int) - 31 := by have := Int.emod_lt_of_pos at' (show 0 < 8 * (l.length : Int) - 31 by omega); omega
  have HNE := Lib.hid (burst_crc l bit ch (by omega) hch)
  have hcn : ((ch.toNat : Int) == 0) = false := by
    rw [beq_eq_false_iff_ne]
    intro e
    exact hch (BitVec.eq_of_toNat_eq (by rw [BitVec.toNat_zero]; omega))
  have d5 : decide ((l.length : Int) < 5) = false := by apply decide_eq_false; omega
  have d4 : decide ((400 : Int) < (l.length : Int)) = false := by apply decide_eq_false; omega
  clear hi hr hch
  go_enter Try.func5, Try.ntmps5
  go_wp2_with fail
  refine (Among_is _ _ _ bit (by omega) (by omega) (by omega) (by omega) HI.out).mono ?_
  rintro e w' ⟨rfl, rfl⟩
  go_wp2_with fail
  refine (Fresh_any _ _ l M HR.out (by omega)).mono ?_
  rintro e w1 ⟨B, cB, rfl, hB, rB, k1⟩
  have RB := Lib.hid rB
  have K1 := Lib.hid k1
  clear rB k1
  go_wp2
  go_loopw [32] (fun i wr => ∃ k : Nat, k ≤ 32 ∧ i = .int .i64 k ∧ Row wr B 5 ((burst l bit ch k).map bv) cB ∧ Keeps [] w wr) (fun i _ => 32 - (intOf i).toNat)
  case atStart => exact ⟨0, Nat.zero_le _, rfl, RB.out, K1.out⟩
  case round =>
    obtain ⟨k, hk, rfl, rB, kp⟩ := hrel
    by_cases hlt : k < 32
    · have hlt' : (k : Int) < 32 := by omega
      have h1 := and_shr_one ch k
      have KP := Lib.hid kp
      have HX := Lib.hid (show burst l bit ch (k + 1) = if ch.getLsbD k then (burst l bit ch k).set ((bit + k) / 8) ((burst l bit ch k).getD ((bit + k) / 8) 0 ^^^ mask8 ((bit + k) % 8)) else burst l bit ch k from rfl)
      have hq : (bit + k) / 8 < l.length := by omega
      have eg := burst_get_byte l bit ch k hq
      have p0 := rB.cell ((bit + k) / 8) (by rw [List.getElem?_map, eg]; rfl)
      have fz := rB.frozen ((bit + k) / 8)
      have HS := Lib.hid (rB.set ((bit + k) / 8) (bv ((burst l bit ch k).getD ((bit + k) / 8) 0 ^^^ mask8 ((bit + k) % 8))))
      have RB := Lib.hid rB
      clear kp rB eg
      cases hb : ch.getLsbD k
      · rw [hb] at h1 HX
        simp only [Bool.false_eq_true, if_false] at h1
        clear hb p0 fz HS
        go_wp2
        go_roundw
        case rel => exact ⟨k + 1, by omega, by go_num, by rw [HX.out]; exact RB.out, KP.out⟩
        case measure => simp [intOf]; omega
      · rw [hb] at h1 HX
        simp only [if_true] at h1
        rw [if_pos rfl] at HX
        clear hb
        have hr8 : (bit + k) % 8 < 8 := Nat.mod_lt _ (by decide)
        generalize hgv : (burst l bit ch k).getD ((bit + k) / 8) 0 = v at *
        have HGV := Lib.hid hgv
        clear hgv
        have XV := Lib.hid (show bits .xor .u8 (v.toNat : Int) ((2 : Int) ^ ((bit + k) % 8) % 256) = ((v ^^^ mask8 ((bit + k) % 8)).toNat : Int) by rw [mask8_mod _ hr8, bits_xor8])
        generalize v ^^^ mask8 ((bit + k) % 8) = v' at *
        unfold bv at p0
        go_wp2
        go_region
        all_goals
          go_wp2
          go_roundw
          case rel =>
            refine ⟨k + 1, by omega, by go_num, ?_, ?_⟩
            · have := HS.out
              rw [← List.map_set] at this
              rw [HX.out, XV.out]
              exact this.keeps (Keeps.drew [] _) (by simp)
            · exact (KP.out.then (Keeps.setCell (S := [B]) _ (by simp) _) (fun x hx => .inr (by simp at hx; omega))).trans (Keeps.drew [] _)
          case measure => simp [intOf]; omega
    · have hkn : k = 32 := by omega
      subst hkn
      have RB' := Lib.hid rB.reads
      have HRW := Lib.hid (HR.out.keeps kp (by simp))
      have KP := Lib.hid kp
      have hbn : (burst l bit ch 32).length ≤ 400 := by rw [burst_length]; omega
      have HBL := Lib.hid (burst_length l bit ch 32)
      clear rB kp
      go_wp2_with fail
      refine (Of_any _ _ (burst l bit ch 32) B (by have := RB'.out; rwa [HBL.out] at this) (by omega)).mono ?_
      rintro e w2 ⟨rfl, k2⟩
      have K2 := Lib.hid (KP.out.trans k2)
      have HRW2 := Lib.hid (HRW.out.keeps k2 (by simp))
      clear k2
      go_wp2_with fail
      refine (Of_any _ _ l M HRW2.out (by omega)).mono ?_
      rintro e w3 ⟨rfl, k3⟩
      have K3 := Lib.hid (K2.out.trans k3)
      clear k3
      have hne : ((crcOf (burst l bit ch 32)).toNat : Int) ≠ ((crcOf l).toNat : Int) := by
        intro e
        exact HNE.out (BitVec.eq_of_toNat_eq (by omega))
      have hne1 : (((crcOf (burst l bit ch 32)).toNat : Int) != ((crcOf l).toNat : Int)) = true := by simpa using hne
      generalize crcOf (burst l bit ch 32) = t1 at *
      generalize crcOf l = t2 at *
      clear hne
      go_wp2_with fail
      refine (awake2_any _).mono ?_
      rintro e w4 ⟨rfl, k4⟩
      have K4 := Lib.hid (K3.out.trans k4)
      clear k4
      go_wp2
      go_ret
      exact ⟨rfl, K4.out⟩

theorem CrcBurst_any (w : World) (v : Value) (l : List UInt8) (M : Nat) (at' ch : Int) (hr : Reads w v l M) (hl : l.length ≤ maxLen) (h0 : 0 ≤ at' ∧ at' ≤ 65535) (h1 : 0 ≤ ch ∧ ch ≤ 4294967295) :
    Calls Try.prog 5 #[v, .int .u16 at', .int .u32 ch] w fun e w' => e = .returned (.bool true) ∧ Keeps [] w w' := by
  obtain ⟨a, cap, rfl, _⟩ := hr.shape
  by_cases h : l.length < 5 ∨ 400 < l.length ∨ ch = 0
  · exact CrcBurst_aside w a _ cap at' ch h hl
  · obtain ⟨bit, hb⟩ := Int.eq_ofNat_of_zero_le (Int.emod_nonneg at' (show 8 * (l.length : Int) - 31 ≠ 0 by omega))
    have e : ch = ((BitVec.ofNat 32 ch.toNat).toNat : Int) := by
      rw [BitVec.toNat_ofNat, Nat.mod_eq_of_lt (by omega)]; omega
    have hne : BitVec.ofNat 32 ch.toNat ≠ 0#32 := by
      intro e'; rw [e'] at e; simp at e; omega
    have := CrcBurst_small w a cap bit at' (BitVec.ofNat 32 ch.toNat) l M hr (by omega) (by omega) h0 hne hb
    unfold uv at this
    rwa [← e] at this
end Go.Proofs.Ytpcgckppdnlccab
