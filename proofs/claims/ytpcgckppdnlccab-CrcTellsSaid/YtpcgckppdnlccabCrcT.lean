/-
  CrcTells, walked.
-/
import Derived.Test.YtpcgckppdnlccabCrcS
namespace Go.Proofs.Ytpcgckppdnlccab
open Go.RowKit Go.Deep

theorem Reads.places {w : World} {p : Option Addr} {n cap : Nat} {l : List UInt8} {M : Nat} (h : Reads w (.slice p n cap) l M) : ∀ i c, l[i]? = some c → ∃ M off, p = some ⟨M, off, none⟩ ∧ w.cell? ⟨M, off + i, none⟩ = some (bv c) := by
  intro i c hi
  obtain ⟨off, cp, hv, _, hc⟩ := h.at (by intro e; subst e; simp at hi)
  simp at hv
  exact ⟨M, off, hv.1, hc i c hi⟩

set_option maxHeartbeats 1000000 in
theorem CrcTells_big (w : World) (a : Option Addr) (n cap : Nat) (hn : 300 < n) (hn1 : n ≤ maxLen) :
    Calls Try.prog 3 #[.slice a n cap] w fun e w' => e = .returned (.bool true) ∧ Keeps [] w w' := by
  unfold maxLen at hn1
  go_enter Try.func3, Try.ntmps3
  go_wp2_with (go_at_call 7; refine (awake2_any _).mono ?_; rintro e w1 ⟨rfl, k1⟩; have K1 := Lib.hid k1; clear k1)
  go_ret
  exact ⟨rfl, K1.out⟩

/-- One byte of a row. -/
theorem Row.one {w : World} {B cB : Nat} {l : List UInt8} (h : Row w B 5 (l.map bv) cB) (k : Nat) (hk : k < l.length) :
    ∃ p c, (∀ w, (Instr.sliceAt 22 (.slice (some ⟨B, 0, none⟩) l.length cB) (some (.int .i64 (k : Int))) (some (.int .i64 ((k : Int) + 1))) none).run Try.prog w = .ok (.slice p 1 c) w) ∧ Reads w (.slice p 1 c) [l[k]] B := by
  have hr := h.reads
  have hc := hr.len.2
  obtain ⟨p, c, e, r⟩ := hr.cut k (k + 1) (by omega) (by omega)
  have e1 : (l.drop k).take (k + 1 - k) = [l[k]] := by
    rw [show k + 1 - k = 1 by omega, List.drop_eq_getElem_cons hk]; rfl
  rw [e1] at e r
  refine ⟨p, c, fun w => ?_, r⟩
  have := run_cut_lh w (some ⟨B, 0, none⟩) l.length cB k (k + 1) (by omega) (by omega)
  rw [e, show ((k + 1 : Nat) : Int) = (k : Int) + 1 by omega] at this
  exact this

set_option maxHeartbeats 4000000 in
theorem CrcTells_small (w : World) (a : Option Addr) (cap : Nat) (l : List UInt8) (M : Nat) (hr : Reads w (.slice a l.length cap) l M) (hl : l.length ≤ 300) :
    Calls Try.prog 3 #[.slice a l.length cap] w fun e w' => e = .returned (.bool true) ∧ Keeps [] w w' := by
  have HR := Lib.hid hr
  clear hr
  go_enter Try.func3, Try.ntmps3
  go_wp2_with fail
  refine (Fresh_any _ _ l M HR.out (by omega)).mono ?_
  rintro e w1 ⟨B, cB, rfl, hB, rB, k1⟩
  have RB := Lib.hid rB
  have K1 := Lib.hid k1
  have HR1 := Lib.hid (HR.out.keeps k1 (by simp))
  clear rB k1
  go_wp2_with fail
  refine (R2Of_any _ a l cap hl HR1.out.places).mono ?_
  rintro e w2 ⟨rfl, k2⟩
  have K2 := Lib.hid (K1.out.trans k2)
  have RB2 := Lib.hid (RB.out.keeps k2 (by simp))
  clear k2
  go_wp2_with fail
  refine (Begin_any _).mono ?_
  rintro e w' ⟨rfl, rfl⟩
  generalize hn : l.length = n at *
  have HN := Lib.hid hn
  clear hn
  go_wp2
  go_loopw [5, 18] (fun s i wr => ∃ k : Nat, k ≤ n ∧ i = .int .i64 k ∧ s = uv (addl ones32 (l.take k)) ∧ Row wr B 5 (l.map bv) cB ∧ Keeps [] w wr) (fun _ i _ => n - (intOf i).toNat)
  case atStart => exact ⟨0, Nat.zero_le _, rfl, rfl, RB2.out, K2.out⟩
  case round =>
    obtain ⟨k, hk, rfl, rfl, rB, kp⟩ := hrel
    by_cases hlt : k < n
    · have hlt' : (k : Int) < n := by omega
      have hkl : k < l.length := by have := HN.out; omega
      obtain ⟨p1, c1, hs, r1⟩ := rB.one k hkl
      rw [HN.out] at hs
      have HA := Lib.hid (show addl ones32 (l.take (k + 1)) = addl (addl ones32 (l.take k)) [l[k]] by rw [List.take_succ_eq_append_getElem hkl, addl_append])
      have R1 := Lib.hid r1
      have RB := Lib.hid rB
      have KP := Lib.hid kp
      clear r1 rB kp
      generalize addl ones32 (l.take k) = t at *
      go_wp2_with (go_at_call 11; refine (Add_any _ _ _ [l[k]] B R1.out (by simp)).mono ?_; rintro e w3 ⟨rfl, k3⟩; have K3 := Lib.hid k3; clear k3)
      go_roundw
      case rel => exact ⟨k + 1, by omega, by go_num, by rw [HA.out], RB.out.keeps K3.out (by simp), KP.out.trans K3.out⟩
      case measure => simp [intOf]; omega
    · obtain rfl : k = n := by omega
      have HA := Lib.hid (show ~~~ (addl ones32 (l.take k)) = crcOf l by rw [List.take_of_length_le (by have := HN.out; omega)]; rfl)
      have RR := Lib.hid (show Reads wr (.slice (some ⟨B, 0, none⟩) k cB) l B by have := rB.reads; rwa [HN.out] at this)
      have KP := Lib.hid kp
      have HRW := Lib.hid (HR.out.keeps kp (by simp))
      clear rB kp
      generalize addl ones32 (l.take k) = t at *
      have hl3 : l.length ≤ 300 := by have := HN.out; omega
      go_wp2_with fail
      refine (Of_any _ _ l B RR.out (by omega)).mono ?_
      rintro e w3 ⟨rfl, k3⟩
      have RR3 := Lib.hid (RR.out.keeps k3 (by simp))
      have HRW3 := Lib.hid (HRW.out.keeps k3 (by simp))
      have K3 := Lib.hid (KP.out.trans k3)
      clear k3
      go_wp2_with fail
      refine (End_any _ _).mono ?_
      rintro e w' ⟨rfl, rfl⟩
      rw [HA.out]
      go_wp2_with fail
      refine (Is_any _ _ _ l l B M RR3.out HRW3.out).mono ?_
      rintro e w' ⟨rfl, rfl⟩
      rw [show (l == l) = true from beq_self_eq_true l]
      go_wp2_with fail
      refine (awake2_any _).mono ?_
      rintro e w4 ⟨rfl, k4⟩
      have K4 := Lib.hid (K3.out.trans k4)
      clear k4
      go_wp2
      go_ret
      exact ⟨rfl, K4.out⟩

theorem CrcTells_any (w : World) (v : Value) (l : List UInt8) (M : Nat) (hr : Reads w v l M) (hl : l.length ≤ maxLen) :
    Calls Try.prog 3 #[v] w fun e w' => e = .returned (.bool true) ∧ Keeps [] w w' := by
  obtain ⟨a, cap, rfl, _⟩ := hr.shape
  by_cases h : l.length ≤ 300
  · exact CrcTells_small w a cap l M hr h
  · exact CrcTells_big w a _ cap (by omega) hl
end Go.Proofs.Ytpcgckppdnlccab
