/-
  CrcParts, walked.
-/
import Derived.Test.YtpcgckppdnlccabCrcI
namespace Go.Proofs.Ytpcgckppdnlccab
open Go.RowKit

theorem Among_is (w : World) (x n : Int) (i : Nat) (hx : 0 ≤ x) (hn : 0 < n) (hn1 : n ≤ 9223372036854775807) (hx1 : x ≤ 9223372036854775807) (hi : x % n = (i : Int)) :
    Calls Try.prog 15 #[.int .i64 x, .int .i64 n] w fun e w' => e = .returned (.int .i64 (i : Int)) ∧ w = w' :=
  (Among_pos w x n hx hn hn1 hx1).mono fun _ _ h => ⟨by rw [h.1, hi], h.2⟩

theorem sizeByte (w : World) : (sizeOf 5).run Try.prog w = .ok 1 w := by
  obtain ⟨i0, hi, hz0, hz1, hz2⟩ := info_parts infoByte
  simp [sizeOf, typeInfo, hi, hz1]

/-- A part of bytes that a slice reads as. -/
theorem Reads.cut {w : World} {a : Option Addr} {cap : Nat} {l : List UInt8} {M : Nat} (h : Reads w (.slice a l.length cap) l M) (lo hi : Nat) (h1 : lo ≤ hi) (h2 : hi ≤ l.length) :
    ∃ p c, sliced a lo hi cap 1 = .slice p ((l.drop lo).take (hi - lo)).length c ∧ Reads w (.slice p ((l.drop lo).take (hi - lo)).length c) ((l.drop lo).take (hi - lo)) M := by
  have hlen : ((l.drop lo).take (hi - lo)).length = hi - lo := by simp; omega
  refine ⟨if cap = lo then a else a.map (·.add (lo * 1)), cap - lo, by unfold sliced; rw [hlen], ?_⟩
  rw [hlen]
  rcases h with ⟨hv, rfl⟩ | ⟨ad, c, hv, hc, hb, hcell⟩
  · simp at h2
    subst h2
    obtain rfl : lo = 0 := by omega
    simp at hv
    obtain ⟨rfl, rfl⟩ := hv
    exact .inl ⟨by simp, by simp⟩
  · simp at hv
    obtain ⟨rfl, rfl⟩ := hv
    by_cases e : cap = lo
    · have h0 : (l.drop lo).take (hi - lo) = [] := by
        apply List.eq_nil_of_length_eq_zero; rw [hlen]; omega
      rw [if_pos e, h0]
      refine .inr ⟨ad, cap - lo, by simp; omega, by simp, fun hh => absurd rfl hh, fun i c hi => by simp at hi⟩
    · rw [if_neg e]
      refine .inr ⟨ad.add (lo * 1), cap - lo, by rw [hlen]; rfl, by rw [hlen]; omega, ?_, ?_⟩
      · intro hne
        rw [Addr.add_block]
        exact hb (by intro e'; subst e'; simp at hne)
      · intro i c hi
        rw [List.getElem?_take] at hi
        split at hi
        · rw [List.getElem?_drop] at hi
          have := hcell _ c hi
          rw [Nat.mul_one]
          rw [Deep.add_add]; exact this
        · cases hi

theorem Reads.len {w : World} {a : Option Addr} {n cap : Nat} {l : List UInt8} {M : Nat} (h : Reads w (.slice a n cap) l M) : n = l.length ∧ l.length ≤ cap := by
  rcases h with ⟨hv, rfl⟩ | ⟨ad, c, hv, hc, _⟩
  · simp at hv; simp [hv]
  · simp at hv; obtain ⟨_, rfl, rfl⟩ := hv; exact ⟨rfl, hc⟩

theorem Reads.shape {w : World} {v : Value} {l : List UInt8} {M : Nat} (h : Reads w v l M) : ∃ a cap, v = .slice a l.length cap ∧ l.length ≤ cap := by
  rcases h with ⟨rfl, rfl⟩ | ⟨ad, c, rfl, hc, _⟩
  · exact ⟨none, 0, rfl, Nat.le_refl _⟩
  · exact ⟨some ad, c, rfl, hc⟩

theorem run_cut_h (w : World) (a : Option Addr) (len cap hi : Nat) (h : hi ≤ cap) : (Instr.sliceAt 22 (.slice a len cap) none (some (.int .i64 hi)) none).run Try.prog w = .ok (sliced a 0 hi cap 1) w := by
  have hu : Try.prog.underlying 22 = some (.slice (Try.prog.elem 22)) := Try.underlying22
  rw [run_sliceAt_slice _ _ _ _ _ _ hu, run_slice_h _ _ _ _ _ hu _ _ (by omega) (by omega), show Try.prog.elem 22 = 5 from rfl, sizeByte]
  rfl

theorem run_cut_l (w : World) (a : Option Addr) (len cap lo : Nat) (h : lo ≤ len) : (Instr.sliceAt 22 (.slice a len cap) (some (.int .i64 lo)) none none).run Try.prog w = .ok (sliced a lo len cap 1) w := by
  have hu : Try.prog.underlying 22 = some (.slice (Try.prog.elem 22)) := Try.underlying22
  rw [run_sliceAt_slice _ _ _ _ _ _ hu, run_slice_l _ _ _ _ _ hu _ _ (by omega) (by omega), show Try.prog.elem 22 = 5 from rfl, sizeByte]
  rfl

theorem run_cut_lh (w : World) (a : Option Addr) (len cap lo hi : Nat) (h1 : lo ≤ hi) (h2 : hi ≤ cap) : (Instr.sliceAt 22 (.slice a len cap) (some (.int .i64 lo)) (some (.int .i64 hi)) none).run Try.prog w = .ok (sliced a lo hi cap 1) w := by
  have hu : Try.prog.underlying 22 = some (.slice (Try.prog.elem 22)) := Try.underlying22
  rw [run_sliceAt_slice _ _ _ _ _ _ hu, run_slice_lh _ _ _ _ _ hu _ _ _ _ (by omega) (by omega) (by omega), show Try.prog.elem 22 = 5 from rfl, sizeByte]
  rfl

set_option maxHeartbeats 1000000 in
theorem CrcParts_big (w : World) (a : Option Addr) (n cap : Nat) (one two : Int) (hn : 1000 < n) (hn1 : n ≤ maxLen) :
    Calls Try.prog 4 #[.slice a n cap, .int .u16 one, .int .u16 two] w fun e w' => e = .returned (.bool true) ∧ Keeps [] w w' := by
  unfold maxLen at hn1
  go_enter Try.func4, Try.ntmps4
  go_wp2_with (go_at_call 7; refine (awake2_any _).mono ?_; rintro e w1 ⟨rfl, k1⟩; have K1 := Lib.hid k1; clear k1)
  go_ret
  exact ⟨rfl, K1.out⟩

/-- Bytes cut in three. -/
theorem Reads.three {w : World} {a : Option Addr} {cap : Nat} {l : List UInt8} {M : Nat} (h : Reads w (.slice a l.length cap) l M) (lo hi : Nat) (h1 : lo ≤ hi) (h2 : hi ≤ l.length) :
    ∃ lx ly lz : List UInt8, ∃ px cx py cy pz cz, l = lx ++ (ly ++ lz) ∧
      (∀ w, (Instr.sliceAt 22 (.slice a l.length cap) none (some (.int .i64 lo)) none).run Try.prog w = .ok (.slice px lx.length cx) w) ∧
      (∀ w, (Instr.sliceAt 22 (.slice a l.length cap) (some (.int .i64 lo)) (some (.int .i64 hi)) none).run Try.prog w = .ok (.slice py ly.length cy) w) ∧
      (∀ w, (Instr.sliceAt 22 (.slice a l.length cap) (some (.int .i64 hi)) none none).run Try.prog w = .ok (.slice pz lz.length cz) w) ∧
      Reads w (.slice px lx.length cx) lx M ∧ Reads w (.slice py ly.length cy) ly M ∧ Reads w (.slice pz lz.length cz) lz M := by
  have hc := h.len.2
  obtain ⟨px, cx, ex, rx⟩ := h.cut 0 lo (Nat.zero_le _) (by omega)
  obtain ⟨py, cy, ey, ry⟩ := h.cut lo hi h1 h2
  obtain ⟨pz, cz, ez, rz⟩ := h.cut hi l.length h2 (Nat.le_refl _)
  refine ⟨_, _, _, px, cx, py, cy, pz, cz, ?_, fun w => by rw [run_cut_h _ _ _ _ _ (by omega), ex], fun w => by rw [run_cut_lh _ _ _ _ _ _ h1 (by omega), ey], fun w => by rw [run_cut_l _ _ _ _ _ h2, ez], rx, ry, rz⟩
  rw [List.drop_zero, Nat.sub_zero, List.take_of_length_le (l := l.drop hi) (by simp)]
  have : l.drop lo = (l.drop lo).take (hi - lo) ++ l.drop hi := by
    conv => lhs; rw [← List.take_append_drop (hi - lo) (l.drop lo)]
    rw [List.drop_drop, show lo + (hi - lo) = hi by omega]
  rw [← this, List.take_append_drop]

theorem Join_bytes (w : World) (a b : List UInt8) (n : Int) (hn : n = b.length) (hb : b.length ≤ 65536) :
    Calls Try.prog 16 #[uv (crcOf a), uv (crcOf b), .int .i64 n] w fun e w' => e = .returned (uv (crcOf (a ++ b))) ∧ Keeps [] w w' := by
  subst hn
  exact (Join_any w _ _ _ (by omega)).mono fun _ _ h => ⟨by rw [h.1, crcOf_append, Int.toNat_natCast], h.2⟩

set_option maxHeartbeats 4000000 in
theorem CrcParts_small (w : World) (a : Option Addr) (cap i k : Nat) (one two : Int) (l : List UInt8) (M : Nat) (hr : Reads w (.slice a l.length cap) l M) (hl : l.length ≤ 1000) (h0 : 0 ≤ one ∧ one ≤ 65535) (h1 : 0 ≤ two ∧ two ≤ 65535)
    (hi : one % ((l.length : Int) + 1) = (i : Int)) (hk : two % ((l.length : Int) + 1) = (k : Int)) :
    Calls Try.prog 4 #[.slice a l.length cap, .int .u16 one, .int .u16 two] w fun e w' => e = .returned (.bool true) ∧ Keeps [] w w' := by
  have HI := Lib.hid hi
  have HK := Lib.hid hk
  have HR := Lib.hid hr
  have hil : (i : Int) ≤ l.length := by have := Int.emod_lt_of_pos one (show 0 < (l.length : Int) + 1 by omega); omega
  have hkl : (k : Int) ≤ l.length := by have := Int.emod_lt_of_pos two (show 0 < (l.length : Int) + 1 by omega); omega
  obtain ⟨lx, ly, lz, px, cx, py, cy, pz, cz, hx, rx, ry, rz, qx, qy, qz⟩ := hr.three (min i k) (max i k) (by omega) (by omega)
  have HX := Lib.hid hx
  have QX := Lib.hid qx
  have QY := Lib.hid qy
  have QZ := Lib.hid qz
  have hlx : lx.length ≤ 1000 := by rw [hx] at hl; simp at hl; omega
  have hly : ly.length ≤ 1000 := by rw [hx] at hl; simp at hl; omega
  have hlz : lz.length ≤ 1000 := by rw [hx] at hl; simp at hl; omega
  have HE := Lib.hid (show ~~~ (addl (addl (addl ones32 lx) ly) lz) = crcOf l by rw [hx]; unfold crcOf; rw [addl_append, addl_append])
  have KK := Lib.hid (Keeps.refl [] w)
  clear hi hk hr hx qx qy qz
  rcases Nat.lt_trichotomy i k with hik | rfl | hik
  all_goals
    first | rw [Nat.min_self, Nat.max_self] at ry | (rw [Nat.min_eq_left (Nat.le_of_lt hik)] at rx ry; rw [Nat.max_eq_right (Nat.le_of_lt hik)] at ry rz) | (rw [Nat.min_eq_right (Nat.le_of_lt hik)] at rx ry; rw [Nat.max_eq_left (Nat.le_of_lt hik)] at ry rz)
    try rw [Nat.min_self] at rx
    try rw [Nat.max_self] at rz
    try (have hik' := Int.ofNat_lt.2 hik)
    go_enter Try.func4, Try.ntmps4
    go_wp2_with fail
    refine (Among_is _ _ _ _ (by omega) (by omega) (by omega) (by omega) HI.out).mono ?_
    rintro e w' ⟨rfl, rfl⟩
    go_wp2_with fail
    refine (Among_is _ _ _ _ (by omega) (by omega) (by omega) (by omega) HK.out).mono ?_
    rintro e w' ⟨rfl, rfl⟩
    go_wp2_with fail
    go_quiet (fail)
    go_wp2_with fail
    refine (Of_any _ _ l M (HR.out.keeps (Keeps.drewN [] _ _) (by simp)) (by omega)).mono ?_
    rintro e w1 ⟨rfl, k1⟩
    have K1 := Lib.hid ((Keeps.drewN [] w nq).trans k1)
    clear k1
    go_wp2_with fail
    refine (Begin_any _).mono ?_
    rintro e w' ⟨rfl, rfl⟩
    go_wp2_with fail
    refine (Add_any _ _ _ lx M (QX.out.keeps K1.out (by simp)) (by omega)).mono ?_
    rintro e w' ⟨rfl, kk⟩
    have K1 := Lib.hid (K1.out.trans kk)
    clear kk
    go_wp2_with fail
    refine (Add_any _ _ _ ly M (QY.out.keeps K1.out (by simp)) (by omega)).mono ?_
    rintro e w' ⟨rfl, kk⟩
    have K1 := Lib.hid (K1.out.trans kk)
    clear kk
    go_wp2_with fail
    refine (Add_any _ _ _ lz M (QZ.out.keeps K1.out (by simp)) (by omega)).mono ?_
    rintro e w' ⟨rfl, kk⟩
    have K1 := Lib.hid (K1.out.trans kk)
    clear kk
    go_wp2_with fail
    refine (End_any _ _).mono ?_
    rintro e w' ⟨rfl, rfl⟩
    rw [HE.out]
    go_wp2_with fail
    refine (Of_any _ _ lx M (QX.out.keeps K1.out (by simp)) (by omega)).mono ?_
    rintro e w' ⟨rfl, kk⟩
    have K1 := Lib.hid (K1.out.trans kk)
    clear kk
    go_wp2_with fail
    refine (Of_any _ _ ly M (QY.out.keeps K1.out (by simp)) (by omega)).mono ?_
    rintro e w' ⟨rfl, kk⟩
    have K1 := Lib.hid (K1.out.trans kk)
    clear kk
    go_wp2_with fail
    refine (Join_bytes _ lx ly _ rfl (by omega)).mono ?_
    rintro e w' ⟨rfl, kk⟩
    have K1 := Lib.hid (K1.out.trans kk)
    clear kk
    go_wp2_with fail
    refine (Of_any _ _ ly M (QY.out.keeps K1.out (by simp)) (by omega)).mono ?_
    rintro e w' ⟨rfl, kk⟩
    have K1 := Lib.hid (K1.out.trans kk)
    clear kk
    go_wp2_with fail
    refine (Of_any _ _ lz M (QZ.out.keeps K1.out (by simp)) (by omega)).mono ?_
    rintro e w' ⟨rfl, kk⟩
    have K1 := Lib.hid (K1.out.trans kk)
    clear kk
    go_wp2_with fail
    refine (Join_bytes _ ly lz _ rfl (by omega)).mono ?_
    rintro e w' ⟨rfl, kk⟩
    have K1 := Lib.hid (K1.out.trans kk)
    clear kk
    go_wp2_with fail
    refine (Of_any _ _ lz M (QZ.out.keeps K1.out (by simp)) (by omega)).mono ?_
    rintro e w' ⟨rfl, kk⟩
    have K1 := Lib.hid (K1.out.trans kk)
    clear kk
    go_wp2_with fail
    refine (Join_bytes _ (lx ++ ly) lz _ rfl (by omega)).mono ?_
    rintro e w' ⟨rfl, kk⟩
    have K1 := Lib.hid (K1.out.trans kk)
    clear kk
    rw [List.append_assoc, ← HX.out]
    go_wp2_with fail
    refine (Of_any _ _ lx M (QX.out.keeps K1.out (by simp)) (by omega)).mono ?_
    rintro e w' ⟨rfl, kk⟩
    have K1 := Lib.hid (K1.out.trans kk)
    clear kk
    go_wp2_with fail
    refine (Join_bytes _ lx (ly ++ lz) _ (by simp) (by simp; omega)).mono ?_
    rintro e w' ⟨rfl, kk⟩
    have K1 := Lib.hid (K1.out.trans kk)
    clear kk
    rw [← HX.out]
    go_wp2_with fail
    refine (awake2_any _).mono ?_
    rintro e w' ⟨rfl, kk⟩
    have K1 := Lib.hid (K1.out.trans kk)
    clear kk
    go_wp2
    go_ret
    exact ⟨rfl, K1.out⟩

theorem CrcParts_any (w : World) (v : Value) (l : List UInt8) (M : Nat) (one two : Int) (hr : Reads w v l M) (hl : l.length ≤ maxLen) (h0 : 0 ≤ one ∧ one ≤ 65535) (h1 : 0 ≤ two ∧ two ≤ 65535) :
    Calls Try.prog 4 #[v, .int .u16 one, .int .u16 two] w fun e w' => e = .returned (.bool true) ∧ Keeps [] w w' := by
  obtain ⟨a, cap, rfl, _⟩ := hr.shape
  by_cases h : l.length ≤ 1000
  · obtain ⟨i, hi⟩ := Int.eq_ofNat_of_zero_le (Int.emod_nonneg one (show (l.length : Int) + 1 ≠ 0 by omega))
    obtain ⟨k, hk⟩ := Int.eq_ofNat_of_zero_le (Int.emod_nonneg two (show (l.length : Int) + 1 ≠ 0 by omega))
    exact CrcParts_small w a cap i k one two l M hr h h0 h1 hi hk
  · exact CrcParts_big w a _ cap one two (by omega) hl
end Go.Proofs.Ytpcgckppdnlccab
