/-
  Contracts of crc: zeroByte, repeated, Join.
-/
import Derived.Test.YtpcgckppdnlccabCrcG
namespace Go.Proofs.Ytpcgckppdnlccab
open Go.RowKit

theorem squared_z (w : World) (n : Nat) :
    Calls Try.prog 24 #[.agg (tab 32 (zcol n)).toArray] w fun e w' => e = .returned (.agg (tab 32 (zcol (n + n))).toArray) ∧ Keeps [] w w' := by
  rw [← squared_zcol n]; exact squared_any w (zcol n)

set_option maxHeartbeats 1000000 in
theorem zeroByte_any (w : World) :
    Calls Try.prog 20 #[] w fun e w' => e = .returned (.agg (tab 32 (zcol 8)).toArray) ∧ Keeps [] w w' := by
  have W0 := Lib.hid (Whole.new w 46 (tabK 32 (zcol 8) 0))
  go_enter Try.func20, Try.ntmps20
  go_wp2_with (first | (go_at_call 23; refine (zeroBit_any _).mono ?_; rintro e w1 ⟨rfl, k1⟩; have KK := Lib.hid k1; clear k1) | (go_at_call 24; refine (squared_z _ _).mono ?_; rintro e w2 ⟨rfl, k2⟩; have KK := Lib.hid (KK.out.trans k2); clear k2) | (refine wpList_store_row rfl 46 _ _ rfl w.heap.size (tab 32 (zcol 8)).toArray rfl rfl 46 (tabK 32 (zcol 8) 0).toArray (W0.out.keeps KK.out (by simp)) (by rw [sizeMatrix]; simp [tab_length]) (by simp [tab_length, tabK_length]) (tab_one _ _) ?_))
  exact bodyPost_ret (results_cell_row Try.results20 _ _ w.heap.size 46 (tab 32 (zcol 8)).toArray (0, 0) _ rfl ((W0.out.keeps KK.out (by simp)).setRow (tab 32 (zcol 8))) Try.underlying46 rfl (by rw [sizeMatrix]; simp [tab_length])) rfl ⟨rfl, ((Keeps.alloc [] _ _).trans KK.out).then (Keeps.setRow (S := [w.heap.size]) _ (by simp) _) (fun x hx => .inr (by simp at hx; omega))⟩

set_option maxHeartbeats 1000000 in
theorem repeated_none (w : World) (f : Nat → BitVec 32) (v : BitVec 32) (n : Int) (hn : n ≤ 0) :
    Calls Try.prog 21 #[.agg (tab 32 f).toArray, uv v, .int .i64 n] w fun e w' => e = .returned (uv v) ∧ Keeps [] w w' := by
  go_enter Try.func21, Try.ntmps21
  go_wp2
  refine wp_loop_rounds 1 ?_; rw [rounds_succ]
  go_wp2
  go_ret
  exact ⟨rfl, Keeps.alloc [] _ _⟩

set_option maxHeartbeats 1000000 in
theorem repeated_some (w : World) (v : BitVec 32) (m n : Nat) (hn : n ≤ 9223372036854775807) :
    Calls Try.prog 21 #[.agg (tab 32 (zcol m)).toArray, uv v, .int .i64 n] w fun e w' => e = .returned (uv (zb (m * n) v)) ∧ Keeps [] w w' := by
  generalize hr : zb (m * n) v = r
  have HR := Lib.hid hr
  clear hr
  go_enter Try.func21, Try.ntmps21
  go_wp2
  go_loopw [1, 2] (fun t i wr => ∃ (x : BitVec 32) (k q : Nat), k ≤ n ∧ i = .int .i64 k ∧ t = uv x ∧ Hid (zb (q * k) x = r) ∧ Whole wr w.heap.size 46 (tab 32 (zcol q)) ∧ Keeps [] w wr) (fun _ i _ => (intOf i).toNat)
  case atStart => exact ⟨v, n, m, Nat.le_refl _, rfl, rfl, HR, Whole.new w _ _, Keeps.alloc [] _ _⟩
  case round =>
    obtain ⟨x, k, q, hk, rfl, rfl, hr, w0, kp⟩ := hrel
    have W0 := Lib.hid w0
    have KP := Lib.hid kp
    clear w0 kp
    by_cases hk0 : 0 < k
    · have hk0' : (0 : Int) < k := by omega
      have hb := bits_and_i64_one k
      have he := hr.out
      have hz := KP.out.size
      have hh : k = 2 * (k / 2) + k % 2 := by omega
      rcases (show k % 2 = 0 ∨ k % 2 = 1 by omega) with h2 | h2
      · rw [h2, Nat.add_zero] at hh
        rw [hh, zb_even] at he
        rw [h2] at hb
        have HE := Lib.hid he
        clear he hr hh h2
        go_wp2_with (first | (refine wpList_load_row rfl 46 _ rfl w.heap.size rfl 46 (tab 32 (zcol q)).toArray (0, 0) _ W0.out Try.underlying46 rfl (by rw [sizeMatrix]; simp [tab_length]) ?_) | (go_at_call 24; refine (squared_z _ q).mono ?_; rintro e w2 ⟨rfl, k2⟩; have W2 := Lib.hid (W0.out.keeps k2 (by simp)); have K2 := Lib.hid (KP.out.trans k2); clear k2) | (refine wpList_store_row rfl 46 _ _ rfl w.heap.size (tab 32 (zcol (q + q))).toArray rfl rfl 46 (tab 32 (zcol q)).toArray W2.out (by rw [sizeMatrix]; simp [tab_length]) (by simp [tab_length]) (tab_one _ _) ?_))
        go_roundw
        case rel => exact ⟨x, k / 2, q + q, by omega, by go_num, rfl, HE, W2.out.setRow _, K2.out.then (Keeps.setRow (S := [w.heap.size]) _ (by simp) _) (fun x hx => .inr (by simp at hx; omega))⟩
        case measure => simp [intOf]; omega
      · rw [h2] at hh
        rw [hh, zb_odd] at he
        rw [h2] at hb
        have HE := Lib.hid he
        have HM := Lib.hid (mof_zcol q x)
        clear he hr hh h2
        go_wp2_with (first | (go_at_call 25; refine (mof_any _ (zcol q) _).mono ?_; rintro e w1 ⟨rfl, k1⟩; rw [HM.out]; have W1 := Lib.hid (W0.out.keeps k1 (by simp)); have K1 := Lib.hid (KP.out.trans k1); clear k1 W0 KP) | (refine wpList_load_row rfl 46 _ rfl w.heap.size rfl 46 (tab 32 (zcol q)).toArray (0, 0) _ (by first | exact W0.out | exact W1.out) Try.underlying46 rfl (by rw [sizeMatrix]; simp [tab_length]) ?_) | (go_at_call 24; refine (squared_z _ q).mono ?_; rintro e w2 ⟨rfl, k2⟩; have W2 := Lib.hid (W1.out.keeps k2 (by simp)); have K2 := Lib.hid (K1.out.trans k2); clear k2) | (refine wpList_store_row rfl 46 _ _ rfl w.heap.size (tab 32 (zcol (q + q))).toArray rfl rfl 46 (tab 32 (zcol q)).toArray W2.out (by rw [sizeMatrix]; simp [tab_length]) (by simp [tab_length]) (tab_one _ _) ?_))
        go_roundw
        case rel => exact ⟨zb q x, k / 2, q + q, by omega, by go_num, rfl, HE, W2.out.setRow _, K2.out.then (Keeps.setRow (S := [w.heap.size]) _ (by simp) _) (fun x hx => .inr (by simp at hx; omega))⟩
        case measure => simp [intOf]; omega
    · have hk' : k = 0 := by omega
      subst hk'
      go_wp2
      go_ret
      have := hr.out
      rw [Nat.mul_zero] at this
      rw [← this]
      exact ⟨rfl, KP.out⟩

theorem repeated_any (w : World) (v : BitVec 32) (m : Nat) (n : Int) (hn : n ≤ 9223372036854775807) :
    Calls Try.prog 21 #[.agg (tab 32 (zcol m)).toArray, uv v, .int .i64 n] w fun e w' => e = .returned (uv (zb (m * n.toNat) v)) ∧ Keeps [] w w' := by
  by_cases h : n ≤ 0
  · rw [Int.toNat_of_nonpos h, Nat.mul_zero]
    exact repeated_none w _ v n h
  · obtain ⟨k, rfl⟩ := Int.eq_ofNat_of_zero_le (show 0 ≤ n by omega)
    exact repeated_some w v m k (by omega)

set_option maxHeartbeats 1000000 in
theorem Join_any (w : World) (a b : BitVec 32) (n : Int) (hn : n ≤ 9223372036854775807) :
    Calls Try.prog 16 #[uv a, uv b, .int .i64 n] w fun e w' => e = .returned (uv (zb (8 * n.toNat) a ^^^ b)) ∧ Keeps [] w w' := by
  have h := bits_xor32 (zb (8 * n.toNat) a) b
  generalize zb (8 * n.toNat) a ^^^ b = r at *
  go_enter Try.func16, Try.ntmps16
  go_wp2_with (first | (go_at_call 20; refine (zeroByte_any _).mono ?_; rintro e w1 ⟨rfl, k1⟩; have K1 := Lib.hid k1; clear k1) | (go_at_call 21; refine (repeated_any _ _ 8 _ hn).mono ?_; rintro e w2 ⟨rfl, k2⟩; have K2 := Lib.hid (K1.out.trans k2); clear k2))
  go_ret
  exact ⟨rfl, K2.out⟩
end Go.Proofs.Ytpcgckppdnlccab
