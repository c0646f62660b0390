/-
  Contracts of crc: zeroBit, zeroByte, repeated, Join.
-/
import Derived.Test.YtpcgckppdnlccabCrcF
namespace Go.Proofs.Ytpcgckppdnlccab
open Go.RowKit

theorem bits_and_i64_one (n : Nat) : bits .and .i64 (n : Int) 1 = ((n % 2 : Nat) : Int) := by
  unfold bits
  show IntKind.i64.wrap (((BitVec.ofInt 64 (n : Int)) &&& (BitVec.ofInt 64 1)).toNat : Int) = _
  rw [BitVec.ofInt_natCast, show BitVec.ofInt 64 1 = BitVec.ofNat 64 1 from rfl, BitVec.toNat_and, BitVec.toNat_ofNat, BitVec.toNat_ofNat]
  rw [show 1 % 2 ^ 64 = 1 from rfl, Nat.and_one_is_mod]
  rw [IntWalk.i64_in _ (by omega)]
  omega

theorem tabK_zero32 (f : Nat → BitVec 32) : (tabK 32 f 0) = List.replicate 32 (uv 0#32) := rfl

theorem twoPow_nat (k : Nat) (hk : k < 32) : IntKind.u32.wrap ((2 : Int) ^ k) = ((BitVec.twoPow 32 k).toNat : Int) := by
  have h : (2 : Nat) ^ k < 2 ^ 32 := Nat.pow_lt_pow_right (by decide) hk
  rw [BitVec.toNat_twoPow, Nat.mod_eq_of_lt h]
  rw [IntWalk.u32_in]
  · rw [Int.natCast_pow]; rfl
  · have e : ((2 : Int) ^ k) = ((2 ^ k : Nat) : Int) := by rw [Int.natCast_pow]; rfl
    rw [e]
    generalize 2 ^ k = q at *
    omega

set_option maxHeartbeats 1000000 in
theorem zeroBit_any (w : World) :
    Calls Try.prog 23 #[] w fun e w' => e = .returned (.agg (tab 32 (zcol 1)).toArray) ∧ Keeps [] w w' := by
  generalize hf : zcol 1 = f
  have HF := Lib.hid (show ∀ i, zb 1 (BitVec.twoPow 32 i) = f i from fun i => congrFun hf i)
  clear hf
  go_enter Try.func23, Try.ntmps23
  go_wp2_with (go_at_call 22; refine (zeroBits_any _ _).mono ?_; rintro e w' ⟨rfl, rfl⟩)
  go_loopw [5] (fun i wr => ∃ k : Nat, k ≤ 32 ∧ i = .int .i64 k ∧ Whole wr (w.heap.size + 1) 46 (tabK 32 f k) ∧ Whole wr w.heap.size 46 (tabK 32 f 0) ∧ Whole wr (w.heap.size + 1 + 1) 3 [.int .i64 1] ∧ Keeps [] w wr) (fun i _ => 32 - (intOf i).toNat)
  case atStart =>
    refine ⟨0, Nat.zero_le _, rfl, ?_, ?_, ?_, ?_⟩
    · exact (Whole.new_at (w.alloc _) _ (tabK 32 f 0) _ (by simp)).keeps (Keeps.alloc [] _ _) (by simp)
    · exact ((Whole.new w _ (tabK 32 f 0)).keeps (Keeps.alloc [] _ _) (by simp)).keeps (Keeps.alloc [] _ _) (by simp)
    · exact Whole.new_at ((w.alloc _).alloc _) _ [.int .i64 1] _ (by simp)
    · exact ((Keeps.alloc [] _ _).trans (Keeps.alloc [] _ _)).trans (Keeps.alloc [] _ _)
  case round =>
    obtain ⟨k, hk, rfl, w1, w0, w2, kp⟩ := hrel
    by_cases hlt : k < 32
    · have hlt' : (k : Int) < 32 := by omega
      have c2 := w2.cell 0
      have c1 := w1.cell k
      rw [tabK_get _ _ _ _ hlt, if_neg (Nat.lt_irrefl _)] at c1
      have f1 := w1.frozen k
      have hz := kp.size
      have S1 := Lib.hid (w1.set k (uv (f k)))
      have W0 := Lib.hid w0
      have W2 := Lib.hid w2
      have KP := Lib.hid kp
      have HP := Lib.hid (twoPow_nat k hlt)
      clear w0 w1 w2 kp
      go_wp2_with (go_at_call 26; refine (zeroBitsFn_int _ _ 1 _ (BitVec.twoPow 32 k) ?hx (by omega) c2).mono ?_)
      case hx => trace_state; exact HP.out
      rintro e w' ⟨rfl, rfl⟩
      rw [HF.out]
      go_wp2
      go_roundw
      case rel =>
        refine ⟨k + 1, by omega, by go_num, ?_, ?_, ?_, ?_⟩
        · have := S1.out; rw [tabK_set] at this; exact this
        · exact W0.out.keeps (Keeps.setCell (S := [w.heap.size + 1]) _ (by simp) _) (by simp)
        · exact W2.out.keeps (Keeps.setCell (S := [w.heap.size + 1]) _ (by simp) _) (by simp)
        · exact KP.out.then (Keeps.setCell (S := [w.heap.size + 1]) _ (by simp) _) (fun x hx => .inr (by simp at hx; omega))
      case measure => simp [intOf]; omega
    · have hkn : k = 32 := by omega
      subst hkn
      rw [tabK_all] at w1
      have W0 := Lib.hid w0
      have W1 := Lib.hid w1
      have KP := Lib.hid kp
      clear w0 w1 w2 kp
      go_wp2_with (first | (refine wpList_load_row rfl 46 _ rfl (w.heap.size + 1) rfl 46 (tab 32 f).toArray (0, 0) _ W1.out Try.underlying46 rfl (by rw [sizeMatrix]; simp [tab_length]) ?_) | (refine wpList_store_row rfl 46 _ _ rfl w.heap.size (tab 32 f).toArray rfl rfl 46 (tabK 32 f 0).toArray W0.out (by rw [sizeMatrix]; simp [tab_length]) (by simp [tab_length, tabK_length]) (tab_one _ _) ?_))
      exact bodyPost_ret (results_cell_row Try.results23 _ _ w.heap.size 46 (tab 32 f).toArray (0, 0) _ rfl (W0.out.setRow (tab 32 f)) Try.underlying46 rfl (by rw [sizeMatrix]; simp [tab_length])) rfl ⟨rfl, KP.out.then (Keeps.setRow (S := [w.heap.size]) _ (by simp) _) (fun x hx => .inr (by simp at hx; omega))⟩
end Go.Proofs.Ytpcgckppdnlccab
