/-
  PlainMemory: what comes of its cases. Written by draft/genpl9.py.
-/
import Derived.Test.YtobpfcdfhegbdaaGreatPlAw
namespace Go.Proofs.YtobpfcdfhegbdaaGreat
open Go.RowKit
set_option linter.unusedVariables false

theorem word_four (n : Nat) (h : n < 4294967296) : wordN (fourL n) = n := by
  unfold wordN fourL
  simp only [List.getD_cons_zero, List.getD_cons_succ, UInt8.toNat_ofNat']
  omega
theorem cN_self (a : BitVec 32) : cN a.toNat = a := BitVec.eq_of_toNat_eq (cN_toNat _ a.isLt)
theorem and_255 (a : BitVec 32) : (a &&& 255#32).toNat = a.toNat % 256 := by
  rw [BitVec.toNat_and]
  exact Nat.and_two_pow_sub_one_eq_mod a.toNat 8
theorem low_byte (a : BitVec 32) : cN (UInt8.ofNat a.toNat).toNat = a &&& 255#32 := by
  apply BitVec.eq_of_toNat_eq
  rw [cN_toNat _ (by have := (UInt8.ofNat a.toNat).toNat_lt; omega), and_255, UInt8.toNat_ofNat']

set_option maxRecDepth 100000 in
theorem memraw_0 (q : Nat) (hq : q < 6) (a b : BitVec 32) : (namedM 20 [] [56, 55] ⟨[cN (1048576 + 4 * q), a, cN (1048576 + 4 * q)], [], List.replicate 32 0⟩).1 = 0 ∧ (namedM 20 [] [56, 55] ⟨[cN (1048576 + 4 * q), a, cN (1048576 + 4 * q)], [], List.replicate 32 0⟩).2.s = [cN (wordN (fourL a.toNat))] := by
  have hc : q = 0 ∨ q = 1 ∨ q = 2 ∨ q = 3 ∨ q = 4 ∨ q = 5 := by omega
  rcases hc with rfl | rfl | rfl | rfl | rfl | rfl <;> exact ⟨by kernel_rfl, by kernel_rfl⟩
set_option maxRecDepth 100000 in
theorem memraw_1 (q : Nat) (hq : q < 6) (a b : BitVec 32) : (namedM 20 [] [56, 59, 55] ⟨[cN (1048576 + 4 * q), b, cN (1048576 + 4 * q), a, cN (1048576 + 4 * q)], [], List.replicate 32 0⟩).1 = 0 ∧ (namedM 20 [] [56, 59, 55] ⟨[cN (1048576 + 4 * q), b, cN (1048576 + 4 * q), a, cN (1048576 + 4 * q)], [], List.replicate 32 0⟩).2.s = [cN (wordN (fourL ((wordN (fourL a.toNat) + b.toNat) % 4294967296)))] := by
  have hc : q = 0 ∨ q = 1 ∨ q = 2 ∨ q = 3 ∨ q = 4 ∨ q = 5 := by omega
  rcases hc with rfl | rfl | rfl | rfl | rfl | rfl <;> exact ⟨by kernel_rfl, by kernel_rfl⟩
set_option maxRecDepth 100000 in
theorem memraw_2 (q : Nat) (hq : q < 6) (a b : BitVec 32) : (namedM 20 [] [61, 60] ⟨[cN (1048576 + 4 * q), a, b, cN (1048576 + 4 * q)], [], List.replicate 32 0⟩).1 = 0 ∧ (namedM 20 [] [61, 60] ⟨[cN (1048576 + 4 * q), a, b, cN (1048576 + 4 * q)], [], List.replicate 32 0⟩).2.s = [cN (wordN (fourL a.toNat)), cN (wordN (fourL b.toNat))] := by
  have hc : q = 0 ∨ q = 1 ∨ q = 2 ∨ q = 3 ∨ q = 4 ∨ q = 5 := by omega
  rcases hc with rfl | rfl | rfl | rfl | rfl | rfl <;> exact ⟨by kernel_rfl, by kernel_rfl⟩
set_option maxRecDepth 100000 in
theorem memraw_3 (q : Nat) (hq : q < 6) (a b : BitVec 32) : (namedM 20 [] [58, 57] ⟨[cN (1048576 + 4 * q), a, cN (1048576 + 4 * q)], [], List.replicate 32 0⟩).1 = 0 ∧ (namedM 20 [] [58, 57] ⟨[cN (1048576 + 4 * q), a, cN (1048576 + 4 * q)], [], List.replicate 32 0⟩).2.s = [cN (UInt8.ofNat a.toNat).toNat] := by
  have hc : q = 0 ∨ q = 1 ∨ q = 2 ∨ q = 3 ∨ q = 4 ∨ q = 5 := by omega
  rcases hc with rfl | rfl | rfl | rfl | rfl | rfl <;> exact ⟨by kernel_rfl, by kernel_rfl⟩
set_option maxRecDepth 100000 in
theorem memraw_4 (q : Nat) (hq : q < 6) (a b : BitVec 32) : (namedM 20 [] [56, 62, 55] ⟨[cN (1048576 + 4 * q + 4), cN (1048576 + 4 * q), cN (1048576 + 4 * q + 4), 4#32, a, cN (1048576 + 4 * q)], [], List.replicate 32 0⟩).1 = 0 ∧ (namedM 20 [] [56, 62, 55] ⟨[cN (1048576 + 4 * q + 4), cN (1048576 + 4 * q), cN (1048576 + 4 * q + 4), 4#32, a, cN (1048576 + 4 * q)], [], List.replicate 32 0⟩).2.s = [cN (wordN (fourL a.toNat))] := by
  have hc : q = 0 ∨ q = 1 ∨ q = 2 ∨ q = 3 ∨ q = 4 ∨ q = 5 := by omega
  rcases hc with rfl | rfl | rfl | rfl | rfl | rfl <;> exact ⟨by kernel_rfl, by kernel_rfl⟩
set_option maxRecDepth 100000 in
theorem memraw_5 (q : Nat) (hq : q < 6) (a b : BitVec 32) : (namedM 20 [] [63, 55] ⟨[cN (1048576 + 4 * q), cN (1048576 + 4 * q), 4#32, a], [], List.replicate 32 0⟩).1 = 0 ∧ (namedM 20 [] [63, 55] ⟨[cN (1048576 + 4 * q), cN (1048576 + 4 * q), 4#32, a], [], List.replicate 32 0⟩).2.s = [cN (wordN [UInt8.ofNat a.toNat, UInt8.ofNat a.toNat, UInt8.ofNat a.toNat, UInt8.ofNat a.toNat])] := by
  have hc : q = 0 ∨ q = 1 ∨ q = 2 ∨ q = 3 ∨ q = 4 ∨ q = 5 := by omega
  rcases hc with rfl | rfl | rfl | rfl | rfl | rfl <;> exact ⟨by kernel_rfl, by kernel_rfl⟩
set_option maxRecDepth 100000 in
theorem memraw_6 (q : Nat) (hq : q < 6) (a b : BitVec 32) : (namedM 20 [] [56, 69] ⟨[cN (1048576 + 4 * q), a, cN (1048576 + 4 * q)], [], List.replicate 32 0⟩).1 = 0 ∧ (namedM 20 [] [56, 69] ⟨[cN (1048576 + 4 * q), a, cN (1048576 + 4 * q)], [], List.replicate 32 0⟩).2.s = [cI (((cN (1048576 + 4 * q)).toNat : Int) + 1), cN (UInt8.ofNat a.toNat).toNat] := by
  have hc : q = 0 ∨ q = 1 ∨ q = 2 ∨ q = 3 ∨ q = 4 ∨ q = 5 := by omega
  rcases hc with rfl | rfl | rfl | rfl | rfl | rfl <;> exact ⟨by kernel_rfl, by kernel_rfl⟩
set_option maxRecDepth 100000 in
theorem memraw_7 (q : Nat) (hq : q < 6) (a b : BitVec 32) : (namedM 20 [] [68] ⟨[cN (1048576 + 4 * q + 3)], [], List.replicate 32 0⟩).1 = 0 ∧ (namedM 20 [] [68] ⟨[cN (1048576 + 4 * q + 3)], [], List.replicate 32 0⟩).2.s = [cI ((((cN (1048576 + 4 * q + 3)).toNat : Int) + 3) % 4294967296 / 4 * 4)] := by
  have hc : q = 0 ∨ q = 1 ∨ q = 2 ∨ q = 3 ∨ q = 4 ∨ q = 5 := by omega
  rcases hc with rfl | rfl | rfl | rfl | rfl | rfl <;> exact ⟨by kernel_rfl, by kernel_rfl⟩
end Go.Proofs.YtobpfcdfhegbdaaGreat
