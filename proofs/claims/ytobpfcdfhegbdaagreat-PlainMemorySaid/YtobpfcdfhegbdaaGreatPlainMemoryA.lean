/-
  PlainMemory, walked. Written by draft/genpl10.py.
-/
import Derived.Test.YtobpfcdfhegbdaaGreatPlMemM
namespace Go.Proofs.YtobpfcdfhegbdaaGreat
open Go.RowKit
set_option linter.unusedVariables false

theorem names_get (is : List Nat) (j i : Nat) (h : is[j]? = some i) : ((is.map fun i => str (primI i).name).toArray)[j]? = some (str (primI i).name) := by simp [h]
theorem becomes_at {V : World} (bi bn bo ni n no : Nat) (inL outL : List (BitVec 32)) (is : List Nat) (want : Int) (hU : UReads V (.slice (some ⟨bi, 0, none⟩) ni ni) inL bi 0) (hO : UReads V (.slice (some ⟨bo, 0, none⟩) no no) outL bo 0)
    (hN : ∀ (j i : Nat), is[j]? = some i → V.cell? ⟨bn, j, none⟩ = some (str (primI i).name)) (hb : bn < V.heap.size) (hn : is.length = n) (l1 : inL.length ≤ 20) (l2 : n ≤ 100) (h73 : is.all (fun i => decide (i < 73)) = true)
    (hT : (namedM 20 [] is ⟨inL, [], List.replicate 32 0⟩).1 = want) (hS : (namedM 20 [] is ⟨inL, [], List.replicate 32 0⟩).2.s = outL) :
    ∀ W, Keeps [] V W → Calls Tryz.prog 16 #[.slice (some ⟨bi, 0, none⟩) ni ni, .slice (some ⟨bn, 0, none⟩) n n, .slice (some ⟨bo, 0, none⟩) no no, .int .i32 want] W fun e w' => e = .returned (.bool true) ∧ Keeps [] W w' := by
  intro W hk
  have ht : inL.take (min inL.length 20) = inL := List.take_of_length_le (by omega)
  refine becomes_ok W _ _ inL outL bi 0 bo 0 bn n n is want ((namedM 20 [] is ⟨inL, [], List.replicate 32 0⟩).2) (hU.keeps hk (by simp)) (hO.keeps hk (by simp)) (by unfold maxLen; omega) hn l2 (fun j i hj => of_decide_eq_true (List.all_eq_true.1 h73 i (List.mem_of_getElem? hj))) (fun j i hj => hk.cell (hN j i hj) (by simp)) (Nat.lt_of_lt_of_le hb hk.size) ?_ hS
  rw [ht]
  exact Prod.ext hT rfl

theorem memout_0 (q : Nat) (hq : q < 6) (a b : BitVec 32) : [cN (wordN (fourL a.toNat))] = ([a] : List (BitVec 32)) := by
  rw [word_four _ a.isLt, cN_self]
theorem memout_1 (q : Nat) (hq : q < 6) (a b : BitVec 32) : [cN (wordN (fourL ((wordN (fourL a.toNat) + b.toNat) % 4294967296)))] = ([a + b] : List (BitVec 32)) := by
  rw [word_four _ a.isLt, word_four _ (by omega)]; exact congrArg (fun x => [x]) (BitVec.eq_of_toNat_eq (by rw [cN_toNat _ (by omega), BitVec.toNat_add]))
theorem memout_2 (q : Nat) (hq : q < 6) (a b : BitVec 32) : [cN (wordN (fourL a.toNat)), cN (wordN (fourL b.toNat))] = ([a, b] : List (BitVec 32)) := by
  rw [word_four _ a.isLt, word_four _ b.isLt, cN_self, cN_self]
theorem memout_3 (q : Nat) (hq : q < 6) (a b : BitVec 32) : [cN (UInt8.ofNat a.toNat).toNat] = ([a &&& 255#32] : List (BitVec 32)) := by
  rw [low_byte]
theorem memout_4 (q : Nat) (hq : q < 6) (a b : BitVec 32) : [cN (wordN (fourL a.toNat))] = ([a] : List (BitVec 32)) := by
  rw [word_four _ a.isLt, cN_self]
theorem memout_5 (q : Nat) (hq : q < 6) (a b : BitVec 32) : [cN (wordN [UInt8.ofNat a.toNat, UInt8.ofNat a.toNat, UInt8.ofNat a.toNat, UInt8.ofNat a.toNat])] = ([cI (((a &&& 255#32).toNat : Int) * 16843009)] : List (BitVec 32)) := by
  refine congrArg (fun x => [x]) (BitVec.eq_of_toNat_eq ?_)
  have hb := (UInt8.ofNat a.toNat).toNat_lt
  have hx : (UInt8.ofNat a.toNat).toNat = a.toNat % 256 := UInt8.toNat_ofNat'
  have hw : wordN [UInt8.ofNat a.toNat, UInt8.ofNat a.toNat, UInt8.ofNat a.toNat, UInt8.ofNat a.toNat] = a.toNat % 256 * 16843009 := by
    unfold wordN
    simp only [List.getD_cons_zero, List.getD_cons_succ]
    rw [hx]
    omega
  have hi := cI_toNat (((a &&& 255#32).toNat : Int) * 16843009)
  rw [and_255] at hi
  rw [hw, cN_toNat _ (by omega), and_255]
  omega
theorem memout_6 (q : Nat) (hq : q < 6) (a b : BitVec 32) : [cI (((cN (1048576 + 4 * q)).toNat : Int) + 1), cN (UInt8.ofNat a.toNat).toNat] = ([cN (1048576 + 4 * q + 1), a &&& 255#32] : List (BitVec 32)) := by
  rw [low_byte]
  refine congrArg (fun x => [x, a &&& 255#32]) (BitVec.eq_of_toNat_eq ?_)
  have hi := cI_toNat (((cN (1048576 + 4 * q)).toNat : Int) + 1)
  rw [cN_toNat _ (by omega)] at hi ⊢
  rw [cN_toNat _ (by omega)]
  omega
theorem memout_7 (q : Nat) (hq : q < 6) (a b : BitVec 32) : [cI ((((cN (1048576 + 4 * q + 3)).toNat : Int) + 3) % 4294967296 / 4 * 4)] = ([cN (1048576 + 4 * q + 4)] : List (BitVec 32)) := by
  refine congrArg (fun x => [x]) (BitVec.eq_of_toNat_eq ?_)
  have hi := cI_toNat ((((cN (1048576 + 4 * q + 3)).toNat : Int) + 3) % 4294967296 / 4 * 4)
  rw [cN_toNat _ (by omega)] at hi ⊢
  rw [cN_toNat _ (by omega)]
  omega

set_option maxRecDepth 100000 in
set_option maxHeartbeats 8000000 in
theorem PlainMemory_any (w : World) (t : Nat) (ht : t < 256) (a b : BitVec 32) : Calls Tryz.prog 6 #[.int .u8 (t : Int), .int .u32 (a.toNat : Int), .int .u32 (b.toNat : Int)] w fun e w' => e = .returned (.bool true) ∧ Keeps [] w w' := by
  obtain ⟨q, hqe⟩ : ∃ q, q = t % 6 := ⟨_, rfl⟩
  have hq : q < 6 := by omega
  have R0 := memraw_0 q hq a b
  rw [memout_0 q hq a b] at R0
  have R1 := memraw_1 q hq a b
  rw [memout_1 q hq a b] at R1
  have R2 := memraw_2 q hq a b
  rw [memout_2 q hq a b] at R2
  have R3 := memraw_3 q hq a b
  rw [memout_3 q hq a b] at R3
  have R4 := memraw_4 q hq a b
  rw [memout_4 q hq a b] at R4
  have R5 := memraw_5 q hq a b
  rw [memout_5 q hq a b] at R5
  have R6 := memraw_6 q hq a b
  rw [memout_6 q hq a b] at R6
  have R7 := memraw_7 q hq a b
  rw [memout_7 q hq a b] at R7
  obtain ⟨k0, hk0⟩ : ∃ x : Int, x = ((cN (1048576 + 4 * q)).toNat : Int) := ⟨_, rfl⟩
  obtain ⟨k1, hk1⟩ : ∃ x : Int, x = ((cN (1048576 + 4 * q + 1)).toNat : Int) := ⟨_, rfl⟩
  obtain ⟨k3, hk3⟩ : ∃ x : Int, x = ((cN (1048576 + 4 * q + 3)).toNat : Int) := ⟨_, rfl⟩
  obtain ⟨k4, hk4⟩ : ∃ x : Int, x = ((cN (1048576 + 4 * q + 4)).toNat : Int) := ⟨_, rfl⟩
  obtain ⟨A, hA⟩ : ∃ x : Int, x = (a.toNat : Int) := ⟨_, rfl⟩
  obtain ⟨Bb, hBb⟩ : ∃ x : Int, x = (b.toNat : Int) := ⟨_, rfl⟩
  obtain ⟨AB, hAB⟩ : ∃ x : Int, x = ((a + b).toNat : Int) := ⟨_, rfl⟩
  obtain ⟨LA, hLA⟩ : ∃ x : Int, x = ((a &&& 255#32).toNat : Int) := ⟨_, rfl⟩
  obtain ⟨FA, hFA⟩ : ∃ x : Int, x = ((cI (((a &&& 255#32).toNat : Int) * 16843009)).toNat : Int) := ⟨_, rfl⟩
  obtain ⟨Q, hQ⟩ : ∃ x : Int, x = (q : Int) := ⟨_, rfl⟩
  obtain ⟨T, hT⟩ : ∃ x : Int, x = (t : Int) := ⟨_, rfl⟩
  have e0 : T % 6 = Q := by omega
  have t0 : 0 ≤ T := by omega
  have t1 : T < 256 := by omega
  have v0 : k0 = 1048576 + Q * 4 := by rw [hk0, cN_toNat _ (by omega), hQ]; omega
  have e2 : 1048576 + Q * 4 = k0 := v0.symm
  have e3n : k0 + 4 = k4 := by rw [v0, hk4, cN_toNat _ (by omega), hQ]; omega
  have e3 : (k0 + 4) % 4294967296 = k4 := by rw [v0, hk4, cN_toNat _ (by omega), hQ]; omega
  have e4n : k0 + 1 = k1 := by rw [v0, hk1, cN_toNat _ (by omega), hQ]; omega
  have e4 : (k0 + 1) % 4294967296 = k1 := by rw [v0, hk1, cN_toNat _ (by omega), hQ]; omega
  have e5n : k0 + 3 = k3 := by rw [v0, hk3, cN_toNat _ (by omega), hQ]; omega
  have e5 : (k0 + 3) % 4294967296 = k3 := by rw [v0, hk3, cN_toNat _ (by omega), hQ]; omega
  have e6 : (A + Bb) % 4294967296 = AB := by rw [hA, hBb, hAB, BitVec.toNat_add]; omega
  have e7 : bits .and .u32 A 255 = LA := by rw [hA, hLA]; exact bits_and32 a 255#32
  have e8 : LA * 16843009 % 4294967296 = FA := by rw [hFA, hLA, cI_toNat]
  have q0 : 0 ≤ Q ∧ Q < 6 := by omega
  obtain ⟨q0, q1⟩ := q0
  have j0 : 0 ≤ k0 ∧ k0 ≤ 1048596 := by omega
  obtain ⟨j0, j1⟩ := j0
  rw [← hA, ← hBb, ← hT]
  have ss : ∀ (V : World) (o : Obj), (V.alloc o).heap.size = V.heap.size + 1 := fun V o => by simp
  obtain ⟨V1, hV1⟩ : ∃ V : World, V = w.alloc (.cells #[.int .u32 k0, .int .u32 A, .int .u32 k0] 24) := ⟨_, rfl⟩
  obtain ⟨V2, hV2⟩ : ∃ V : World, V = V1.alloc (.cells #[.string ⟨#[33]⟩, .string ⟨#[64]⟩] 9) := ⟨_, rfl⟩
  have z1 : V1.heap.size = w.heap.size + 1 := by rw [hV1, ss]
  obtain ⟨V3, hV3⟩ : ∃ V : World, V = V2.alloc (.cells #[.int .u32 A] 24) := ⟨_, rfl⟩
  have z2 : V2.heap.size = w.heap.size + 1 + 1 := by rw [hV2, ss, z1]
  obtain ⟨V4, hV4⟩ : ∃ V : World, V = V3.alloc (.cells #[.int .u32 k0, .int .u32 Bb, .int .u32 k0, .int .u32 A, .int .u32 k0] 24) := ⟨_, rfl⟩
  have z3 : V3.heap.size = w.heap.size + 1 + 1 + 1 := by rw [hV3, ss, z2]
  obtain ⟨V5, hV5⟩ : ∃ V : World, V = V4.alloc (.cells #[.string ⟨#[33]⟩, .string ⟨#[43, 33]⟩, .string ⟨#[64]⟩] 9) := ⟨_, rfl⟩
  have z4 : V4.heap.size = w.heap.size + 1 + 1 + 1 + 1 := by rw [hV4, ss, z3]
  obtain ⟨V6, hV6⟩ : ∃ V : World, V = V5.alloc (.cells #[.int .u32 AB] 24) := ⟨_, rfl⟩
  have z5 : V5.heap.size = w.heap.size + 1 + 1 + 1 + 1 + 1 := by rw [hV5, ss, z4]
  obtain ⟨V7, hV7⟩ : ∃ V : World, V = V6.alloc (.cells #[.int .u32 k0, .int .u32 A, .int .u32 Bb, .int .u32 k0] 24) := ⟨_, rfl⟩
  have z6 : V6.heap.size = w.heap.size + 1 + 1 + 1 + 1 + 1 + 1 := by rw [hV6, ss, z5]
  obtain ⟨V8, hV8⟩ : ∃ V : World, V = V7.alloc (.cells #[.string ⟨#[50, 33]⟩, .string ⟨#[50, 64]⟩] 9) := ⟨_, rfl⟩
  have z7 : V7.heap.size = w.heap.size + 1 + 1 + 1 + 1 + 1 + 1 + 1 := by rw [hV7, ss, z6]
  obtain ⟨V9, hV9⟩ : ∃ V : World, V = V8.alloc (.cells #[.int .u32 A, .int .u32 Bb] 24) := ⟨_, rfl⟩
  have z8 : V8.heap.size = w.heap.size + 1 + 1 + 1 + 1 + 1 + 1 + 1 + 1 := by rw [hV8, ss, z7]
  obtain ⟨V10, hV10⟩ : ∃ V : World, V = V9.alloc (.cells #[.int .u32 k0, .int .u32 A, .int .u32 k0] 24) := ⟨_, rfl⟩
  have z9 : V9.heap.size = w.heap.size + 1 + 1 + 1 + 1 + 1 + 1 + 1 + 1 + 1 := by rw [hV9, ss, z8]
  obtain ⟨V11, hV11⟩ : ∃ V : World, V = V10.alloc (.cells #[.string ⟨#[67, 33]⟩, .string ⟨#[67, 64]⟩] 9) := ⟨_, rfl⟩
  have z10 : V10.heap.size = w.heap.size + 1 + 1 + 1 + 1 + 1 + 1 + 1 + 1 + 1 + 1 := by rw [hV10, ss, z9]
  obtain ⟨V12, hV12⟩ : ∃ V : World, V = V11.alloc (.cells #[.int .u32 LA] 24) := ⟨_, rfl⟩
  have z11 : V11.heap.size = w.heap.size + 1 + 1 + 1 + 1 + 1 + 1 + 1 + 1 + 1 + 1 + 1 := by rw [hV11, ss, z10]
  obtain ⟨V13, hV13⟩ : ∃ V : World, V = V12.alloc (.cells #[.int .u32 k4, .int .u32 k0, .int .u32 k4, .int .u32 4, .int .u32 A, .int .u32 k0] 24) := ⟨_, rfl⟩
  have z12 : V12.heap.size = w.heap.size + 1 + 1 + 1 + 1 + 1 + 1 + 1 + 1 + 1 + 1 + 1 + 1 := by rw [hV12, ss, z11]
  obtain ⟨V14, hV14⟩ : ∃ V : World, V = V13.alloc (.cells #[.string ⟨#[33]⟩, .string ⟨#[77, 79, 86, 69]⟩, .string ⟨#[64]⟩] 9) := ⟨_, rfl⟩
  have z13 : V13.heap.size = w.heap.size + 1 + 1 + 1 + 1 + 1 + 1 + 1 + 1 + 1 + 1 + 1 + 1 + 1 := by rw [hV13, ss, z12]
  obtain ⟨V15, hV15⟩ : ∃ V : World, V = V14.alloc (.cells #[.int .u32 A] 24) := ⟨_, rfl⟩
  have z14 : V14.heap.size = w.heap.size + 1 + 1 + 1 + 1 + 1 + 1 + 1 + 1 + 1 + 1 + 1 + 1 + 1 + 1 := by rw [hV14, ss, z13]
  obtain ⟨V16, hV16⟩ : ∃ V : World, V = V15.alloc (.cells #[.int .u32 k0, .int .u32 k0, .int .u32 4, .int .u32 A] 24) := ⟨_, rfl⟩
  have z15 : V15.heap.size = w.heap.size + 1 + 1 + 1 + 1 + 1 + 1 + 1 + 1 + 1 + 1 + 1 + 1 + 1 + 1 + 1 := by rw [hV15, ss, z14]
  obtain ⟨V17, hV17⟩ : ∃ V : World, V = V16.alloc (.cells #[.string ⟨#[70, 73, 76, 76]⟩, .string ⟨#[64]⟩] 9) := ⟨_, rfl⟩
  have z16 : V16.heap.size = w.heap.size + 1 + 1 + 1 + 1 + 1 + 1 + 1 + 1 + 1 + 1 + 1 + 1 + 1 + 1 + 1 + 1 := by rw [hV16, ss, z15]
  obtain ⟨V18, hV18⟩ : ∃ V : World, V = V17.alloc (.cells #[.int .u32 FA] 24) := ⟨_, rfl⟩
  have z17 : V17.heap.size = w.heap.size + 1 + 1 + 1 + 1 + 1 + 1 + 1 + 1 + 1 + 1 + 1 + 1 + 1 + 1 + 1 + 1 + 1 := by rw [hV17, ss, z16]
  obtain ⟨V19, hV19⟩ : ∃ V : World, V = V18.alloc (.cells #[.int .u32 k0, .int .u32 A, .int .u32 k0] 24) := ⟨_, rfl⟩
  have z18 : V18.heap.size = w.heap.size + 1 + 1 + 1 + 1 + 1 + 1 + 1 + 1 + 1 + 1 + 1 + 1 + 1 + 1 + 1 + 1 + 1 + 1 := by rw [hV18, ss, z17]
  obtain ⟨V20, hV20⟩ : ∃ V : World, V = V19.alloc (.cells #[.string ⟨#[33]⟩, .string ⟨#[67, 79, 85, 78, 84]⟩] 9) := ⟨_, rfl⟩
  have z19 : V19.heap.size = w.heap.size + 1 + 1 + 1 + 1 + 1 + 1 + 1 + 1 + 1 + 1 + 1 + 1 + 1 + 1 + 1 + 1 + 1 + 1 + 1 := by rw [hV19, ss, z18]
  obtain ⟨V21, hV21⟩ : ∃ V : World, V = V20.alloc (.cells #[.int .u32 k1, .int .u32 LA] 24) := ⟨_, rfl⟩
  have z20 : V20.heap.size = w.heap.size + 1 + 1 + 1 + 1 + 1 + 1 + 1 + 1 + 1 + 1 + 1 + 1 + 1 + 1 + 1 + 1 + 1 + 1 + 1 + 1 := by rw [hV20, ss, z19]
  obtain ⟨V22, hV22⟩ : ∃ V : World, V = V21.alloc (.cells #[.int .u32 k3] 24) := ⟨_, rfl⟩
  have z21 : V21.heap.size = w.heap.size + 1 + 1 + 1 + 1 + 1 + 1 + 1 + 1 + 1 + 1 + 1 + 1 + 1 + 1 + 1 + 1 + 1 + 1 + 1 + 1 + 1 := by rw [hV21, ss, z20]
  obtain ⟨V23, hV23⟩ : ∃ V : World, V = V22.alloc (.cells #[.string ⟨#[65, 76, 73, 71, 78, 69, 68]⟩] 9) := ⟨_, rfl⟩
  have z22 : V22.heap.size = w.heap.size + 1 + 1 + 1 + 1 + 1 + 1 + 1 + 1 + 1 + 1 + 1 + 1 + 1 + 1 + 1 + 1 + 1 + 1 + 1 + 1 + 1 + 1 := by rw [hV22, ss, z21]
  obtain ⟨V24, hV24⟩ : ∃ V : World, V = V23.alloc (.cells #[.int .u32 k4] 24) := ⟨_, rfl⟩
  have z23 : V23.heap.size = w.heap.size + 1 + 1 + 1 + 1 + 1 + 1 + 1 + 1 + 1 + 1 + 1 + 1 + 1 + 1 + 1 + 1 + 1 + 1 + 1 + 1 + 1 + 1 + 1 := by rw [hV23, ss, z22]
  obtain ⟨V25, hV25⟩ : ∃ V : World, V = V24.alloc (.cells #[.slice (some ⟨w.heap.size, 0, none⟩) 3 3, .slice (some ⟨w.heap.size + 1, 0, none⟩) 2 2, .slice (some ⟨w.heap.size + 1 + 1, 0, none⟩) 1 1, .slice (some ⟨w.heap.size + 1 + 1 + 1, 0, none⟩) 5 5, .slice (some ⟨w.heap.size + 1 + 1 + 1 + 1, 0, none⟩) 3 3, .slice (some ⟨w.heap.size + 1 + 1 + 1 + 1 + 1, 0, none⟩) 1 1, .slice (some ⟨w.heap.size + 1 + 1 + 1 + 1 + 1 + 1, 0, none⟩) 4 4, .slice (some ⟨w.heap.size + 1 + 1 + 1 + 1 + 1 + 1 + 1, 0, none⟩) 2 2, .slice (some ⟨w.heap.size + 1 + 1 + 1 + 1 + 1 + 1 + 1 + 1, 0, none⟩) 2 2, .slice (some ⟨w.heap.size + 1 + 1 + 1 + 1 + 1 + 1 + 1 + 1 + 1, 0, none⟩) 3 3, .slice (some ⟨w.heap.size + 1 + 1 + 1 + 1 + 1 + 1 + 1 + 1 + 1 + 1, 0, none⟩) 2 2, .slice (some ⟨w.heap.size + 1 + 1 + 1 + 1 + 1 + 1 + 1 + 1 + 1 + 1 + 1, 0, none⟩) 1 1, .slice (some ⟨w.heap.size + 1 + 1 + 1 + 1 + 1 + 1 + 1 + 1 + 1 + 1 + 1 + 1, 0, none⟩) 6 6, .slice (some ⟨w.heap.size + 1 + 1 + 1 + 1 + 1 + 1 + 1 + 1 + 1 + 1 + 1 + 1 + 1, 0, none⟩) 3 3, .slice (some ⟨w.heap.size + 1 + 1 + 1 + 1 + 1 + 1 + 1 + 1 + 1 + 1 + 1 + 1 + 1 + 1, 0, none⟩) 1 1, .slice (some ⟨w.heap.size + 1 + 1 + 1 + 1 + 1 + 1 + 1 + 1 + 1 + 1 + 1 + 1 + 1 + 1 + 1, 0, none⟩) 4 4, .slice (some ⟨w.heap.size + 1 + 1 + 1 + 1 + 1 + 1 + 1 + 1 + 1 + 1 + 1 + 1 + 1 + 1 + 1 + 1, 0, none⟩) 2 2, .slice (some ⟨w.heap.size + 1 + 1 + 1 + 1 + 1 + 1 + 1 + 1 + 1 + 1 + 1 + 1 + 1 + 1 + 1 + 1 + 1, 0, none⟩) 1 1, .slice (some ⟨w.heap.size + 1 + 1 + 1 + 1 + 1 + 1 + 1 + 1 + 1 + 1 + 1 + 1 + 1 + 1 + 1 + 1 + 1 + 1, 0, none⟩) 3 3, .slice (some ⟨w.heap.size + 1 + 1 + 1 + 1 + 1 + 1 + 1 + 1 + 1 + 1 + 1 + 1 + 1 + 1 + 1 + 1 + 1 + 1 + 1, 0, none⟩) 2 2, .slice (some ⟨w.heap.size + 1 + 1 + 1 + 1 + 1 + 1 + 1 + 1 + 1 + 1 + 1 + 1 + 1 + 1 + 1 + 1 + 1 + 1 + 1 + 1, 0, none⟩) 2 2, .slice (some ⟨w.heap.size + 1 + 1 + 1 + 1 + 1 + 1 + 1 + 1 + 1 + 1 + 1 + 1 + 1 + 1 + 1 + 1 + 1 + 1 + 1 + 1 + 1, 0, none⟩) 1 1, .slice (some ⟨w.heap.size + 1 + 1 + 1 + 1 + 1 + 1 + 1 + 1 + 1 + 1 + 1 + 1 + 1 + 1 + 1 + 1 + 1 + 1 + 1 + 1 + 1 + 1, 0, none⟩) 1 1, .slice (some ⟨w.heap.size + 1 + 1 + 1 + 1 + 1 + 1 + 1 + 1 + 1 + 1 + 1 + 1 + 1 + 1 + 1 + 1 + 1 + 1 + 1 + 1 + 1 + 1 + 1, 0, none⟩) 1 1] 52) := ⟨_, rfl⟩
  have z24 : V24.heap.size = w.heap.size + 1 + 1 + 1 + 1 + 1 + 1 + 1 + 1 + 1 + 1 + 1 + 1 + 1 + 1 + 1 + 1 + 1 + 1 + 1 + 1 + 1 + 1 + 1 + 1 := by rw [hV24, ss, z23]
  have KK25 := Lib.hid (Keeps.refl [] V25)
  have KK24 := Lib.hid (show Keeps [] V24 V25 from Keeps.trans (by rw [hV25]; exact Keeps.alloc [] _ _) KK25.out)
  have KK23 := Lib.hid (show Keeps [] V23 V25 from Keeps.trans (by rw [hV24]; exact Keeps.alloc [] _ _) KK24.out)
  have KK22 := Lib.hid (show Keeps [] V22 V25 from Keeps.trans (by rw [hV23]; exact Keeps.alloc [] _ _) KK23.out)
  have KK21 := Lib.hid (show Keeps [] V21 V25 from Keeps.trans (by rw [hV22]; exact Keeps.alloc [] _ _) KK22.out)
  have KK20 := Lib.hid (show Keeps [] V20 V25 from Keeps.trans (by rw [hV21]; exact Keeps.alloc [] _ _) KK21.out)
  have KK19 := Lib.hid (show Keeps [] V19 V25 from Keeps.trans (by rw [hV20]; exact Keeps.alloc [] _ _) KK20.out)
  have KK18 := Lib.hid (show Keeps [] V18 V25 from Keeps.trans (by rw [hV19]; exact Keeps.alloc [] _ _) KK19.out)
  have KK17 := Lib.hid (show Keeps [] V17 V25 from Keeps.trans (by rw [hV18]; exact Keeps.alloc [] _ _) KK18.out)
  have KK16 := Lib.hid (show Keeps [] V16 V25 from Keeps.trans (by rw [hV17]; exact Keeps.alloc [] _ _) KK17.out)
  have KK15 := Lib.hid (show Keeps [] V15 V25 from Keeps.trans (by rw [hV16]; exact Keeps.alloc [] _ _) KK16.out)
  have KK14 := Lib.hid (show Keeps [] V14 V25 from Keeps.trans (by rw [hV15]; exact Keeps.alloc [] _ _) KK15.out)
  have KK13 := Lib.hid (show Keeps [] V13 V25 from Keeps.trans (by rw [hV14]; exact Keeps.alloc [] _ _) KK14.out)
  have KK12 := Lib.hid (show Keeps [] V12 V25 from Keeps.trans (by rw [hV13]; exact Keeps.alloc [] _ _) KK13.out)
  have KK11 := Lib.hid (show Keeps [] V11 V25 from Keeps.trans (by rw [hV12]; exact Keeps.alloc [] _ _) KK12.out)
  have KK10 := Lib.hid (show Keeps [] V10 V25 from Keeps.trans (by rw [hV11]; exact Keeps.alloc [] _ _) KK11.out)
  have KK9 := Lib.hid (show Keeps [] V9 V25 from Keeps.trans (by rw [hV10]; exact Keeps.alloc [] _ _) KK10.out)
  have KK8 := Lib.hid (show Keeps [] V8 V25 from Keeps.trans (by rw [hV9]; exact Keeps.alloc [] _ _) KK9.out)
  have KK7 := Lib.hid (show Keeps [] V7 V25 from Keeps.trans (by rw [hV8]; exact Keeps.alloc [] _ _) KK8.out)
  have KK6 := Lib.hid (show Keeps [] V6 V25 from Keeps.trans (by rw [hV7]; exact Keeps.alloc [] _ _) KK7.out)
  have KK5 := Lib.hid (show Keeps [] V5 V25 from Keeps.trans (by rw [hV6]; exact Keeps.alloc [] _ _) KK6.out)
  have KK4 := Lib.hid (show Keeps [] V4 V25 from Keeps.trans (by rw [hV5]; exact Keeps.alloc [] _ _) KK5.out)
  have KK3 := Lib.hid (show Keeps [] V3 V25 from Keeps.trans (by rw [hV4]; exact Keeps.alloc [] _ _) KK4.out)
  have KK2 := Lib.hid (show Keeps [] V2 V25 from Keeps.trans (by rw [hV3]; exact Keeps.alloc [] _ _) KK3.out)
  have KK1 := Lib.hid (show Keeps [] V1 V25 from Keeps.trans (by rw [hV2]; exact Keeps.alloc [] _ _) KK2.out)
  have KK0 := Lib.hid (show Keeps [] w V25 from Keeps.trans (by rw [hV1]; exact Keeps.alloc [] _ _) KK1.out)
  have U0 := Lib.hid (show UReads V25 (.slice (some ⟨w.heap.size, 0, none⟩) 3 3) [cN (1048576 + 4 * q), a, cN (1048576 + 4 * q)] (w.heap.size) 0 from by
    have hu := UReads.lit12 w [cN (1048576 + 4 * q), a, cN (1048576 + 4 * q)] #[.int .u32 k0, .int .u32 A, .int .u32 k0] 24 3 (by first | rfl | (simp only [List.map_cons, List.map_nil, uv, hA, hk0]; done) | (simp only [List.map_cons, List.map_nil, uv, hA, hk0]; rfl)) rfl
    rw [← hV1] at hu
    exact hu.keeps KK1.out (by simp))
  have U1 := Lib.hid (show ∀ (j i : Nat), ([56, 55] : List Nat)[j]? = some i → V25.cell? ⟨w.heap.size + 1, j, none⟩ = some (str (primI i).name) from by
    intro j i hj
    refine KK2.out.cell (p := ⟨w.heap.size + 1, j, none⟩) ?_ (by simp)
    rw [hV2, ← z1, cell_alloc_new, show (#[.string ⟨#[33]⟩, .string ⟨#[64]⟩] : Array Value) = (([56, 55] : List Nat).map fun i => str (primI i).name).toArray from by kernel_rfl]
    exact names_get _ j i hj)
  have U2 := Lib.hid (show UReads V25 (.slice (some ⟨w.heap.size + 1 + 1, 0, none⟩) 1 1) [a] (w.heap.size + 1 + 1) 0 from by
    have hu := UReads.lit12 V2 [a] #[.int .u32 A] 24 1 (by first | rfl | (simp only [List.map_cons, List.map_nil, uv, hA]; done) | (simp only [List.map_cons, List.map_nil, uv, hA]; rfl)) rfl
    rw [z2, ← hV3] at hu
    exact hu.keeps KK3.out (by simp))
  have U3 := Lib.hid (show UReads V25 (.slice (some ⟨w.heap.size + 1 + 1 + 1, 0, none⟩) 5 5) [cN (1048576 + 4 * q), b, cN (1048576 + 4 * q), a, cN (1048576 + 4 * q)] (w.heap.size + 1 + 1 + 1) 0 from by
    have hu := UReads.lit12 V3 [cN (1048576 + 4 * q), b, cN (1048576 + 4 * q), a, cN (1048576 + 4 * q)] #[.int .u32 k0, .int .u32 Bb, .int .u32 k0, .int .u32 A, .int .u32 k0] 24 5 (by first | rfl | (simp only [List.map_cons, List.map_nil, uv, hA, hBb, hk0]; done) | (simp only [List.map_cons, List.map_nil, uv, hA, hBb, hk0]; rfl)) rfl
    rw [z3, ← hV4] at hu
    exact hu.keeps KK4.out (by simp))
  have U4 := Lib.hid (show ∀ (j i : Nat), ([56, 59, 55] : List Nat)[j]? = some i → V25.cell? ⟨w.heap.size + 1 + 1 + 1 + 1, j, none⟩ = some (str (primI i).name) from by
    intro j i hj
    refine KK5.out.cell (p := ⟨w.heap.size + 1 + 1 + 1 + 1, j, none⟩) ?_ (by simp)
    rw [hV5, ← z4, cell_alloc_new, show (#[.string ⟨#[33]⟩, .string ⟨#[43, 33]⟩, .string ⟨#[64]⟩] : Array Value) = (([56, 59, 55] : List Nat).map fun i => str (primI i).name).toArray from by kernel_rfl]
    exact names_get _ j i hj)
  have U5 := Lib.hid (show UReads V25 (.slice (some ⟨w.heap.size + 1 + 1 + 1 + 1 + 1, 0, none⟩) 1 1) [a + b] (w.heap.size + 1 + 1 + 1 + 1 + 1) 0 from by
    have hu := UReads.lit12 V5 [a + b] #[.int .u32 AB] 24 1 (by first | rfl | (simp only [List.map_cons, List.map_nil, uv, hAB]; done) | (simp only [List.map_cons, List.map_nil, uv, hAB]; rfl)) rfl
    rw [z5, ← hV6] at hu
    exact hu.keeps KK6.out (by simp))
  have U6 := Lib.hid (show UReads V25 (.slice (some ⟨w.heap.size + 1 + 1 + 1 + 1 + 1 + 1, 0, none⟩) 4 4) [cN (1048576 + 4 * q), a, b, cN (1048576 + 4 * q)] (w.heap.size + 1 + 1 + 1 + 1 + 1 + 1) 0 from by
    have hu := UReads.lit12 V6 [cN (1048576 + 4 * q), a, b, cN (1048576 + 4 * q)] #[.int .u32 k0, .int .u32 A, .int .u32 Bb, .int .u32 k0] 24 4 (by first | rfl | (simp only [List.map_cons, List.map_nil, uv, hA, hBb, hk0]; done) | (simp only [List.map_cons, List.map_nil, uv, hA, hBb, hk0]; rfl)) rfl
    rw [z6, ← hV7] at hu
    exact hu.keeps KK7.out (by simp))
  have U7 := Lib.hid (show ∀ (j i : Nat), ([61, 60] : List Nat)[j]? = some i → V25.cell? ⟨w.heap.size + 1 + 1 + 1 + 1 + 1 + 1 + 1, j, none⟩ = some (str (primI i).name) from by
    intro j i hj
    refine KK8.out.cell (p := ⟨w.heap.size + 1 + 1 + 1 + 1 + 1 + 1 + 1, j, none⟩) ?_ (by simp)
    rw [hV8, ← z7, cell_alloc_new, show (#[.string ⟨#[50, 33]⟩, .string ⟨#[50, 64]⟩] : Array Value) = (([61, 60] : List Nat).map fun i => str (primI i).name).toArray from by kernel_rfl]
    exact names_get _ j i hj)
  have U8 := Lib.hid (show UReads V25 (.slice (some ⟨w.heap.size + 1 + 1 + 1 + 1 + 1 + 1 + 1 + 1, 0, none⟩) 2 2) [a, b] (w.heap.size + 1 + 1 + 1 + 1 + 1 + 1 + 1 + 1) 0 from by
    have hu := UReads.lit12 V8 [a, b] #[.int .u32 A, .int .u32 Bb] 24 2 (by first | rfl | (simp only [List.map_cons, List.map_nil, uv, hA, hBb]; done) | (simp only [List.map_cons, List.map_nil, uv, hA, hBb]; rfl)) rfl
    rw [z8, ← hV9] at hu
    exact hu.keeps KK9.out (by simp))
  have U9 := Lib.hid (show UReads V25 (.slice (some ⟨w.heap.size + 1 + 1 + 1 + 1 + 1 + 1 + 1 + 1 + 1, 0, none⟩) 3 3) [cN (1048576 + 4 * q), a, cN (1048576 + 4 * q)] (w.heap.size + 1 + 1 + 1 + 1 + 1 + 1 + 1 + 1 + 1) 0 from by
    have hu := UReads.lit12 V9 [cN (1048576 + 4 * q), a, cN (1048576 + 4 * q)] #[.int .u32 k0, .int .u32 A, .int .u32 k0] 24 3 (by first | rfl | (simp only [List.map_cons, List.map_nil, uv, hA, hk0]; done) | (simp only [List.map_cons, List.map_nil, uv, hA, hk0]; rfl)) rfl
    rw [z9, ← hV10] at hu
    exact hu.keeps KK10.out (by simp))
  have U10 := Lib.hid (show ∀ (j i : Nat), ([58, 57] : List Nat)[j]? = some i → V25.cell? ⟨w.heap.size + 1 + 1 + 1 + 1 + 1 + 1 + 1 + 1 + 1 + 1, j, none⟩ = some (str (primI i).name) from by
    intro j i hj
    refine KK11.out.cell (p := ⟨w.heap.size + 1 + 1 + 1 + 1 + 1 + 1 + 1 + 1 + 1 + 1, j, none⟩) ?_ (by simp)
    rw [hV11, ← z10, cell_alloc_new, show (#[.string ⟨#[67, 33]⟩, .string ⟨#[67, 64]⟩] : Array Value) = (([58, 57] : List Nat).map fun i => str (primI i).name).toArray from by kernel_rfl]
    exact names_get _ j i hj)
  have U11 := Lib.hid (show UReads V25 (.slice (some ⟨w.heap.size + 1 + 1 + 1 + 1 + 1 + 1 + 1 + 1 + 1 + 1 + 1, 0, none⟩) 1 1) [a &&& 255#32] (w.heap.size + 1 + 1 + 1 + 1 + 1 + 1 + 1 + 1 + 1 + 1 + 1) 0 from by
    have hu := UReads.lit12 V11 [a &&& 255#32] #[.int .u32 LA] 24 1 (by first | rfl | (simp only [List.map_cons, List.map_nil, uv, hLA]; done) | (simp only [List.map_cons, List.map_nil, uv, hLA]; rfl)) rfl
    rw [z11, ← hV12] at hu
    exact hu.keeps KK12.out (by simp))
  have U12 := Lib.hid (show UReads V25 (.slice (some ⟨w.heap.size + 1 + 1 + 1 + 1 + 1 + 1 + 1 + 1 + 1 + 1 + 1 + 1, 0, none⟩) 6 6) [cN (1048576 + 4 * q + 4), cN (1048576 + 4 * q), cN (1048576 + 4 * q + 4), 4#32, a, cN (1048576 + 4 * q)] (w.heap.size + 1 + 1 + 1 + 1 + 1 + 1 + 1 + 1 + 1 + 1 + 1 + 1) 0 from by
    have hu := UReads.lit12 V12 [cN (1048576 + 4 * q + 4), cN (1048576 + 4 * q), cN (1048576 + 4 * q + 4), 4#32, a, cN (1048576 + 4 * q)] #[.int .u32 k4, .int .u32 k0, .int .u32 k4, .int .u32 4, .int .u32 A, .int .u32 k0] 24 6 (by first | rfl | (simp only [List.map_cons, List.map_nil, uv, hA, hk0, hk4]; done) | (simp only [List.map_cons, List.map_nil, uv, hA, hk0, hk4]; rfl)) rfl
    rw [z12, ← hV13] at hu
    exact hu.keeps KK13.out (by simp))
  have U13 := Lib.hid (show ∀ (j i : Nat), ([56, 62, 55] : List Nat)[j]? = some i → V25.cell? ⟨w.heap.size + 1 + 1 + 1 + 1 + 1 + 1 + 1 + 1 + 1 + 1 + 1 + 1 + 1, j, none⟩ = some (str (primI i).name) from by
    intro j i hj
    refine KK14.out.cell (p := ⟨w.heap.size + 1 + 1 + 1 + 1 + 1 + 1 + 1 + 1 + 1 + 1 + 1 + 1 + 1, j, none⟩) ?_ (by simp)
    rw [hV14, ← z13, cell_alloc_new, show (#[.string ⟨#[33]⟩, .string ⟨#[77, 79, 86, 69]⟩, .string ⟨#[64]⟩] : Array Value) = (([56, 62, 55] : List Nat).map fun i => str (primI i).name).toArray from by kernel_rfl]
    exact names_get _ j i hj)
  have U14 := Lib.hid (show UReads V25 (.slice (some ⟨w.heap.size + 1 + 1 + 1 + 1 + 1 + 1 + 1 + 1 + 1 + 1 + 1 + 1 + 1 + 1, 0, none⟩) 1 1) [a] (w.heap.size + 1 + 1 + 1 + 1 + 1 + 1 + 1 + 1 + 1 + 1 + 1 + 1 + 1 + 1) 0 from by
    have hu := UReads.lit12 V14 [a] #[.int .u32 A] 24 1 (by first | rfl | (simp only [List.map_cons, List.map_nil, uv, hA]; done) | (simp only [List.map_cons, List.map_nil, uv, hA]; rfl)) rfl
    rw [z14, ← hV15] at hu
    exact hu.keeps KK15.out (by simp))
  have U15 := Lib.hid (show UReads V25 (.slice (some ⟨w.heap.size + 1 + 1 + 1 + 1 + 1 + 1 + 1 + 1 + 1 + 1 + 1 + 1 + 1 + 1 + 1, 0, none⟩) 4 4) [cN (1048576 + 4 * q), cN (1048576 + 4 * q), 4#32, a] (w.heap.size + 1 + 1 + 1 + 1 + 1 + 1 + 1 + 1 + 1 + 1 + 1 + 1 + 1 + 1 + 1) 0 from by
    have hu := UReads.lit12 V15 [cN (1048576 + 4 * q), cN (1048576 + 4 * q), 4#32, a] #[.int .u32 k0, .int .u32 k0, .int .u32 4, .int .u32 A] 24 4 (by first | rfl | (simp only [List.map_cons, List.map_nil, uv, hA, hk0]; done) | (simp only [List.map_cons, List.map_nil, uv, hA, hk0]; rfl)) rfl
    rw [z15, ← hV16] at hu
    exact hu.keeps KK16.out (by simp))
  have U16 := Lib.hid (show ∀ (j i : Nat), ([63, 55] : List Nat)[j]? = some i → V25.cell? ⟨w.heap.size + 1 + 1 + 1 + 1 + 1 + 1 + 1 + 1 + 1 + 1 + 1 + 1 + 1 + 1 + 1 + 1, j, none⟩ = some (str (primI i).name) from by
    intro j i hj
    refine KK17.out.cell (p := ⟨w.heap.size + 1 + 1 + 1 + 1 + 1 + 1 + 1 + 1 + 1 + 1 + 1 + 1 + 1 + 1 + 1 + 1, j, none⟩) ?_ (by simp)
    rw [hV17, ← z16, cell_alloc_new, show (#[.string ⟨#[70, 73, 76, 76]⟩, .string ⟨#[64]⟩] : Array Value) = (([63, 55] : List Nat).map fun i => str (primI i).name).toArray from by kernel_rfl]
    exact names_get _ j i hj)
  have U17 := Lib.hid (show UReads V25 (.slice (some ⟨w.heap.size + 1 + 1 + 1 + 1 + 1 + 1 + 1 + 1 + 1 + 1 + 1 + 1 + 1 + 1 + 1 + 1 + 1, 0, none⟩) 1 1) [cI (((a &&& 255#32).toNat : Int) * 16843009)] (w.heap.size + 1 + 1 + 1 + 1 + 1 + 1 + 1 + 1 + 1 + 1 + 1 + 1 + 1 + 1 + 1 + 1 + 1) 0 from by
    have hu := UReads.lit12 V17 [cI (((a &&& 255#32).toNat : Int) * 16843009)] #[.int .u32 FA] 24 1 (by first | rfl | (simp only [List.map_cons, List.map_nil, uv, hFA]; done) | (simp only [List.map_cons, List.map_nil, uv, hFA]; rfl)) rfl
    rw [z17, ← hV18] at hu
    exact hu.keeps KK18.out (by simp))
  have U18 := Lib.hid (show UReads V25 (.slice (some ⟨w.heap.size + 1 + 1 + 1 + 1 + 1 + 1 + 1 + 1 + 1 + 1 + 1 + 1 + 1 + 1 + 1 + 1 + 1 + 1, 0, none⟩) 3 3) [cN (1048576 + 4 * q), a, cN (1048576 + 4 * q)] (w.heap.size + 1 + 1 + 1 + 1 + 1 + 1 + 1 + 1 + 1 + 1 + 1 + 1 + 1 + 1 + 1 + 1 + 1 + 1) 0 from by
    have hu := UReads.lit12 V18 [cN (1048576 + 4 * q), a, cN (1048576 + 4 * q)] #[.int .u32 k0, .int .u32 A, .int .u32 k0] 24 3 (by first | rfl | (simp only [List.map_cons, List.map_nil, uv, hA, hk0]; done) | (simp only [List.map_cons, List.map_nil, uv, hA, hk0]; rfl)) rfl
    rw [z18, ← hV19] at hu
    exact hu.keeps KK19.out (by simp))
  have U19 := Lib.hid (show ∀ (j i : Nat), ([56, 69] : List Nat)[j]? = some i → V25.cell? ⟨w.heap.size + 1 + 1 + 1 + 1 + 1 + 1 + 1 + 1 + 1 + 1 + 1 + 1 + 1 + 1 + 1 + 1 + 1 + 1 + 1, j, none⟩ = some (str (primI i).name) from by
    intro j i hj
    refine KK20.out.cell (p := ⟨w.heap.size + 1 + 1 + 1 + 1 + 1 + 1 + 1 + 1 + 1 + 1 + 1 + 1 + 1 + 1 + 1 + 1 + 1 + 1 + 1, j, none⟩) ?_ (by simp)
    rw [hV20, ← z19, cell_alloc_new, show (#[.string ⟨#[33]⟩, .string ⟨#[67, 79, 85, 78, 84]⟩] : Array Value) = (([56, 69] : List Nat).map fun i => str (primI i).name).toArray from by kernel_rfl]
    exact names_get _ j i hj)
  have U20 := Lib.hid (show UReads V25 (.slice (some ⟨w.heap.size + 1 + 1 + 1 + 1 + 1 + 1 + 1 + 1 + 1 + 1 + 1 + 1 + 1 + 1 + 1 + 1 + 1 + 1 + 1 + 1, 0, none⟩) 2 2) [cN (1048576 + 4 * q + 1), a &&& 255#32] (w.heap.size + 1 + 1 + 1 + 1 + 1 + 1 + 1 + 1 + 1 + 1 + 1 + 1 + 1 + 1 + 1 + 1 + 1 + 1 + 1 + 1) 0 from by
    have hu := UReads.lit12 V20 [cN (1048576 + 4 * q + 1), a &&& 255#32] #[.int .u32 k1, .int .u32 LA] 24 2 (by first | rfl | (simp only [List.map_cons, List.map_nil, uv, hLA, hk1]; done) | (simp only [List.map_cons, List.map_nil, uv, hLA, hk1]; rfl)) rfl
    rw [z20, ← hV21] at hu
    exact hu.keeps KK21.out (by simp))
  have U21 := Lib.hid (show UReads V25 (.slice (some ⟨w.heap.size + 1 + 1 + 1 + 1 + 1 + 1 + 1 + 1 + 1 + 1 + 1 + 1 + 1 + 1 + 1 + 1 + 1 + 1 + 1 + 1 + 1, 0, none⟩) 1 1) [cN (1048576 + 4 * q + 3)] (w.heap.size + 1 + 1 + 1 + 1 + 1 + 1 + 1 + 1 + 1 + 1 + 1 + 1 + 1 + 1 + 1 + 1 + 1 + 1 + 1 + 1 + 1) 0 from by
    have hu := UReads.lit12 V21 [cN (1048576 + 4 * q + 3)] #[.int .u32 k3] 24 1 (by first | rfl | (simp only [List.map_cons, List.map_nil, uv, hk3]; done) | (simp only [List.map_cons, List.map_nil, uv, hk3]; rfl)) rfl
    rw [z21, ← hV22] at hu
    exact hu.keeps KK22.out (by simp))
  have U22 := Lib.hid (show ∀ (j i : Nat), ([68] : List Nat)[j]? = some i → V25.cell? ⟨w.heap.size + 1 + 1 + 1 + 1 + 1 + 1 + 1 + 1 + 1 + 1 + 1 + 1 + 1 + 1 + 1 + 1 + 1 + 1 + 1 + 1 + 1 + 1, j, none⟩ = some (str (primI i).name) from by
    intro j i hj
    refine KK23.out.cell (p := ⟨w.heap.size + 1 + 1 + 1 + 1 + 1 + 1 + 1 + 1 + 1 + 1 + 1 + 1 + 1 + 1 + 1 + 1 + 1 + 1 + 1 + 1 + 1 + 1, j, none⟩) ?_ (by simp)
    rw [hV23, ← z22, cell_alloc_new, show (#[.string ⟨#[65, 76, 73, 71, 78, 69, 68]⟩] : Array Value) = (([68] : List Nat).map fun i => str (primI i).name).toArray from by kernel_rfl]
    exact names_get _ j i hj)
  have U23 := Lib.hid (show UReads V25 (.slice (some ⟨w.heap.size + 1 + 1 + 1 + 1 + 1 + 1 + 1 + 1 + 1 + 1 + 1 + 1 + 1 + 1 + 1 + 1 + 1 + 1 + 1 + 1 + 1 + 1 + 1, 0, none⟩) 1 1) [cN (1048576 + 4 * q + 4)] (w.heap.size + 1 + 1 + 1 + 1 + 1 + 1 + 1 + 1 + 1 + 1 + 1 + 1 + 1 + 1 + 1 + 1 + 1 + 1 + 1 + 1 + 1 + 1 + 1) 0 from by
    have hu := UReads.lit12 V23 [cN (1048576 + 4 * q + 4)] #[.int .u32 k4] 24 1 (by first | rfl | (simp only [List.map_cons, List.map_nil, uv, hk4]; done) | (simp only [List.map_cons, List.map_nil, uv, hk4]; rfl)) rfl
    rw [z23, ← hV24] at hu
    exact hu.keeps KK24.out (by simp))
  have HBIG := Lib.hid (show ∀ i v, (#[.slice (some ⟨w.heap.size, 0, none⟩) 3 3, .slice (some ⟨w.heap.size + 1, 0, none⟩) 2 2, .slice (some ⟨w.heap.size + 1 + 1, 0, none⟩) 1 1, .slice (some ⟨w.heap.size + 1 + 1 + 1, 0, none⟩) 5 5, .slice (some ⟨w.heap.size + 1 + 1 + 1 + 1, 0, none⟩) 3 3, .slice (some ⟨w.heap.size + 1 + 1 + 1 + 1 + 1, 0, none⟩) 1 1, .slice (some ⟨w.heap.size + 1 + 1 + 1 + 1 + 1 + 1, 0, none⟩) 4 4, .slice (some ⟨w.heap.size + 1 + 1 + 1 + 1 + 1 + 1 + 1, 0, none⟩) 2 2, .slice (some ⟨w.heap.size + 1 + 1 + 1 + 1 + 1 + 1 + 1 + 1, 0, none⟩) 2 2, .slice (some ⟨w.heap.size + 1 + 1 + 1 + 1 + 1 + 1 + 1 + 1 + 1, 0, none⟩) 3 3, .slice (some ⟨w.heap.size + 1 + 1 + 1 + 1 + 1 + 1 + 1 + 1 + 1 + 1, 0, none⟩) 2 2, .slice (some ⟨w.heap.size + 1 + 1 + 1 + 1 + 1 + 1 + 1 + 1 + 1 + 1 + 1, 0, none⟩) 1 1, .slice (some ⟨w.heap.size + 1 + 1 + 1 + 1 + 1 + 1 + 1 + 1 + 1 + 1 + 1 + 1, 0, none⟩) 6 6, .slice (some ⟨w.heap.size + 1 + 1 + 1 + 1 + 1 + 1 + 1 + 1 + 1 + 1 + 1 + 1 + 1, 0, none⟩) 3 3, .slice (some ⟨w.heap.size + 1 + 1 + 1 + 1 + 1 + 1 + 1 + 1 + 1 + 1 + 1 + 1 + 1 + 1, 0, none⟩) 1 1, .slice (some ⟨w.heap.size + 1 + 1 + 1 + 1 + 1 + 1 + 1 + 1 + 1 + 1 + 1 + 1 + 1 + 1 + 1, 0, none⟩) 4 4, .slice (some ⟨w.heap.size + 1 + 1 + 1 + 1 + 1 + 1 + 1 + 1 + 1 + 1 + 1 + 1 + 1 + 1 + 1 + 1, 0, none⟩) 2 2, .slice (some ⟨w.heap.size + 1 + 1 + 1 + 1 + 1 + 1 + 1 + 1 + 1 + 1 + 1 + 1 + 1 + 1 + 1 + 1 + 1, 0, none⟩) 1 1, .slice (some ⟨w.heap.size + 1 + 1 + 1 + 1 + 1 + 1 + 1 + 1 + 1 + 1 + 1 + 1 + 1 + 1 + 1 + 1 + 1 + 1, 0, none⟩) 3 3, .slice (some ⟨w.heap.size + 1 + 1 + 1 + 1 + 1 + 1 + 1 + 1 + 1 + 1 + 1 + 1 + 1 + 1 + 1 + 1 + 1 + 1 + 1, 0, none⟩) 2 2, .slice (some ⟨w.heap.size + 1 + 1 + 1 + 1 + 1 + 1 + 1 + 1 + 1 + 1 + 1 + 1 + 1 + 1 + 1 + 1 + 1 + 1 + 1 + 1, 0, none⟩) 2 2, .slice (some ⟨w.heap.size + 1 + 1 + 1 + 1 + 1 + 1 + 1 + 1 + 1 + 1 + 1 + 1 + 1 + 1 + 1 + 1 + 1 + 1 + 1 + 1 + 1, 0, none⟩) 1 1, .slice (some ⟨w.heap.size + 1 + 1 + 1 + 1 + 1 + 1 + 1 + 1 + 1 + 1 + 1 + 1 + 1 + 1 + 1 + 1 + 1 + 1 + 1 + 1 + 1 + 1, 0, none⟩) 1 1, .slice (some ⟨w.heap.size + 1 + 1 + 1 + 1 + 1 + 1 + 1 + 1 + 1 + 1 + 1 + 1 + 1 + 1 + 1 + 1 + 1 + 1 + 1 + 1 + 1 + 1 + 1, 0, none⟩) 1 1] : Array Value)[i]? = some v → V25.cell? ⟨w.heap.size + 1 + 1 + 1 + 1 + 1 + 1 + 1 + 1 + 1 + 1 + 1 + 1 + 1 + 1 + 1 + 1 + 1 + 1 + 1 + 1 + 1 + 1 + 1 + 1, i, none⟩ = some v from by
    intro i v hv
    rw [hV25, ← z24, cell_alloc_new]
    exact hv)
  have zz : V25.heap.size = w.heap.size + 1 + 1 + 1 + 1 + 1 + 1 + 1 + 1 + 1 + 1 + 1 + 1 + 1 + 1 + 1 + 1 + 1 + 1 + 1 + 1 + 1 + 1 + 1 + 1 + 1 := by rw [hV25, ss, z24]
  have HB0 := Lib.hid (becomes_at (w.heap.size) (w.heap.size + 1) (w.heap.size + 1 + 1) 3 2 1 [cN (1048576 + 4 * q), a, cN (1048576 + 4 * q)] [a] [56, 55] 0 U0.out U2.out U1.out (by rw [zz]; omega) rfl (by simp) (by decide) (by decide) R0.1 R0.2)
  have HB1 := Lib.hid (becomes_at (w.heap.size + 1 + 1 + 1) (w.heap.size + 1 + 1 + 1 + 1) (w.heap.size + 1 + 1 + 1 + 1 + 1) 5 3 1 [cN (1048576 + 4 * q), b, cN (1048576 + 4 * q), a, cN (1048576 + 4 * q)] [a + b] [56, 59, 55] 0 U3.out U5.out U4.out (by rw [zz]; omega) rfl (by simp) (by decide) (by decide) R1.1 R1.2)
  have HB2 := Lib.hid (becomes_at (w.heap.size + 1 + 1 + 1 + 1 + 1 + 1) (w.heap.size + 1 + 1 + 1 + 1 + 1 + 1 + 1) (w.heap.size + 1 + 1 + 1 + 1 + 1 + 1 + 1 + 1) 4 2 2 [cN (1048576 + 4 * q), a, b, cN (1048576 + 4 * q)] [a, b] [61, 60] 0 U6.out U8.out U7.out (by rw [zz]; omega) rfl (by simp) (by decide) (by decide) R2.1 R2.2)
  have HB3 := Lib.hid (becomes_at (w.heap.size + 1 + 1 + 1 + 1 + 1 + 1 + 1 + 1 + 1) (w.heap.size + 1 + 1 + 1 + 1 + 1 + 1 + 1 + 1 + 1 + 1) (w.heap.size + 1 + 1 + 1 + 1 + 1 + 1 + 1 + 1 + 1 + 1 + 1) 3 2 1 [cN (1048576 + 4 * q), a, cN (1048576 + 4 * q)] [a &&& 255#32] [58, 57] 0 U9.out U11.out U10.out (by rw [zz]; omega) rfl (by simp) (by decide) (by decide) R3.1 R3.2)
  have HB4 := Lib.hid (becomes_at (w.heap.size + 1 + 1 + 1 + 1 + 1 + 1 + 1 + 1 + 1 + 1 + 1 + 1) (w.heap.size + 1 + 1 + 1 + 1 + 1 + 1 + 1 + 1 + 1 + 1 + 1 + 1 + 1) (w.heap.size + 1 + 1 + 1 + 1 + 1 + 1 + 1 + 1 + 1 + 1 + 1 + 1 + 1 + 1) 6 3 1 [cN (1048576 + 4 * q + 4), cN (1048576 + 4 * q), cN (1048576 + 4 * q + 4), 4#32, a, cN (1048576 + 4 * q)] [a] [56, 62, 55] 0 U12.out U14.out U13.out (by rw [zz]; omega) rfl (by simp) (by decide) (by decide) R4.1 R4.2)
  have HB5 := Lib.hid (becomes_at (w.heap.size + 1 + 1 + 1 + 1 + 1 + 1 + 1 + 1 + 1 + 1 + 1 + 1 + 1 + 1 + 1) (w.heap.size + 1 + 1 + 1 + 1 + 1 + 1 + 1 + 1 + 1 + 1 + 1 + 1 + 1 + 1 + 1 + 1) (w.heap.size + 1 + 1 + 1 + 1 + 1 + 1 + 1 + 1 + 1 + 1 + 1 + 1 + 1 + 1 + 1 + 1 + 1) 4 2 1 [cN (1048576 + 4 * q), cN (1048576 + 4 * q), 4#32, a] [cI (((a &&& 255#32).toNat : Int) * 16843009)] [63, 55] 0 U15.out U17.out U16.out (by rw [zz]; omega) rfl (by simp) (by decide) (by decide) R5.1 R5.2)
  have HB6 := Lib.hid (becomes_at (w.heap.size + 1 + 1 + 1 + 1 + 1 + 1 + 1 + 1 + 1 + 1 + 1 + 1 + 1 + 1 + 1 + 1 + 1 + 1) (w.heap.size + 1 + 1 + 1 + 1 + 1 + 1 + 1 + 1 + 1 + 1 + 1 + 1 + 1 + 1 + 1 + 1 + 1 + 1 + 1) (w.heap.size + 1 + 1 + 1 + 1 + 1 + 1 + 1 + 1 + 1 + 1 + 1 + 1 + 1 + 1 + 1 + 1 + 1 + 1 + 1 + 1) 3 2 2 [cN (1048576 + 4 * q), a, cN (1048576 + 4 * q)] [cN (1048576 + 4 * q + 1), a &&& 255#32] [56, 69] 0 U18.out U20.out U19.out (by rw [zz]; omega) rfl (by simp) (by decide) (by decide) R6.1 R6.2)
  have HB7 := Lib.hid (becomes_at (w.heap.size + 1 + 1 + 1 + 1 + 1 + 1 + 1 + 1 + 1 + 1 + 1 + 1 + 1 + 1 + 1 + 1 + 1 + 1 + 1 + 1 + 1) (w.heap.size + 1 + 1 + 1 + 1 + 1 + 1 + 1 + 1 + 1 + 1 + 1 + 1 + 1 + 1 + 1 + 1 + 1 + 1 + 1 + 1 + 1 + 1) (w.heap.size + 1 + 1 + 1 + 1 + 1 + 1 + 1 + 1 + 1 + 1 + 1 + 1 + 1 + 1 + 1 + 1 + 1 + 1 + 1 + 1 + 1 + 1 + 1) 1 1 1 [cN (1048576 + 4 * q + 3)] [cN (1048576 + 4 * q + 4)] [68] 0 U21.out U23.out U22.out (by rw [zz]; omega) rfl (by simp) (by decide) (by decide) R7.1 R7.2)
  clear R0 R1 R2 R3 R4 R5 R6 R7
  have HEQ := Lib.hid (And.intro e2 e3)
  have HV := Lib.hid (And.intro hV1 (And.intro hV2 (And.intro hV3 (And.intro hV4 (And.intro hV5 (And.intro hV6 (And.intro hV7 (And.intro hV8 (And.intro hV9 (And.intro hV10 (And.intro hV11 (And.intro hV12 (And.intro hV13 (And.intro hV14 (And.intro hV15 (And.intro hV16 (And.intro hV17 (And.intro hV18 (And.intro hV19 (And.intro hV20 (And.intro hV21 (And.intro hV22 (And.intro hV23 (And.intro hV24 (hV25)))))))))))))))))))))))))
  clear v0 hk0 hk1 hk3 hk4 hA hBb hAB hLA hFA hQ hT hqe zz hV1 hV2 hV3 hV4 hV5 hV6 hV7 hV8 hV9 hV10 hV11 hV12 hV13 hV14 hV15 hV16 hV17 hV18 hV19 hV20 hV21 hV22 hV23 hV24 hV25 z1 z2 z3 z4 z5 z6 z7 z8 z9 z10 z11 z12 z13 z14 z15 z16 z17 z18 z19 z20 z21 z22 z23 z24 U0 U1 U2 U3 U4 U5 U6 U7 U8 U9 U10 U11 U12 U13 U14 U15 U16 U17 U18 U19 U20 U21 U22 U23
  go_enter Tryz.func6, Tryz.ntmps6
  go_wp2
  obtain ⟨hV1, hV2, hV3, hV4, hV5, hV6, hV7, hV8, hV9, hV10, hV11, hV12, hV13, hV14, hV15, hV16, hV17, hV18, hV19, hV20, hV21, hV22, hV23, hV24, hV25⟩ := HV.out
  rw [← hV1, ← hV2, ← hV3, ← hV4, ← hV5, ← hV6, ← hV7, ← hV8, ← hV9, ← hV10, ← hV11, ← hV12, ← hV13, ← hV14, ← hV15, ← hV16, ← hV17, ← hV18, ← hV19, ← hV20, ← hV21, ← hV22, ← hV23, ← hV24, ← hV25]
  clear HV e0 e2 e3 e4 e5 e3n e4n e5n e6 e7 e8 hV1 hV2 hV3 hV4 hV5 hV6 hV7 hV8 hV9 hV10 hV11 hV12 hV13 hV14 hV15 hV16 hV17 hV18 hV19 hV20 hV21 hV22 hV23 hV24 hV25
  go_loopw [97] (fun i wr => ∃ j : Nat, j ≤ 8 ∧ i = .int .i64 (j : Int) ∧ Keeps [] V25 wr) (fun i _ => 8 - (intOf i).toNat)
  case atStart => exact ⟨0, by omega, rfl, Keeps.refl _ _⟩
  case round =>
    obtain ⟨j, hj, rfl, hk⟩ := hrel
    have HK := Lib.hid hk
    have hcase : j = 0 ∨ j = 1 ∨ j = 2 ∨ j = 3 ∨ j = 4 ∨ j = 5 ∨ j = 6 ∨ j = 7 ∨ j = 8 := by omega
    rcases hcase with rfl | rfl | rfl | rfl | rfl | rfl | rfl | rfl | rfl
    · have c0 := hk.cell (HBIG.out 0 _ rfl) (by simp)
      have c1 := hk.cell (HBIG.out 1 _ rfl) (by simp)
      have c2 := hk.cell (HBIG.out 2 _ rfl) (by simp)
      have HBJ := Lib.hid (HB0.out _ (hk.trans (Keeps.alloc [] wr (.cells #[.slice (some ⟨w.heap.size, 0, none⟩) 3 3, .slice (some ⟨w.heap.size + 1, 0, none⟩) 2 2, .slice (some ⟨w.heap.size + 1 + 1, 0, none⟩) 1 1] 52))))
      clear hk HBIG HB0 HB1 HB2 HB3 HB4 HB5 HB6 HB7
      go_wp2_with (go_at_call 16; refine HBJ.out.mono ?_; rintro e w1 ⟨rfl, hk1⟩; have HK1 := Lib.hid hk1; clear hk1)
      go_roundw
      case rel => exact ⟨1, by omega, by go_num, (HK.out.trans (Keeps.alloc [] _ _)).trans HK1.out⟩
      case measure => simp [intOf]
    · have c0 := hk.cell (HBIG.out 3 _ rfl) (by simp)
      have c1 := hk.cell (HBIG.out 4 _ rfl) (by simp)
      have c2 := hk.cell (HBIG.out 5 _ rfl) (by simp)
      have HBJ := Lib.hid (HB1.out _ (hk.trans (Keeps.alloc [] wr (.cells #[.slice (some ⟨w.heap.size + 1 + 1 + 1, 0, none⟩) 5 5, .slice (some ⟨w.heap.size + 1 + 1 + 1 + 1, 0, none⟩) 3 3, .slice (some ⟨w.heap.size + 1 + 1 + 1 + 1 + 1, 0, none⟩) 1 1] 52))))
      clear hk HBIG HB0 HB1 HB2 HB3 HB4 HB5 HB6 HB7
      go_wp2_with (go_at_call 16; refine HBJ.out.mono ?_; rintro e w1 ⟨rfl, hk1⟩; have HK1 := Lib.hid hk1; clear hk1)
      go_roundw
      case rel => exact ⟨2, by omega, by go_num, (HK.out.trans (Keeps.alloc [] _ _)).trans HK1.out⟩
      case measure => simp [intOf]
    · have c0 := hk.cell (HBIG.out 6 _ rfl) (by simp)
      have c1 := hk.cell (HBIG.out 7 _ rfl) (by simp)
      have c2 := hk.cell (HBIG.out 8 _ rfl) (by simp)
      have HBJ := Lib.hid (HB2.out _ (hk.trans (Keeps.alloc [] wr (.cells #[.slice (some ⟨w.heap.size + 1 + 1 + 1 + 1 + 1 + 1, 0, none⟩) 4 4, .slice (some ⟨w.heap.size + 1 + 1 + 1 + 1 + 1 + 1 + 1, 0, none⟩) 2 2, .slice (some ⟨w.heap.size + 1 + 1 + 1 + 1 + 1 + 1 + 1 + 1, 0, none⟩) 2 2] 52))))
      clear hk HBIG HB0 HB1 HB2 HB3 HB4 HB5 HB6 HB7
      go_wp2_with (go_at_call 16; refine HBJ.out.mono ?_; rintro e w1 ⟨rfl, hk1⟩; have HK1 := Lib.hid hk1; clear hk1)
      go_roundw
      case rel => exact ⟨3, by omega, by go_num, (HK.out.trans (Keeps.alloc [] _ _)).trans HK1.out⟩
      case measure => simp [intOf]
    · have c0 := hk.cell (HBIG.out 9 _ rfl) (by simp)
      have c1 := hk.cell (HBIG.out 10 _ rfl) (by simp)
      have c2 := hk.cell (HBIG.out 11 _ rfl) (by simp)
      have HBJ := Lib.hid (HB3.out _ (hk.trans (Keeps.alloc [] wr (.cells #[.slice (some ⟨w.heap.size + 1 + 1 + 1 + 1 + 1 + 1 + 1 + 1 + 1, 0, none⟩) 3 3, .slice (some ⟨w.heap.size + 1 + 1 + 1 + 1 + 1 + 1 + 1 + 1 + 1 + 1, 0, none⟩) 2 2, .slice (some ⟨w.heap.size + 1 + 1 + 1 + 1 + 1 + 1 + 1 + 1 + 1 + 1 + 1, 0, none⟩) 1 1] 52))))
      clear hk HBIG HB0 HB1 HB2 HB3 HB4 HB5 HB6 HB7
      go_wp2_with (go_at_call 16; refine HBJ.out.mono ?_; rintro e w1 ⟨rfl, hk1⟩; have HK1 := Lib.hid hk1; clear hk1)
      go_roundw
      case rel => exact ⟨4, by omega, by go_num, (HK.out.trans (Keeps.alloc [] _ _)).trans HK1.out⟩
      case measure => simp [intOf]
    · have c0 := hk.cell (HBIG.out 12 _ rfl) (by simp)
      have c1 := hk.cell (HBIG.out 13 _ rfl) (by simp)
      have c2 := hk.cell (HBIG.out 14 _ rfl) (by simp)
      have HBJ := Lib.hid (HB4.out _ (hk.trans (Keeps.alloc [] wr (.cells #[.slice (some ⟨w.heap.size + 1 + 1 + 1 + 1 + 1 + 1 + 1 + 1 + 1 + 1 + 1 + 1, 0, none⟩) 6 6, .slice (some ⟨w.heap.size + 1 + 1 + 1 + 1 + 1 + 1 + 1 + 1 + 1 + 1 + 1 + 1 + 1, 0, none⟩) 3 3, .slice (some ⟨w.heap.size + 1 + 1 + 1 + 1 + 1 + 1 + 1 + 1 + 1 + 1 + 1 + 1 + 1 + 1, 0, none⟩) 1 1] 52))))
      clear hk HBIG HB0 HB1 HB2 HB3 HB4 HB5 HB6 HB7
      go_wp2_with (go_at_call 16; refine HBJ.out.mono ?_; rintro e w1 ⟨rfl, hk1⟩; have HK1 := Lib.hid hk1; clear hk1)
      go_roundw
      case rel => exact ⟨5, by omega, by go_num, (HK.out.trans (Keeps.alloc [] _ _)).trans HK1.out⟩
      case measure => simp [intOf]
    · have c0 := hk.cell (HBIG.out 15 _ rfl) (by simp)
      have c1 := hk.cell (HBIG.out 16 _ rfl) (by simp)
      have c2 := hk.cell (HBIG.out 17 _ rfl) (by simp)
      have HBJ := Lib.hid (HB5.out _ (hk.trans (Keeps.alloc [] wr (.cells #[.slice (some ⟨w.heap.size + 1 + 1 + 1 + 1 + 1 + 1 + 1 + 1 + 1 + 1 + 1 + 1 + 1 + 1 + 1, 0, none⟩) 4 4, .slice (some ⟨w.heap.size + 1 + 1 + 1 + 1 + 1 + 1 + 1 + 1 + 1 + 1 + 1 + 1 + 1 + 1 + 1 + 1, 0, none⟩) 2 2, .slice (some ⟨w.heap.size + 1 + 1 + 1 + 1 + 1 + 1 + 1 + 1 + 1 + 1 + 1 + 1 + 1 + 1 + 1 + 1 + 1, 0, none⟩) 1 1] 52))))
      clear hk HBIG HB0 HB1 HB2 HB3 HB4 HB5 HB6 HB7
      go_wp2_with (go_at_call 16; refine HBJ.out.mono ?_; rintro e w1 ⟨rfl, hk1⟩; have HK1 := Lib.hid hk1; clear hk1)
      go_roundw
      case rel => exact ⟨6, by omega, by go_num, (HK.out.trans (Keeps.alloc [] _ _)).trans HK1.out⟩
      case measure => simp [intOf]
    · have c0 := hk.cell (HBIG.out 18 _ rfl) (by simp)
      have c1 := hk.cell (HBIG.out 19 _ rfl) (by simp)
      have c2 := hk.cell (HBIG.out 20 _ rfl) (by simp)
      have HBJ := Lib.hid (HB6.out _ (hk.trans (Keeps.alloc [] wr (.cells #[.slice (some ⟨w.heap.size + 1 + 1 + 1 + 1 + 1 + 1 + 1 + 1 + 1 + 1 + 1 + 1 + 1 + 1 + 1 + 1 + 1 + 1, 0, none⟩) 3 3, .slice (some ⟨w.heap.size + 1 + 1 + 1 + 1 + 1 + 1 + 1 + 1 + 1 + 1 + 1 + 1 + 1 + 1 + 1 + 1 + 1 + 1 + 1, 0, none⟩) 2 2, .slice (some ⟨w.heap.size + 1 + 1 + 1 + 1 + 1 + 1 + 1 + 1 + 1 + 1 + 1 + 1 + 1 + 1 + 1 + 1 + 1 + 1 + 1 + 1, 0, none⟩) 2 2] 52))))
      clear hk HBIG HB0 HB1 HB2 HB3 HB4 HB5 HB6 HB7
      go_wp2_with (go_at_call 16; refine HBJ.out.mono ?_; rintro e w1 ⟨rfl, hk1⟩; have HK1 := Lib.hid hk1; clear hk1)
      go_roundw
      case rel => exact ⟨7, by omega, by go_num, (HK.out.trans (Keeps.alloc [] _ _)).trans HK1.out⟩
      case measure => simp [intOf]
    · have c0 := hk.cell (HBIG.out 21 _ rfl) (by simp)
      have c1 := hk.cell (HBIG.out 22 _ rfl) (by simp)
      have c2 := hk.cell (HBIG.out 23 _ rfl) (by simp)
      have HBJ := Lib.hid (HB7.out _ (hk.trans (Keeps.alloc [] wr (.cells #[.slice (some ⟨w.heap.size + 1 + 1 + 1 + 1 + 1 + 1 + 1 + 1 + 1 + 1 + 1 + 1 + 1 + 1 + 1 + 1 + 1 + 1 + 1 + 1 + 1, 0, none⟩) 1 1, .slice (some ⟨w.heap.size + 1 + 1 + 1 + 1 + 1 + 1 + 1 + 1 + 1 + 1 + 1 + 1 + 1 + 1 + 1 + 1 + 1 + 1 + 1 + 1 + 1 + 1, 0, none⟩) 1 1, .slice (some ⟨w.heap.size + 1 + 1 + 1 + 1 + 1 + 1 + 1 + 1 + 1 + 1 + 1 + 1 + 1 + 1 + 1 + 1 + 1 + 1 + 1 + 1 + 1 + 1 + 1, 0, none⟩) 1 1] 52))))
      clear hk HBIG HB0 HB1 HB2 HB3 HB4 HB5 HB6 HB7
      go_wp2_with (go_at_call 16; refine HBJ.out.mono ?_; rintro e w1 ⟨rfl, hk1⟩; have HK1 := Lib.hid hk1; clear hk1)
      go_roundw
      case rel => exact ⟨8, by omega, by go_num, (HK.out.trans (Keeps.alloc [] _ _)).trans HK1.out⟩
      case measure => simp [intOf]
    · clear hk HBIG HB0 HB1 HB2 HB3 HB4 HB5 HB6 HB7
      go_wp2_with (go_at_call 14; refine (awake12_any _).mono ?_; rintro e w2 ⟨rfl, hk2⟩; have HK2 := Lib.hid hk2; clear hk2)
      go_ret
      exact ⟨rfl, (KK0.out.trans HK.out).trans HK2.out⟩
end Go.Proofs.YtobpfcdfhegbdaaGreat
