/-
  PlainSums, walked. Written by draft/genpl14.py.
-/
import Derived.Test.YtobpfcdfhegbdaaGreatPlSumD
namespace Go.Proofs.YtobpfcdfhegbdaaGreat
open Go.RowKit
set_option linter.unusedVariables false

theorem names_get3 (is : List Nat) (j i : Nat) (h : is[j]? = some i) : ((is.map fun i => str (primI i).name).toArray)[j]? = some (str (primI i).name) := by simp [h]
theorem becomes_at3 {V : World} (bi bn bo ni n no : Nat) (inL outL : List (BitVec 32)) (is : List Nat) (want : Int) (hU : UReads V (.slice (some ⟨bi, 0, none⟩) ni ni) inL bi 0) (hO : UReads V (.slice (some ⟨bo, 0, none⟩) no no) outL bo 0)
    (hN : ∀ (j i : Nat), is[j]? = some i → V.cell? ⟨bn, j, none⟩ = some (str (primI i).name)) (hb : bn < V.heap.size) (hn : is.length = n) (l1 : inL.length ≤ 20) (l2 : n ≤ 100) (h73 : is.all (fun i => decide (i < 73)) = true)
    (hT : (namedM 20 [] is ⟨inL, [], List.replicate 32 0⟩).1 = want) (hS : (namedM 20 [] is ⟨inL, [], List.replicate 32 0⟩).2.s = outL) :
    ∀ W, Keeps [] V W → Calls Tryz.prog 16 #[.slice (some ⟨bi, 0, none⟩) ni ni, .slice (some ⟨bn, 0, none⟩) n n, .slice (some ⟨bo, 0, none⟩) no no, .int .i32 want] W fun e w' => e = .returned (.bool true) ∧ Keeps [] W w' := by
  intro W hk
  have ht : inL.take (min inL.length 20) = inL := List.take_of_length_le (by omega)
  refine becomes_ok W _ _ inL outL bi 0 bo 0 bn n n is want ((namedM 20 [] is ⟨inL, [], List.replicate 32 0⟩).2) (hU.keeps hk (by simp)) (hO.keeps hk (by simp)) (by unfold maxLen; omega) hn l2 (fun j i hj => of_decide_eq_true (List.all_eq_true.1 h73 i (List.mem_of_getElem? hj))) (fun j i hj => hk.cell (hN j i hj) (by simp)) (Nat.lt_of_lt_of_le hb hk.size) ?_ hS
  rw [ht]
  exact Prod.ext hT rfl

set_option maxRecDepth 100000 in
set_option maxHeartbeats 8000000 in
theorem PlainSums_any (w : World) (a b : BitVec 32) : Calls Tryz.prog 5 #[.int .u32 (a.toNat : Int), .int .u32 (b.toNat : Int)] w fun e w' => e = .returned (.bool true) ∧ Keeps [] w w' := by
  have R0 := sumraw_0 a b
  rw [sumout_0 a b] at R0
  have R1 := sumraw_1 a b
  rw [sumout_1 a b] at R1
  have R2 := sumraw_2 a b
  rw [sumout_2 a b] at R2
  have R3 := sumraw_3 a b
  rw [sumout_3 a b] at R3
  have R4 := sumraw_4 a b
  rw [sumout_4 a b] at R4
  have R5 := sumraw_5 a b
  rw [sumout_5 a b] at R5
  have R6 : (namedM 20 [] [27, 28, 36, 38, 38, 1] ⟨[a, b], [], List.replicate 32 0⟩).1 = 0 ∧ (namedM 20 [] [27, 28, 36, 38, 38, 1] ⟨[a, b], [], List.replicate 32 0⟩).2.s = [a, b] := by rw [sum6 a b]; exact ⟨rfl, rfl⟩
  obtain ⟨A, hA⟩ : ∃ x : Int, x = (a.toNat : Int) := ⟨_, rfl⟩
  obtain ⟨Bb, hBb⟩ : ∃ x : Int, x = (b.toNat : Int) := ⟨_, rfl⟩
  obtain ⟨AB, hAB⟩ : ∃ x : Int, x = ((a + b).toNat : Int) := ⟨_, rfl⟩
  have e6 : (A + Bb) % 4294967296 = AB := by rw [hA, hBb, hAB, BitVec.toNat_add]; omega
  rw [← hA, ← hBb]
  have X4 := Lib.hid (fun U : World => UReads.lit12 U [a, b, a, b] #[.int .u32 A, .int .u32 Bb, .int .u32 A, .int .u32 Bb] 24 4 (by simp only [List.map_cons, List.map_nil, uv, hA, hBb]) rfl)
  have X3 := Lib.hid (fun U : World => UReads.lit12 U [a, b, b] #[.int .u32 A, .int .u32 Bb, .int .u32 Bb] 24 3 (by simp only [List.map_cons, List.map_nil, uv, hA, hBb]) rfl)
  have X1 := Lib.hid (fun U : World => UReads.lit12 U [a] #[.int .u32 A] 24 1 (by simp only [List.map_cons, List.map_nil, uv, hA]) rfl)
  have X0 := Lib.hid (fun U : World => UReads.lit12 U [0#32] #[.int .u32 0] 24 1 rfl rfl)
  have ss : ∀ (V : World) (o : Obj), (V.alloc o).heap.size = V.heap.size + 1 := fun V o => by simp
  obtain ⟨V1, hV1⟩ : ∃ V : World, V = w.alloc (.cells #[.int .u32 A, .int .u32 Bb] 24) := ⟨_, rfl⟩
  have z1 : V1.heap.size = w.heap.size + 1 := by rw [hV1, ss]
  obtain ⟨V2, hV2⟩ : ∃ V : World, V = V1.alloc (.cells #[.string ⟨#[84, 85, 67, 75]⟩, .string ⟨#[43]⟩, .string ⟨#[83, 87, 65, 80]⟩, .string ⟨#[45]⟩] 9) := ⟨_, rfl⟩
  have z2 : V2.heap.size = w.heap.size + 1 + 1 := by rw [hV2, ss, z1]
  obtain ⟨V3, hV3⟩ : ∃ V : World, V = V2.alloc (.cells #[.int .u32 A] 24) := ⟨_, rfl⟩
  have z3 : V3.heap.size = w.heap.size + 1 + 1 + 1 := by rw [hV3, ss, z2]
  obtain ⟨V4, hV4⟩ : ∃ V : World, V = V3.alloc (.cells #[.string ⟨#[78, 69, 71, 65, 84, 69]⟩, .string ⟨#[78, 69, 71, 65, 84, 69]⟩] 9) := ⟨_, rfl⟩
  have z4 : V4.heap.size = w.heap.size + 1 + 1 + 1 + 1 := by rw [hV4, ss, z3]
  obtain ⟨V5, hV5⟩ : ∃ V : World, V = V4.alloc (.cells #[.string ⟨#[73, 78, 86, 69, 82, 84]⟩, .string ⟨#[49, 43]⟩, .string ⟨#[78, 69, 71, 65, 84, 69]⟩] 9) := ⟨_, rfl⟩
  have z5 : V5.heap.size = w.heap.size + 1 + 1 + 1 + 1 + 1 := by rw [hV5, ss, z4]
  obtain ⟨V6, hV6⟩ : ∃ V : World, V = V5.alloc (.cells #[.string ⟨#[50, 68, 85, 80]⟩, .string ⟨#[65, 78, 68]⟩, .string ⟨#[62, 82]⟩, .string ⟨#[79, 82]⟩, .string ⟨#[82, 62]⟩, .string ⟨#[43]⟩] 9) := ⟨_, rfl⟩
  have z6 : V6.heap.size = w.heap.size + 1 + 1 + 1 + 1 + 1 + 1 := by rw [hV6, ss, z5]
  obtain ⟨V7, hV7⟩ : ∃ V : World, V = V6.alloc (.cells #[.int .u32 AB] 24) := ⟨_, rfl⟩
  have z7 : V7.heap.size = w.heap.size + 1 + 1 + 1 + 1 + 1 + 1 + 1 := by rw [hV7, ss, z6]
  obtain ⟨V8, hV8⟩ : ∃ V : World, V = V7.alloc (.cells #[.string ⟨#[50, 68, 85, 80]⟩, .string ⟨#[88, 79, 82]⟩, .string ⟨#[88, 79, 82]⟩] 9) := ⟨_, rfl⟩
  have z8 : V8.heap.size = w.heap.size + 1 + 1 + 1 + 1 + 1 + 1 + 1 + 1 := by rw [hV8, ss, z7]
  obtain ⟨V9, hV9⟩ : ∃ V : World, V = V8.alloc (.cells #[.int .u32 A, .int .u32 A] 24) := ⟨_, rfl⟩
  have z9 : V9.heap.size = w.heap.size + 1 + 1 + 1 + 1 + 1 + 1 + 1 + 1 + 1 := by rw [hV9, ss, z8]
  obtain ⟨V10, hV10⟩ : ∃ V : World, V = V9.alloc (.cells #[.string ⟨#[50, 68, 85, 80]⟩, .string ⟨#[77, 73, 78]⟩, .string ⟨#[62, 82]⟩, .string ⟨#[77, 65, 88]⟩, .string ⟨#[82, 62]⟩, .string ⟨#[43]⟩] 9) := ⟨_, rfl⟩
  have z10 : V10.heap.size = w.heap.size + 1 + 1 + 1 + 1 + 1 + 1 + 1 + 1 + 1 + 1 := by rw [hV10, ss, z9]
  obtain ⟨V11, hV11⟩ : ∃ V : World, V = V10.alloc (.cells #[.int .u32 AB] 24) := ⟨_, rfl⟩
  have z11 : V11.heap.size = w.heap.size + 1 + 1 + 1 + 1 + 1 + 1 + 1 + 1 + 1 + 1 + 1 := by rw [hV11, ss, z10]
  obtain ⟨V12, hV12⟩ : ∃ V : World, V = V11.alloc (.cells #[.string ⟨#[49, 43]⟩, .string ⟨#[49, 45]⟩, .string ⟨#[83, 62, 68]⟩, .string ⟨#[68, 78, 69, 71, 65, 84, 69]⟩, .string ⟨#[68, 78, 69, 71, 65, 84, 69]⟩, .string ⟨#[68, 82, 79, 80]⟩] 9) := ⟨_, rfl⟩
  have z12 : V12.heap.size = w.heap.size + 1 + 1 + 1 + 1 + 1 + 1 + 1 + 1 + 1 + 1 + 1 + 1 := by rw [hV12, ss, z11]
  obtain ⟨V13, hV13⟩ : ∃ V : World, V = V12.alloc (.cells #[.slice (some ⟨w.heap.size + 1, 0, none⟩) 4 4, .slice (some ⟨w.heap.size + 1 + 1, 0, none⟩) 1 1, .slice (some ⟨w.heap.size + 1 + 1 + 1, 0, none⟩) 2 2, .slice (some ⟨w.heap.size, 0, none⟩) 2 2, .slice (some ⟨w.heap.size + 1 + 1 + 1 + 1, 0, none⟩) 3 3, .slice (some ⟨w.heap.size, 0, none⟩) 2 2, .slice (some ⟨w.heap.size + 1 + 1 + 1 + 1 + 1, 0, none⟩) 6 6, .slice (some ⟨w.heap.size + 1 + 1 + 1 + 1 + 1 + 1, 0, none⟩) 1 1, .slice (some ⟨w.heap.size + 1 + 1 + 1 + 1 + 1 + 1 + 1, 0, none⟩) 3 3, .slice (some ⟨w.heap.size + 1 + 1 + 1 + 1 + 1 + 1 + 1 + 1, 0, none⟩) 2 2, .slice (some ⟨w.heap.size + 1 + 1 + 1 + 1 + 1 + 1 + 1 + 1 + 1, 0, none⟩) 6 6, .slice (some ⟨w.heap.size + 1 + 1 + 1 + 1 + 1 + 1 + 1 + 1 + 1 + 1, 0, none⟩) 1 1, .slice (some ⟨w.heap.size + 1 + 1 + 1 + 1 + 1 + 1 + 1 + 1 + 1 + 1 + 1, 0, none⟩) 6 6, .slice (some ⟨w.heap.size, 0, none⟩) 2 2] 48) := ⟨_, rfl⟩
  have z13 : V13.heap.size = w.heap.size + 1 + 1 + 1 + 1 + 1 + 1 + 1 + 1 + 1 + 1 + 1 + 1 + 1 := by rw [hV13, ss, z12]
  have KK13 := Lib.hid (Keeps.refl [] V13)
  have KK12 := Lib.hid (show Keeps [] V12 V13 from Keeps.trans (by rw [hV13]; exact Keeps.alloc [] _ _) KK13.out)
  have KK11 := Lib.hid (show Keeps [] V11 V13 from Keeps.trans (by rw [hV12]; exact Keeps.alloc [] _ _) KK12.out)
  have KK10 := Lib.hid (show Keeps [] V10 V13 from Keeps.trans (by rw [hV11]; exact Keeps.alloc [] _ _) KK11.out)
  have KK9 := Lib.hid (show Keeps [] V9 V13 from Keeps.trans (by rw [hV10]; exact Keeps.alloc [] _ _) KK10.out)
  have KK8 := Lib.hid (show Keeps [] V8 V13 from Keeps.trans (by rw [hV9]; exact Keeps.alloc [] _ _) KK9.out)
  have KK7 := Lib.hid (show Keeps [] V7 V13 from Keeps.trans (by rw [hV8]; exact Keeps.alloc [] _ _) KK8.out)
  have KK6 := Lib.hid (show Keeps [] V6 V13 from Keeps.trans (by rw [hV7]; exact Keeps.alloc [] _ _) KK7.out)
  have KK5 := Lib.hid (show Keeps [] V5 V13 from Keeps.trans (by rw [hV6]; exact Keeps.alloc [] _ _) KK6.out)
  have KK4 := Lib.hid (show Keeps [] V4 V13 from Keeps.trans (by rw [hV5]; exact Keeps.alloc [] _ _) KK5.out)
  have KK3 := Lib.hid (show Keeps [] V3 V13 from Keeps.trans (by rw [hV4]; exact Keeps.alloc [] _ _) KK4.out)
  have KK2 := Lib.hid (show Keeps [] V2 V13 from Keeps.trans (by rw [hV3]; exact Keeps.alloc [] _ _) KK3.out)
  have KK1 := Lib.hid (show Keeps [] V1 V13 from Keeps.trans (by rw [hV2]; exact Keeps.alloc [] _ _) KK2.out)
  have KK0 := Lib.hid (show Keeps [] w V13 from Keeps.trans (by rw [hV1]; exact Keeps.alloc [] _ _) KK1.out)
  have U0 := Lib.hid (show UReads V13 (.slice (some ⟨w.heap.size, 0, none⟩) 2 2) [a, b] (w.heap.size) 0 from by
    have hu := UReads.lit12 w [a, b] #[.int .u32 A, .int .u32 Bb] 24 2 (by first | rfl | (simp only [List.map_cons, List.map_nil, uv, hA, hBb]; done) | (simp only [List.map_cons, List.map_nil, uv, hA, hBb]; rfl)) rfl
    rw [← hV1] at hu
    exact hu.keeps KK1.out (by simp))
  have U1 := Lib.hid (show ∀ (j i : Nat), ([7, 15, 2, 16] : List Nat)[j]? = some i → V13.cell? ⟨w.heap.size + 1, j, none⟩ = some (str (primI i).name) from by
    intro j i hj
    refine KK2.out.cell (p := ⟨w.heap.size + 1, j, none⟩) ?_ (by simp)
    rw [hV2, ← z1, cell_alloc_new, show (#[.string ⟨#[84, 85, 67, 75]⟩, .string ⟨#[43]⟩, .string ⟨#[83, 87, 65, 80]⟩, .string ⟨#[45]⟩] : Array Value) = (([7, 15, 2, 16] : List Nat).map fun i => str (primI i).name).toArray from by kernel_rfl]
    exact names_get3 _ j i hj)
  have U2 := Lib.hid (show UReads V13 (.slice (some ⟨w.heap.size + 1 + 1, 0, none⟩) 1 1) [a] (w.heap.size + 1 + 1) 0 from by
    have hu := UReads.lit12 V2 [a] #[.int .u32 A] 24 1 (by first | rfl | (simp only [List.map_cons, List.map_nil, uv, hA]; done) | (simp only [List.map_cons, List.map_nil, uv, hA]; rfl)) rfl
    rw [z2, ← hV3] at hu
    exact hu.keeps KK3.out (by simp))
  have U3 := Lib.hid (show ∀ (j i : Nat), ([23, 23] : List Nat)[j]? = some i → V13.cell? ⟨w.heap.size + 1 + 1 + 1, j, none⟩ = some (str (primI i).name) from by
    intro j i hj
    refine KK4.out.cell (p := ⟨w.heap.size + 1 + 1 + 1, j, none⟩) ?_ (by simp)
    rw [hV4, ← z3, cell_alloc_new, show (#[.string ⟨#[78, 69, 71, 65, 84, 69]⟩, .string ⟨#[78, 69, 71, 65, 84, 69]⟩] : Array Value) = (([23, 23] : List Nat).map fun i => str (primI i).name).toArray from by kernel_rfl]
    exact names_get3 _ j i hj)
  have U4 := Lib.hid (show ∀ (j i : Nat), ([42, 27, 23] : List Nat)[j]? = some i → V13.cell? ⟨w.heap.size + 1 + 1 + 1 + 1, j, none⟩ = some (str (primI i).name) from by
    intro j i hj
    refine KK5.out.cell (p := ⟨w.heap.size + 1 + 1 + 1 + 1, j, none⟩) ?_ (by simp)
    rw [hV5, ← z4, cell_alloc_new, show (#[.string ⟨#[73, 78, 86, 69, 82, 84]⟩, .string ⟨#[49, 43]⟩, .string ⟨#[78, 69, 71, 65, 84, 69]⟩] : Array Value) = (([42, 27, 23] : List Nat).map fun i => str (primI i).name).toArray from by kernel_rfl]
    exact names_get3 _ j i hj)
  have U5 := Lib.hid (show ∀ (j i : Nat), ([8, 39, 70, 40, 71, 15] : List Nat)[j]? = some i → V13.cell? ⟨w.heap.size + 1 + 1 + 1 + 1 + 1, j, none⟩ = some (str (primI i).name) from by
    intro j i hj
    refine KK6.out.cell (p := ⟨w.heap.size + 1 + 1 + 1 + 1 + 1, j, none⟩) ?_ (by simp)
    rw [hV6, ← z5, cell_alloc_new, show (#[.string ⟨#[50, 68, 85, 80]⟩, .string ⟨#[65, 78, 68]⟩, .string ⟨#[62, 82]⟩, .string ⟨#[79, 82]⟩, .string ⟨#[82, 62]⟩, .string ⟨#[43]⟩] : Array Value) = (([8, 39, 70, 40, 71, 15] : List Nat).map fun i => str (primI i).name).toArray from by kernel_rfl]
    exact names_get3 _ j i hj)
  have U6 := Lib.hid (show UReads V13 (.slice (some ⟨w.heap.size + 1 + 1 + 1 + 1 + 1 + 1, 0, none⟩) 1 1) [a + b] (w.heap.size + 1 + 1 + 1 + 1 + 1 + 1) 0 from by
    have hu := UReads.lit12 V6 [a + b] #[.int .u32 AB] 24 1 (by first | rfl | (simp only [List.map_cons, List.map_nil, uv, hAB]; done) | (simp only [List.map_cons, List.map_nil, uv, hAB]; rfl)) rfl
    rw [z6, ← hV7] at hu
    exact hu.keeps KK7.out (by simp))
  have U7 := Lib.hid (show ∀ (j i : Nat), ([8, 41, 41] : List Nat)[j]? = some i → V13.cell? ⟨w.heap.size + 1 + 1 + 1 + 1 + 1 + 1 + 1, j, none⟩ = some (str (primI i).name) from by
    intro j i hj
    refine KK8.out.cell (p := ⟨w.heap.size + 1 + 1 + 1 + 1 + 1 + 1 + 1, j, none⟩) ?_ (by simp)
    rw [hV8, ← z7, cell_alloc_new, show (#[.string ⟨#[50, 68, 85, 80]⟩, .string ⟨#[88, 79, 82]⟩, .string ⟨#[88, 79, 82]⟩] : Array Value) = (([8, 41, 41] : List Nat).map fun i => str (primI i).name).toArray from by kernel_rfl]
    exact names_get3 _ j i hj)
  have U8 := Lib.hid (show UReads V13 (.slice (some ⟨w.heap.size + 1 + 1 + 1 + 1 + 1 + 1 + 1 + 1, 0, none⟩) 2 2) [a, a] (w.heap.size + 1 + 1 + 1 + 1 + 1 + 1 + 1 + 1) 0 from by
    have hu := UReads.lit12 V8 [a, a] #[.int .u32 A, .int .u32 A] 24 2 (by first | rfl | (simp only [List.map_cons, List.map_nil, uv, hA]; done) | (simp only [List.map_cons, List.map_nil, uv, hA]; rfl)) rfl
    rw [z8, ← hV9] at hu
    exact hu.keeps KK9.out (by simp))
  have U9 := Lib.hid (show ∀ (j i : Nat), ([8, 25, 70, 26, 71, 15] : List Nat)[j]? = some i → V13.cell? ⟨w.heap.size + 1 + 1 + 1 + 1 + 1 + 1 + 1 + 1 + 1, j, none⟩ = some (str (primI i).name) from by
    intro j i hj
    refine KK10.out.cell (p := ⟨w.heap.size + 1 + 1 + 1 + 1 + 1 + 1 + 1 + 1 + 1, j, none⟩) ?_ (by simp)
    rw [hV10, ← z9, cell_alloc_new, show (#[.string ⟨#[50, 68, 85, 80]⟩, .string ⟨#[77, 73, 78]⟩, .string ⟨#[62, 82]⟩, .string ⟨#[77, 65, 88]⟩, .string ⟨#[82, 62]⟩, .string ⟨#[43]⟩] : Array Value) = (([8, 25, 70, 26, 71, 15] : List Nat).map fun i => str (primI i).name).toArray from by kernel_rfl]
    exact names_get3 _ j i hj)
  have U10 := Lib.hid (show UReads V13 (.slice (some ⟨w.heap.size + 1 + 1 + 1 + 1 + 1 + 1 + 1 + 1 + 1 + 1, 0, none⟩) 1 1) [a + b] (w.heap.size + 1 + 1 + 1 + 1 + 1 + 1 + 1 + 1 + 1 + 1) 0 from by
    have hu := UReads.lit12 V10 [a + b] #[.int .u32 AB] 24 1 (by first | rfl | (simp only [List.map_cons, List.map_nil, uv, hAB]; done) | (simp only [List.map_cons, List.map_nil, uv, hAB]; rfl)) rfl
    rw [z10, ← hV11] at hu
    exact hu.keeps KK11.out (by simp))
  have U11 := Lib.hid (show ∀ (j i : Nat), ([27, 28, 36, 38, 38, 1] : List Nat)[j]? = some i → V13.cell? ⟨w.heap.size + 1 + 1 + 1 + 1 + 1 + 1 + 1 + 1 + 1 + 1 + 1, j, none⟩ = some (str (primI i).name) from by
    intro j i hj
    refine KK12.out.cell (p := ⟨w.heap.size + 1 + 1 + 1 + 1 + 1 + 1 + 1 + 1 + 1 + 1 + 1, j, none⟩) ?_ (by simp)
    rw [hV12, ← z11, cell_alloc_new, show (#[.string ⟨#[49, 43]⟩, .string ⟨#[49, 45]⟩, .string ⟨#[83, 62, 68]⟩, .string ⟨#[68, 78, 69, 71, 65, 84, 69]⟩, .string ⟨#[68, 78, 69, 71, 65, 84, 69]⟩, .string ⟨#[68, 82, 79, 80]⟩] : Array Value) = (([27, 28, 36, 38, 38, 1] : List Nat).map fun i => str (primI i).name).toArray from by kernel_rfl]
    exact names_get3 _ j i hj)
  have HBIG := Lib.hid (show ∀ i v, (#[.slice (some ⟨w.heap.size + 1, 0, none⟩) 4 4, .slice (some ⟨w.heap.size + 1 + 1, 0, none⟩) 1 1, .slice (some ⟨w.heap.size + 1 + 1 + 1, 0, none⟩) 2 2, .slice (some ⟨w.heap.size, 0, none⟩) 2 2, .slice (some ⟨w.heap.size + 1 + 1 + 1 + 1, 0, none⟩) 3 3, .slice (some ⟨w.heap.size, 0, none⟩) 2 2, .slice (some ⟨w.heap.size + 1 + 1 + 1 + 1 + 1, 0, none⟩) 6 6, .slice (some ⟨w.heap.size + 1 + 1 + 1 + 1 + 1 + 1, 0, none⟩) 1 1, .slice (some ⟨w.heap.size + 1 + 1 + 1 + 1 + 1 + 1 + 1, 0, none⟩) 3 3, .slice (some ⟨w.heap.size + 1 + 1 + 1 + 1 + 1 + 1 + 1 + 1, 0, none⟩) 2 2, .slice (some ⟨w.heap.size + 1 + 1 + 1 + 1 + 1 + 1 + 1 + 1 + 1, 0, none⟩) 6 6, .slice (some ⟨w.heap.size + 1 + 1 + 1 + 1 + 1 + 1 + 1 + 1 + 1 + 1, 0, none⟩) 1 1, .slice (some ⟨w.heap.size + 1 + 1 + 1 + 1 + 1 + 1 + 1 + 1 + 1 + 1 + 1, 0, none⟩) 6 6, .slice (some ⟨w.heap.size, 0, none⟩) 2 2] : Array Value)[i]? = some v → V13.cell? ⟨w.heap.size + 1 + 1 + 1 + 1 + 1 + 1 + 1 + 1 + 1 + 1 + 1 + 1, i, none⟩ = some v from by
    intro i v hv
    rw [hV13, ← z12, cell_alloc_new]
    exact hv)
  have HB0 := Lib.hid (becomes_at3 (w.heap.size) (w.heap.size + 1) (w.heap.size + 1 + 1) 2 4 1 [a, b] [a] [7, 15, 2, 16] 0 U0.out U2.out U1.out (by rw [z13]; omega) rfl (by simp) (by decide) (by decide) R0.1 R0.2)
  have HB1 := Lib.hid (becomes_at3 (w.heap.size) (w.heap.size + 1 + 1 + 1) (w.heap.size) 2 2 2 [a, b] [a, b] [23, 23] 0 U0.out U0.out U3.out (by rw [z13]; omega) rfl (by simp) (by decide) (by decide) R1.1 R1.2)
  have HB2 := Lib.hid (becomes_at3 (w.heap.size) (w.heap.size + 1 + 1 + 1 + 1) (w.heap.size) 2 3 2 [a, b] [a, b] [42, 27, 23] 0 U0.out U0.out U4.out (by rw [z13]; omega) rfl (by simp) (by decide) (by decide) R2.1 R2.2)
  have HB3 := Lib.hid (becomes_at3 (w.heap.size) (w.heap.size + 1 + 1 + 1 + 1 + 1) (w.heap.size + 1 + 1 + 1 + 1 + 1 + 1) 2 6 1 [a, b] [a + b] [8, 39, 70, 40, 71, 15] 0 U0.out U6.out U5.out (by rw [z13]; omega) rfl (by simp) (by decide) (by decide) R3.1 R3.2)
  have HB4 := Lib.hid (becomes_at3 (w.heap.size) (w.heap.size + 1 + 1 + 1 + 1 + 1 + 1 + 1) (w.heap.size + 1 + 1 + 1 + 1 + 1 + 1 + 1 + 1) 2 3 2 [a, b] [a, a] [8, 41, 41] 0 U0.out U8.out U7.out (by rw [z13]; omega) rfl (by simp) (by decide) (by decide) R4.1 R4.2)
  have HB5 := Lib.hid (becomes_at3 (w.heap.size) (w.heap.size + 1 + 1 + 1 + 1 + 1 + 1 + 1 + 1 + 1) (w.heap.size + 1 + 1 + 1 + 1 + 1 + 1 + 1 + 1 + 1 + 1) 2 6 1 [a, b] [a + b] [8, 25, 70, 26, 71, 15] 0 U0.out U10.out U9.out (by rw [z13]; omega) rfl (by simp) (by decide) (by decide) R5.1 R5.2)
  have HB6 := Lib.hid (becomes_at3 (w.heap.size) (w.heap.size + 1 + 1 + 1 + 1 + 1 + 1 + 1 + 1 + 1 + 1 + 1) (w.heap.size) 2 6 2 [a, b] [a, b] [27, 28, 36, 38, 38, 1] 0 U0.out U0.out U11.out (by rw [z13]; omega) rfl (by simp) (by decide) (by decide) R6.1 R6.2)
  clear R0 R1 R2 R3 R4 R5 R6
  have HA := Lib.hid (And.intro hA hBb)
  have HV := Lib.hid (And.intro hV1 (And.intro hV2 (And.intro hV3 (And.intro hV4 (And.intro hV5 (And.intro hV6 (And.intro hV7 (And.intro hV8 (And.intro hV9 (And.intro hV10 (And.intro hV11 (And.intro hV12 (hV13)))))))))))))
  clear hA hBb hAB hV1 hV2 hV3 hV4 hV5 hV6 hV7 hV8 hV9 hV10 hV11 hV12 hV13 z1 z2 z3 z4 z5 z6 z7 z8 z9 z10 z11 z12 z13 U0 U1 U2 U3 U4 U5 U6 U7 U8 U9 U10 U11
  go_enter Tryz.func5, Tryz.ntmps5
  go_wp2
  obtain ⟨hV1, hV2, hV3, hV4, hV5, hV6, hV7, hV8, hV9, hV10, hV11, hV12, hV13⟩ := HV.out
  rw [← hV1, ← hV2, ← hV3, ← hV4, ← hV5, ← hV6, ← hV7, ← hV8, ← hV9, ← hV10, ← hV11, ← hV12, ← hV13]
  clear HV e6 hV1 hV2 hV3 hV4 hV5 hV6 hV7 hV8 hV9 hV10 hV11 hV12 hV13
  go_loopw [47] (fun i wr => ∃ j : Nat, j ≤ 7 ∧ i = .int .i64 (j : Int) ∧ Keeps [] V13 wr) (fun i _ => 7 - (intOf i).toNat)
  case atStart => exact ⟨0, by omega, rfl, Keeps.refl _ _⟩
  case round =>
    obtain ⟨j, hj, rfl, hk⟩ := hrel
    have HK := Lib.hid hk
    have hcase : j = 0 ∨ j = 1 ∨ j = 2 ∨ j = 3 ∨ j = 4 ∨ j = 5 ∨ j = 6 ∨ j = 7 := by omega
    rcases hcase with rfl | rfl | rfl | rfl | rfl | rfl | rfl | rfl
    · have c0 := hk.cell (HBIG.out 0 _ rfl) (by simp)
      have c1 := hk.cell (HBIG.out 1 _ rfl) (by simp)
      have HBJ := Lib.hid (HB0.out _ (hk.trans (Keeps.alloc [] wr (.cells #[.slice (some ⟨w.heap.size + 1, 0, none⟩) 4 4, .slice (some ⟨w.heap.size + 1 + 1, 0, none⟩) 1 1] 48))))
      clear hk HBIG HB0 HB1 HB2 HB3 HB4 HB5 HB6
      go_wp2_with (go_at_call 16; refine HBJ.out.mono ?_; rintro e w1 ⟨rfl, hk1⟩; have HK1 := Lib.hid hk1; clear hk1)
      go_roundw
      case rel => exact ⟨1, by omega, by go_num, (HK.out.trans (Keeps.alloc [] _ _)).trans HK1.out⟩
      case measure => simp [intOf]
    · have c0 := hk.cell (HBIG.out 2 _ rfl) (by simp)
      have c1 := hk.cell (HBIG.out 3 _ rfl) (by simp)
      have HBJ := Lib.hid (HB1.out _ (hk.trans (Keeps.alloc [] wr (.cells #[.slice (some ⟨w.heap.size + 1 + 1 + 1, 0, none⟩) 2 2, .slice (some ⟨w.heap.size, 0, none⟩) 2 2] 48))))
      clear hk HBIG HB0 HB1 HB2 HB3 HB4 HB5 HB6
      go_wp2_with (go_at_call 16; refine HBJ.out.mono ?_; rintro e w1 ⟨rfl, hk1⟩; have HK1 := Lib.hid hk1; clear hk1)
      go_roundw
      case rel => exact ⟨2, by omega, by go_num, (HK.out.trans (Keeps.alloc [] _ _)).trans HK1.out⟩
      case measure => simp [intOf]
    · have c0 := hk.cell (HBIG.out 4 _ rfl) (by simp)
      have c1 := hk.cell (HBIG.out 5 _ rfl) (by simp)
      have HBJ := Lib.hid (HB2.out _ (hk.trans (Keeps.alloc [] wr (.cells #[.slice (some ⟨w.heap.size + 1 + 1 + 1 + 1, 0, none⟩) 3 3, .slice (some ⟨w.heap.size, 0, none⟩) 2 2] 48))))
      clear hk HBIG HB0 HB1 HB2 HB3 HB4 HB5 HB6
      go_wp2_with (go_at_call 16; refine HBJ.out.mono ?_; rintro e w1 ⟨rfl, hk1⟩; have HK1 := Lib.hid hk1; clear hk1)
      go_roundw
      case rel => exact ⟨3, by omega, by go_num, (HK.out.trans (Keeps.alloc [] _ _)).trans HK1.out⟩
      case measure => simp [intOf]
    · have c0 := hk.cell (HBIG.out 6 _ rfl) (by simp)
      have c1 := hk.cell (HBIG.out 7 _ rfl) (by simp)
      have HBJ := Lib.hid (HB3.out _ (hk.trans (Keeps.alloc [] wr (.cells #[.slice (some ⟨w.heap.size + 1 + 1 + 1 + 1 + 1, 0, none⟩) 6 6, .slice (some ⟨w.heap.size + 1 + 1 + 1 + 1 + 1 + 1, 0, none⟩) 1 1] 48))))
      clear hk HBIG HB0 HB1 HB2 HB3 HB4 HB5 HB6
      go_wp2_with (go_at_call 16; refine HBJ.out.mono ?_; rintro e w1 ⟨rfl, hk1⟩; have HK1 := Lib.hid hk1; clear hk1)
      go_roundw
      case rel => exact ⟨4, by omega, by go_num, (HK.out.trans (Keeps.alloc [] _ _)).trans HK1.out⟩
      case measure => simp [intOf]
    · have c0 := hk.cell (HBIG.out 8 _ rfl) (by simp)
      have c1 := hk.cell (HBIG.out 9 _ rfl) (by simp)
      have HBJ := Lib.hid (HB4.out _ (hk.trans (Keeps.alloc [] wr (.cells #[.slice (some ⟨w.heap.size + 1 + 1 + 1 + 1 + 1 + 1 + 1, 0, none⟩) 3 3, .slice (some ⟨w.heap.size + 1 + 1 + 1 + 1 + 1 + 1 + 1 + 1, 0, none⟩) 2 2] 48))))
      clear hk HBIG HB0 HB1 HB2 HB3 HB4 HB5 HB6
      go_wp2_with (go_at_call 16; refine HBJ.out.mono ?_; rintro e w1 ⟨rfl, hk1⟩; have HK1 := Lib.hid hk1; clear hk1)
      go_roundw
      case rel => exact ⟨5, by omega, by go_num, (HK.out.trans (Keeps.alloc [] _ _)).trans HK1.out⟩
      case measure => simp [intOf]
    · have c0 := hk.cell (HBIG.out 10 _ rfl) (by simp)
      have c1 := hk.cell (HBIG.out 11 _ rfl) (by simp)
      have HBJ := Lib.hid (HB5.out _ (hk.trans (Keeps.alloc [] wr (.cells #[.slice (some ⟨w.heap.size + 1 + 1 + 1 + 1 + 1 + 1 + 1 + 1 + 1, 0, none⟩) 6 6, .slice (some ⟨w.heap.size + 1 + 1 + 1 + 1 + 1 + 1 + 1 + 1 + 1 + 1, 0, none⟩) 1 1] 48))))
      clear hk HBIG HB0 HB1 HB2 HB3 HB4 HB5 HB6
      go_wp2_with (go_at_call 16; refine HBJ.out.mono ?_; rintro e w1 ⟨rfl, hk1⟩; have HK1 := Lib.hid hk1; clear hk1)
      go_roundw
      case rel => exact ⟨6, by omega, by go_num, (HK.out.trans (Keeps.alloc [] _ _)).trans HK1.out⟩
      case measure => simp [intOf]
    · have c0 := hk.cell (HBIG.out 12 _ rfl) (by simp)
      have c1 := hk.cell (HBIG.out 13 _ rfl) (by simp)
      have HBJ := Lib.hid (HB6.out _ (hk.trans (Keeps.alloc [] wr (.cells #[.slice (some ⟨w.heap.size + 1 + 1 + 1 + 1 + 1 + 1 + 1 + 1 + 1 + 1 + 1, 0, none⟩) 6 6, .slice (some ⟨w.heap.size, 0, none⟩) 2 2] 48))))
      clear hk HBIG HB0 HB1 HB2 HB3 HB4 HB5 HB6
      go_wp2_with (go_at_call 16; refine HBJ.out.mono ?_; rintro e w1 ⟨rfl, hk1⟩; have HK1 := Lib.hid hk1; clear hk1)
      go_roundw
      case rel => exact ⟨7, by omega, by go_num, (HK.out.trans (Keeps.alloc [] _ _)).trans HK1.out⟩
      case measure => simp [intOf]
    · clear hk HBIG HB0 HB1 HB2 HB3 HB4 HB5 HB6
      have KW := Lib.hid (KK0.out.trans HK.out)
      have HBG := Lib.hid (begun_at (wr.alloc (.cells #[.int .u32 A, .int .u32 Bb, .int .u32 A, .int .u32 Bb] 24)) _ [a, b, a, b] _ (X4.out wr) (by simp))
      have HA3 := Lib.hid (fun (U : World) (gs gr gm : Nat) (X : World) (hk : Keeps [] (U.alloc (.cells #[.pointer (some ⟨gs, 0, none⟩), .pointer (some ⟨gr, 0, none⟩), .pointer (some ⟨gm, 0, none⟩)] 28)) X) => (⟨hk.cell (cell_alloc_new U _ _ 0) (by simp), hk.cell (cell_alloc_new U _ _ 1) (by simp), hk.cell (cell_alloc_new U _ _ 2) (by simp)⟩ : X.cell? ⟨U.heap.size, 0, none⟩ = some (.pointer (some ⟨gs, 0, none⟩)) ∧ X.cell? ⟨U.heap.size, 1, none⟩ = some (.pointer (some ⟨gr, 0, none⟩)) ∧ X.cell? ⟨U.heap.size, 2, none⟩ = some (.pointer (some ⟨gm, 0, none⟩))))
      go_upto_region 9 with (go_at_call 8; refine HBG.out.mono ?_; rintro e w1 ⟨gs, gr, gm, κ, rfl, hl1, hk1⟩; have HL1 := Lib.hid hl1; have K1 := Lib.hid ((KW.out.trans (Keeps.alloc [] wr _)).trans hk1); clear hl1 hk1)
      obtain ⟨b0, b1, b2⟩ := HA3.out w1 gs gr gm _ (Keeps.refl _ _)
      have HLV := Lib.hid (HL1.out.next (Keeps.alloc [] w1 (.cells #[.pointer (some ⟨gs, 0, none⟩), .pointer (some ⟨gr, 0, none⟩), .pointer (some ⟨gm, 0, none⟩)] 28)))
      have HZ := Lib.hid (HL1.out.newer (x := w1.heap.size) (Nat.le_refl _))
      have KV := Lib.hid (K1.out.trans (Keeps.alloc [] w1 (.cells #[.pointer (some ⟨gs, 0, none⟩), .pointer (some ⟨gr, 0, none⟩), .pointer (some ⟨gm, 0, none⟩)] 28)))
      generalize w1.alloc (.cells #[.pointer (some ⟨gs, 0, none⟩), .pointer (some ⟨gr, 0, none⟩), .pointer (some ⟨gm, 0, none⟩)] 28) = V at *
      have HNM := Lib.hid (named_lit HLV.out #[.string ⟨#[60]⟩, .string ⟨#[62, 82]⟩, .string ⟨#[83, 87, 65, 80]⟩, .string ⟨#[62]⟩, .string ⟨#[82, 62]⟩, .string ⟨#[45]⟩] [47, 70, 2, 48, 71, 16] 6 0 (by kernel_rfl) rfl (by decide) (by decide) (less6 a b _))
      go_upto_region 11 with (first
        | (go_at_call 17; refine HNM.out.mono ?_; rintro e w2 ⟨κ2, rfl, hl2, hs2⟩; have HL2 := Lib.hid hl2; replace b0 := hs2.cell b0 HZ.out; clear hl2 hs2)
        | (go_at_call 9; refine (All_lab HL2.out).mono ?_; rintro e w3 ⟨aa, ac, aM, rfl, hu, _, hk⟩; have HU := Lib.hid hu; have HK3 := Lib.hid (HL2.out.kept.trans hk); clear hu hk)
        | (go_at_call 13; refine (cells_same _ _ _ [0#32] aM 0 _ 0 (HU.out.keeps (Keeps.alloc [] w3 (.cells #[.int .u32 0] 24)) (by simp)) (X0.out w3) (by unfold maxLen; simp)).mono ?_; rintro e w4 ⟨rfl, hk⟩; have HK4 := Lib.hid (((KW.out.trans (Keeps.alloc [] wr _)).trans HK3.out).trans ((Keeps.alloc [] w3 _).trans hk)); clear hk))
      have HBG2 := Lib.hid (begun_at (w4.alloc (.cells #[.int .u32 A, .int .u32 Bb, .int .u32 Bb] 24)) _ [a, b, b] _ (X3.out w4) (by simp))
      clear HBG HNM HL1 HLV HL2 HU HK3 K1 KV b0 b1 b2 HZ
      go_upto_region 12 with (go_at_call 8; refine HBG2.out.mono ?_; rintro e w5 ⟨gs2, gr2, gm2, κ5, rfl, hl1, hk1⟩; have HL5 := Lib.hid hl1; clear hl1 hk1)
      obtain ⟨b0, b1, b2⟩ := HA3.out w5 gs2 gr2 gm2 _ (Keeps.refl _ _)
      have HLV := Lib.hid (HL5.out.next (Keeps.alloc [] w5 (.cells #[.pointer (some ⟨gs2, 0, none⟩), .pointer (some ⟨gr2, 0, none⟩), .pointer (some ⟨gm2, 0, none⟩)] 28)))
      have HZ := Lib.hid (HL5.out.newer (x := w5.heap.size) (Nat.le_refl _))
      generalize w5.alloc (.cells #[.pointer (some ⟨gs2, 0, none⟩), .pointer (some ⟨gr2, 0, none⟩), .pointer (some ⟨gm2, 0, none⟩)] 28) = V at *
      clear HA3 HBG2
      rcases div_ways a b with ⟨hd, hbz⟩ | ⟨hd, haz, hbz⟩ | ⟨R, Q, hd, hq⟩
      · have HNM := Lib.hid (named_lit HLV.out #[.string ⟨#[62, 82]⟩, .string ⟨#[47, 77, 79, 68]⟩, .string ⟨#[82, 62]⟩, .string ⟨#[42]⟩, .string ⟨#[43]⟩] [70, 20, 71, 17, 15] 5 (-10) (by kernel_rfl) rfl (by decide) (by decide) (dm_thr a b _ (-10) (by decide) hd))
        have hB0 : Bb = 0 := by rw [HA.out.2, hbz]; rfl
        clear hd hbz
        subst hB0
        go_wp2_with (first
          | (go_at_call 17; refine HNM.out.mono ?_; rintro e w6 ⟨κ6, rfl, hl6, hs6⟩; have HL6 := Lib.hid hl6; replace b0 := hs6.cell b0 HZ.out; clear hl6 hs6)
          | (go_at_call 14; refine (awake12_any _).mono ?_; rintro e w9 ⟨rfl, hk⟩; have HK9 := Lib.hid hk; clear hk))
        go_ret
        exact ⟨rfl, ((HK4.out.trans (Keeps.alloc [] w4 _)).trans HL6.out.kept).trans HK9.out⟩
      · have HNM := Lib.hid (named_lit HLV.out #[.string ⟨#[62, 82]⟩, .string ⟨#[47, 77, 79, 68]⟩, .string ⟨#[82, 62]⟩, .string ⟨#[42]⟩, .string ⟨#[43]⟩] [70, 20, 71, 17, 15] 5 (-11) (by kernel_rfl) rfl (by decide) (by decide) (dm_thr a b _ (-11) (by decide) hd))
        have hB0 : Bb = 4294967295 := by rw [HA.out.2, hbz]; rfl
        have hA0 : A = 2147483648 := by rw [HA.out.1, haz]; rfl
        clear hd hbz haz
        subst hB0 hA0
        go_wp2_with (first
          | (go_at_call 17; refine HNM.out.mono ?_; rintro e w6 ⟨κ6, rfl, hl6, hs6⟩; have HL6 := Lib.hid hl6; replace b0 := hs6.cell b0 HZ.out; clear hl6 hs6)
          | (go_at_call 14; refine (awake12_any _).mono ?_; rintro e w9 ⟨rfl, hk⟩; have HK9 := Lib.hid hk; clear hk))
        go_ret
        exact ⟨rfl, ((HK4.out.trans (Keeps.alloc [] w4 _)).trans HL6.out.kept).trans HK9.out⟩
      · have HNM := Lib.hid (named_lit HLV.out #[.string ⟨#[62, 82]⟩, .string ⟨#[47, 77, 79, 68]⟩, .string ⟨#[82, 62]⟩, .string ⟨#[42]⟩, .string ⟨#[43]⟩] [70, 20, 71, 17, 15] 5 0 (by kernel_rfl) rfl (by decide) (by decide) (dm_ok a b _ R Q hd hq))
        clear hd hq
        go_wp2_with (first
          | (go_at_call 17; refine HNM.out.mono ?_; rintro e w6 ⟨κ6, rfl, hl6, hs6⟩; have HL6 := Lib.hid hl6; replace b0 := hs6.cell b0 HZ.out; clear hl6 hs6)
          | (go_at_call 9; refine (All_lab HL6.out).mono ?_; rintro e w7 ⟨aa, ac, aM, rfl, hu, _, hk⟩; have HU := Lib.hid hu; have HK7 := Lib.hid (HL6.out.kept.trans hk); clear hu hk)
          | (go_at_call 13; refine (cells_same _ _ _ [a] aM 0 _ 0 (HU.out.keeps (Keeps.alloc [] w7 (.cells #[.int .u32 A] 24)) (by simp)) (X1.out w7) (by unfold maxLen; simp)).mono ?_; rintro e w8 ⟨rfl, hk⟩; have HK8 := Lib.hid (HK7.out.trans ((Keeps.alloc [] w7 _).trans hk)); clear hk)
          | (go_at_call 14; refine (awake12_any _).mono ?_; rintro e w9 ⟨rfl, hk⟩; have HK9 := Lib.hid hk; clear hk))
        go_ret
        exact ⟨rfl, ((HK4.out.trans (Keeps.alloc [] w4 _)).trans HK8.out).trans HK9.out⟩
end Go.Proofs.YtobpfcdfhegbdaaGreat
