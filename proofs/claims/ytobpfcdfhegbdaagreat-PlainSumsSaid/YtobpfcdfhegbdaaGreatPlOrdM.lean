/-
  PlainOrder: what its sequences come to, upon any cells. Written by draft/genpl11.py.
-/
import Derived.Test.YtobpfcdfhegbdaaGreatPlAw
namespace Go.Proofs.YtobpfcdfhegbdaaGreat
open Go.RowKit
set_option linter.unusedVariables false

theorem do_gen (room : Int) (win : List UInt8) (k G : Nat) (E : Eff) (pre c r g r' : List (BitVec 32)) (ram ram' : List UInt8) (hc : c.length = k) (hE : E room win c ⟨pre ++ c, r, ram⟩ = (g, 0, ⟨pre ++ c, r', ram'⟩)) (hg : g.length = G)
    (h1 : (pre.length : Int) + k ≤ room) (h2 : (pre.length : Int) + G ≤ room) : doM room win k G E ⟨pre ++ c, r, ram⟩ = (0, ⟨pre ++ g, r', ram'⟩) := by
  have hl : (pre ++ c).length = pre.length + k := by rw [List.length_append, hc]
  have hd : (pre ++ c).drop ((pre ++ c).length - k) = c := by
    rw [hl, show pre.length + k - k = pre.length by omega]; simp
  have hm : mayT room (-3) (-4) (pre ++ c) k G = 0 := by
    unfold mayT
    rw [hl, if_neg (by omega), if_neg (by omega)]
  have hcut : cutL (pre ++ c) (((pre ++ c).length : Int) - k) = pre := by
    unfold cutL
    rw [hl, if_pos (by omega), show (((pre.length + k : Nat) : Int) - k).toNat = pre.length by omega]
    simp
  unfold doM
  rw [hm, if_pos rfl]
  show (if (E room win ((pre ++ c).drop ((pre ++ c).length - k)) ⟨pre ++ c, r, ram⟩).2.1 = 0 then _ else _) = _
  rw [hd, hE, if_pos rfl]
  show (pushT room (-3) (cutL (pre ++ c) (((pre ++ c).length : Int) - k)) g, (⟨pushL room (cutL (pre ++ c) (((pre ++ c).length : Int) - k)) g, r', ram'⟩ : PSt)) = _
  rw [hcut]
  unfold pushT pushL
  rw [if_pos (by omega), if_pos (by omega)]

theorem named_gen (i k G : Nat) (l : List Nat) (pre c r g r' : List (BitVec 32)) (ram ram' : List UInt8) (ht : (primI i).takes = k) (hgv : gN i (pre ++ c) = G) (hc : c.length = k) (hE : effM i 20 [] c ⟨pre ++ c, r, ram⟩ = (g, 0, ⟨pre ++ c, r', ram'⟩)) (hg : g.length = G)
    (h1 : pre.length + k ≤ 20) (h2 : pre.length + G ≤ 20) : namedM 20 [] (i :: l) ⟨pre ++ c, r, ram⟩ = namedM 20 [] l ⟨pre ++ g, r', ram'⟩ := by
  have hd : doP 20 [] i ⟨pre ++ c, r, ram⟩ = (0, ⟨pre ++ g, r', ram'⟩) := by
    unfold doP
    rw [ht, show gN i (PSt.mk (pre ++ c) r ram).s = G from hgv]
    exact do_gen 20 [] k G (effM i) pre c r g r' ram ram' hc hE hg (by omega) (by omega)
  show (if (doP 20 [] i ⟨pre ++ c, r, ram⟩).1 = 0 then namedM 20 [] l (doP 20 [] i ⟨pre ++ c, r, ram⟩).2 else doP 20 [] i ⟨pre ++ c, r, ram⟩) = _
  rw [hd, if_pos rfl]

set_option maxRecDepth 100000 in
theorem ord_0 (L : List (BitVec 32)) (hL : L.length ≤ 10) (a b c d : BitVec 32) (ram : List UInt8) : namedM 20 [] [2, 2] ⟨L ++ [a, b, c, d], [], ram⟩ = (0, ⟨L ++ [a, b, c, d], [], ram⟩) := by
  rw [show L ++ [a, b, c, d] = (L ++ [a, b]) ++ [c, d] by simp, named_gen 2 2 2 [2] (L ++ [a, b]) [c, d] [] [d, c] [] ram ram (by kernel_rfl) (by kernel_rfl) rfl (by first | rfl | kernel_rfl) rfl (by simp; omega) (by simp; omega), show (L ++ [a, b]) ++ [d, c] = L ++ [a, b, d, c] by simp]
  rw [show L ++ [a, b, d, c] = (L ++ [a, b]) ++ [d, c] by simp, named_gen 2 2 2 [] (L ++ [a, b]) [d, c] [] [c, d] [] ram ram (by kernel_rfl) (by kernel_rfl) rfl (by first | rfl | kernel_rfl) rfl (by simp; omega) (by simp; omega), show (L ++ [a, b]) ++ [c, d] = L ++ [a, b, c, d] by simp]
  simp [namedM]
set_option maxRecDepth 100000 in
theorem ord_1 (L : List (BitVec 32)) (hL : L.length ≤ 10) (a b c d : BitVec 32) (ram : List UInt8) : namedM 20 [] [4, 4, 4] ⟨L ++ [a, b, c, d], [], ram⟩ = (0, ⟨L ++ [a, b, c, d], [], ram⟩) := by
  rw [show L ++ [a, b, c, d] = (L ++ [a]) ++ [b, c, d] by simp, named_gen 4 3 3 [4, 4] (L ++ [a]) [b, c, d] [] [c, d, b] [] ram ram (by kernel_rfl) (by kernel_rfl) rfl (by first | rfl | kernel_rfl) rfl (by simp; omega) (by simp; omega), show (L ++ [a]) ++ [c, d, b] = L ++ [a, c, d, b] by simp]
  rw [show L ++ [a, c, d, b] = (L ++ [a]) ++ [c, d, b] by simp, named_gen 4 3 3 [4] (L ++ [a]) [c, d, b] [] [d, b, c] [] ram ram (by kernel_rfl) (by kernel_rfl) rfl (by first | rfl | kernel_rfl) rfl (by simp; omega) (by simp; omega), show (L ++ [a]) ++ [d, b, c] = L ++ [a, d, b, c] by simp]
  rw [show L ++ [a, d, b, c] = (L ++ [a]) ++ [d, b, c] by simp, named_gen 4 3 3 [] (L ++ [a]) [d, b, c] [] [b, c, d] [] ram ram (by kernel_rfl) (by kernel_rfl) rfl (by first | rfl | kernel_rfl) rfl (by simp; omega) (by simp; omega), show (L ++ [a]) ++ [b, c, d] = L ++ [a, b, c, d] by simp]
  simp [namedM]
set_option maxRecDepth 100000 in
theorem ord_2 (L : List (BitVec 32)) (hL : L.length ≤ 10) (a b c d : BitVec 32) (ram : List UInt8) : namedM 20 [] [7, 4, 1] ⟨L ++ [a, b, c, d], [], ram⟩ = (0, ⟨L ++ [a, b, c, d], [], ram⟩) := by
  rw [show L ++ [a, b, c, d] = (L ++ [a, b]) ++ [c, d] by simp, named_gen 7 2 3 [4, 1] (L ++ [a, b]) [c, d] [] [d, c, d] [] ram ram (by kernel_rfl) (by kernel_rfl) rfl (by first | rfl | kernel_rfl) rfl (by simp; omega) (by simp; omega), show (L ++ [a, b]) ++ [d, c, d] = L ++ [a, b, d, c, d] by simp]
  rw [show L ++ [a, b, d, c, d] = (L ++ [a, b]) ++ [d, c, d] by simp, named_gen 4 3 3 [1] (L ++ [a, b]) [d, c, d] [] [c, d, d] [] ram ram (by kernel_rfl) (by kernel_rfl) rfl (by first | rfl | kernel_rfl) rfl (by simp; omega) (by simp; omega), show (L ++ [a, b]) ++ [c, d, d] = L ++ [a, b, c, d, d] by simp]
  rw [show L ++ [a, b, c, d, d] = (L ++ [a, b, c, d]) ++ [d] by simp, named_gen 1 1 0 [] (L ++ [a, b, c, d]) [d] [] [] [] ram ram (by kernel_rfl) (by kernel_rfl) rfl (by first | rfl | kernel_rfl) rfl (by simp; omega) (by simp; omega), show (L ++ [a, b, c, d]) ++ [] = L ++ [a, b, c, d] by simp]
  simp [namedM]
set_option maxRecDepth 100000 in
theorem ord_3 (L : List (BitVec 32)) (hL : L.length ≤ 10) (a b c d : BitVec 32) (ram : List UInt8) : namedM 20 [] [3, 1] ⟨L ++ [a, b, c, d], [], ram⟩ = (0, ⟨L ++ [a, b, c, d], [], ram⟩) := by
  rw [show L ++ [a, b, c, d] = (L ++ [a, b]) ++ [c, d] by simp, named_gen 3 2 3 [1] (L ++ [a, b]) [c, d] [] [c, d, c] [] ram ram (by kernel_rfl) (by kernel_rfl) rfl (by first | rfl | kernel_rfl) rfl (by simp; omega) (by simp; omega), show (L ++ [a, b]) ++ [c, d, c] = L ++ [a, b, c, d, c] by simp]
  rw [show L ++ [a, b, c, d, c] = (L ++ [a, b, c, d]) ++ [c] by simp, named_gen 1 1 0 [] (L ++ [a, b, c, d]) [c] [] [] [] ram ram (by kernel_rfl) (by kernel_rfl) rfl (by first | rfl | kernel_rfl) rfl (by simp; omega) (by simp; omega), show (L ++ [a, b, c, d]) ++ [] = L ++ [a, b, c, d] by simp]
  simp [namedM]
set_option maxRecDepth 100000 in
theorem ord_4 (L : List (BitVec 32)) (hL : L.length ≤ 10) (a b c d : BitVec 32) (ram : List UInt8) : namedM 20 [] [10, 10] ⟨L ++ [a, b, c, d], [], ram⟩ = (0, ⟨L ++ [a, b, c, d], [], ram⟩) := by
  rw [show L ++ [a, b, c, d] = (L ++ []) ++ [a, b, c, d] by simp, named_gen 10 4 4 [10] (L ++ []) [a, b, c, d] [] [c, d, a, b] [] ram ram (by kernel_rfl) (by kernel_rfl) rfl (by first | rfl | kernel_rfl) rfl (by simp; omega) (by simp; omega), show (L ++ []) ++ [c, d, a, b] = L ++ [c, d, a, b] by simp]
  rw [show L ++ [c, d, a, b] = (L ++ []) ++ [c, d, a, b] by simp, named_gen 10 4 4 [] (L ++ []) [c, d, a, b] [] [a, b, c, d] [] ram ram (by kernel_rfl) (by kernel_rfl) rfl (by first | rfl | kernel_rfl) rfl (by simp; omega) (by simp; omega), show (L ++ []) ++ [a, b, c, d] = L ++ [a, b, c, d] by simp]
  simp [namedM]
set_option maxRecDepth 100000 in
theorem ord_5 (L : List (BitVec 32)) (hL : L.length ≤ 10) (a b c d : BitVec 32) (ram : List UInt8) : namedM 20 [] [70, 71] ⟨L ++ [a, b, c, d], [], ram⟩ = (0, ⟨L ++ [a, b, c, d], [], ram⟩) := by
  rw [show L ++ [a, b, c, d] = (L ++ [a, b, c]) ++ [d] by simp, named_gen 70 1 0 [71] (L ++ [a, b, c]) [d] [] [] [d] ram ram (by kernel_rfl) (by kernel_rfl) rfl (by first | rfl | kernel_rfl) rfl (by simp; omega) (by simp; omega), show (L ++ [a, b, c]) ++ [] = L ++ [a, b, c] by simp]
  rw [show L ++ [a, b, c] = (L ++ [a, b, c]) ++ [] by simp, named_gen 71 0 1 [] (L ++ [a, b, c]) [] [d] [d] [] ram ram (by kernel_rfl) (by kernel_rfl) rfl (by first | rfl | kernel_rfl) rfl (by simp; omega) (by simp; omega), show (L ++ [a, b, c]) ++ [d] = L ++ [a, b, c, d] by simp]
  simp [namedM]
set_option maxRecDepth 100000 in
theorem ord_6 (L : List (BitVec 32)) (hL : L.length ≤ 10) (a b c d : BitVec 32) (ram : List UInt8) : namedM 20 [] [70, 72, 71, 1] ⟨L ++ [a, b, c, d], [], ram⟩ = (0, ⟨L ++ [a, b, c, d], [], ram⟩) := by
  rw [show L ++ [a, b, c, d] = (L ++ [a, b, c]) ++ [d] by simp, named_gen 70 1 0 [72, 71, 1] (L ++ [a, b, c]) [d] [] [] [d] ram ram (by kernel_rfl) (by kernel_rfl) rfl (by first | rfl | kernel_rfl) rfl (by simp; omega) (by simp; omega), show (L ++ [a, b, c]) ++ [] = L ++ [a, b, c] by simp]
  rw [show L ++ [a, b, c] = (L ++ [a, b, c]) ++ [] by simp, named_gen 72 0 1 [71, 1] (L ++ [a, b, c]) [] [d] [d] [d] ram ram (by kernel_rfl) (by kernel_rfl) rfl (by first | rfl | kernel_rfl) rfl (by simp; omega) (by simp; omega), show (L ++ [a, b, c]) ++ [d] = L ++ [a, b, c, d] by simp]
  rw [show L ++ [a, b, c, d] = (L ++ [a, b, c, d]) ++ [] by simp, named_gen 71 0 1 [1] (L ++ [a, b, c, d]) [] [d] [d] [] ram ram (by kernel_rfl) (by kernel_rfl) rfl (by first | rfl | kernel_rfl) rfl (by simp; omega) (by simp; omega), show (L ++ [a, b, c, d]) ++ [d] = L ++ [a, b, c, d, d] by simp]
  rw [show L ++ [a, b, c, d, d] = (L ++ [a, b, c, d]) ++ [d] by simp, named_gen 1 1 0 [] (L ++ [a, b, c, d]) [d] [] [] [] ram ram (by kernel_rfl) (by kernel_rfl) rfl (by first | rfl | kernel_rfl) rfl (by simp; omega) (by simp; omega), show (L ++ [a, b, c, d]) ++ [] = L ++ [a, b, c, d] by simp]
  simp [namedM]
set_option maxRecDepth 100000 in
theorem ord_7 (L : List (BitVec 32)) (hL : L.length ≤ 10) (a b c d : BitVec 32) (ram : List UInt8) : namedM 20 [] [8, 9] ⟨L ++ [a, b, c, d], [], ram⟩ = (0, ⟨L ++ [a, b, c, d], [], ram⟩) := by
  rw [show L ++ [a, b, c, d] = (L ++ [a, b]) ++ [c, d] by simp, named_gen 8 2 4 [9] (L ++ [a, b]) [c, d] [] [c, d, c, d] [] ram ram (by kernel_rfl) (by kernel_rfl) rfl (by first | rfl | kernel_rfl) rfl (by simp; omega) (by simp; omega), show (L ++ [a, b]) ++ [c, d, c, d] = L ++ [a, b, c, d, c, d] by simp]
  rw [show L ++ [a, b, c, d, c, d] = (L ++ [a, b, c, d]) ++ [c, d] by simp, named_gen 9 2 0 [] (L ++ [a, b, c, d]) [c, d] [] [] [] ram ram (by kernel_rfl) (by kernel_rfl) rfl (by first | rfl | kernel_rfl) rfl (by simp; omega) (by simp; omega), show (L ++ [a, b, c, d]) ++ [] = L ++ [a, b, c, d] by simp]
  simp [namedM]
set_option maxRecDepth 100000 in
theorem ord_8 (L : List (BitVec 32)) (hL : L.length ≤ 10) (a b c d : BitVec 32) (ram : List UInt8) : namedM 20 [] [11, 9] ⟨L ++ [a, b, c, d], [], ram⟩ = (0, ⟨L ++ [a, b, c, d], [], ram⟩) := by
  rw [show L ++ [a, b, c, d] = (L ++ []) ++ [a, b, c, d] by simp, named_gen 11 4 6 [9] (L ++ []) [a, b, c, d] [] [a, b, c, d, a, b] [] ram ram (by kernel_rfl) (by kernel_rfl) rfl (by first | rfl | kernel_rfl) rfl (by simp; omega) (by simp; omega), show (L ++ []) ++ [a, b, c, d, a, b] = L ++ [a, b, c, d, a, b] by simp]
  rw [show L ++ [a, b, c, d, a, b] = (L ++ [a, b, c, d]) ++ [a, b] by simp, named_gen 9 2 0 [] (L ++ [a, b, c, d]) [a, b] [] [] [] ram ram (by kernel_rfl) (by kernel_rfl) rfl (by first | rfl | kernel_rfl) rfl (by simp; omega) (by simp; omega), show (L ++ [a, b, c, d]) ++ [] = L ++ [a, b, c, d] by simp]
  simp [namedM]
set_option maxRecDepth 100000 in
theorem ord_9 (L : List (BitVec 32)) (hL : L.length ≤ 10) (a b c d : BitVec 32) (ram : List UInt8) : namedM 20 [] [0, 6] ⟨L ++ [a, b, c, d], [], ram⟩ = (0, ⟨L ++ [a, b, c, d], [], ram⟩) := by
  rw [show L ++ [a, b, c, d] = (L ++ [a, b, c]) ++ [d] by simp, named_gen 0 1 2 [6] (L ++ [a, b, c]) [d] [] [d, d] [] ram ram (by kernel_rfl) (by kernel_rfl) rfl (by first | rfl | kernel_rfl) rfl (by simp; omega) (by simp; omega), show (L ++ [a, b, c]) ++ [d, d] = L ++ [a, b, c, d, d] by simp]
  rw [show L ++ [a, b, c, d, d] = (L ++ [a, b, c]) ++ [d, d] by simp, named_gen 6 2 1 [] (L ++ [a, b, c]) [d, d] [] [d] [] ram ram (by kernel_rfl) (by kernel_rfl) rfl (by first | rfl | kernel_rfl) rfl (by simp; omega) (by simp; omega), show (L ++ [a, b, c]) ++ [d] = L ++ [a, b, c, d] by simp]
  simp [namedM]
set_option maxRecDepth 100000 in
theorem ord_10 (L : List (BitVec 32)) (hL : L.length ≤ 10) (a b c d : BitVec 32) (ram : List UInt8) : namedM 20 [] [12, 1] ⟨L ++ [a, b, c, d], [], ram⟩ = (0, ⟨L ++ [a, b, c, d], [], ram⟩) := by
  rw [show L ++ [a, b, c, d] = (L ++ [a, b, c, d]) ++ [] by simp, named_gen 12 0 1 [1] (L ++ [a, b, c, d]) [] [] [(cN (List.length ((L ++ [a, b, c, d]) ++ ([] : List (BitVec 32)))))] [] ram ram (by kernel_rfl) (by kernel_rfl) rfl (by first | rfl | kernel_rfl) rfl (by simp; omega) (by simp; omega), show (L ++ [a, b, c, d]) ++ [(cN (List.length ((L ++ [a, b, c, d]) ++ ([] : List (BitVec 32)))))] = L ++ [a, b, c, d, (cN (List.length ((L ++ [a, b, c, d]) ++ ([] : List (BitVec 32)))))] by simp]
  rw [show L ++ [a, b, c, d, (cN (List.length ((L ++ [a, b, c, d]) ++ ([] : List (BitVec 32)))))] = (L ++ [a, b, c, d]) ++ [(cN (List.length ((L ++ [a, b, c, d]) ++ ([] : List (BitVec 32)))))] by simp, named_gen 1 1 0 [] (L ++ [a, b, c, d]) [(cN (List.length ((L ++ [a, b, c, d]) ++ ([] : List (BitVec 32)))))] [] [] [] ram ram (by kernel_rfl) (by kernel_rfl) rfl (by first | rfl | kernel_rfl) rfl (by simp; omega) (by simp; omega), show (L ++ [a, b, c, d]) ++ [] = L ++ [a, b, c, d] by simp]
  simp [namedM]
set_option maxRecDepth 100000 in
theorem ord_11 (L : List (BitVec 32)) (hL : L.length ≤ 10) (a b c d : BitVec 32) (ram : List UInt8) : namedM 20 [] [67] ⟨L ++ [a, b, c, d], [], ram⟩ = (0, ⟨L ++ [a, b, c, d], [], ram⟩) := by
  rw [show L ++ [a, b, c, d] = (L ++ [a, b, c]) ++ [d] by simp, named_gen 67 1 1 [] (L ++ [a, b, c]) [d] [] [d] [] ram ram (by kernel_rfl) (by kernel_rfl) rfl (by first | rfl | kernel_rfl) rfl (by simp; omega) (by simp; omega), show (L ++ [a, b, c]) ++ [d] = L ++ [a, b, c, d] by simp]
  simp [namedM]
set_option maxRecDepth 100000 in
theorem ord_12 (L : List (BitVec 32)) (hL : L.length ≤ 10) (a b c d : BitVec 32) (ram : List UInt8) : namedM 20 [] [8, 10, 9] ⟨L ++ [a, b, c, d], [], ram⟩ = (0, ⟨L ++ [a, b, c, d], [], ram⟩) := by
  rw [show L ++ [a, b, c, d] = (L ++ [a, b]) ++ [c, d] by simp, named_gen 8 2 4 [10, 9] (L ++ [a, b]) [c, d] [] [c, d, c, d] [] ram ram (by kernel_rfl) (by kernel_rfl) rfl (by first | rfl | kernel_rfl) rfl (by simp; omega) (by simp; omega), show (L ++ [a, b]) ++ [c, d, c, d] = L ++ [a, b, c, d, c, d] by simp]
  rw [show L ++ [a, b, c, d, c, d] = (L ++ [a, b]) ++ [c, d, c, d] by simp, named_gen 10 4 4 [9] (L ++ [a, b]) [c, d, c, d] [] [c, d, c, d] [] ram ram (by kernel_rfl) (by kernel_rfl) rfl (by first | rfl | kernel_rfl) rfl (by simp; omega) (by simp; omega), show (L ++ [a, b]) ++ [c, d, c, d] = L ++ [a, b, c, d, c, d] by simp]
  rw [show L ++ [a, b, c, d, c, d] = (L ++ [a, b, c, d]) ++ [c, d] by simp, named_gen 9 2 0 [] (L ++ [a, b, c, d]) [c, d] [] [] [] ram ram (by kernel_rfl) (by kernel_rfl) rfl (by first | rfl | kernel_rfl) rfl (by simp; omega) (by simp; omega), show (L ++ [a, b, c, d]) ++ [] = L ++ [a, b, c, d] by simp]
  simp [namedM]
set_option maxRecDepth 100000 in
theorem ord_13 (L : List (BitVec 32)) (hL : L.length ≤ 10) (a b c d : BitVec 32) (ram : List UInt8) : namedM 20 [] [8, 2] ⟨L ++ [a, b, c, d], [], ram⟩ = (0, ⟨L ++ [a, b, c, d, d, c], [], ram⟩) := by
  rw [show L ++ [a, b, c, d] = (L ++ [a, b]) ++ [c, d] by simp, named_gen 8 2 4 [2] (L ++ [a, b]) [c, d] [] [c, d, c, d] [] ram ram (by kernel_rfl) (by kernel_rfl) rfl (by first | rfl | kernel_rfl) rfl (by simp; omega) (by simp; omega), show (L ++ [a, b]) ++ [c, d, c, d] = L ++ [a, b, c, d, c, d] by simp]
  rw [show L ++ [a, b, c, d, c, d] = (L ++ [a, b, c, d]) ++ [c, d] by simp, named_gen 2 2 2 [] (L ++ [a, b, c, d]) [c, d] [] [d, c] [] ram ram (by kernel_rfl) (by kernel_rfl) rfl (by first | rfl | kernel_rfl) rfl (by simp; omega) (by simp; omega), show (L ++ [a, b, c, d]) ++ [d, c] = L ++ [a, b, c, d, d, c] by simp]
  simp [namedM]
set_option maxRecDepth 100000 in
theorem ord_14 (L : List (BitVec 32)) (hL : L.length ≤ 10) (a b c d : BitVec 32) (ram : List UInt8) : namedM 20 [] [3, 3] ⟨L ++ [a, b, c, d], [], ram⟩ = (0, ⟨L ++ [a, b, c, d, c, d], [], ram⟩) := by
  rw [show L ++ [a, b, c, d] = (L ++ [a, b]) ++ [c, d] by simp, named_gen 3 2 3 [3] (L ++ [a, b]) [c, d] [] [c, d, c] [] ram ram (by kernel_rfl) (by kernel_rfl) rfl (by first | rfl | kernel_rfl) rfl (by simp; omega) (by simp; omega), show (L ++ [a, b]) ++ [c, d, c] = L ++ [a, b, c, d, c] by simp]
  rw [show L ++ [a, b, c, d, c] = (L ++ [a, b, c]) ++ [d, c] by simp, named_gen 3 2 3 [] (L ++ [a, b, c]) [d, c] [] [d, c, d] [] ram ram (by kernel_rfl) (by kernel_rfl) rfl (by first | rfl | kernel_rfl) rfl (by simp; omega) (by simp; omega), show (L ++ [a, b, c]) ++ [d, c, d] = L ++ [a, b, c, d, c, d] by simp]
  simp [namedM]
end Go.Proofs.YtobpfcdfhegbdaaGreat
