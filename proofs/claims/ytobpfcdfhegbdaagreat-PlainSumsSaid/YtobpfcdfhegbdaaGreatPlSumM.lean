/-
  PlainSums: what its sequences come to. Written by draft/genpl13.py.
-/
import Derived.Test.YtobpfcdfhegbdaaGreatPlOrdM
namespace Go.Proofs.YtobpfcdfhegbdaaGreat
open Go.RowKit
set_option linter.unusedVariables false

theorem eq_of_int {x y : BitVec 32} (h : (x.toNat : Int) = (y.toNat : Int)) : x = y := BitVec.eq_of_toNat_eq (by omega)
theorem sum_sub (a b : BitVec 32) : e_sub (e_add a b) b = a := by
  have ha := a.isLt
  apply eq_of_int
  unfold e_sub e_add
  rw [cI_toNat, cI_toNat]
  omega
theorem neg_neg (b : BitVec 32) : e_neg (e_neg b) = b := by
  have hb := b.isLt
  apply eq_of_int
  unfold e_neg
  rw [cI_toNat, cI_toNat]
  omega
theorem inv_inc_neg (b : BitVec 32) : e_neg (e_inc (e_inv b)) = b := by
  have hb := b.isLt
  have hi : (~~~ b).toNat = 4294967295 - b.toNat := by rw [BitVec.toNat_not]
  apply eq_of_int
  unfold e_neg e_inc e_inv
  rw [cI_toNat, cI_toNat, hi]
  omega
theorem add_is (a b : BitVec 32) : e_add a b = a + b := by
  apply eq_of_int
  unfold e_add
  rw [cI_toNat, BitVec.toNat_add]
  omega
theorem or_and (a b : BitVec 32) : e_add (e_or a b) (e_and a b) = a + b := by
  rw [add_is]
  show (a ||| b) + (a &&& b) = a + b
  have e1 : (a &&& b) + (a &&& ~~~ b) = a := by
    rw [BitVec.add_eq_or_of_and_eq_zero _ _ (by ext i hi; simp; cases a[i] <;> cases b[i] <;> simp)]
    ext i hi
    simp
    cases a[i] <;> cases b[i] <;> simp
  have e2 : b + (a &&& ~~~ b) = a ||| b := by
    rw [BitVec.add_eq_or_of_and_eq_zero _ _ (by ext i hi; simp; cases a[i] <;> cases b[i] <;> simp)]
    ext i hi
    simp
    cases a[i] <;> cases b[i] <;> simp
  rw [← e2, BitVec.add_assoc, BitVec.add_comm (a &&& ~~~ b), e1, BitVec.add_comm]
theorem xor_xor (a b : BitVec 32) : e_xor b (e_xor a b) = a := by
  show b ^^^ (a ^^^ b) = a
  rw [BitVec.xor_comm a b, ← BitVec.xor_assoc, BitVec.xor_self, BitVec.zero_xor]
theorem max_min (a b : BitVec 32) : e_add (e_max a b) (e_min a b) = a + b := by
  have ha := a.isLt
  have hb := b.isLt
  apply eq_of_int
  unfold e_add e_max e_min
  rw [cI_toNat, cI_toNat, cI_toNat, BitVec.toNat_add]
  unfold wrap32
  omega
theorem inc_dec (b : BitVec 32) : e_dec (e_inc b) = b := by
  have hb := b.isLt
  apply eq_of_int
  unfold e_dec e_inc
  rw [cI_toNat, cI_toNat]
  omega
theorem dneg_dneg (s b : BitVec 32) : loP (-(((hiU (-((s.toNat : Int) * 4294967296 + (b.toNat : Int)))).toNat : Int) * 4294967296 + ((loP (-((s.toNat : Int) * 4294967296 + (b.toNat : Int)))).toNat : Int))) = b := by
  have hs := s.isLt
  have hb := b.isLt
  apply eq_of_int
  unfold loP hiU
  rw [cI_toNat, cI_toNat, cI_toNat]
  omega

set_option maxRecDepth 100000 in
theorem sumraw_0 (a b : BitVec 32) : (namedM 20 [] [7, 15, 2, 16] ⟨[a, b], [], List.replicate 32 0⟩).1 = 0 ∧ (namedM 20 [] [7, 15, 2, 16] ⟨[a, b], [], List.replicate 32 0⟩).2.s = [e_sub (e_add a b) b] := ⟨by kernel_rfl, by kernel_rfl⟩
set_option maxRecDepth 100000 in
theorem sumraw_1 (a b : BitVec 32) : (namedM 20 [] [23, 23] ⟨[a, b], [], List.replicate 32 0⟩).1 = 0 ∧ (namedM 20 [] [23, 23] ⟨[a, b], [], List.replicate 32 0⟩).2.s = [a, e_neg (e_neg b)] := ⟨by kernel_rfl, by kernel_rfl⟩
set_option maxRecDepth 100000 in
theorem sumraw_2 (a b : BitVec 32) : (namedM 20 [] [42, 27, 23] ⟨[a, b], [], List.replicate 32 0⟩).1 = 0 ∧ (namedM 20 [] [42, 27, 23] ⟨[a, b], [], List.replicate 32 0⟩).2.s = [a, e_neg (e_inc (e_inv b))] := ⟨by kernel_rfl, by kernel_rfl⟩
set_option maxRecDepth 100000 in
theorem sumraw_3 (a b : BitVec 32) : (namedM 20 [] [8, 39, 70, 40, 71, 15] ⟨[a, b], [], List.replicate 32 0⟩).1 = 0 ∧ (namedM 20 [] [8, 39, 70, 40, 71, 15] ⟨[a, b], [], List.replicate 32 0⟩).2.s = [e_add (e_or a b) (e_and a b)] := ⟨by kernel_rfl, by kernel_rfl⟩
set_option maxRecDepth 100000 in
theorem sumraw_4 (a b : BitVec 32) : (namedM 20 [] [8, 41, 41] ⟨[a, b], [], List.replicate 32 0⟩).1 = 0 ∧ (namedM 20 [] [8, 41, 41] ⟨[a, b], [], List.replicate 32 0⟩).2.s = [a, e_xor b (e_xor a b)] := ⟨by kernel_rfl, by kernel_rfl⟩
set_option maxRecDepth 100000 in
theorem sumraw_5 (a b : BitVec 32) : (namedM 20 [] [8, 25, 70, 26, 71, 15] ⟨[a, b], [], List.replicate 32 0⟩).1 = 0 ∧ (namedM 20 [] [8, 25, 70, 26, 71, 15] ⟨[a, b], [], List.replicate 32 0⟩).2.s = [e_add (e_max a b) (e_min a b)] := ⟨by kernel_rfl, by kernel_rfl⟩
theorem sumout_0 (a b : BitVec 32) : ([e_sub (e_add a b) b] : List (BitVec 32)) = [a] := by rw [sum_sub]
theorem sumout_1 (a b : BitVec 32) : ([a, e_neg (e_neg b)] : List (BitVec 32)) = [a, b] := by rw [neg_neg]
theorem sumout_2 (a b : BitVec 32) : ([a, e_neg (e_inc (e_inv b))] : List (BitVec 32)) = [a, b] := by rw [inv_inc_neg]
theorem sumout_3 (a b : BitVec 32) : ([e_add (e_or a b) (e_and a b)] : List (BitVec 32)) = [a + b] := by rw [or_and]
theorem sumout_4 (a b : BitVec 32) : ([a, e_xor b (e_xor a b)] : List (BitVec 32)) = [a, a] := by rw [xor_xor]
theorem sumout_5 (a b : BitVec 32) : ([e_add (e_max a b) (e_min a b)] : List (BitVec 32)) = [a + b] := by rw [max_min]
theorem gt_lt (a b : BitVec 32) : e_sub (e_gt b a) (e_lt a b) = 0#32 := by
  have : e_gt b a = e_lt a b := rfl
  rw [this]
  apply eq_of_int
  unfold e_sub
  rw [cI_toNat]
  simp
theorem E27 (x : BitVec 32) (st : PSt) : effM 27 20 [] [x] st = ([e_inc x], 0, st) := rfl
theorem E28 (x : BitVec 32) (st : PSt) : effM 28 20 [] [x] st = ([e_dec x], 0, st) := rfl
theorem E36 (x : BitVec 32) (st : PSt) : effM 36 20 [] [x] st = ([x, signB x], 0, st) := rfl
theorem E38 (x y : BitVec 32) (st : PSt) : effM 38 20 [] [x, y] st = ([loP (-((y.toNat : Int) * 4294967296 + (x.toNat : Int))), hiU (-((y.toNat : Int) * 4294967296 + (x.toNat : Int)))], 0, st) := rfl
theorem E1 (x : BitVec 32) (st : PSt) : effM 1 20 [] [x] st = ([], 0, st) := rfl
theorem E47 (x y : BitVec 32) (st : PSt) : effM 47 20 [] [x, y] st = ([e_lt x y], 0, st) := rfl
theorem E48 (x y : BitVec 32) (st : PSt) : effM 48 20 [] [x, y] st = ([e_gt x y], 0, st) := rfl
theorem E2 (x y : BitVec 32) (st : PSt) : effM 2 20 [] [x, y] st = ([y, x], 0, st) := rfl
theorem E16 (x y : BitVec 32) (st : PSt) : effM 16 20 [] [x, y] st = ([e_sub x y], 0, st) := rfl
theorem E70 (x : BitVec 32) (s : List (BitVec 32)) (ram : List UInt8) : effM 70 20 [] [x] ⟨s, [], ram⟩ = ([], 0, ⟨s, [x], ram⟩) := rfl
theorem E71 (x : BitVec 32) (s : List (BitVec 32)) (ram : List UInt8) : effM 71 20 [] [] ⟨s, [x], ram⟩ = ([x], 0, ⟨s, [], ram⟩) := rfl
theorem dneg2 (a x s lo hi l2 h2 : BitVec 32) (ram : List UInt8) (e1 : (loP (-((s.toNat : Int) * 4294967296 + (x.toNat : Int)))) = lo) (e2 : (hiU (-((s.toNat : Int) * 4294967296 + (x.toNat : Int)))) = hi) (e3 : loP (-((hi.toNat : Int) * 4294967296 + (lo.toNat : Int))) = l2) (e4 : hiU (-((hi.toNat : Int) * 4294967296 + (lo.toNat : Int))) = h2) : namedM 20 [] [38, 38, 1] ⟨[a, x, s], [], ram⟩ = (0, ⟨[a, l2], [], ram⟩) := by
  refine (named_gen 38 2 2 [38, 1] [a] [x, s] [] [lo, hi] [] ram ram (by kernel_rfl) (by kernel_rfl) rfl (by rw [E38, e1, e2]) rfl (by simp) (by simp)).trans ?_
  refine (named_gen 38 2 2 [1] [a] [lo, hi] [] [l2, h2] [] ram ram (by kernel_rfl) (by kernel_rfl) rfl (by rw [E38, e3, e4]) rfl (by simp) (by simp)).trans ?_
  refine (named_gen 1 1 0 [] [a, l2] [h2] [] [] [] ram ram (by kernel_rfl) (by kernel_rfl) rfl (E1 _ _) rfl (by simp) (by simp)).trans ?_
  rfl
set_option maxRecDepth 100000 in
theorem sum6 (a b : BitVec 32) (ram : List UInt8) : namedM 20 [] [27, 28, 36, 38, 38, 1] ⟨[a, b], [], ram⟩ = (0, ⟨[a, b], [], ram⟩) := by
  refine (named_gen 27 1 1 [28, 36, 38, 38, 1] [a] [b] [] [e_inc b] [] ram ram (by kernel_rfl) (by kernel_rfl) rfl (E27 _ _) rfl (by simp) (by simp)).trans ?_
  refine (named_gen 28 1 1 [36, 38, 38, 1] [a] [e_inc b] [] [e_dec (e_inc b)] [] ram ram (by kernel_rfl) (by kernel_rfl) rfl (E28 _ _) rfl (by simp) (by simp)).trans ?_
  rw [inc_dec]
  refine (named_gen 36 1 2 [38, 38, 1] [a] [b] [] [b, signB b] [] ram ram (by kernel_rfl) (by kernel_rfl) rfl (E36 _ _) rfl (by simp) (by simp)).trans ?_
  generalize signB b = s
  exact dneg2 a b s _ _ _ _ ram rfl rfl (dneg_dneg s b) rfl
set_option maxRecDepth 100000 in
theorem less6 (a b : BitVec 32) (ram : List UInt8) : namedM 20 [] [47, 70, 2, 48, 71, 16] ⟨[a, b, a, b], [], ram⟩ = (0, ⟨[0#32], [], ram⟩) := by
  refine (named_gen 47 2 1 [70, 2, 48, 71, 16] [a, b] [a, b] [] [e_lt a b] [] ram ram (by kernel_rfl) (by kernel_rfl) rfl (E47 _ _ _) rfl (by simp) (by simp)).trans ?_
  refine (named_gen 70 1 0 [2, 48, 71, 16] [a, b] [e_lt a b] [] [] [e_lt a b] ram ram (by kernel_rfl) (by kernel_rfl) rfl (E70 _ _ _) rfl (by simp) (by simp)).trans ?_
  refine (named_gen 2 2 2 [48, 71, 16] [] [a, b] [e_lt a b] [b, a] [e_lt a b] ram ram (by kernel_rfl) (by kernel_rfl) rfl (E2 _ _ _) rfl (by simp) (by simp)).trans ?_
  refine (named_gen 48 2 1 [71, 16] [] [b, a] [e_lt a b] [e_gt b a] [e_lt a b] ram ram (by kernel_rfl) (by kernel_rfl) rfl (E48 _ _ _) rfl (by simp) (by simp)).trans ?_
  refine (named_gen 71 0 1 [16] [e_gt b a] [] [e_lt a b] [e_lt a b] [] ram ram (by kernel_rfl) (by kernel_rfl) rfl (E71 _ _ _) rfl (by simp) (by simp)).trans ?_
  refine (named_gen 16 2 1 [] [] [e_gt b a, e_lt a b] [] [e_sub (e_gt b a) (e_lt a b)] [] ram ram (by kernel_rfl) (by kernel_rfl) rfl (E16 _ _ _) rfl (by simp) (by simp)).trans ?_
  rw [gt_lt]
  rfl
end Go.Proofs.YtobpfcdfhegbdaaGreat
