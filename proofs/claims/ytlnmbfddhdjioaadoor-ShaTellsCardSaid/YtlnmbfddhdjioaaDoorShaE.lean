/-
  Contracts of sha: compute, wordsOf.
-/
import Derived.Test.YtlnmbfddhdjioaaDoorShaB
namespace Go.Proofs.YtlnmbfddhdjioaaDoor
open Go.RowKit

set_option maxHeartbeats 4000000 in
theorem compute_any (w : World) (b i : Nat) (f : Nat → BitVec 32) (hi : 16 ≤ i) (hi2 : i < 64) (hw : Whole w b 70 (tab 16 f)) :
    Calls Tryd.prog 34 #[.pointer (some ⟨b, 0, none⟩), .int .i64 i] w fun e w' => (∃ v, e = .returned v) ∧
      Whole w' b 70 ((tab 16 f).set (i % 16) (uv (f (i % 16) + (f ((i - 7) % 16) + sg0 (f ((i - 15) % 16)) + sg1 (f ((i - 2) % 16)))))) ∧ Keeps [b] w w' := by
  have HW := Lib.hid hw
  obtain ⟨q0, h0⟩ : ∃ q, q = i % 16 := ⟨_, rfl⟩
  obtain ⟨q7, h7⟩ : ∃ q, q = (i - 7) % 16 := ⟨_, rfl⟩
  obtain ⟨q15, h15⟩ : ∃ q, q = (i - 15) % 16 := ⟨_, rfl⟩
  obtain ⟨q2, h2⟩ : ∃ q, q = (i - 2) % 16 := ⟨_, rfl⟩
  rw [← h0, ← h7, ← h15, ← h2]
  have e0 : (i : Int) % 16 = (q0 : Int) := by omega
  have e7 : ((i : Int) - 7) % 16 = (q7 : Int) := by omega
  have e15 : ((i : Int) - 15) % 16 = (q15 : Int) := by omega
  have e2 : ((i : Int) - 2) % 16 = (q2 : Int) := by omega
  have w7 : IntKind.i64.wrap ((i : Int) - 7) = (i : Int) - 7 := IntWalk.i64_in _ (by omega)
  have w15 : IntKind.i64.wrap ((i : Int) - 15) = (i : Int) - 15 := IntWalk.i64_in _ (by omega)
  have w2 : IntKind.i64.wrap ((i : Int) - 2) = (i : Int) - 2 := IntWalk.i64_in _ (by omega)
  have t0 : ((i : Int)).tmod 16 = (q0 : Int) := by rw [Int.tmod_eq_emod_of_nonneg (by omega)]; exact e0
  have t7 : ((i : Int) - 7).tmod 16 = (q7 : Int) := by rw [Int.tmod_eq_emod_of_nonneg (by omega)]; exact e7
  have t15 : ((i : Int) - 15).tmod 16 = (q15 : Int) := by rw [Int.tmod_eq_emod_of_nonneg (by omega)]; exact e15
  have t2 : ((i : Int) - 2).tmod 16 = (q2 : Int) := by rw [Int.tmod_eq_emod_of_nonneg (by omega)]; exact e2
  have l0 : q0 < 16 := by omega
  have l7 : q7 < 16 := by omega
  have l15 : q15 < 16 := by omega
  have l2 : q2 < 16 := by omega
  have l0' : (q0 : Int) < 16 := by omega
  have l7' : (q7 : Int) < 16 := by omega
  have l15' : (q15 : Int) < 16 := by omega
  have l2' : (q2 : Int) < 16 := by omega
  have c0 := (hw.cell q0).trans (tab_get 16 f q0 l0)
  have c7 := (hw.cell q7).trans (tab_get 16 f q7 l7)
  have c15 := (hw.cell q15).trans (tab_get 16 f q15 l15)
  have c2 := (hw.cell q2).trans (tab_get 16 f q2 l2)
  have fz := hw.frozen q0
  clear h0 h7 h15 h2 hw
  generalize hS : f q0 + (f q7 + sg0 (f q15) + sg1 (f q2)) = S
  have HS := Lib.hid hS
  clear hS
  generalize f q0 = v0 at *
  generalize f q7 = v7 at *
  generalize f q15 = v15 at *
  generalize f q2 = v2 at *
  have g0 := show sg0 v15 = rr v15 7 ^^^ rr v15 18 ^^^ (v15 >>> 3) from rfl
  have g1 := show sg1 v2 = rr v2 17 ^^^ rr v2 19 ^^^ (v2 >>> 10) from rfl
  rw [g0, g1] at HS
  clear g0 g1
  have x1 := bits_xor32 (rr v15 7) (rr v15 18)
  have x2 := bits_xor32 (rr v15 7 ^^^ rr v15 18) (v15 >>> 3)
  have y1 := bits_xor32 (rr v2 17) (rr v2 19)
  have y2 := bits_xor32 (rr v2 17 ^^^ rr v2 19) (v2 >>> 10)
  have r1 : (v15.toNat : Int) / (8 : Int) = ((v15 >>> 3).toNat : Int) := shr32 v15 3
  have r2 : (v2.toNat : Int) / (1024 : Int) = ((v2 >>> 10).toNat : Int) := shr32 v2 10
  have r3 : (v15.toNat : Int) / (2 : Int) ^ 3 = ((v15 >>> 3).toNat : Int) := shr32 v15 3
  have r4 : (v2.toNat : Int) / (2 : Int) ^ 10 = ((v2 >>> 10).toNat : Int) := shr32 v2 10
  generalize rr v15 7 ^^^ rr v15 18 ^^^ (v15 >>> 3) = s0 at *
  generalize rr v15 7 ^^^ rr v15 18 = s0' at *
  generalize rr v2 17 ^^^ rr v2 19 ^^^ (v2 >>> 10) = s1 at *
  generalize rr v2 17 ^^^ rr v2 19 = s1' at *
  generalize v15 >>> 3 = s3 at *
  generalize v2 >>> 10 = s4 at *
  have a1 := add32m v7 s0
  have a2 := add32m (v7 + s0) s1
  have a3 := add32m v0 (v7 + s0 + s1)
  have b1 := add32 v7 s0
  have b2 := add32 (v7 + s0) s1
  have b3 := add32 v0 (v7 + s0 + s1)
  rw [HS.out] at a3 b3
  generalize v7 + s0 + s1 = z1 at *
  generalize v7 + s0 = z2 at *
  go_enter Tryd.func34, Tryd.ntmps34
  go_wp2
  go_quiet (fail)
  go_wp2_with (first | (go_at_call 37; ((with_reducible refine (rotated_any _ _ 7 7 rfl turn7).mono ?_); rintro e w' ⟨rfl, rfl⟩)) | (go_at_call 37; ((with_reducible refine (rotated_any _ _ 18 18 rfl turn18).mono ?_); rintro e w' ⟨rfl, rfl⟩)) | (go_at_call 37; ((with_reducible refine (rotated_any _ _ 17 17 rfl turn17).mono ?_); rintro e w' ⟨rfl, rfl⟩)) | (go_at_call 37; ((with_reducible refine (rotated_any _ _ 19 19 rfl turn19).mono ?_); rintro e w' ⟨rfl, rfl⟩)))
  refine wp_region_tail 20 (by kernel_rfl) (by kernel_rfl) ?_
  intro w2 hw2
  have k2 : Keeps [] w w2 := by rw [hw2]; exact (Keeps.drewN [] _ _).trans (Keeps.drew _ _)
  have c0 := k2.cell c0 (by simp)
  have c7 := k2.cell c7 (by simp)
  have HW2 := Lib.hid (HW.out.keeps k2 (by simp))
  have fz := HW2.out.frozen q0
  have K2 := Lib.hid k2
  clear k2 hw2
  simp only [List.take_succ_cons, List.take_zero, List.drop_succ_cons, List.drop_zero]
  repeat still_step
  refine wpStill_nil ?_
  go_wp2
  go_end0
  exact ⟨⟨_, rfl⟩, HW2.out.set q0 _, (K2.out.mono (by simp)).trans (Keeps.setCell (S := [b]) _ (by simp) _)⟩
end Go.Proofs.YtlnmbfddhdjioaaDoor
