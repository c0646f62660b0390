/-
  Contracts of sha: mixedE, mixedA, at, compute.
-/
import Derived.Test.YtlnmbfddhdjioaaDoorShaA
namespace Go.Proofs.YtlnmbfddhdjioaaDoor
open Go.RowKit

theorem turn2 : Turn 2 := by unfold Turn; decide
theorem turn6 : Turn 6 := by unfold Turn; decide
theorem turn7 : Turn 7 := by unfold Turn; decide
theorem turn11 : Turn 11 := by unfold Turn; decide
theorem turn13 : Turn 13 := by unfold Turn; decide
theorem turn17 : Turn 17 := by unfold Turn; decide
theorem turn18 : Turn 18 := by unfold Turn; decide
theorem turn19 : Turn 19 := by unfold Turn; decide
theorem turn22 : Turn 22 := by unfold Turn; decide
theorem turn25 : Turn 25 := by unfold Turn; decide

set_option maxHeartbeats 1000000 in
theorem mixedE_any (w : World) (x y z : BitVec 32) :
    Calls Tryd.prog 35 #[uv x, uv y, uv z] w fun e w' => e = .returned (uv (mixE x y z)) ∧ w = w' := by
  have HE := Lib.hid (show mixE x y z = (rr x 6 ^^^ rr x 11 ^^^ rr x 25) + ((x &&& y) ^^^ (~~~ x &&& z)) from rfl)
  have x1 := bits_xor32 (rr x 6) (rr x 11)
  have x2 := bits_xor32 (rr x 6 ^^^ rr x 11) (rr x 25)
  have a1 := bits_and32 x y
  have n1 : bits .xor .u32 IntKind.u32.max (x.toNat : Int) = ((~~~ x).toNat : Int) := bits_not32 x
  have a2 := bits_and32 (~~~ x) z
  have x3 := bits_xor32 (x &&& y) (~~~ x &&& z)
  have s1 := add32 (rr x 6 ^^^ rr x 11 ^^^ rr x 25) ((x &&& y) ^^^ (~~~ x &&& z))
  have s2 := add32m (rr x 6 ^^^ rr x 11 ^^^ rr x 25) ((x &&& y) ^^^ (~~~ x &&& z))
  generalize mixE x y z = r at *
  generalize rr x 6 ^^^ rr x 11 ^^^ rr x 25 = b1 at *
  generalize rr x 6 ^^^ rr x 11 = b2 at *
  generalize (x &&& y) ^^^ (~~~ x &&& z) = c1 at *
  generalize ~~~ x &&& z = c2 at *
  generalize ~~~ x = c3 at *
  generalize x &&& y = c4 at *
  generalize hq : b1 + c1 = q at *
  have HQ := Lib.hid hq
  clear hq
  go_enter Tryd.func35, Tryd.ntmps35
  go_wp2_with (first | (go_at_call 37; ((with_reducible refine (rotated_any _ _ 6 6 rfl turn6).mono ?_); rintro e w' ⟨rfl, rfl⟩)) | (go_at_call 37; ((with_reducible refine (rotated_any _ _ 11 11 rfl turn11).mono ?_); rintro e w' ⟨rfl, rfl⟩)) | (go_at_call 37; ((with_reducible refine (rotated_any _ _ 25 25 rfl turn25).mono ?_); rintro e w' ⟨rfl, rfl⟩)))
  go_ret
  rw [HE.out]
  exact ⟨rfl, rfl⟩

set_option maxHeartbeats 1000000 in
theorem mixedA_any (w : World) (x y z : BitVec 32) :
    Calls Tryd.prog 36 #[uv x, uv y, uv z] w fun e w' => e = .returned (uv (mixA x y z)) ∧ w = w' := by
  have HE := Lib.hid (show mixA x y z = (rr x 2 ^^^ rr x 13 ^^^ rr x 22) + ((x &&& y) ^^^ (x &&& z) ^^^ (y &&& z)) from rfl)
  have x1 := bits_xor32 (rr x 2) (rr x 13)
  have x2 := bits_xor32 (rr x 2 ^^^ rr x 13) (rr x 22)
  have a1 := bits_and32 x y
  have a2 := bits_and32 x z
  have a3 := bits_and32 y z
  have x3 := bits_xor32 (x &&& y) (x &&& z)
  have x4 := bits_xor32 ((x &&& y) ^^^ (x &&& z)) (y &&& z)
  have s1 := add32 (rr x 2 ^^^ rr x 13 ^^^ rr x 22) ((x &&& y) ^^^ (x &&& z) ^^^ (y &&& z))
  have s2 := add32m (rr x 2 ^^^ rr x 13 ^^^ rr x 22) ((x &&& y) ^^^ (x &&& z) ^^^ (y &&& z))
  generalize mixA x y z = r at *
  generalize rr x 2 ^^^ rr x 13 ^^^ rr x 22 = b1 at *
  generalize rr x 2 ^^^ rr x 13 = b2 at *
  generalize (x &&& y) ^^^ (x &&& z) ^^^ (y &&& z) = c1 at *
  generalize (x &&& y) ^^^ (x &&& z) = c2 at *
  generalize x &&& y = c3 at *
  generalize x &&& z = c4 at *
  generalize y &&& z = c5 at *
  generalize hq : b1 + c1 = q at *
  have HQ := Lib.hid hq
  clear hq
  go_enter Tryd.func36, Tryd.ntmps36
  go_wp2_with (first | (go_at_call 37; ((with_reducible refine (rotated_any _ _ 2 2 rfl turn2).mono ?_); rintro e w' ⟨rfl, rfl⟩)) | (go_at_call 37; ((with_reducible refine (rotated_any _ _ 13 13 rfl turn13).mono ?_); rintro e w' ⟨rfl, rfl⟩)) | (go_at_call 37; ((with_reducible refine (rotated_any _ _ 22 22 rfl turn22).mono ?_); rintro e w' ⟨rfl, rfl⟩)))
  go_ret
  rw [HE.out]
  exact ⟨rfl, rfl⟩
end Go.Proofs.YtlnmbfddhdjioaaDoor
