/-
  The examples of the chapter.
-/
import Derived.Test.YtlnmbfddhdjioaaCellF
namespace Go.Proofs.Ytlnmbfddhdjioaa
set_option linter.unusedVariables false
open Go.RowKit

theorem isDivU_ok (D n R Q : Int) (h0 : 0 < n) (h1 : D / n < 4294967296) (hR : D % n = R) (hQ : D / n = Q) : Cell.IsDivU D n R Q 0 := .inr (.inr ⟨h0, h1, hR.symm, hQ.symm, rfl⟩)
theorem isDiv_ok (fl : Bool) (D n R Q : Int) (h0 : n ≠ 0) (hR : Cell.remOf fl D n = R) (hQ : Cell.quoOf fl D n = Q) (h1 : -2147483648 ≤ Q) (h2 : Q ≤ 2147483647) : Cell.IsDiv fl D n R Q 0 := .inr (.inr ⟨h0, by rw [hQ]; exact h1, by rw [hQ]; exact h2, hR.symm, hQ.symm, rfl⟩)

set_option maxRecDepth 100000 in
set_option maxHeartbeats 1000000 in
theorem awake7_any (w : World) : Calls Try.prog 21 #[] w fun e w' => e = .returned (.bool true) ∧ Keeps [] w w' := by
  have KP := Keeps.refl [] w
  have hw : wrap32 4294967295 = -1 := by unfold wrap32; omega
  have c1 := fun v => cDivide_is v 7 0 2 1 3 0 (by decide) (by decide) (by decide) (by decide) (by decide) (isDivU_ok _ _ _ _ (by decide) (by decide) (by decide) (by decide))
  have c2 := fun v => cDivide_is v 0 2 2 0 0 (-11) (by decide) (by decide) (by decide) (by decide) (by decide) (.inr (.inl ⟨by decide, by decide, rfl, rfl, rfl⟩))
  have c3 := fun v => cDivide_is v 5 0 0 0 0 (-10) (by decide) (by decide) (by decide) (by decide) (by decide) (.inl ⟨rfl, rfl, rfl, rfl⟩)
  have s1 := fun v => cSymmetric_is v 4294967289 (-1) 2 (-1) (-3) 0 (by decide) (by decide) (by decide) (by decide) (by decide) (by decide) (isDiv_ok _ _ _ _ _ (by decide) (by decide) (by decide) (by decide) (by decide))
  have s2 := fun v => cSymmetric_is v 2147483648 (-1) (-1) 0 0 (-11) (by decide) (by decide) (by decide) (by decide) (by decide) (by decide) (.inr (.inl ⟨by decide, by decide, rfl, rfl, rfl⟩))
  have f1 := fun v => cFloored_is v 4294967289 (-1) 2 1 (-4) 0 (by decide) (by decide) (by decide) (by decide) (by decide) (by decide) (isDiv_ok _ _ _ _ _ (by decide) (by decide) (by decide) (by decide) (by decide))
  go_enter Try.func21, Try.ntmps21
  go_wp2_with (first
    | ((with_reducible refine (cProduct_any _ _ _ (by decide) (by decide) (by decide) (by decide)).mono ?_); rintro e w' ⟨rfl, rfl⟩)
    | ((with_reducible refine (cSigned_any _ _ _ (by decide) (by decide) (by decide) (by decide)).mono ?_); rintro e w' ⟨rfl, rfl⟩)
    | ((with_reducible refine (c1 _).mono ?_); rintro e w' ⟨rfl, K⟩; replace KP := KP.trans K; clear K)
    | ((with_reducible refine (c2 _).mono ?_); rintro e w' ⟨rfl, K⟩; replace KP := KP.trans K; clear K)
    | ((with_reducible refine (c3 _).mono ?_); rintro e w' ⟨rfl, K⟩; replace KP := KP.trans K; clear K)
    | ((with_reducible refine (s1 _).mono ?_); rintro e w' ⟨rfl, K⟩; replace KP := KP.trans K; clear K)
    | ((with_reducible refine (s2 _).mono ?_); rintro e w' ⟨rfl, K⟩; replace KP := KP.trans K; clear K)
    | ((with_reducible refine (f1 _).mono ?_); rintro e w' ⟨rfl, K⟩; replace KP := KP.trans K; clear K)
    | ((with_reducible refine (cShiftL_any _ _ _ (by decide)).mono ?_); rintro e w' ⟨rfl, rfl⟩)
    | ((with_reducible refine (cFlag_true _).mono ?_); rintro e w' ⟨rfl, rfl⟩)
    | ((with_reducible refine (cFlag_false _).mono ?_); rintro e w' ⟨rfl, rfl⟩))
  go_ret
  exact ⟨rfl, KP⟩
end Go.Proofs.Ytlnmbfddhdjioaa
