/-
  Contracts of sha: rotated, mixedE, mixedA.
-/
import Derived.Test.YtlnmbfddhdjioaaDoorGround
import Derived.Test.YtlnmbfddhdjioaaDoorShaM
namespace Go.Proofs.YtlnmbfddhdjioaaDoor
open Go.RowKit

/-- By how many bits it is turned. -/
def Turn (n : Nat) : Prop := n = 2 ∨ n = 6 ∨ n = 7 ∨ n = 11 ∨ n = 13 ∨ n = 17 ∨ n = 18 ∨ n = 19 ∨ n = 22 ∨ n = 25

set_option maxHeartbeats 2000000 in
theorem RotateLeft32_any (w : World) (x : BitVec 32) (n : Nat) (m : Int) (hm : m = -(n : Int)) (hn : Turn n) :
    Calls Tryd.prog 38 #[uv x, .int .i64 m] w fun e w' => e = .returned (uv (rr x n)) ∧ w = w' := by
  have key : ∀ k : Nat, bits .and .u64 (IntKind.u64.wrap m) 31 = ((32 - k : Nat) : Int) → k = n → k < 32 → 0 < k → Calls Tryd.prog 38 #[uv x, .int .i64 m] w fun e w' => e = .returned (uv (rr x n)) ∧ w = w' := by
    intro k hk hkn hk32 hk0
    clear hm hn
    have HE := Lib.hid hkn
    clear hkn
    have h1 : IntKind.u32.wrap ((x.toNat : Int) * 2 ^ (32 - k)) = ((x <<< (32 - k)).toNat : Int) := shl32 x (32 - k)
    have h2 : (x.toNat : Int) / 2 ^ k = ((x >>> k).toNat : Int) := shr32 x k
    have h3 : bits .or .u32 ((x <<< (32 - k)).toNat : Int) ((x >>> k).toNat : Int) = ((rr x k).toNat : Int) := by
      rw [bits_or32]; unfold rr; rw [BitVec.or_comm]
    have e1 : min (32 - k) 32 = 32 - k := by omega
    have e2 : (32 : Int) - ((32 - k : Nat) : Int) = (k : Int) := by omega
    have e3 : IntKind.u64.wrap (k : Int) = (k : Int) := IntWalk.u64_in _ (by omega)
    have e4 : min k 32 = k := by omega
    generalize 32 - k = j at *
    generalize x <<< j = y at *
    generalize x >>> k = z at *
    go_enter Tryd.func38, Tryd.ntmps38
    go_wp2
    go_ret
    rw [← HE.out]
    exact ⟨rfl, rfl⟩
  subst hm
  rcases hn with rfl | rfl | rfl | rfl | rfl | rfl | rfl | rfl | rfl | rfl
  all_goals exact key _ (by decide) rfl (by decide) (by decide)

set_option maxHeartbeats 400000 in
theorem rotated_any (w : World) (x : BitVec 32) (n : Nat) (m : Int) (hm : m = (n : Int)) (hn : Turn n) :
    Calls Tryd.prog 37 #[uv x, .int .i64 m] w fun e w' => e = .returned (uv (rr x n)) ∧ w = w' := by
  have HN := Lib.hid hn
  have HM := Lib.hid hm
  have hb : 0 ≤ m ∧ m < 32 := by rcases hn with rfl | rfl | rfl | rfl | rfl | rfl | rfl | rfl | rfl | rfl <;> subst hm <;> decide
  obtain ⟨hb0, hb1⟩ := hb
  clear hn hm
  go_enter Tryd.func37, Tryd.ntmps37
  go_wp2_with (go_at_call 38; refine (RotateLeft32_any _ x n _ (by rw [HM.out]) HN.out).mono ?_; rintro e w' ⟨rfl, rfl⟩)
  go_ret
  exact ⟨rfl, rfl⟩
end Go.Proofs.YtlnmbfddhdjioaaDoor
