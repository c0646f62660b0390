/-
  Contracts of the document's sum: turned.
-/
import Derived.Test.YtlnmbfddhdjioaaDoorShaB
import Derived.Test.YtlnmbfddhdjioaaDoorShaLongA
namespace Go.Proofs.YtlnmbfddhdjioaaDoor
open Go.RowKit

set_option maxHeartbeats 2000000 in
theorem turned_any (w : World) (x : BitVec 32) (n : Nat) (m : Int) (hm : m = (n : Int)) (hn : Turn n) :
    Calls Tryd.prog 19 #[uv x, .int .u64 m] w fun e w' => e = .returned (uv (rr x n)) ∧ w = w' := by
  have key : ∀ k : Nat, k = n → k < 32 → 0 < k → Calls Tryd.prog 19 #[uv x, .int .u64 (k : Int)] w fun e w' => e = .returned (uv (rr x n)) ∧ w = w' := by
    intro k hkn hk32 hk0
    clear hm hn
    have HE := Lib.hid hkn
    clear hkn
    have h1 : IntKind.u32.wrap ((x.toNat : Int) * 2 ^ (32 - k)) = ((x <<< (32 - k)).toNat : Int) := shl32 x (32 - k)
    have h2 : (x.toNat : Int) / 2 ^ k = ((x >>> k).toNat : Int) := shr32 x k
    have h3 : bits .or .u32 ((x >>> k).toNat : Int) ((x <<< (32 - k)).toNat : Int) = ((rr x k).toNat : Int) := by
      rw [bits_or32]; rfl
    have e1 : min (32 - k) 32 = 32 - k := by omega
    have e2 : (32 : Int) - (k : Int) = ((32 - k : Nat) : Int) := by omega
    have e3 : IntKind.u64.wrap ((32 - k : Nat) : Int) = ((32 - k : Nat) : Int) := IntWalk.u64_in _ (by omega)
    have e4 : min k 32 = k := by omega
    generalize 32 - k = j at *
    generalize x <<< j = y at *
    generalize x >>> k = z at *
    go_enter Tryd.func19, Tryd.ntmps19
    go_wp2
    go_ret
    rw [← HE.out]
    exact ⟨rfl, rfl⟩
  subst hm
  rcases hn with rfl | rfl | rfl | rfl | rfl | rfl | rfl | rfl | rfl | rfl
  all_goals exact key _ rfl (by decide) (by decide)
end Go.Proofs.YtlnmbfddhdjioaaDoor
