/-
  The document's first primes, and the values of their roots. Closed facts.
-/
import Derived.Test.YtlnmbfddhdjioaaDoorShaLongN
import Derived.Test.YtlnmbfddhdjioaaDoorShaM
namespace Go.Proofs.YtlnmbfddhdjioaaDoor

def PL : List Nat := [2, 3, 5, 7, 11, 13, 17, 19, 23, 29, 31, 37, 41, 43, 47, 53, 59, 61, 67, 71, 73, 79, 83, 89, 97, 101, 103, 107, 109, 113, 127, 131, 137, 139, 149, 151, 157, 163, 167, 173, 179, 181, 191, 193, 197, 199, 211, 223, 227, 229, 233, 239, 241, 251, 257, 263, 269, 271, 277, 281, 283, 293, 307, 311]

def pl (c : Nat) : List Nat := PL.filter fun q => decide (q < c)

theorem pl_facts : ∀ c, c < 312 → 2 ≤ c → ((pl c).length < 64 ∧ pl (c + 1) = if (pl c).all (fun q => c % q != 0) then pl c ++ [c] else pl c) := by decide +kernel

theorem pl_start : pl 2 = [] := by decide +kernel
theorem pl_end : pl 312 = PL := by decide +kernel
theorem PL_length : PL.length = 64 := by decide +kernel
theorem PL_pos : ∀ q ∈ PL, 0 < q ∧ q < 65536 := by decide +kernel

theorem pl_pos (c : Nat) : ∀ q ∈ pl c, 0 < q ∧ q < 65536 := fun q hq => PL_pos q (List.mem_filter.1 hq).1

theorem roots2 : ∀ i, i < 8 → rootK 2 (PL.getD i 0) 41 % 4294967296 = (h0.get i).toNat := by decide +kernel
theorem roots3 : ∀ i, i < 64 → rootK 3 (PL.getD i 0) 41 % 4294967296 = (kk i).toNat := by decide +kernel
end Go.Proofs.YtlnmbfddhdjioaaDoor
