/-
  A change of 32 bits in which each bit counts for itself, as its columns. Plain mathematics.
-/
import Derived.Test.YtpcgckppdnlccabCrcN
namespace Go.Proofs.Ytpcgckppdnlccab

def mofK (f : Nat → BitVec 32) (v : BitVec 32) : Nat → BitVec 32
  | 0 => 0#32
  | k + 1 => if v.getLsbD k then mofK f v k ^^^ f k else mofK f v k

def mof (f : Nat → BitVec 32) (v : BitVec 32) : BitVec 32 := mofK f v 32

/-- The columns of n zero bits. -/
def zcol (n : Nat) (i : Nat) : BitVec 32 := zb n (BitVec.twoPow 32 i)

theorem low_get (v : BitVec 32) (k i : Nat) (hi : i < 32) : (BitVec.ofNat 32 (v.toNat % 2 ^ k)).getLsbD i = (decide (i < k) && v.getLsbD i) := by
  rw [BitVec.getLsbD_ofNat, Nat.testBit_mod_two_pow]
  simp only [hi, decide_true, Bool.true_and]
  rfl

theorem mofK_zcol (n : Nat) (v : BitVec 32) (k : Nat) (hk : k ≤ 32) : mofK (zcol n) v k = zb n (BitVec.ofNat 32 (v.toNat % 2 ^ k)) := by
  induction k with
  | zero => simp only [mofK]; rw [Nat.pow_zero, Nat.mod_one, zb_zero]
  | succ k ih =>
    have e : BitVec.ofNat 32 (v.toNat % 2 ^ (k + 1)) = BitVec.ofNat 32 (v.toNat % 2 ^ k) ^^^ (if v.getLsbD k then BitVec.twoPow 32 k else 0#32) := by
      apply BitVec.eq_of_getLsbD_eq
      intro i hi
      rw [BitVec.getLsbD_xor, low_get _ _ _ hi, low_get _ _ _ hi]
      by_cases h : i = k
      · subst h
        cases hv : v.getLsbD i <;> simp [hi]
      · by_cases l : i < k
        · cases v.getLsbD k <;> simp [l, show i < k + 1 by omega, show ¬ k = i by omega]
        · cases v.getLsbD k <;> simp [l, show ¬ i < k + 1 by omega, show ¬ k = i by omega]
    simp only [mofK]
    rw [ih (by omega), e, zb_xor]
    cases v.getLsbD k
    · simp [zb_zero]
    · simp [zcol]

theorem mof_zcol (n : Nat) (v : BitVec 32) : mof (zcol n) v = zb n v := by
  unfold mof
  rw [mofK_zcol n v 32 (Nat.le_refl _), Nat.mod_eq_of_lt v.isLt, BitVec.ofNat_toNat, BitVec.setWidth_eq]

theorem squared_zcol (n : Nat) : (fun i => mof (zcol n) (zcol n i)) = zcol (n + n) := by
  funext i
  rw [mof_zcol]
  unfold zcol
  rw [← zb_add]

/-- What n more of m bits make, n halved. -/
theorem zb_even (m h : Nat) (v : BitVec 32) : zb (m * (2 * h)) v = zb ((m + m) * h) v := by
  congr 1; rw [Nat.mul_left_comm, ← Nat.mul_assoc, Nat.two_mul]

theorem zb_odd (m h : Nat) (v : BitVec 32) : zb (m * (2 * h + 1)) v = zb ((m + m) * h) (zb m v) := by
  rw [← zb_add]
  congr 1
  rw [Nat.mul_add, Nat.mul_one, Nat.mul_left_comm, ← Nat.mul_assoc, Nat.two_mul, Nat.add_comm]
end Go.Proofs.Ytpcgckppdnlccab
