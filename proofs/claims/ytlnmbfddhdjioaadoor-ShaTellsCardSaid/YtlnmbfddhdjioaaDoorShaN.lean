/-
  A text that is written piece by piece: what has to be known of it. Plain mathematics.
-/
import Derived.Test.YtlnmbfddhdjioaaDoorShaM
namespace Go.Proofs.YtlnmbfddhdjioaaDoor

/-- The bytes behind the whole blocks of a text stand at the head of a block. -/
def Heads (l xs : List UInt8) : Prop := xs.length = 64 ∧ xs.take (l.length % 64) = l.drop (64 * (l.length / 64))

theorem Heads.nil (xs : List UInt8) (h : xs.length = 64) : Heads [] xs := ⟨h, by simp⟩

/-- A block into which some bytes are put at a place. -/
def putAt (xs : List UInt8) (r : Nat) (c : List UInt8) : List UInt8 := xs.take r ++ (c ++ xs.drop (r + c.length))

theorem putAt_length (xs : List UInt8) (r : Nat) (c : List UInt8) (h : r + c.length ≤ xs.length) : (putAt xs r c).length = xs.length := by
  unfold putAt; simp; omega

theorem putAt_take (xs : List UInt8) (r : Nat) (c : List UInt8) (h : r + c.length ≤ xs.length) : (putAt xs r c).take (r + c.length) = xs.take r ++ c := by
  unfold putAt
  rw [← List.append_assoc, List.take_append_of_le_length (by simp; omega), List.take_of_length_le (by simp; omega)]

theorem drop_more (l c : List UInt8) (n : Nat) (h : n ≤ l.length) : (l ++ c).drop n = l.drop n ++ c := List.drop_append_of_le_length h

theorem mid_take (l xs c : List UInt8) (h : Heads l xs) (hc : l.length % 64 + c.length ≤ 64) :
    (putAt xs (l.length % 64) c).take (l.length % 64 + c.length) = (l ++ c).drop (64 * (l.length / 64)) := by
  rw [putAt_take _ _ _ (by rw [h.1]; exact hc), h.2, drop_more _ _ _ (by omega)]

/-- The block isn't full yet. -/
theorem Heads.part {l xs c : List UInt8} (h : Heads l xs) (hc : l.length % 64 + c.length < 64) : Heads (l ++ c) (putAt xs (l.length % 64) c) := by
  refine ⟨by rw [putAt_length _ _ _ (by rw [h.1]; omega), h.1], ?_⟩
  have e1 : (l ++ c).length % 64 = l.length % 64 + c.length := by rw [List.length_append]; omega
  have e2 : (l ++ c).length / 64 = l.length / 64 := by rw [List.length_append]; omega
  rw [e1, e2]
  exact mid_take l xs c h (by omega)

theorem stOf_part (K : Nat → BitVec 32) (s0 : W8) (l c : List UInt8) (hc : l.length % 64 + c.length < 64) : stOf K s0 (l ++ c) = stOf K s0 l := by
  unfold stOf
  have e2 : (l ++ c).length / 64 = l.length / 64 := by rw [List.length_append]; omega
  rw [e2, hs_append _ _ _ _ _ (by omega)]

/-- The block is full. -/
theorem Heads.full {l c : List UInt8} (hc : l.length % 64 + c.length = 64) (xs : List UInt8) (hx : xs.length = 64) : Heads (l ++ c) xs := by
  refine ⟨hx, ?_⟩
  have e1 : (l ++ c).length % 64 = 0 := by rw [List.length_append]; omega
  have e2 : 64 * ((l ++ c).length / 64) = (l ++ c).length := by omega
  rw [e1, e2]
  simp

theorem stOf_full (K : Nat → BitVec 32) (s0 : W8) (l xs c : List UInt8) (h : Heads l xs) (hc : l.length % 64 + c.length = 64) :
    stOf K s0 (l ++ c) = blk K (stOf K s0 l) (wordOf (putAt xs (l.length % 64) c)) := by
  have e2 : (l ++ c).length / 64 = l.length / 64 + 1 := by rw [List.length_append]; omega
  unfold stOf
  rw [e2]
  simp only [hs]
  rw [hs_append _ _ _ _ _ (by omega)]
  congr 2
  have h1 := mid_take l xs c h (by omega)
  rw [hc, List.take_of_length_le (by rw [putAt_length _ _ _ (by rw [h.1]; omega), h.1]; omega)] at h1
  rw [h1]
  unfold blockAt
  rw [List.take_of_length_le]
  rw [List.length_drop, List.length_append]
  omega
end Go.Proofs.YtlnmbfddhdjioaaDoor
