/-
  RecordBits, walked.
-/
import Derived.Test.YtlnmbfddhdjioaaGreatRecMath
import Derived.Test.YtlnmbfddhdjioaaGreatRecWholeA
namespace Go.Proofs.YtlnmbfddhdjioaaGreat
open Go.RowKit

theorem rec_zero (p : List UInt8) (j : Nat) (hj : j < 4) : (recB p)[8 + fillN p.length + j]? = some 0 := by
  have e : recB p = (headB p.length ++ bodyB p) ++ [0, 0, 0, 0] := by unfold recB; rw [List.append_assoc]
  have hl : (headB p.length ++ bodyB p).length = 8 + fillN p.length := by simp [headB_length, bodyB_length]; omega
  rw [e, List.getElem?_append_right (by omega), hl, Nat.add_sub_cancel_left]
  match j, hj with
  | 0, _ => rfl
  | 1, _ => rfl
  | 2, _ => rfl
  | 3, _ => rfl

theorem atL_ne {b : List UInt8} {j : Nat} (h : b[j]? = some 0) : atL b = firstL b := by
  unfold atL
  rw [if_neg]
  intro h0
  have := (written_zero b).1 h0 0 (List.mem_iff_getElem?.2 ⟨j, h⟩)
  cases this

theorem atL_rec (p : List UInt8) (hp : p.length ≤ 4080) : atL (recB p) = ⟨sizeN p.length, 1, p⟩ := by
  rw [atL_ne (rec_zero p 0 (by decide))]
  have := firstL_rec p [] hp
  rwa [List.append_nil] at this

/-- What stands where a byte of a record was changed. -/
theorem atL_changed (p : List UInt8) (hp : p.length ≤ 4080) (i : Nat) (c d : UInt8) (hd : (recB p)[i]? = some d) (hc : c ≠ d) :
    ∃ z kd, atL ((recB p).set i c) = ⟨z, kd, []⟩ ∧ (kd = 2 ∨ kd = 3) := by
  have hz : ∃ j : Nat, ((recB p).set i c)[j]? = some 0 := by
    by_cases h : i = 8 + fillN p.length
    · exact ⟨8 + fillN p.length + 1, by rw [List.getElem?_set_ne (by omega)]; exact rec_zero p 1 (by decide)⟩
    · exact ⟨8 + fillN p.length, by rw [List.getElem?_set_ne h]; exact rec_zero p 0 (by decide)⟩
  obtain ⟨j, hj⟩ := hz
  have hk := rec_changed p hp i c d hd hc
  have h3 := firstL_kind ((recB p).set i c)
  have hpy := firstL_pay _ hk
  refine ⟨(firstL ((recB p).set i c)).size, (firstL ((recB p).set i c)).kind, ?_, ?_⟩
  · rw [atL_ne hj, ← hpy]
  · rcases h3 with h | h | h
    · exact absurd h hk
    · exact .inl h
    · exact .inr h

theorem put_part (bs : List UInt8) (l : List UInt8) : ((put bs 0 l).drop 0).take l.length = l := by
  unfold put
  rw [List.drop_zero, List.take_zero, List.nil_append, List.take_append_of_le_length (Nat.le_refl _), List.take_length]

end Go.Proofs.YtlnmbfddhdjioaaGreat
