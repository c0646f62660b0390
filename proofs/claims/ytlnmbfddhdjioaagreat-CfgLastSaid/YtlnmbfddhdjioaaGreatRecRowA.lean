/-
  RecordRow, walked.
-/
import Derived.Test.YtlnmbfddhdjioaaGreatRecP
namespace Go.Proofs.YtlnmbfddhdjioaaGreat
open Go.RowKit

theorem Wrote.row {s : FS} {ps : List (List UInt8)} (h : Wrote s ps) (hp : ∀ p ∈ ps, p.length ≤ 200) :
    rowL s.bs = entries 0 ps ∧ endK s.bs = sizes ps ∧ atL (s.bs.drop (sizes ps)) = ⟨2048 - sizes ps, 0, []⟩ ∧ sizes ps ≤ 2048 := by
  obtain ⟨t, hb, ht⟩ := h.bytes
  have hp2 : ∀ p ∈ ps, p.length ≤ 4080 := fun p hq => by have := hp p hq; omega
  have hl := recsL_length ps
  have hd : s.bs.drop (sizes ps) = t := by
    rw [hb, List.drop_append_of_le_length (by omega), List.drop_of_length_le (by omega), List.nil_append]
  have hlen : sizes ps ≤ 2048 := by
    have := congrArg List.length hb
    rw [h.len, List.length_append, hl] at this; omega
  refine ⟨rowL_recs _ t ht ps hb hp2, endK_recs _ t ht ps hb hp2, ?_, hlen⟩
  have := atL_blank s.bs (sizes ps) (by have := (blank_drop s.bs (sizes ps)).1 (by rw [hd]; exact ht); omega)
  rw [this, h.len]

end Go.Proofs.YtlnmbfddhdjioaaGreat
