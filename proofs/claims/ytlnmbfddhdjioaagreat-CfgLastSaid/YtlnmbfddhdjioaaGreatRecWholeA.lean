/-
  RecordWhole, walked.
-/
import Derived.Test.YtlnmbfddhdjioaaGreatRecMade
import Derived.Test.YtlnmbfddhdjioaaGreatGround
namespace Go.Proofs.YtlnmbfddhdjioaaGreat
open Go.RowKit

theorem fld_size (t z k : Int) (a : Option Addr) (n c : Nat) (w : World) : (Instr.field 122 (.agg #[.int .i64 t, .int .i64 z, .int .u8 k, .slice a n c]) 1).run Tryz.prog w = .ok (.int .i64 z) w := by kernel_rfl

theorem written_zero (b : List UInt8) : writtenN b = 0 ↔ blank b := by
  have := blank_drop b 0
  rw [List.drop_zero] at this
  rw [this]; omega

theorem atL_first (b : List UInt8) (p : Nat) (h : p < writtenN b) : atL (b.drop p) = firstL (b.drop p) := by
  unfold atL
  rw [if_neg]
  intro h0
  have := (blank_drop b p).1 ((written_zero _).1 h0)
  omega

theorem atL_blank (b : List UInt8) (p : Nat) (h : ¬ p < writtenN b) : atL (b.drop p) = ⟨b.length - p, 0, []⟩ := by
  unfold atL
  rw [if_pos ((written_zero _).2 ((blank_drop b p).2 (by omega)))]
  simp

theorem row_at (b : List UInt8) (k : Nat) (hk : k < (rowL b).length) : placeK b k < writtenN b := by
  by_cases h : placeK b k < writtenN b
  · exact h
  · have := rowL_end b k h; omega

/-- The bytes behind some, as the walk has them. -/
theorem Reads.behind {w : World} {a : Option Addr} {cap : Nat} {l : List UInt8} {M : Nat} (h : Reads w (.slice a l.length cap) l M) (n : Nat) (h2 : n ≤ l.length) :
    ∃ p c, (∀ w, (Instr.sliceAt 23 (.slice a l.length cap) (some (.int .i64 n)) none none).run Tryz.prog w = .ok (.slice p (l.length - n) c) w) ∧ Reads w (.slice p (l.length - n) c) (l.drop n) M := by
  obtain ⟨p, c, h1, h2⟩ := h.tail n h2
  have hl : (l.drop n).length = l.length - n := by simp
  rw [hl] at h1 h2
  exact ⟨p, c, h1, h2⟩

end Go.Proofs.YtlnmbfddhdjioaaGreat
