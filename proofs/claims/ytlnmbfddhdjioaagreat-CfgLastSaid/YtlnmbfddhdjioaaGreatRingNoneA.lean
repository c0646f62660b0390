/-
  RingNone, walked.
-/
import Derived.Test.YtlnmbfddhdjioaaGreatRingEnd
import Derived.Test.YtlnmbfddhdjioaaGreatGround
namespace Go.Proofs.YtlnmbfddhdjioaaGreat
open Go.RowKit

theorem NotMade.keeps {w w' : World} {p : Option Addr} (h : NotMade w p) (hk : Keeps [] w w') : NotMade w' p := by
  rcases h with rfl | ⟨F, rfl, hc⟩
  · exact .inl rfl
  · exact .inr ⟨F, rfl, hk.cell hc (by simp)⟩

theorem clear_out {s : FS} (k : Int) (hd : s.down = false) (hk : ¬ (0 ≤ k ∧ k < s.wear.length)) : s.clear k = (s, 10) := by
  unfold FS.clear; rw [if_neg (by simp [hd]), if_pos hk]
theorem opened_out {s : FS} (k : Int) (x : BitVec 32) (hd : s.down = false) (hk : ¬ (0 ≤ k ∧ k < s.wear.length)) : s.opened k x = (s, 10) := by
  unfold FS.opened; rw [if_neg (by simp [hd]), if_pos hk]

end Go.Proofs.YtlnmbfddhdjioaaGreat
