/-
  PlainWhole: what a primitive as Do runs it does to the stacks' lengths; thrown, nothing changes.
-/
import Derived.Test.YtfnjjanknfmibaaGreatPlFine
import Derived.Test.YtfnjjanknfmibaaGreatPlDoP
namespace Go.Proofs.YtfnjjanknfmibaaGreat
open Go.RowKit
set_option linter.unusedVariables false

theorem mayT_room {room : Int} {s : List (BitVec 32)} {k g : Nat} (h : mayT room (-3) (-4) s k g = 0) : k ≤ s.length ∧ (s.length : Int) - k + g ≤ room := by
  unfold mayT at h
  split at h
  · exact absurd h (by decide)
  · split at h
    · exact absurd h (by decide)
    · omega

theorem cutL_len {l : List (BitVec 32)} {k : Nat} (h : k ≤ l.length) : (cutL l ((l.length : Int) - k)).length = l.length - k := by
  unfold cutL
  rw [if_pos (by omega), List.length_take]
  omega

theorem push_len {room : Int} {l x : List (BitVec 32)} (h : (l.length : Int) + x.length ≤ room) : pushT room (-3) l x = 0 ∧ (pushL room l x).length = l.length + x.length := by
  unfold pushT pushL
  rw [if_pos (by omega), if_pos (by omega)]
  exact ⟨rfl, List.length_append⟩

theorem doP_fine (room : Int) (win : List UInt8) (i : Nat) (x : PSt) (hi : i < 73) (hw : win.length ≤ 65536) :
    ((doP room win i x).1 ≠ 0 → (doP room win i x).2 = x) ∧
    ((doP room win i x).1 = 0 → (doP room win i x).2.s.length + (primI i).takes = x.s.length + gN i x.s ∧ ((doP room win i x).2.r.length : Int) = x.r.length + rMove i ∧ ((doP room win i x).2.s.length : Int) ≤ room) := by
  unfold doP doM
  split
  · next h0 =>
    obtain ⟨hk, hroom⟩ := mayT_room h0
    have hf := fine_any i hi room win x hw hk
    generalize hy : effM i room win (x.s.drop (x.s.length - (primI i).takes)) x = y at hf
    split
    · next ht =>
      obtain ⟨hl, hg, hr⟩ := hf.2 ht
      have hc := cutL_len (l := y.2.2.s) (k := (primI i).takes) (by omega)
      have hp := push_len (room := room) (l := cutL y.2.2.s ((y.2.2.s.length : Int) - (primI i).takes)) (x := y.1) (by omega)
      refine ⟨fun h => absurd hp.1 h, fun _ => ⟨?_, hr, ?_⟩⟩
      · show (pushL room _ y.1).length + _ = _
        rw [hp.2]
        omega
      · show ((pushL room _ y.1).length : Int) ≤ _
        rw [hp.2]
        omega
    · next ht => exact ⟨fun _ => hf.1 ht, fun h => absurd h ht⟩
  · next h0 => exact ⟨fun _ => rfl, fun h => absurd h h0⟩
set_option maxRecDepth 100000 in
theorem tab73 (i : Nat) (h : i < 73) : ((primI i).name = [63, 68, 85, 80] ↔ i = 5) ∧ (i = 5 → (primI i).takes = 1) ∧ ((primI i).name = [82, 79, 76, 76] → ((primI i).gives : Int) - (primI i).takes = -1) ∧
    rMove i = (if (primI i).name = [62, 82] then 1 else if (primI i).name = [82, 62] then -1 else 0) := by
  have h0 : (List.range 73).all (fun i => decide (((primI i).name = [63, 68, 85, 80] ↔ i = 5) ∧ (i = 5 → (primI i).takes = 1) ∧ ((primI i).name = [82, 79, 76, 76] → ((primI i).gives : Int) - (primI i).takes = -1) ∧ rMove i = (if (primI i).name = [62, 82] then 1 else if (primI i).name = [82, 62] then -1 else 0))) = true := by kernel_rfl
  exact of_decide_eq_true (List.all_eq_true.1 h0 i (List.mem_range.2 h))

/-- What the law takes a primitive's change of the number of cells to be. -/
def changeN (i : Nat) (s : List (BitVec 32)) : Int :=
  if (primI i).name = [63, 68, 85, 80] then (if peekX s 0 = 0#32 then 0 else 1) else if (primI i).name = [82, 79, 76, 76] then -1 else ((primI i).gives : Int) - (primI i).takes
theorem change73 (i : Nat) (h : i < 73) (s : List (BitVec 32)) : (gN i s : Int) - (primI i).takes = changeN i s := by
  obtain ⟨h1, h2, h3, _⟩ := tab73 i h
  unfold gN changeN
  by_cases h5 : i = 5
  · rw [if_pos h5, if_pos (h1.2 h5), h2 h5]
    split <;> rfl
  · rw [if_neg h5, if_neg (fun e => h5 (h1.1 e))]
    split
    · next e => exact h3 e
    · rfl
/-- Not thrown: as many cells more as the law takes the change to be, the return stack moved as it says. -/
theorem doP_done {room : Int} {win : List UInt8} {i : Nat} {x : PSt} (hi : i < 73) (hw : win.length ≤ 65536) (h : (doP room win i x).1 = 0) :
    ((doP room win i x).2.s.length : Int) = x.s.length + changeN i x.s ∧ ((doP room win i x).2.r.length : Int) = x.r.length + (if (primI i).name = [62, 82] then 1 else if (primI i).name = [82, 62] then -1 else 0) := by
  obtain ⟨h1, h2, _⟩ := (doP_fine room win i x hi hw).2 h
  have h3 := change73 i hi x.s
  rw [(tab73 i hi).2.2.2] at h2
  exact ⟨by omega, h2⟩
/-- Not thrown: ?DUP found a cell. -/
theorem doP_has {room : Int} {win : List UInt8} {x : PSt} (h : (doP room win 5 x).1 = 0) : 1 ≤ x.s.length := by
  unfold doP doM at h
  split at h
  · next h0 =>
    have := (mayT_room h0).1
    rwa [(tab73 5 (by decide)).2.1 rfl] at this
  · next h0 => exact absurd h h0
theorem peek_top {s : List (BitVec 32)} (h : 1 ≤ s.length) : peekX s 0 = s.getD (s.length - 1) 0#32 := by
  unfold peekX
  rw [if_pos (by omega)]
  rfl

theorem shown_win (win ram : List UInt8) : gL win ram 4096 win.length = win ∧ tT win ram 4096 win.length = 0 := by
  have h : inAt 4096 win 4096 win.length := by unfold inAt; omega
  unfold gL tT
  rw [if_pos h, if_pos (.inl h)]
  simp
end Go.Proofs.YtfnjjanknfmibaaGreat
