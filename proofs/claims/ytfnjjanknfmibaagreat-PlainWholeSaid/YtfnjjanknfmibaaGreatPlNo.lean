/-
  Plain primitives: which chooser says nothing of a name. Written by draft/genpl.py.
-/
import Derived.Test.YtfnjjanknfmibaaGreatGround
import Derived.Laws.EntriesVeiled
namespace Go.Proofs.YtfnjjanknfmibaaGreat
open Go.RowKit
set_option linter.unusedVariables false

/-! ### function values held against nil -/
theorem under_effect : ∃ ps rs v, Tryz.prog.underlying 59 = some (.func ps rs v) := ⟨_, _, _, Tryz.underlying59⟩
theorem under_fn1 : ∃ ps rs v, Tryz.prog.underlying 69 = some (.func ps rs v) := ⟨_, _, _, Tryz.underlying69⟩
theorem under_fn2 : ∃ ps rs v, Tryz.prog.underlying 91 = some (.func ps rs v) := ⟨_, _, _, Tryz.underlying91⟩
theorem run_fn_eql (T : TypeId) (hT : ∃ ps rs v, Tryz.prog.underlying T = some (.func ps rs v)) (w : World) (f : Fn) (a b : Array Value) : (binOp .eql T (.func f a b) .nilFunc).run Tryz.prog w = .ok (.bool false) w := by
  obtain ⟨ps, rs, v, hu⟩ := hT
  have h : ∀ d : Nat, (Op.equalIn (d + 1) T (.func f a b) .nilFunc).run Tryz.prog w = .ok false w := fun d => by
    simp [Op.equalIn, run_underlying hu]
  simp only [binOp]
  simp [Op.equal, Op.maxDepth, h 9999]
theorem run_fn_neq (T : TypeId) (hT : ∃ ps rs v, Tryz.prog.underlying T = some (.func ps rs v)) (w : World) (f : Fn) (a b : Array Value) : (binOp .neq T (.func f a b) .nilFunc).run Tryz.prog w = .ok (.bool true) w := by
  obtain ⟨ps, rs, v, hu⟩ := hT
  have h : ∀ d : Nat, (Op.equalIn (d + 1) T (.func f a b) .nilFunc).run Tryz.prog w = .ok false w := fun d => by
    simp [Op.equalIn, run_underlying hu]
  simp only [binOp]
  simp [Op.equal, Op.maxDepth, h 9999]
theorem run_nil_eql (T : TypeId) (hT : ∃ ps rs v, Tryz.prog.underlying T = some (.func ps rs v)) (w : World) : (binOp .eql T .nilFunc .nilFunc).run Tryz.prog w = .ok (.bool true) w := by
  obtain ⟨ps, rs, v, hu⟩ := hT
  have h : ∀ d : Nat, (Op.equalIn (d + 1) T .nilFunc .nilFunc).run Tryz.prog w = .ok true w := fun d => by
    simp [Op.equalIn, run_underlying hu]
  simp only [binOp]
  simp [Op.equal, Op.maxDepth, h 9999]
theorem run_nil_neq (T : TypeId) (hT : ∃ ps rs v, Tryz.prog.underlying T = some (.func ps rs v)) (w : World) : (binOp .neq T .nilFunc .nilFunc).run Tryz.prog w = .ok (.bool false) w := by
  obtain ⟨ps, rs, v, hu⟩ := hT
  have h : ∀ d : Nat, (Op.equalIn (d + 1) T .nilFunc .nilFunc).run Tryz.prog w = .ok true w := fun d => by
    simp [Op.equalIn, run_underlying hu]
  simp only [binOp]
  simp [Op.equal, Op.maxDepth, h 9999]

/-- A name that is none of some. -/
def noneOf (s : ByteArray) (l : List (List UInt8)) : Prop := ∀ x ∈ l, (s.toList == x) = false
theorem noneOf.at {s : ByteArray} {l : List (List UInt8)} (h : noneOf s l) (x : List UInt8) (hx : x ∈ l) : (s.toList == x) = false := h x hx

def namesMoved : List (List UInt8) := [[68, 85, 80], [68, 82, 79, 80], [50, 68, 82, 79, 80], [83, 87, 65, 80], [79, 86, 69, 82], [82, 79, 84], [78, 73, 80], [84, 85, 67, 75], [50, 68, 85, 80], [50, 83, 87, 65, 80], [50, 79, 86, 69, 82]]
def namesOne : List (List UInt8) := [[49, 43], [67, 72, 65, 82, 43], [49, 45], [50, 42], [50, 47], [78, 69, 71, 65, 84, 69], [65, 66, 83], [73, 78, 86, 69, 82, 84], [48, 61], [48, 60], [48, 62], [67, 69, 76, 76, 43], [67, 69, 76, 76, 83], [67, 72, 65, 82, 83], [65, 76, 73, 71, 78, 69, 68]]
def namesTwo : List (List UInt8) := [[43], [45], [42], [77, 73, 78], [77, 65, 88], [65, 78, 68], [79, 82], [88, 79, 82], [76, 83, 72, 73, 70, 84], [82, 83, 72, 73, 70, 84], [61], [60, 62], [60], [62], [85, 60], [85, 62]]
def namesDivided : List (List UInt8) := [[47], [77, 79, 68], [47, 77, 79, 68], [42, 47], [42, 47, 77, 79, 68], [85, 77, 47, 77, 79, 68], [70, 77, 47, 77, 79, 68], [83, 77, 47, 82, 69, 77]]
def namesDoubled : List (List UInt8) := [[85, 77, 42], [77, 42], [83, 62, 68], [68, 43], [68, 78, 69, 71, 65, 84, 69]]
def namesStacked : List (List UInt8) := [[63, 68, 85, 80], [68, 69, 80, 84, 72], [80, 73, 67, 75], [82, 79, 76, 76], [62, 82], [82, 62], [82, 64]]
def namesStored : List (List UInt8) := [[64], [67, 64], [50, 64], [67, 79, 85, 78, 84], [33], [67, 33], [43, 33], [50, 33], [77, 79, 86, 69], [70, 73, 76, 76]]

set_option maxRecDepth 100000 in
set_option maxHeartbeats 2000000 in
theorem moved_no (w : World) (s : ByteArray) (h : noneOf s namesMoved) : Calls Tryz.prog 32 #[.string s] w fun e w' => e = .returned .nilFunc ∧ w = w' := by
  have h0 := h.at [68, 85, 80] (by simp [namesMoved])
  have h1 := h.at [68, 82, 79, 80] (by simp [namesMoved])
  have h2 := h.at [50, 68, 82, 79, 80] (by simp [namesMoved])
  have h3 := h.at [83, 87, 65, 80] (by simp [namesMoved])
  have h4 := h.at [79, 86, 69, 82] (by simp [namesMoved])
  have h5 := h.at [82, 79, 84] (by simp [namesMoved])
  have h6 := h.at [78, 73, 80] (by simp [namesMoved])
  have h7 := h.at [84, 85, 67, 75] (by simp [namesMoved])
  have h8 := h.at [50, 68, 85, 80] (by simp [namesMoved])
  have h9 := h.at [50, 83, 87, 65, 80] (by simp [namesMoved])
  have h10 := h.at [50, 79, 86, 69, 82] (by simp [namesMoved])
  clear h
  go_enter Tryz.func32, Tryz.ntmps32
  go_wp2
  go_ret
  exact ⟨rfl, rfl⟩

set_option maxRecDepth 100000 in
set_option maxHeartbeats 2000000 in
theorem one_no (w : World) (s : ByteArray) (h : noneOf s namesOne) : Calls Tryz.prog 45 #[.string s] w fun e w' => e = .returned .nilFunc ∧ w = w' := by
  have h0 := h.at [49, 43] (by simp [namesOne])
  have h1 := h.at [67, 72, 65, 82, 43] (by simp [namesOne])
  have h2 := h.at [49, 45] (by simp [namesOne])
  have h3 := h.at [50, 42] (by simp [namesOne])
  have h4 := h.at [50, 47] (by simp [namesOne])
  have h5 := h.at [78, 69, 71, 65, 84, 69] (by simp [namesOne])
  have h6 := h.at [65, 66, 83] (by simp [namesOne])
  have h7 := h.at [73, 78, 86, 69, 82, 84] (by simp [namesOne])
  have h8 := h.at [48, 61] (by simp [namesOne])
  have h9 := h.at [48, 60] (by simp [namesOne])
  have h10 := h.at [48, 62] (by simp [namesOne])
  have h11 := h.at [67, 69, 76, 76, 43] (by simp [namesOne])
  have h12 := h.at [67, 69, 76, 76, 83] (by simp [namesOne])
  have h13 := h.at [67, 72, 65, 82, 83] (by simp [namesOne])
  have h14 := h.at [65, 76, 73, 71, 78, 69, 68] (by simp [namesOne])
  clear h
  go_enter Tryz.func45, Tryz.ntmps45
  go_wp2
  go_ret
  exact ⟨rfl, rfl⟩

set_option maxRecDepth 100000 in
set_option maxHeartbeats 2000000 in
theorem two_no (w : World) (s : ByteArray) (h : noneOf s namesTwo) : Calls Tryz.prog 48 #[.string s] w fun e w' => e = .returned .nilFunc ∧ w = w' := by
  have h0 := h.at [43] (by simp [namesTwo])
  have h1 := h.at [45] (by simp [namesTwo])
  have h2 := h.at [42] (by simp [namesTwo])
  have h3 := h.at [77, 73, 78] (by simp [namesTwo])
  have h4 := h.at [77, 65, 88] (by simp [namesTwo])
  have h5 := h.at [65, 78, 68] (by simp [namesTwo])
  have h6 := h.at [79, 82] (by simp [namesTwo])
  have h7 := h.at [88, 79, 82] (by simp [namesTwo])
  have h8 := h.at [76, 83, 72, 73, 70, 84] (by simp [namesTwo])
  have h9 := h.at [82, 83, 72, 73, 70, 84] (by simp [namesTwo])
  have h10 := h.at [61] (by simp [namesTwo])
  have h11 := h.at [60, 62] (by simp [namesTwo])
  have h12 := h.at [60] (by simp [namesTwo])
  have h13 := h.at [62] (by simp [namesTwo])
  have h14 := h.at [85, 60] (by simp [namesTwo])
  have h15 := h.at [85, 62] (by simp [namesTwo])
  clear h
  go_enter Tryz.func48, Tryz.ntmps48
  go_wp2
  go_ret
  exact ⟨rfl, rfl⟩

set_option maxRecDepth 100000 in
set_option maxHeartbeats 2000000 in
theorem divided_no (w : World) (s : ByteArray) (h : noneOf s namesDivided) : Calls Tryz.prog 35 #[.string s] w fun e w' => e = .returned .nilFunc ∧ w = w' := by
  have h0 := h.at [47] (by simp [namesDivided])
  have h1 := h.at [77, 79, 68] (by simp [namesDivided])
  have h2 := h.at [47, 77, 79, 68] (by simp [namesDivided])
  have h3 := h.at [42, 47] (by simp [namesDivided])
  have h4 := h.at [42, 47, 77, 79, 68] (by simp [namesDivided])
  have h5 := h.at [85, 77, 47, 77, 79, 68] (by simp [namesDivided])
  have h6 := h.at [70, 77, 47, 77, 79, 68] (by simp [namesDivided])
  have h7 := h.at [83, 77, 47, 82, 69, 77] (by simp [namesDivided])
  clear h
  go_enter Tryz.func35, Tryz.ntmps35
  go_wp2
  go_ret
  exact ⟨rfl, rfl⟩

set_option maxRecDepth 100000 in
set_option maxHeartbeats 2000000 in
theorem doubled_no (w : World) (s : ByteArray) (h : noneOf s namesDoubled) : Calls Tryz.prog 36 #[.string s] w fun e w' => e = .returned .nilFunc ∧ w = w' := by
  have h0 := h.at [85, 77, 42] (by simp [namesDoubled])
  have h1 := h.at [77, 42] (by simp [namesDoubled])
  have h2 := h.at [83, 62, 68] (by simp [namesDoubled])
  have h3 := h.at [68, 43] (by simp [namesDoubled])
  have h4 := h.at [68, 78, 69, 71, 65, 84, 69] (by simp [namesDoubled])
  clear h
  go_enter Tryz.func36, Tryz.ntmps36
  go_wp2
  go_ret
  exact ⟨rfl, rfl⟩

set_option maxRecDepth 100000 in
set_option maxHeartbeats 2000000 in
theorem stacked_no (w : World) (a b c : Option Addr) (s : ByteArray) (h : noneOf s namesStacked) : Calls Tryz.prog 37 #[.agg #[.pointer a, .pointer b, .pointer c], .string s] w fun e w' => e = .returned .nilFunc ∧ Keeps [] w w' := by
  have h0 := h.at [63, 68, 85, 80] (by simp [namesStacked])
  have h1 := h.at [68, 69, 80, 84, 72] (by simp [namesStacked])
  have h2 := h.at [80, 73, 67, 75] (by simp [namesStacked])
  have h3 := h.at [82, 79, 76, 76] (by simp [namesStacked])
  have h4 := h.at [62, 82] (by simp [namesStacked])
  have h5 := h.at [82, 62] (by simp [namesStacked])
  have h6 := h.at [82, 64] (by simp [namesStacked])
  clear h
  go_enter Tryz.func37, Tryz.ntmps37
  go_wp2
  go_ret
  exact ⟨rfl, Keeps.alloc [] w _⟩

set_option maxRecDepth 100000 in
set_option maxHeartbeats 2000000 in
theorem stored_no (w : World) (a b c : Option Addr) (s : ByteArray) (h : noneOf s namesStored) : Calls Tryz.prog 38 #[.agg #[.pointer a, .pointer b, .pointer c], .string s] w fun e w' => e = .returned .nilFunc ∧ Keeps [] w w' := by
  have h0 := h.at [64] (by simp [namesStored])
  have h1 := h.at [67, 64] (by simp [namesStored])
  have h2 := h.at [50, 64] (by simp [namesStored])
  have h3 := h.at [67, 79, 85, 78, 84] (by simp [namesStored])
  have h4 := h.at [33] (by simp [namesStored])
  have h5 := h.at [67, 33] (by simp [namesStored])
  have h6 := h.at [43, 33] (by simp [namesStored])
  have h7 := h.at [50, 33] (by simp [namesStored])
  have h8 := h.at [77, 79, 86, 69] (by simp [namesStored])
  have h9 := h.at [70, 73, 76, 76] (by simp [namesStored])
  clear h
  go_enter Tryz.func38, Tryz.ntmps38
  go_wp2
  go_ret
  exact ⟨rfl, Keeps.alloc [] w _⟩

set_option maxRecDepth 100000 in
theorem ofOne_no (w : World) (s : ByteArray) (h : noneOf s namesOne) : Calls Tryz.prog 33 #[.string s] w fun e w' => e = .returned .nilFunc ∧ Keeps [] w w' := by
  have f1 := run_nil_eql 69 under_fn1
  go_enter Tryz.func33, Tryz.ntmps33
  go_wp2_with (refine (one_no _ _ h).mono ?_; rintro e w' ⟨rfl, rfl⟩)
  go_ret
  exact ⟨rfl, Keeps.alloc [] w _⟩

set_option maxRecDepth 100000 in
theorem ofTwo_no (w : World) (s : ByteArray) (h0 : (s.toList == [87, 73, 84, 72, 73, 78]) = false) (h : noneOf s namesTwo) : Calls Tryz.prog 34 #[.string s] w fun e w' => e = .returned .nilFunc ∧ Keeps [] w w' := by
  have f1 := run_nil_eql 91 under_fn2
  go_enter Tryz.func34, Tryz.ntmps34
  go_wp2_with (refine (two_no _ _ h).mono ?_; rintro e w' ⟨rfl, rfl⟩)
  go_ret
  exact ⟨rfl, Keeps.alloc [] w _⟩
end Go.Proofs.YtfnjjanknfmibaaGreat
