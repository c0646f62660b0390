/-
  Stacks of cells: what each function of the package answers, and what stands behind it.
-/
import Derived.Test.YtfnjjanknfmibaaGreatStkBase
import Derived.Deep.RegionLaw
import Derived.LaidEqlPtr
import Derived.Deep.Cut
import Derived.Deep.RegionWith
import Derived.Deep.RegionHeld3
namespace Go.Proofs.YtfnjjanknfmibaaGreat
open Go.RowKit
set_option linter.unusedVariables false

/-! ### what is to be answered -/
def peekX (l : List (BitVec 32)) (i : Int) : BitVec 32 := if 0 ≤ i ∧ i < l.length then l.getD (l.length - 1 - i.toNat) 0#32 else 0#32
def peekT (l : List (BitVec 32)) (i under : Int) : Int := if 0 ≤ i ∧ i < l.length then 0 else under
def pushL (most : Int) (l x : List (BitVec 32)) : List (BitVec 32) := if (x.length : Int) ≤ most - l.length then l ++ x else l
def pushT (most over : Int) (l x : List (BitVec 32)) : Int := if (x.length : Int) ≤ most - l.length then 0 else over
def mayT (most over under : Int) (l : List (BitVec 32)) (takes gives : Int) : Int :=
  if l.length < max takes 0 then under else if most - l.length < max gives 0 - max takes 0 then over else 0
def rollL (l : List (BitVec 32)) (i : Int) : List (BitVec 32) :=
  if 0 ≤ i ∧ i < l.length then (l.take (l.length - 1 - i.toNat) ++ l.drop (l.length - 1 - i.toNat + 1)) ++ [l.getD (l.length - 1 - i.toNat) 0#32] else l
def cutL (l : List (BitVec 32)) (n : Int) : List (BitVec 32) := if 0 ≤ n ∧ n ≤ l.length then l.take n.toNat else l
def cutT (l : List (BitVec 32)) (n under : Int) : Int := if 0 ≤ n ∧ n ≤ l.length then 0 else under

/-! ### made, Len, place -/
theorem infoStack : ∃ j, Tryz.prog.info? 52 = some j := Option.isSome_iff_exists.1 (by kernel_rfl)
theorem made_at (w : World) (g : Nat) (hc : w.cell? ⟨g, 0, none⟩ = some (.pointer (some ⟨g, 0, none⟩))) :
    Calls Tryz.prog 15 #[.pointer (some ⟨g, 0, none⟩)] w fun e w' => e = .returned (.bool true) ∧ w = w' := by
  obtain ⟨j, hj⟩ := infoStack
  have he := fun w => run_eql_ptr_same (P := Tryz.prog) w (tp := 25) (te := 52) ⟨g, 0, none⟩ Tryz.underlying25 hj
  go_enter Tryz.func15, Tryz.ntmps15
  go_wp2
  go_ret
  exact ⟨rfl, rfl⟩

/-- No stack, or one that New did not return. -/
def NotStack (w : World) (p : Option Addr) : Prop := p = none ∨ ∃ g, p = some ⟨g, 0, none⟩ ∧ w.cell? ⟨g, 0, none⟩ = some (.pointer none)
theorem NotStack.keeps {w w' : World} {p : Option Addr} (h : NotStack w p) (hk : Keeps [] w w') : NotStack w' p := by
  rcases h with rfl | ⟨F, rfl, hc⟩
  · exact .inl rfl
  · exact .inr ⟨F, rfl, hk.cell hc (by simp)⟩

theorem run_eql_nil_stk (w : World) (a : Addr) : (binOp .eql 25 (.pointer none) (.pointer (some a))).run Tryz.prog w = .ok (.bool false) w := by
  have h : ∀ d : Nat, (Op.equalIn (d + 1) 25 (.pointer none) (.pointer (some a))).run Tryz.prog w = .ok false w := fun d => by
    simp [Op.equalIn, run_underlying Tryz.underlying25]
  simp only [binOp]
  simp [Op.equal, Op.maxDepth, h 9999]
theorem made_not (w : World) (p : Option Addr) (h : NotStack w p) : Calls Tryz.prog 15 #[.pointer p] w fun e w' => e = .returned (.bool false) ∧ w = w' := by
  rcases h with rfl | ⟨g, rfl, hc⟩
  · go_enter Tryz.func15, Tryz.ntmps15
    go_wp2
    go_ret
    exact ⟨rfl, rfl⟩
  · have he := run_eql_nil_stk
    go_enter Tryz.func15, Tryz.ntmps15
    go_wp2
    go_ret
    exact ⟨rfl, rfl⟩

section
variable {w : World} {base g : Nat} {most over under : Int} {v : Value} {l : List (BitVec 32)}

theorem StackAt.cell (h : StackAt w base g most over under v l) (i : Nat) (x : Value) (hx : [Value.pointer (some ⟨g, 0, none⟩), v, .int .i64 most, .int .i32 over, .int .i32 under][i]? = some x) : w.cell? ⟨g, i, none⟩ = some x :=
  (h.whole.cell i).trans hx

theorem Len_at (h : StackAt w base g most over under v l) : Calls Tryz.prog 25 #[.pointer (some ⟨g, 0, none⟩)] w fun e w' => e = .returned (.int .i64 (l.length : Int)) ∧ w = w' := by
  have c0 := h.cell 0 _ rfl
  have c1 := h.cell 1 _ rfl
  obtain ⟨a, cap, rfl, _⟩ := h.shape
  clear h
  go_enter Tryz.func25, Tryz.ntmps25
  go_wp2_with (go_at_call 15; refine (made_at _ _ c0).mono ?_; rintro e w' ⟨rfl, rfl⟩)
  go_ret
  exact ⟨rfl, rfl⟩

theorem Len_not (w : World) (p : Option Addr) (h : NotStack w p) : Calls Tryz.prog 25 #[.pointer p] w fun e w' => e = .returned (.int .i64 0) ∧ w = w' := by
  go_enter Tryz.func25, Tryz.ntmps25
  go_wp2_with (go_at_call 15; refine (made_not _ _ h).mono ?_; rintro e w' ⟨rfl, rfl⟩)
  go_ret
  exact ⟨rfl, rfl⟩

set_option maxRecDepth 100000 in
theorem place_in (h : StackAt w base g most over under v l) (i : Nat) (hi : i < l.length) :
    Calls Tryz.prog 111 #[.pointer (some ⟨g, 0, none⟩), .int .i64 i] w fun e w' => e = .returned (.tuple #[.int .i64 ((l.length - 1 - i : Nat) : Int), .int .i32 0]) ∧ w = w' := by
  have c0 := h.cell 0 _ rfl
  have c1 := h.cell 1 _ rfl
  have hf := h.fits
  have hm := h.most2
  obtain ⟨a, cap, rfl, _⟩ := h.shape
  clear h
  generalize l.length = n at *
  have hx : ((n - 1 - i : Nat) : Int) = (n : Int) - 1 - i := by omega
  rw [hx]
  clear hx
  go_enter Tryz.func111, Tryz.ntmps111
  go_wp2_with (go_at_call 15; refine (made_at _ _ c0).mono ?_; rintro e w' ⟨rfl, rfl⟩)
  go_ret2
  exact ⟨rfl, rfl⟩

set_option maxRecDepth 100000 in
theorem place_out (h : StackAt w base g most over under v l) (i : Int) (hi : ¬ (0 ≤ i ∧ i < l.length)) :
    Calls Tryz.prog 111 #[.pointer (some ⟨g, 0, none⟩), .int .i64 i] w fun e w' => e = .returned (.tuple #[.int .i64 0, .int .i32 under]) ∧ Keeps [] w w' := by
  have c0 := h.cell 0 _ rfl
  have c1 := h.cell 1 _ rfl
  have c4 := h.cell 4 _ rfl
  have hf := h.fits
  have hm := h.most2
  obtain ⟨a, cap, rfl, _⟩ := h.shape
  clear h
  generalize l.length = n at *
  by_cases h0 : i < 0
  · go_enter Tryz.func111, Tryz.ntmps111
    go_wp2_with (first | (go_at_call 15; refine (made_at _ _ c0).mono ?_; rintro e w' ⟨rfl, rfl⟩) | go_quiet (fail))
    go_ret2
    exact ⟨rfl, Keeps.drewN _ _ _⟩
  · have h1 : (n : Int) ≤ i := by omega
    go_enter Tryz.func111, Tryz.ntmps111
    go_wp2_with (first | (go_at_call 15; refine (made_at _ _ c0).mono ?_; rintro e w' ⟨rfl, rfl⟩) | go_quiet (fail))
    go_ret2
    exact ⟨rfl, Keeps.drewN _ _ _⟩
end
end Go.Proofs.YtfnjjanknfmibaaGreat
