/-
  Plain primitives: what those give that work on cells alone. Written by draft/genpl3.py.
-/
import Derived.Test.YtfnjjanknfmibaaGreatPlOne
namespace Go.Proofs.YtfnjjanknfmibaaGreat
open Go.RowKit
set_option linter.unusedVariables false

/-- A call that gives some cells, in memory of their own, and a throw; nothing else is another one. -/
def Gives (w : World) (fn : Nat) (args : Array Value) (g : List (BitVec 32)) (t : Int) : Prop :=
  Calls Tryz.prog fn args w fun e w' => ∃ gv M off, e = .returned (.tuple #[gv, .int .i32 t]) ∧ UReads w' gv g M off ∧ (g ≠ [] → w.heap.size ≤ M) ∧ Keeps [] w w'
/-- Two cells in memory of their own. -/
def Two12 (w w' : World) (v : Value) (x y : BitVec 32) : Prop := ∃ b, v = .slice (some ⟨b, 0, none⟩) 2 2 ∧ w.heap.size ≤ b ∧ UReads w' (.slice (some ⟨b, 0, none⟩) 2 2) [x, y] b 0 ∧ Keeps [] w w'

theorem UReads.lit12 (w : World) (l : List (BitVec 32)) (cs : Array Value) (T : TypeId) (n : Nat) (hcs : cs = (l.map uv).toArray) (hn : n = l.length) :
    UReads (w.alloc (.cells cs T)) (.slice (some ⟨w.heap.size, 0, none⟩) n n) l w.heap.size 0 := by
  subst hn
  refine .inr ⟨⟨w.heap.size, 0, none⟩, l.length, rfl, Nat.le_refl _, fun _ => rfl, fun i c hi => ?_⟩
  rw [Nat.zero_add, cell_of_row _ _ _ cs T (0, 0) (heap_alloc_new w _), hcs]
  simp [hi]
theorem UReads.lit1 (w : World) (x : Int) (c : BitVec 32) (T : TypeId) (hc : x = c.toNat) : UReads (w.alloc (.cells #[.int .u32 x] T)) (.slice (some ⟨w.heap.size, 0, none⟩) 1 1) [c] w.heap.size 0 :=
  UReads.lit12 w [c] _ T 1 (by subst hc; rfl) rfl
theorem UReads.lit2 (w : World) (x y : Int) (c d : BitVec 32) (T : TypeId) (hc : x = c.toNat) (hd : y = d.toNat) : UReads (w.alloc (.cells #[.int .u32 x, .int .u32 y] T)) (.slice (some ⟨w.heap.size, 0, none⟩) 2 2) [c, d] w.heap.size 0 :=
  UReads.lit12 w [c, d] _ T 2 (by subst hc hd; rfl) rfl

theorem Two12.new (w : World) (x y : Int) (c d : BitVec 32) (hc : x = c.toNat) (hd : y = d.toNat) : Two12 w (w.alloc (.cells #[.int .u32 x, .int .u32 y] 24)) (.slice (some ⟨w.heap.size, 0, none⟩) 2 2) c d :=
  ⟨_, rfl, Nat.le_refl _, UReads.lit2 w x y c d _ hc hd, Keeps.alloc [] w _⟩
theorem Two12.from {w w1 w' : World} {v : Value} {x y : BitVec 32} (hk : Keeps [] w w1) (h : Two12 w1 w' v x y) : Two12 w w' v x y := by
  obtain ⟨b, hv, hb, hr, h1⟩ := h
  exact ⟨b, hv, Nat.le_trans hk.size hb, hr, hk.trans h1⟩

set_option maxRecDepth 100000 in
theorem bothU_any (w : World) (x y t : Int) : Calls Tryz.prog 61 #[.int .u32 x, .int .u32 y, .int .i32 t] w fun e w' => e = .returned (.tuple #[.slice (some ⟨w.heap.size, 0, none⟩) 2 2, .int .i32 t]) ∧ w' = w.alloc (.cells #[.int .u32 x, .int .u32 y] 24) := by
  go_enter Tryz.func61, Tryz.ntmps61
  go_wp2
  go_ret2
  exact ⟨rfl, rfl⟩
set_option maxRecDepth 100000 in
theorem bothI_any (w : World) (x y t : Int) : Calls Tryz.prog 65 #[.int .i32 x, .int .i32 y, .int .i32 t] w fun e w' => e = .returned (.tuple #[.slice (some ⟨w.heap.size, 0, none⟩) 2 2, .int .i32 t]) ∧ w' = w.alloc (.cells #[.int .u32 (x % 4294967296), .int .u32 (y % 4294967296)] 24) := by
  go_enter Tryz.func65, Tryz.ntmps65
  go_wp2
  go_ret2
  exact ⟨rfl, rfl⟩
set_option maxRecDepth 100000 in
theorem doubleU_any (w : World) (x y : Int) : Calls Tryz.prog 68 #[.int .u32 x, .int .u32 y] w fun e w' => e = .returned (.tuple #[.slice (some ⟨w.heap.size, 0, none⟩) 2 2, .int .i32 0]) ∧ w' = w.alloc (.cells #[.int .u32 x, .int .u32 y] 24) := by
  go_enter Tryz.func68, Tryz.ntmps68
  go_wp2
  go_ret2
  exact ⟨rfl, rfl⟩
set_option maxRecDepth 100000 in
theorem doubleI_any (w : World) (x y : Int) : Calls Tryz.prog 71 #[.int .u32 x, .int .i32 y] w fun e w' => e = .returned (.tuple #[.slice (some ⟨w.heap.size, 0, none⟩) 2 2, .int .i32 0]) ∧ w' = w.alloc (.cells #[.int .u32 x, .int .u32 (y % 4294967296)] 24) := by
  go_enter Tryz.func71, Tryz.ntmps71
  go_wp2
  go_ret2
  exact ⟨rfl, rfl⟩
set_option maxRecDepth 100000 in
theorem singleU_any (w : World) (x t : Int) : Calls Tryz.prog 82 #[.int .u32 x, .int .i32 t] w fun e w' => e = .returned (.tuple #[.slice (some ⟨w.heap.size, 0, none⟩) 1 1, .int .i32 t]) ∧ w' = w.alloc (.cells #[.int .u32 x] 24) := by
  go_enter Tryz.func82, Tryz.ntmps82
  go_wp2
  go_ret2
  exact ⟨rfl, rfl⟩
set_option maxRecDepth 100000 in
theorem singleB_any (w : World) (x t : Int) (x0 : 0 ≤ x) (x1 : x < 256) : Calls Tryz.prog 93 #[.int .u8 x, .int .i32 t] w fun e w' => e = .returned (.tuple #[.slice (some ⟨w.heap.size, 0, none⟩) 1 1, .int .i32 t]) ∧ w' = w.alloc (.cells #[.int .u32 x] 24) := by
  go_enter Tryz.func93, Tryz.ntmps93
  go_wp2
  go_ret2
  exact ⟨rfl, rfl⟩

/-- The high cell of the double cell that is the same signed number. -/
def signB (c : BitVec 32) : BitVec 32 := flB (decide (wrap32 (c.toNat : Int) < 0))
set_option maxRecDepth 100000 in
theorem sign_any (w : World) (c : BitVec 32) : Calls Tryz.prog 53 #[.int .u32 (c.toNat : Int)] w fun e w' => e = .returned (.int .u32 ((signB c).toNat : Int)) ∧ w = w' := by
  have c0 := c.isLt
  unfold signB
  have HF := Lib.hid (fun W b => cFlag_any W b)
  go_enter Tryz.func53, Tryz.ntmps53
  go_wp2_with (refine (HF.out _ _).mono ?_; rintro e w' ⟨rfl, rfl⟩)
  go_ret
  exact ⟨rfl, rfl⟩

/-- A signed division: the remainder, the quotient, what is thrown. -/
def divI (fl : Bool) (D n : Int) : Int × Int × Int :=
  if n = 0 then (0, 0, -10) else if Cell.quoOf fl D n < -2147483648 ∨ 2147483647 < Cell.quoOf fl D n then (0, 0, -11) else (Cell.remOf fl D n, Cell.quoOf fl D n, 0)
theorem divI_is (fl : Bool) (D n : Int) : Cell.IsDiv fl D n (divI fl D n).1 (divI fl D n).2.1 (divI fl D n).2.2 := by
  unfold divI
  by_cases h : n = 0
  · rw [if_pos h]; exact .inl ⟨h, rfl, rfl, rfl⟩
  · rw [if_neg h]
    by_cases g : Cell.quoOf fl D n < -2147483648 ∨ 2147483647 < Cell.quoOf fl D n
    · rw [if_pos g]; exact .inr (.inl ⟨h, g, rfl, rfl, rfl⟩)
    · rw [if_neg g]; exact .inr (.inr ⟨h, by omega, by omega, rfl, rfl, rfl⟩)
/-- A division of cells without signs. -/
def divU (D n : Int) : Int × Int × Int := if n = 0 then (0, 0, -10) else if 4294967296 ≤ D / n then (0, 0, -11) else (D % n, D / n, 0)
theorem divU_is (D n : Int) (h0 : 0 ≤ n) : Cell.IsDivU D n (divU D n).1 (divU D n).2.1 (divU D n).2.2 := by
  unfold divU
  by_cases h : n = 0
  · rw [if_pos h]; exact .inl ⟨h, rfl, rfl, rfl⟩
  · rw [if_neg h]
    by_cases g : 4294967296 ≤ D / n
    · rw [if_pos g]; exact .inr (.inl ⟨by omega, g, rfl, rfl, rfl⟩)
    · rw [if_neg g]; exact .inr (.inr ⟨by omega, by omega, rfl, rfl, rfl⟩)
/-- A signed double cell's number, and that of a cell. -/
def sD (lo hi : BitVec 32) : Int := wrap32 (hi.toNat : Int) * 4294967296 + (lo.toNat : Int)
def sC (c : BitVec 32) : Int := wrap32 (c.toNat : Int)
theorem sC_bounds (c : BitVec 32) : -2147483648 ≤ sC c ∧ sC c < 2147483648 := by have := c.isLt; unfold sC wrap32; omega

set_option maxRecDepth 100000 in
theorem floored_any (w : World) (lo hi n : BitVec 32) : Calls Tryz.prog 52 #[.int .u32 (lo.toNat : Int), .int .u32 (hi.toNat : Int), .int .u32 (n.toNat : Int)] w fun e w' =>
    ∃ v, e = .returned (.tuple #[v, .int .i32 (divI true (sD lo hi) (sC n)).2.2]) ∧ Two12 w w' v (cI (divI true (sD lo hi) (sC n)).1) (cI (divI true (sD lo hi) (sC n)).2.1) := by
  have l1 := lo.isLt
  have h1 := hi.isLt
  have n1 := n.isLt
  have hF := fun W => cFloored_is W (lo.toNat : Int) (sC hi) (sC n) _ _ _ (by omega) (by omega) (sC_bounds hi).1 (sC_bounds hi).2 (sC_bounds n).1 (sC_bounds n).2 (divI_is true (sD lo hi) (sC n))
  have HF := Lib.hid hF
  have HR := Lib.hid (cI_toNat (divI true (sD lo hi) (sC n)).1)
  have HQ := Lib.hid (cI_toNat (divI true (sD lo hi) (sC n)).2.1)
  clear hF
  generalize (divI true (sD lo hi) (sC n)).1 = R at *
  generalize (divI true (sD lo hi) (sC n)).2.1 = Q at *
  generalize (divI true (sD lo hi) (sC n)).2.2 = E at *
  unfold sC at HF
  go_enter Tryz.func52, Tryz.ntmps52
  go_wp2_with (first
    | (go_at_call 147; refine (HF.out _).mono ?_; rintro e w1 ⟨rfl, hk⟩; have HK := Lib.hid hk; clear hk)
    | (go_at_call 65; refine (bothI_any _ _ _ _).mono ?_; rintro e w2 ⟨rfl, rfl⟩))
  go_ret2
  exact ⟨_, rfl, Two12.from HK.out (Two12.new _ _ _ _ _ HR.out.symm HQ.out.symm)⟩

/-- A product's low and high cell. -/
def loP (P : Int) : BitVec 32 := cI P
def hiP (P : Int) : BitVec 32 := cI (P % 18446744073709551616 / 4294967296)
theorem wrap32_mod (z : Int) : wrap32 z % 4294967296 = z % 4294967296 := by unfold wrap32; omega
theorem signed_any (w : World) (x y : BitVec 32) : ∃ h : Int, h % 4294967296 = ((hiP (sC x * sC y)).toNat : Int) ∧ -2147483648 ≤ h ∧ h < 2147483648 ∧
    Calls Tryz.prog 72 #[.int .i32 (sC x), .int .i32 (sC y)] w fun e w' => e = .returned (.tuple #[.int .u32 ((loP (sC x * sC y)).toNat : Int), .int .i32 h]) ∧ w = w' := by
  have hS := cSigned_any w (sC x) (sC y) (sC_bounds x).1 (sC_bounds x).2 (sC_bounds y).1 (sC_bounds y).2
  generalize sC x * sC y = P at *
  refine ⟨wrap32 (P % 18446744073709551616 / 4294967296), ?_, ?_, ?_, ?_⟩
  · rw [wrap32_mod]; unfold hiP; rw [cI_toNat]
  · unfold wrap32; omega
  · unfold wrap32; omega
  · unfold loP; rw [cI_toNat]; exact hS

set_option maxRecDepth 100000 in
theorem scaled_any (w : World) (x y n : BitVec 32) : Calls Tryz.prog 58 #[.int .u32 (x.toNat : Int), .int .u32 (y.toNat : Int), .int .u32 (n.toNat : Int)] w fun e w' =>
    ∃ v, e = .returned (.tuple #[v, .int .i32 (divI true (sD (loP (sC x * sC y)) (hiP (sC x * sC y))) (sC n)).2.2]) ∧ Two12 w w' v (cI (divI true (sD (loP (sC x * sC y)) (hiP (sC x * sC y))) (sC n)).1) (cI (divI true (sD (loP (sC x * sC y)) (hiP (sC x * sC y))) (sC n)).2.1) := by
  have x1 := x.isLt
  have y1 := y.isLt
  obtain ⟨wh, hh, b1, b2, hS⟩ := signed_any w x y
  have HF := Lib.hid (fun W => floored_any W (loP (sC x * sC y)) (hiP (sC x * sC y)) n)
  generalize hiP (sC x * sC y) = hi at *
  generalize loP (sC x * sC y) = lo at *
  have HS := Lib.hid hS
  unfold sC at HS
  clear hS
  go_enter Tryz.func58, Tryz.ntmps58
  go_wp2_with (first
    | (go_at_call 72; refine HS.out.mono ?_; rintro e w1 ⟨rfl, rfl⟩)
    | (go_at_call 52; refine (HF.out _).mono ?_; rintro e w2 ⟨v, rfl, ht⟩; have HT := Lib.hid ht; clear ht))
  go_ret2
  exact ⟨_, rfl, HT.out⟩

set_option maxRecDepth 100000 in
theorem quotient_any (w : World) (b : Nat) (x y : BitVec 32) (t : Int) (h : UReads w (.slice (some ⟨b, 0, none⟩) 2 2) [x, y] b 0) : Calls Tryz.prog 51 #[.slice (some ⟨b, 0, none⟩) 2 2, .int .i32 t] w fun e w' =>
    ∃ v, e = .returned (.tuple #[v, .int .i32 t]) ∧ UReads w' v [y] b 1 ∧ w = w' := by
  obtain ⟨p, c, e, hr⟩ := UReads.tail (l := [x, y]) h 1 (by simp)
  have e' : Value.slice (some ⟨b, 1, none⟩) 1 1 = .slice p 1 c := e
  have HT := Lib.hid (show UReads w (.slice (some ⟨b, 1, none⟩) 1 1) [y] b 1 from by rw [e']; exact hr)
  clear hr h e e'
  go_enter Tryz.func51, Tryz.ntmps51
  go_wp2
  go_ret2
  exact ⟨_, rfl, HT.out, rfl⟩
set_option maxRecDepth 100000 in
theorem remainder_any (w : World) (b : Nat) (x y : BitVec 32) (t : Int) (h : UReads w (.slice (some ⟨b, 0, none⟩) 2 2) [x, y] b 0) : Calls Tryz.prog 55 #[.slice (some ⟨b, 0, none⟩) 2 2, .int .i32 t] w fun e w' =>
    ∃ v, e = .returned (.tuple #[v, .int .i32 t]) ∧ UReads w' v [x] b 0 ∧ w = w' := by
  have hc := fun w => run_cutU_h w (some ⟨b, 0, none⟩) 2 2 1 (by decide)
  have ht := UReads.head (l := [x, y]) h 1 (by simp)
  have e' : sliced (some ⟨b, 0, none⟩) 0 1 2 1 = .slice (some ⟨b, 0, none⟩) 1 2 := ht.1
  rw [e'] at hc
  have HT := Lib.hid (show UReads w (.slice (some ⟨b, 0, none⟩) 1 2) [x] b 0 from ht.2)
  clear ht h e'
  go_enter Tryz.func55, Tryz.ntmps55
  go_wp2
  go_ret2
  exact ⟨_, rfl, HT.out, rfl⟩
end Go.Proofs.YtfnjjanknfmibaaGreat
