/-
  Plain primitives: what one and two cells become. Written by draft/genpl2.py.
-/
import Derived.Test.YtfnjjanknfmibaaGreatPlNo
import Derived.Test.YtfnjjanknfmibaaGreatPlLab
import Derived.Test.YtfnjjanknfmibaaGreatCellD
import Derived.Shelf.Abstract
namespace Go.Proofs.YtfnjjanknfmibaaGreat
open Go.RowKit
set_option linter.unusedVariables false

/-- The cell of a number. -/
def cI (x : Int) : BitVec 32 := BitVec.ofInt 32 x
theorem cI_toNat (x : Int) : ((cI x).toNat : Int) = x % 4294967296 := by
  unfold cI; rw [BitVec.toNat_ofInt]; omega
/-- A flag. -/
def flB (b : Bool) : BitVec 32 := if b then 4294967295#32 else 0#32
theorem cFlag_any (w : World) (b : Bool) : Calls Tryz.prog 123 #[.bool b] w fun e w' => e = .returned (.int .u32 ((flB b).toNat : Int)) ∧ w = w' := by
  cases b
  · exact cFlag_false w
  · exact cFlag_true w

def e_inc (c : BitVec 32) : BitVec 32 := cI ((c.toNat : Int) + 1)
def e_dec (c : BitVec 32) : BitVec 32 := cI ((c.toNat : Int) - 1)
def e_dbl (c : BitVec 32) : BitVec 32 := cI ((c.toNat : Int) * 2)
def e_half (c : BitVec 32) : BitVec 32 := cI (wrap32 (c.toNat : Int) / 2)
def e_neg (c : BitVec 32) : BitVec 32 := cI (-(c.toNat : Int))
def e_abs (c : BitVec 32) : BitVec 32 := cI (max (wrap32 (c.toNat : Int)) (wrap32 (-(wrap32 (c.toNat : Int)))))
def e_inv (c : BitVec 32) : BitVec 32 := ~~~ c
def e_zeq (c : BitVec 32) : BitVec 32 := flB ((c.toNat : Int) == 0)
def e_zlt (c : BitVec 32) : BitVec 32 := flB (decide (wrap32 (c.toNat : Int) < 0))
def e_zgt (c : BitVec 32) : BitVec 32 := flB (decide (0 < wrap32 (c.toNat : Int)))
def e_cellp (c : BitVec 32) : BitVec 32 := cI ((c.toNat : Int) + 4)
def e_cells (c : BitVec 32) : BitVec 32 := cI ((c.toNat : Int) * 4)
def e_chars (c : BitVec 32) : BitVec 32 := c
def e_align (c : BitVec 32) : BitVec 32 := cI (((c.toNat : Int) + 3) % 4294967296 / 4 * 4)
def e_add (c d : BitVec 32) : BitVec 32 := cI ((c.toNat : Int) + (d.toNat : Int))
def e_sub (c d : BitVec 32) : BitVec 32 := cI ((c.toNat : Int) - (d.toNat : Int))
def e_mul (c d : BitVec 32) : BitVec 32 := cI ((c.toNat : Int) * (d.toNat : Int))
def e_min (c d : BitVec 32) : BitVec 32 := cI (min (wrap32 (c.toNat : Int)) (wrap32 (d.toNat : Int)))
def e_max (c d : BitVec 32) : BitVec 32 := cI (max (wrap32 (c.toNat : Int)) (wrap32 (d.toNat : Int)))
def e_and (c d : BitVec 32) : BitVec 32 := c &&& d
def e_or (c d : BitVec 32) : BitVec 32 := c ||| d
def e_xor (c d : BitVec 32) : BitVec 32 := c ^^^ d
def e_lsh (c d : BitVec 32) : BitVec 32 := cI ((c.toNat : Int) * 2 ^ min d.toNat 32)
def e_rsh (c d : BitVec 32) : BitVec 32 := cI ((c.toNat : Int) / 2 ^ min d.toNat 32)
def e_eq (c d : BitVec 32) : BitVec 32 := flB ((c.toNat : Int) == (d.toNat : Int))
def e_ne (c d : BitVec 32) : BitVec 32 := flB ((c.toNat : Int) != (d.toNat : Int))
def e_lt (c d : BitVec 32) : BitVec 32 := flB (decide (wrap32 (c.toNat : Int) < wrap32 (d.toNat : Int)))
def e_gt (c d : BitVec 32) : BitVec 32 := flB (decide (wrap32 (d.toNat : Int) < wrap32 (c.toNat : Int)))
def e_ult (c d : BitVec 32) : BitVec 32 := flB (decide (c.toNat < d.toNat))
def e_ugt (c d : BitVec 32) : BitVec 32 := flB (decide (d.toNat < c.toNat))

theorem e_inc_calls (w : World) (c : BitVec 32) : Calls Tryz.prog 115 #[.int .u32 (c.toNat : Int)] w fun e w' => e = .returned (.int .u32 ((e_inc c).toNat : Int)) ∧ w = w' := by
  have c0 := c.isLt
  unfold e_inc
  rw [cI_toNat]
  obtain ⟨x, hx⟩ : ∃ x : Int, x = (c.toNat : Int) := ⟨_, rfl⟩
  have x0 : 0 ≤ x := by omega
  have x1 : x < 4294967296 := by omega
  rw [← hx]
  clear hx c0
  go_enter Tryz.func115, Tryz.ntmps115
  go_wp2
  all_goals go_ret
  all_goals refine ⟨congrArg (fun z => Ending.returned (.int .u32 z)) ?_, rfl⟩
  all_goals first | rfl | omega | (simp; omega) | (unfold wrap32; omega) | (simp [wrap32]; omega)

theorem e_dec_calls (w : World) (c : BitVec 32) : Calls Tryz.prog 116 #[.int .u32 (c.toNat : Int)] w fun e w' => e = .returned (.int .u32 ((e_dec c).toNat : Int)) ∧ w = w' := by
  have c0 := c.isLt
  unfold e_dec
  rw [cI_toNat]
  obtain ⟨x, hx⟩ : ∃ x : Int, x = (c.toNat : Int) := ⟨_, rfl⟩
  have x0 : 0 ≤ x := by omega
  have x1 : x < 4294967296 := by omega
  rw [← hx]
  clear hx c0
  go_enter Tryz.func116, Tryz.ntmps116
  go_wp2
  all_goals go_ret
  all_goals refine ⟨congrArg (fun z => Ending.returned (.int .u32 z)) ?_, rfl⟩
  all_goals first | rfl | omega | (simp; omega) | (unfold wrap32; omega) | (simp [wrap32]; omega)

theorem e_dbl_calls (w : World) (c : BitVec 32) : Calls Tryz.prog 117 #[.int .u32 (c.toNat : Int)] w fun e w' => e = .returned (.int .u32 ((e_dbl c).toNat : Int)) ∧ w = w' := by
  have c0 := c.isLt
  unfold e_dbl
  rw [cI_toNat]
  obtain ⟨x, hx⟩ : ∃ x : Int, x = (c.toNat : Int) := ⟨_, rfl⟩
  have x0 : 0 ≤ x := by omega
  have x1 : x < 4294967296 := by omega
  rw [← hx]
  clear hx c0
  go_enter Tryz.func117, Tryz.ntmps117
  go_wp2
  all_goals go_ret
  all_goals refine ⟨congrArg (fun z => Ending.returned (.int .u32 z)) ?_, rfl⟩
  all_goals first | rfl | omega | (simp; omega) | (unfold wrap32; omega) | (simp [wrap32]; omega)

theorem e_half_calls (w : World) (c : BitVec 32) : Calls Tryz.prog 118 #[.int .u32 (c.toNat : Int)] w fun e w' => e = .returned (.int .u32 ((e_half c).toNat : Int)) ∧ w = w' := by
  have c0 := c.isLt
  unfold e_half
  rw [cI_toNat]
  obtain ⟨x, hx⟩ : ∃ x : Int, x = (c.toNat : Int) := ⟨_, rfl⟩
  have x0 : 0 ≤ x := by omega
  have x1 : x < 4294967296 := by omega
  rw [← hx]
  clear hx c0
  go_enter Tryz.func118, Tryz.ntmps118
  go_wp2
  all_goals go_ret
  all_goals refine ⟨congrArg (fun z => Ending.returned (.int .u32 z)) ?_, rfl⟩
  all_goals first | rfl | omega | (simp; omega) | (unfold wrap32; omega) | (simp [wrap32]; omega)

theorem e_neg_calls (w : World) (c : BitVec 32) : Calls Tryz.prog 119 #[.int .u32 (c.toNat : Int)] w fun e w' => e = .returned (.int .u32 ((e_neg c).toNat : Int)) ∧ w = w' := by
  have c0 := c.isLt
  unfold e_neg
  rw [cI_toNat]
  obtain ⟨x, hx⟩ : ∃ x : Int, x = (c.toNat : Int) := ⟨_, rfl⟩
  have x0 : 0 ≤ x := by omega
  have x1 : x < 4294967296 := by omega
  rw [← hx]
  clear hx c0
  go_enter Tryz.func119, Tryz.ntmps119
  go_wp2
  all_goals go_ret
  all_goals refine ⟨congrArg (fun z => Ending.returned (.int .u32 z)) ?_, rfl⟩
  all_goals first | rfl | omega | (simp; omega) | (unfold wrap32; omega) | (simp [wrap32]; omega)

theorem e_abs_calls (w : World) (c : BitVec 32) : Calls Tryz.prog 120 #[.int .u32 (c.toNat : Int)] w fun e w' => e = .returned (.int .u32 ((e_abs c).toNat : Int)) ∧ w = w' := by
  have c0 := c.isLt
  unfold e_abs
  rw [cI_toNat]
  obtain ⟨x, hx⟩ : ∃ x : Int, x = (c.toNat : Int) := ⟨_, rfl⟩
  have x0 : 0 ≤ x := by omega
  have x1 : x < 4294967296 := by omega
  rw [← hx]
  clear hx c0
  go_enter Tryz.func120, Tryz.ntmps120
  go_wp2
  all_goals go_ret
  all_goals refine ⟨congrArg (fun z => Ending.returned (.int .u32 z)) ?_, rfl⟩
  all_goals first | rfl | omega | (simp; omega) | (unfold wrap32; omega) | (simp [wrap32]; omega)

theorem e_inv_calls (w : World) (c : BitVec 32) : Calls Tryz.prog 121 #[.int .u32 (c.toNat : Int)] w fun e w' => e = .returned (.int .u32 ((e_inv c).toNat : Int)) ∧ w = w' := by
  have c0 := c.isLt
  unfold e_inv
  have HB : bits .xor .u32 IntKind.u32.max (c.toNat : Int) = ((~~~ c).toNat : Int) := bits_not32 c
  generalize ((~~~ c).toNat : Int) = z at *
  generalize (c.toNat : Int) = x at *
  go_enter Tryz.func121, Tryz.ntmps121
  go_wp2
  go_ret
  exact ⟨rfl, rfl⟩

theorem e_zeq_calls (w : World) (c : BitVec 32) : Calls Tryz.prog 122 #[.int .u32 (c.toNat : Int)] w fun e w' => e = .returned (.int .u32 ((e_zeq c).toNat : Int)) ∧ w = w' := by
  have c0 := c.isLt
  unfold e_zeq
  have HF := Lib.hid (fun W b => cFlag_any W b)
  go_enter Tryz.func122, Tryz.ntmps122
  go_wp2_with (refine (HF.out _ _).mono ?_; rintro e w' ⟨rfl, rfl⟩)
  go_ret
  exact ⟨rfl, rfl⟩

theorem e_zlt_calls (w : World) (c : BitVec 32) : Calls Tryz.prog 124 #[.int .u32 (c.toNat : Int)] w fun e w' => e = .returned (.int .u32 ((e_zlt c).toNat : Int)) ∧ w = w' := by
  have c0 := c.isLt
  unfold e_zlt
  have HF := Lib.hid (fun W b => cFlag_any W b)
  go_enter Tryz.func124, Tryz.ntmps124
  go_wp2_with (refine (HF.out _ _).mono ?_; rintro e w' ⟨rfl, rfl⟩)
  go_ret
  exact ⟨rfl, rfl⟩

theorem e_zgt_calls (w : World) (c : BitVec 32) : Calls Tryz.prog 125 #[.int .u32 (c.toNat : Int)] w fun e w' => e = .returned (.int .u32 ((e_zgt c).toNat : Int)) ∧ w = w' := by
  have c0 := c.isLt
  unfold e_zgt
  have HF := Lib.hid (fun W b => cFlag_any W b)
  go_enter Tryz.func125, Tryz.ntmps125
  go_wp2_with (refine (HF.out _ _).mono ?_; rintro e w' ⟨rfl, rfl⟩)
  go_ret
  exact ⟨rfl, rfl⟩

theorem e_cellp_calls (w : World) (c : BitVec 32) : Calls Tryz.prog 126 #[.int .u32 (c.toNat : Int)] w fun e w' => e = .returned (.int .u32 ((e_cellp c).toNat : Int)) ∧ w = w' := by
  have c0 := c.isLt
  unfold e_cellp
  rw [cI_toNat]
  obtain ⟨x, hx⟩ : ∃ x : Int, x = (c.toNat : Int) := ⟨_, rfl⟩
  have x0 : 0 ≤ x := by omega
  have x1 : x < 4294967296 := by omega
  rw [← hx]
  clear hx c0
  go_enter Tryz.func126, Tryz.ntmps126
  go_wp2
  all_goals go_ret
  all_goals refine ⟨congrArg (fun z => Ending.returned (.int .u32 z)) ?_, rfl⟩
  all_goals first | rfl | omega | (simp; omega) | (unfold wrap32; omega) | (simp [wrap32]; omega)

theorem e_cells_calls (w : World) (c : BitVec 32) : Calls Tryz.prog 127 #[.int .u32 (c.toNat : Int)] w fun e w' => e = .returned (.int .u32 ((e_cells c).toNat : Int)) ∧ w = w' := by
  have c0 := c.isLt
  unfold e_cells
  rw [cI_toNat]
  obtain ⟨x, hx⟩ : ∃ x : Int, x = (c.toNat : Int) := ⟨_, rfl⟩
  have x0 : 0 ≤ x := by omega
  have x1 : x < 4294967296 := by omega
  rw [← hx]
  clear hx c0
  go_enter Tryz.func127, Tryz.ntmps127
  go_wp2
  all_goals go_ret
  all_goals refine ⟨congrArg (fun z => Ending.returned (.int .u32 z)) ?_, rfl⟩
  all_goals first | rfl | omega | (simp; omega) | (unfold wrap32; omega) | (simp [wrap32]; omega)

theorem e_chars_calls (w : World) (c : BitVec 32) : Calls Tryz.prog 128 #[.int .u32 (c.toNat : Int)] w fun e w' => e = .returned (.int .u32 ((e_chars c).toNat : Int)) ∧ w = w' := by
  have c0 := c.isLt
  unfold e_chars
  go_enter Tryz.func128, Tryz.ntmps128
  go_wp2
  go_ret
  exact ⟨rfl, rfl⟩

theorem e_align_calls (w : World) (c : BitVec 32) : Calls Tryz.prog 129 #[.int .u32 (c.toNat : Int)] w fun e w' => e = .returned (.int .u32 ((e_align c).toNat : Int)) ∧ w = w' := by
  have c0 := c.isLt
  unfold e_align
  rw [cI_toNat]
  obtain ⟨x, hx⟩ : ∃ x : Int, x = (c.toNat : Int) := ⟨_, rfl⟩
  have x0 : 0 ≤ x := by omega
  have x1 : x < 4294967296 := by omega
  rw [← hx]
  clear hx c0
  go_enter Tryz.func129, Tryz.ntmps129
  go_wp2
  all_goals go_ret
  all_goals refine ⟨congrArg (fun z => Ending.returned (.int .u32 z)) ?_, rfl⟩
  all_goals first | rfl | omega | (simp; omega) | (unfold wrap32; omega) | (simp [wrap32]; omega)

theorem e_add_calls (w : World) (c d : BitVec 32) : Calls Tryz.prog 130 #[.int .u32 (c.toNat : Int), .int .u32 (d.toNat : Int)] w fun e w' => e = .returned (.int .u32 ((e_add c d).toNat : Int)) ∧ w = w' := by
  have c0 := c.isLt
  have d0 := d.isLt
  unfold e_add
  rw [cI_toNat]
  obtain ⟨x, hx⟩ : ∃ x : Int, x = (c.toNat : Int) := ⟨_, rfl⟩
  obtain ⟨y, hy⟩ : ∃ y : Int, y = (d.toNat : Int) := ⟨_, rfl⟩
  have x0 : 0 ≤ x := by omega
  have x1 : x < 4294967296 := by omega
  have y0 : 0 ≤ y := by omega
  have y1 : y < 4294967296 := by omega
  rw [← hx, ← hy]
  clear hx hy c0 d0
  go_enter Tryz.func130, Tryz.ntmps130
  go_wp2
  all_goals go_ret
  all_goals refine ⟨congrArg (fun z => Ending.returned (.int .u32 z)) ?_, rfl⟩
  all_goals first | rfl | omega | (simp; omega)

theorem e_sub_calls (w : World) (c d : BitVec 32) : Calls Tryz.prog 131 #[.int .u32 (c.toNat : Int), .int .u32 (d.toNat : Int)] w fun e w' => e = .returned (.int .u32 ((e_sub c d).toNat : Int)) ∧ w = w' := by
  have c0 := c.isLt
  have d0 := d.isLt
  unfold e_sub
  rw [cI_toNat]
  obtain ⟨x, hx⟩ : ∃ x : Int, x = (c.toNat : Int) := ⟨_, rfl⟩
  obtain ⟨y, hy⟩ : ∃ y : Int, y = (d.toNat : Int) := ⟨_, rfl⟩
  have x0 : 0 ≤ x := by omega
  have x1 : x < 4294967296 := by omega
  have y0 : 0 ≤ y := by omega
  have y1 : y < 4294967296 := by omega
  rw [← hx, ← hy]
  clear hx hy c0 d0
  go_enter Tryz.func131, Tryz.ntmps131
  go_wp2
  all_goals go_ret
  all_goals refine ⟨congrArg (fun z => Ending.returned (.int .u32 z)) ?_, rfl⟩
  all_goals first | rfl | omega | (simp; omega)

theorem e_mul_calls (w : World) (c d : BitVec 32) : Calls Tryz.prog 132 #[.int .u32 (c.toNat : Int), .int .u32 (d.toNat : Int)] w fun e w' => e = .returned (.int .u32 ((e_mul c d).toNat : Int)) ∧ w = w' := by
  have c0 := c.isLt
  have d0 := d.isLt
  unfold e_mul
  rw [cI_toNat]
  obtain ⟨x, hx⟩ : ∃ x : Int, x = (c.toNat : Int) := ⟨_, rfl⟩
  obtain ⟨y, hy⟩ : ∃ y : Int, y = (d.toNat : Int) := ⟨_, rfl⟩
  have x0 : 0 ≤ x := by omega
  have x1 : x < 4294967296 := by omega
  have y0 : 0 ≤ y := by omega
  have y1 : y < 4294967296 := by omega
  rw [← hx, ← hy]
  clear hx hy c0 d0
  go_enter Tryz.func132, Tryz.ntmps132
  go_wp2
  all_goals go_ret
  all_goals refine ⟨congrArg (fun z => Ending.returned (.int .u32 z)) ?_, rfl⟩
  all_goals first | rfl | omega | (simp; omega)

theorem e_min_calls (w : World) (c d : BitVec 32) : Calls Tryz.prog 133 #[.int .u32 (c.toNat : Int), .int .u32 (d.toNat : Int)] w fun e w' => e = .returned (.int .u32 ((e_min c d).toNat : Int)) ∧ w = w' := by
  have c0 := c.isLt
  have d0 := d.isLt
  unfold e_min
  rw [cI_toNat]
  obtain ⟨x, hx⟩ : ∃ x : Int, x = (c.toNat : Int) := ⟨_, rfl⟩
  obtain ⟨y, hy⟩ : ∃ y : Int, y = (d.toNat : Int) := ⟨_, rfl⟩
  have x0 : 0 ≤ x := by omega
  have x1 : x < 4294967296 := by omega
  have y0 : 0 ≤ y := by omega
  have y1 : y < 4294967296 := by omega
  rw [← hx, ← hy]
  clear hx hy c0 d0
  go_enter Tryz.func133, Tryz.ntmps133
  go_wp2
  all_goals go_ret
  all_goals refine ⟨congrArg (fun z => Ending.returned (.int .u32 z)) ?_, rfl⟩
  all_goals first | rfl | omega | (simp; omega)

theorem e_max_calls (w : World) (c d : BitVec 32) : Calls Tryz.prog 134 #[.int .u32 (c.toNat : Int), .int .u32 (d.toNat : Int)] w fun e w' => e = .returned (.int .u32 ((e_max c d).toNat : Int)) ∧ w = w' := by
  have c0 := c.isLt
  have d0 := d.isLt
  unfold e_max
  rw [cI_toNat]
  obtain ⟨x, hx⟩ : ∃ x : Int, x = (c.toNat : Int) := ⟨_, rfl⟩
  obtain ⟨y, hy⟩ : ∃ y : Int, y = (d.toNat : Int) := ⟨_, rfl⟩
  have x0 : 0 ≤ x := by omega
  have x1 : x < 4294967296 := by omega
  have y0 : 0 ≤ y := by omega
  have y1 : y < 4294967296 := by omega
  rw [← hx, ← hy]
  clear hx hy c0 d0
  go_enter Tryz.func134, Tryz.ntmps134
  go_wp2
  all_goals go_ret
  all_goals refine ⟨congrArg (fun z => Ending.returned (.int .u32 z)) ?_, rfl⟩
  all_goals first | rfl | omega | (simp; omega)

theorem e_and_calls (w : World) (c d : BitVec 32) : Calls Tryz.prog 135 #[.int .u32 (c.toNat : Int), .int .u32 (d.toNat : Int)] w fun e w' => e = .returned (.int .u32 ((e_and c d).toNat : Int)) ∧ w = w' := by
  have c0 := c.isLt
  have d0 := d.isLt
  unfold e_and
  have HB := bits_and32 c d
  generalize ((c &&& d).toNat : Int) = z at *
  generalize (c.toNat : Int) = x at *
  generalize (d.toNat : Int) = y at *
  go_enter Tryz.func135, Tryz.ntmps135
  go_wp2
  go_ret
  exact ⟨rfl, rfl⟩

theorem e_or_calls (w : World) (c d : BitVec 32) : Calls Tryz.prog 136 #[.int .u32 (c.toNat : Int), .int .u32 (d.toNat : Int)] w fun e w' => e = .returned (.int .u32 ((e_or c d).toNat : Int)) ∧ w = w' := by
  have c0 := c.isLt
  have d0 := d.isLt
  unfold e_or
  have HB := bits_or32 c d
  generalize ((c ||| d).toNat : Int) = z at *
  generalize (c.toNat : Int) = x at *
  generalize (d.toNat : Int) = y at *
  go_enter Tryz.func136, Tryz.ntmps136
  go_wp2
  go_ret
  exact ⟨rfl, rfl⟩

theorem e_xor_calls (w : World) (c d : BitVec 32) : Calls Tryz.prog 137 #[.int .u32 (c.toNat : Int), .int .u32 (d.toNat : Int)] w fun e w' => e = .returned (.int .u32 ((e_xor c d).toNat : Int)) ∧ w = w' := by
  have c0 := c.isLt
  have d0 := d.isLt
  unfold e_xor
  have HB := bits_xor32 c d
  generalize ((c ^^^ d).toNat : Int) = z at *
  generalize (c.toNat : Int) = x at *
  generalize (d.toNat : Int) = y at *
  go_enter Tryz.func137, Tryz.ntmps137
  go_wp2
  go_ret
  exact ⟨rfl, rfl⟩

theorem e_lsh_calls (w : World) (c d : BitVec 32) : Calls Tryz.prog 138 #[.int .u32 (c.toNat : Int), .int .u32 (d.toNat : Int)] w fun e w' => e = .returned (.int .u32 ((e_lsh c d).toNat : Int)) ∧ w = w' := by
  have c0 := c.isLt
  have d0 := d.isLt
  unfold e_lsh
  rw [cI_toNat]
  have HS := Lib.hid (fun W => cShiftL_any W (c.toNat : Int) (d.toNat : Int) (by omega))
  rw [Int.toNat_natCast] at HS
  generalize (c.toNat : Int) * 2 ^ min d.toNat 32 % 4294967296 = z at *
  go_enter Tryz.func138, Tryz.ntmps138
  go_wp2_with (refine (HS.out _).mono ?_; rintro e w' ⟨rfl, rfl⟩)
  go_ret
  exact ⟨rfl, rfl⟩

theorem e_rsh_calls (w : World) (c d : BitVec 32) : Calls Tryz.prog 140 #[.int .u32 (c.toNat : Int), .int .u32 (d.toNat : Int)] w fun e w' => e = .returned (.int .u32 ((e_rsh c d).toNat : Int)) ∧ w = w' := by
  have c0 := c.isLt
  have d0 := d.isLt
  unfold e_rsh
  rw [cI_toNat]
  have HS := Lib.hid (fun W => cShiftR_any W (c.toNat : Int) (d.toNat : Int) (by omega))
  rw [Int.toNat_natCast] at HS
  have hz : (c.toNat : Int) / 2 ^ min d.toNat 32 % 4294967296 = (c.toNat : Int) / 2 ^ min d.toNat 32 := Int.emod_eq_of_lt (Int.ediv_nonneg (by omega) (Int.le_of_lt (Int.pow_pos (by decide)))) (Int.lt_of_le_of_lt (Int.ediv_le_self _ (by omega)) (by omega))
  rw [hz]
  clear hz
  generalize (c.toNat : Int) / 2 ^ min d.toNat 32 = z at *
  go_enter Tryz.func140, Tryz.ntmps140
  go_wp2_with (refine (HS.out _).mono ?_; rintro e w' ⟨rfl, rfl⟩)
  go_ret
  exact ⟨rfl, rfl⟩

theorem e_eq_calls (w : World) (c d : BitVec 32) : Calls Tryz.prog 141 #[.int .u32 (c.toNat : Int), .int .u32 (d.toNat : Int)] w fun e w' => e = .returned (.int .u32 ((e_eq c d).toNat : Int)) ∧ w = w' := by
  have c0 := c.isLt
  have d0 := d.isLt
  unfold e_eq
  have HF := Lib.hid (fun W b => cFlag_any W b)
  go_enter Tryz.func141, Tryz.ntmps141
  go_wp2_with (refine (HF.out _ _).mono ?_; rintro e w' ⟨rfl, rfl⟩)
  go_ret
  exact ⟨rfl, rfl⟩

theorem e_ne_calls (w : World) (c d : BitVec 32) : Calls Tryz.prog 142 #[.int .u32 (c.toNat : Int), .int .u32 (d.toNat : Int)] w fun e w' => e = .returned (.int .u32 ((e_ne c d).toNat : Int)) ∧ w = w' := by
  have c0 := c.isLt
  have d0 := d.isLt
  unfold e_ne
  have HF := Lib.hid (fun W b => cFlag_any W b)
  go_enter Tryz.func142, Tryz.ntmps142
  go_wp2_with (refine (HF.out _ _).mono ?_; rintro e w' ⟨rfl, rfl⟩)
  go_ret
  exact ⟨rfl, rfl⟩

theorem e_lt_calls (w : World) (c d : BitVec 32) : Calls Tryz.prog 143 #[.int .u32 (c.toNat : Int), .int .u32 (d.toNat : Int)] w fun e w' => e = .returned (.int .u32 ((e_lt c d).toNat : Int)) ∧ w = w' := by
  have c0 := c.isLt
  have d0 := d.isLt
  unfold e_lt
  have HF := Lib.hid (fun W b => cFlag_any W b)
  go_enter Tryz.func143, Tryz.ntmps143
  go_wp2_with (refine (HF.out _ _).mono ?_; rintro e w' ⟨rfl, rfl⟩)
  go_ret
  exact ⟨rfl, rfl⟩

theorem e_gt_calls (w : World) (c d : BitVec 32) : Calls Tryz.prog 144 #[.int .u32 (c.toNat : Int), .int .u32 (d.toNat : Int)] w fun e w' => e = .returned (.int .u32 ((e_gt c d).toNat : Int)) ∧ w = w' := by
  have c0 := c.isLt
  have d0 := d.isLt
  unfold e_gt
  have HF := Lib.hid (fun W b => cFlag_any W b)
  go_enter Tryz.func144, Tryz.ntmps144
  go_wp2_with (refine (HF.out _ _).mono ?_; rintro e w' ⟨rfl, rfl⟩)
  go_ret
  exact ⟨rfl, rfl⟩

theorem e_ult_calls (w : World) (c d : BitVec 32) : Calls Tryz.prog 145 #[.int .u32 (c.toNat : Int), .int .u32 (d.toNat : Int)] w fun e w' => e = .returned (.int .u32 ((e_ult c d).toNat : Int)) ∧ w = w' := by
  have c0 := c.isLt
  have d0 := d.isLt
  unfold e_ult
  have HF := Lib.hid (fun W b => cFlag_any W b)
  go_enter Tryz.func145, Tryz.ntmps145
  go_wp2_with (refine (HF.out _ _).mono ?_; rintro e w' ⟨rfl, rfl⟩)
  go_ret
  exact ⟨rfl, rfl⟩

theorem e_ugt_calls (w : World) (c d : BitVec 32) : Calls Tryz.prog 146 #[.int .u32 (c.toNat : Int), .int .u32 (d.toNat : Int)] w fun e w' => e = .returned (.int .u32 ((e_ugt c d).toNat : Int)) ∧ w = w' := by
  have c0 := c.isLt
  have d0 := d.isLt
  unfold e_ugt
  have HF := Lib.hid (fun W b => cFlag_any W b)
  go_enter Tryz.func146, Tryz.ntmps146
  go_wp2_with (refine (HF.out _ _).mono ?_; rintro e w' ⟨rfl, rfl⟩)
  go_ret
  exact ⟨rfl, rfl⟩

end Go.Proofs.YtfnjjanknfmibaaGreat
