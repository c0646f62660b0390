/-
  Plain primitives: the names that make one cell of one, or of two. Written by draft/genpl4.py.
-/
import Derived.Test.YtfnjjanknfmibaaGreatPlYesA
namespace Go.Proofs.YtfnjjanknfmibaaGreat
open Go.RowKit
set_option linter.unusedVariables false

theorem entered_one1 : Entered 115 := entered_of Tryz.func115 (by kernel_rfl) rfl
theorem entered_one2 : Entered 116 := entered_of Tryz.func116 (by kernel_rfl) rfl
theorem entered_one3 : Entered 117 := entered_of Tryz.func117 (by kernel_rfl) rfl
theorem entered_one4 : Entered 118 := entered_of Tryz.func118 (by kernel_rfl) rfl
theorem entered_one5 : Entered 119 := entered_of Tryz.func119 (by kernel_rfl) rfl
theorem entered_one6 : Entered 120 := entered_of Tryz.func120 (by kernel_rfl) rfl
theorem entered_one7 : Entered 121 := entered_of Tryz.func121 (by kernel_rfl) rfl
theorem entered_one8 : Entered 122 := entered_of Tryz.func122 (by kernel_rfl) rfl
theorem entered_one9 : Entered 124 := entered_of Tryz.func124 (by kernel_rfl) rfl
theorem entered_one10 : Entered 125 := entered_of Tryz.func125 (by kernel_rfl) rfl
theorem entered_one11 : Entered 126 := entered_of Tryz.func126 (by kernel_rfl) rfl
theorem entered_one12 : Entered 127 := entered_of Tryz.func127 (by kernel_rfl) rfl
theorem entered_one13 : Entered 128 := entered_of Tryz.func128 (by kernel_rfl) rfl
theorem entered_one14 : Entered 129 := entered_of Tryz.func129 (by kernel_rfl) rfl
theorem entered_two1 : Entered 130 := entered_of Tryz.func130 (by kernel_rfl) rfl
theorem entered_two2 : Entered 131 := entered_of Tryz.func131 (by kernel_rfl) rfl
theorem entered_two3 : Entered 132 := entered_of Tryz.func132 (by kernel_rfl) rfl
theorem entered_two4 : Entered 133 := entered_of Tryz.func133 (by kernel_rfl) rfl
theorem entered_two5 : Entered 134 := entered_of Tryz.func134 (by kernel_rfl) rfl
theorem entered_two6 : Entered 135 := entered_of Tryz.func135 (by kernel_rfl) rfl
theorem entered_two7 : Entered 136 := entered_of Tryz.func136 (by kernel_rfl) rfl
theorem entered_two8 : Entered 137 := entered_of Tryz.func137 (by kernel_rfl) rfl
theorem entered_two9 : Entered 138 := entered_of Tryz.func138 (by kernel_rfl) rfl
theorem entered_two10 : Entered 140 := entered_of Tryz.func140 (by kernel_rfl) rfl
theorem entered_two11 : Entered 141 := entered_of Tryz.func141 (by kernel_rfl) rfl
theorem entered_two12 : Entered 142 := entered_of Tryz.func142 (by kernel_rfl) rfl
theorem entered_two13 : Entered 143 := entered_of Tryz.func143 (by kernel_rfl) rfl
theorem entered_two14 : Entered 144 := entered_of Tryz.func144 (by kernel_rfl) rfl
theorem entered_two15 : Entered 145 := entered_of Tryz.func145 (by kernel_rfl) rfl
theorem entered_two16 : Entered 146 := entered_of Tryz.func146 (by kernel_rfl) rfl

set_option maxRecDepth 100000 in
theorem ofOne_yes (gs gr gm : Nat) (s : ByteArray) (k : Nat) (g : BitVec 32 → BitVec 32) (hE : Entered k) (hG : ∀ W c, Calls Tryz.prog k #[.int .u32 ((c : BitVec 32).toNat : Int)] W fun e w' => e = .returned (.int .u32 ((g c).toNat : Int)) ∧ W = w')
    (h1 : ∀ W, Calls Tryz.prog 45 #[.string s] W fun e w' => e = .returned (.func (.func k) #[] #[]) ∧ W = w') : SaysYes 33 #[.string s] (Does gs gr gm 1 (pureE fun c => ([g (c.getD 0 0#32)], 0))) := by
  intro W
  have f1 := run_fn_eql 69 under_fn1
  go_enter Tryz.func33, Tryz.ntmps33
  go_wp2_with (refine (h1 _).mono ?_; rintro e w' ⟨rfl, rfl⟩)
  go_ret
  refine ⟨_, _, _, rfl, Keeps.alloc [] W _, Does.pure _ (entered_of Tryz.func46 (by kernel_rfl) rfl) (fun c _ => by simp) ?_⟩
  intro w M c hkw hcl hcells
  obtain ⟨c0, rfl⟩ := List.length_eq_one_iff.1 hcl
  exact ofOne1_gives w W.heap.size M 1 k c0 (g c0) (hkw.cell ((cell_of_row _ _ _ _ _ (0, 0) (heap_alloc_new _ _)).trans rfl) (by simp)) (hcells 0 c0 rfl) (Nat.le_refl _) hE (fun W => hG W c0)

theorem two_of {c : List (BitVec 32)} (h : c.length = 2) : ∃ a b, c = [a, b] := by
  match c, h with
  | [a, b], _ => exact ⟨a, b, rfl⟩
theorem three_of {c : List (BitVec 32)} (h : c.length = 3) : ∃ a b d, c = [a, b, d] := by
  match c, h with
  | [a, b, d], _ => exact ⟨a, b, d, rfl⟩
theorem four_of {c : List (BitVec 32)} (h : c.length = 4) : ∃ a b d g, c = [a, b, d, g] := by
  match c, h with
  | [a, b, d, g], _ => exact ⟨a, b, d, g, rfl⟩

set_option maxRecDepth 100000 in
theorem ofTwo_yes (gs gr gm : Nat) (s : ByteArray) (h0 : (s.toList == [87, 73, 84, 72, 73, 78]) = false) (k : Nat) (g : BitVec 32 → BitVec 32 → BitVec 32) (hE : Entered k) (hG : ∀ W c d, Calls Tryz.prog k #[.int .u32 ((c : BitVec 32).toNat : Int), .int .u32 ((d : BitVec 32).toNat : Int)] W fun e w' => e = .returned (.int .u32 ((g c d).toNat : Int)) ∧ W = w')
    (h1 : ∀ W, Calls Tryz.prog 48 #[.string s] W fun e w' => e = .returned (.func (.func k) #[] #[]) ∧ W = w') : SaysYes 34 #[.string s] (Does gs gr gm 2 (pureE fun c => ([g (c.getD 0 0#32) (c.getD 1 0#32)], 0))) := by
  intro W
  have f1 := run_fn_eql 91 under_fn2
  go_enter Tryz.func34, Tryz.ntmps34
  go_wp2_with (refine (h1 _).mono ?_; rintro e w' ⟨rfl, rfl⟩)
  go_ret
  refine ⟨_, _, _, rfl, Keeps.alloc [] W _, Does.pure _ (entered_of Tryz.func49 (by kernel_rfl) rfl) (fun c _ => by simp) ?_⟩
  intro w M c hkw hcl hcells
  obtain ⟨c0, c1, rfl⟩ := two_of hcl
  exact ofTwo1_gives w W.heap.size M 2 k c0 c1 (g c0 c1) (hkw.cell ((cell_of_row _ _ _ _ _ (0, 0) (heap_alloc_new _ _)).trans rfl) (by simp)) (hcells 0 c0 rfl) (hcells 1 c1 rfl) (Nat.le_refl _) hE (fun W => hG W c0 c1)

set_option maxRecDepth 100000 in
theorem yes_within (gs gr gm : Nat) (s : ByteArray) (hs : (s.toList == [87, 73, 84, 72, 73, 78]) = true) : SaysYes 34 #[.string s] (Does gs gr gm 3 (pureE fun c => ([e_within (c.getD 0 0#32) (c.getD 1 0#32) (c.getD 2 0#32)], 0))) := by
  intro W
  go_enter Tryz.func34, Tryz.ntmps34
  go_wp2
  go_ret
  refine ⟨_, _, _, rfl, Keeps.refl [] W, Does.pure _ (entered_of Tryz.func47 (by kernel_rfl) rfl) (fun c _ => by simp) ?_⟩
  intro w M c hkw hcl hcells
  obtain ⟨c0, c1, c2, rfl⟩ := three_of hcl
  exact within_gives w M 3 c0 c1 c2 (Nat.le_refl _) (hcells 0 c0 rfl) (hcells 1 c1 rfl) (hcells 2 c2 rfl)

set_option maxRecDepth 100000 in
theorem yes_inc (gs gr gm : Nat) (s : ByteArray) (hs : (s.toList == [49, 43]) = true) (hn : noneOf s []) : SaysYes 33 #[.string s] (Does gs gr gm 1 (pureE fun c => ([e_inc (c.getD 0 0#32)], 0))) := by
  refine ofOne_yes gs gr gm s 115 e_inc entered_one1 (fun W c => e_inc_calls W c) ?_
  intro W
  clear hn
  go_enter Tryz.func45, Tryz.ntmps45
  go_wp2
  go_ret
  exact ⟨rfl, rfl⟩

set_option maxRecDepth 100000 in
theorem yes_charp (gs gr gm : Nat) (s : ByteArray) (hs : (s.toList == [67, 72, 65, 82, 43]) = true) (hn : noneOf s [[49, 43]]) : SaysYes 33 #[.string s] (Does gs gr gm 1 (pureE fun c => ([e_inc (c.getD 0 0#32)], 0))) := by
  refine ofOne_yes gs gr gm s 115 e_inc entered_one1 (fun W c => e_inc_calls W c) ?_
  intro W
  have n0 := hn.at [49, 43] (by simp)
  clear hn
  go_enter Tryz.func45, Tryz.ntmps45
  go_wp2
  go_ret
  exact ⟨rfl, rfl⟩

set_option maxRecDepth 100000 in
theorem yes_dec (gs gr gm : Nat) (s : ByteArray) (hs : (s.toList == [49, 45]) = true) (hn : noneOf s [[49, 43], [67, 72, 65, 82, 43]]) : SaysYes 33 #[.string s] (Does gs gr gm 1 (pureE fun c => ([e_dec (c.getD 0 0#32)], 0))) := by
  refine ofOne_yes gs gr gm s 116 e_dec entered_one2 (fun W c => e_dec_calls W c) ?_
  intro W
  have n0 := hn.at [49, 43] (by simp)
  have n1 := hn.at [67, 72, 65, 82, 43] (by simp)
  clear hn
  go_enter Tryz.func45, Tryz.ntmps45
  go_wp2
  go_ret
  exact ⟨rfl, rfl⟩

set_option maxRecDepth 100000 in
theorem yes_dbl (gs gr gm : Nat) (s : ByteArray) (hs : (s.toList == [50, 42]) = true) (hn : noneOf s [[49, 43], [67, 72, 65, 82, 43], [49, 45]]) : SaysYes 33 #[.string s] (Does gs gr gm 1 (pureE fun c => ([e_dbl (c.getD 0 0#32)], 0))) := by
  refine ofOne_yes gs gr gm s 117 e_dbl entered_one3 (fun W c => e_dbl_calls W c) ?_
  intro W
  have n0 := hn.at [49, 43] (by simp)
  have n1 := hn.at [67, 72, 65, 82, 43] (by simp)
  have n2 := hn.at [49, 45] (by simp)
  clear hn
  go_enter Tryz.func45, Tryz.ntmps45
  go_wp2
  go_ret
  exact ⟨rfl, rfl⟩

set_option maxRecDepth 100000 in
theorem yes_half (gs gr gm : Nat) (s : ByteArray) (hs : (s.toList == [50, 47]) = true) (hn : noneOf s [[49, 43], [67, 72, 65, 82, 43], [49, 45], [50, 42]]) : SaysYes 33 #[.string s] (Does gs gr gm 1 (pureE fun c => ([e_half (c.getD 0 0#32)], 0))) := by
  refine ofOne_yes gs gr gm s 118 e_half entered_one4 (fun W c => e_half_calls W c) ?_
  intro W
  have n0 := hn.at [49, 43] (by simp)
  have n1 := hn.at [67, 72, 65, 82, 43] (by simp)
  have n2 := hn.at [49, 45] (by simp)
  have n3 := hn.at [50, 42] (by simp)
  clear hn
  go_enter Tryz.func45, Tryz.ntmps45
  go_wp2
  go_ret
  exact ⟨rfl, rfl⟩

set_option maxRecDepth 100000 in
theorem yes_neg (gs gr gm : Nat) (s : ByteArray) (hs : (s.toList == [78, 69, 71, 65, 84, 69]) = true) (hn : noneOf s [[49, 43], [67, 72, 65, 82, 43], [49, 45], [50, 42], [50, 47]]) : SaysYes 33 #[.string s] (Does gs gr gm 1 (pureE fun c => ([e_neg (c.getD 0 0#32)], 0))) := by
  refine ofOne_yes gs gr gm s 119 e_neg entered_one5 (fun W c => e_neg_calls W c) ?_
  intro W
  have n0 := hn.at [49, 43] (by simp)
  have n1 := hn.at [67, 72, 65, 82, 43] (by simp)
  have n2 := hn.at [49, 45] (by simp)
  have n3 := hn.at [50, 42] (by simp)
  have n4 := hn.at [50, 47] (by simp)
  clear hn
  go_enter Tryz.func45, Tryz.ntmps45
  go_wp2
  go_ret
  exact ⟨rfl, rfl⟩

set_option maxRecDepth 100000 in
theorem yes_abs (gs gr gm : Nat) (s : ByteArray) (hs : (s.toList == [65, 66, 83]) = true) (hn : noneOf s [[49, 43], [67, 72, 65, 82, 43], [49, 45], [50, 42], [50, 47], [78, 69, 71, 65, 84, 69]]) : SaysYes 33 #[.string s] (Does gs gr gm 1 (pureE fun c => ([e_abs (c.getD 0 0#32)], 0))) := by
  refine ofOne_yes gs gr gm s 120 e_abs entered_one6 (fun W c => e_abs_calls W c) ?_
  intro W
  have n0 := hn.at [49, 43] (by simp)
  have n1 := hn.at [67, 72, 65, 82, 43] (by simp)
  have n2 := hn.at [49, 45] (by simp)
  have n3 := hn.at [50, 42] (by simp)
  have n4 := hn.at [50, 47] (by simp)
  have n5 := hn.at [78, 69, 71, 65, 84, 69] (by simp)
  clear hn
  go_enter Tryz.func45, Tryz.ntmps45
  go_wp2
  go_ret
  exact ⟨rfl, rfl⟩

set_option maxRecDepth 100000 in
theorem yes_inv (gs gr gm : Nat) (s : ByteArray) (hs : (s.toList == [73, 78, 86, 69, 82, 84]) = true) (hn : noneOf s [[49, 43], [67, 72, 65, 82, 43], [49, 45], [50, 42], [50, 47], [78, 69, 71, 65, 84, 69], [65, 66, 83]]) : SaysYes 33 #[.string s] (Does gs gr gm 1 (pureE fun c => ([e_inv (c.getD 0 0#32)], 0))) := by
  refine ofOne_yes gs gr gm s 121 e_inv entered_one7 (fun W c => e_inv_calls W c) ?_
  intro W
  have n0 := hn.at [49, 43] (by simp)
  have n1 := hn.at [67, 72, 65, 82, 43] (by simp)
  have n2 := hn.at [49, 45] (by simp)
  have n3 := hn.at [50, 42] (by simp)
  have n4 := hn.at [50, 47] (by simp)
  have n5 := hn.at [78, 69, 71, 65, 84, 69] (by simp)
  have n6 := hn.at [65, 66, 83] (by simp)
  clear hn
  go_enter Tryz.func45, Tryz.ntmps45
  go_wp2
  go_ret
  exact ⟨rfl, rfl⟩

set_option maxRecDepth 100000 in
theorem yes_zeq (gs gr gm : Nat) (s : ByteArray) (hs : (s.toList == [48, 61]) = true) (hn : noneOf s [[49, 43], [67, 72, 65, 82, 43], [49, 45], [50, 42], [50, 47], [78, 69, 71, 65, 84, 69], [65, 66, 83], [73, 78, 86, 69, 82, 84]]) : SaysYes 33 #[.string s] (Does gs gr gm 1 (pureE fun c => ([e_zeq (c.getD 0 0#32)], 0))) := by
  refine ofOne_yes gs gr gm s 122 e_zeq entered_one8 (fun W c => e_zeq_calls W c) ?_
  intro W
  have n0 := hn.at [49, 43] (by simp)
  have n1 := hn.at [67, 72, 65, 82, 43] (by simp)
  have n2 := hn.at [49, 45] (by simp)
  have n3 := hn.at [50, 42] (by simp)
  have n4 := hn.at [50, 47] (by simp)
  have n5 := hn.at [78, 69, 71, 65, 84, 69] (by simp)
  have n6 := hn.at [65, 66, 83] (by simp)
  have n7 := hn.at [73, 78, 86, 69, 82, 84] (by simp)
  clear hn
  go_enter Tryz.func45, Tryz.ntmps45
  go_wp2
  go_ret
  exact ⟨rfl, rfl⟩

set_option maxRecDepth 100000 in
theorem yes_zlt (gs gr gm : Nat) (s : ByteArray) (hs : (s.toList == [48, 60]) = true) (hn : noneOf s [[49, 43], [67, 72, 65, 82, 43], [49, 45], [50, 42], [50, 47], [78, 69, 71, 65, 84, 69], [65, 66, 83], [73, 78, 86, 69, 82, 84], [48, 61]]) : SaysYes 33 #[.string s] (Does gs gr gm 1 (pureE fun c => ([e_zlt (c.getD 0 0#32)], 0))) := by
  refine ofOne_yes gs gr gm s 124 e_zlt entered_one9 (fun W c => e_zlt_calls W c) ?_
  intro W
  have n0 := hn.at [49, 43] (by simp)
  have n1 := hn.at [67, 72, 65, 82, 43] (by simp)
  have n2 := hn.at [49, 45] (by simp)
  have n3 := hn.at [50, 42] (by simp)
  have n4 := hn.at [50, 47] (by simp)
  have n5 := hn.at [78, 69, 71, 65, 84, 69] (by simp)
  have n6 := hn.at [65, 66, 83] (by simp)
  have n7 := hn.at [73, 78, 86, 69, 82, 84] (by simp)
  have n8 := hn.at [48, 61] (by simp)
  clear hn
  go_enter Tryz.func45, Tryz.ntmps45
  go_wp2
  go_ret
  exact ⟨rfl, rfl⟩

set_option maxRecDepth 100000 in
theorem yes_zgt (gs gr gm : Nat) (s : ByteArray) (hs : (s.toList == [48, 62]) = true) (hn : noneOf s [[49, 43], [67, 72, 65, 82, 43], [49, 45], [50, 42], [50, 47], [78, 69, 71, 65, 84, 69], [65, 66, 83], [73, 78, 86, 69, 82, 84], [48, 61], [48, 60]]) : SaysYes 33 #[.string s] (Does gs gr gm 1 (pureE fun c => ([e_zgt (c.getD 0 0#32)], 0))) := by
  refine ofOne_yes gs gr gm s 125 e_zgt entered_one10 (fun W c => e_zgt_calls W c) ?_
  intro W
  have n0 := hn.at [49, 43] (by simp)
  have n1 := hn.at [67, 72, 65, 82, 43] (by simp)
  have n2 := hn.at [49, 45] (by simp)
  have n3 := hn.at [50, 42] (by simp)
  have n4 := hn.at [50, 47] (by simp)
  have n5 := hn.at [78, 69, 71, 65, 84, 69] (by simp)
  have n6 := hn.at [65, 66, 83] (by simp)
  have n7 := hn.at [73, 78, 86, 69, 82, 84] (by simp)
  have n8 := hn.at [48, 61] (by simp)
  have n9 := hn.at [48, 60] (by simp)
  clear hn
  go_enter Tryz.func45, Tryz.ntmps45
  go_wp2
  go_ret
  exact ⟨rfl, rfl⟩

set_option maxRecDepth 100000 in
theorem yes_cellp (gs gr gm : Nat) (s : ByteArray) (hs : (s.toList == [67, 69, 76, 76, 43]) = true) (hn : noneOf s [[49, 43], [67, 72, 65, 82, 43], [49, 45], [50, 42], [50, 47], [78, 69, 71, 65, 84, 69], [65, 66, 83], [73, 78, 86, 69, 82, 84], [48, 61], [48, 60], [48, 62]]) : SaysYes 33 #[.string s] (Does gs gr gm 1 (pureE fun c => ([e_cellp (c.getD 0 0#32)], 0))) := by
  refine ofOne_yes gs gr gm s 126 e_cellp entered_one11 (fun W c => e_cellp_calls W c) ?_
  intro W
  have n0 := hn.at [49, 43] (by simp)
  have n1 := hn.at [67, 72, 65, 82, 43] (by simp)
  have n2 := hn.at [49, 45] (by simp)
  have n3 := hn.at [50, 42] (by simp)
  have n4 := hn.at [50, 47] (by simp)
  have n5 := hn.at [78, 69, 71, 65, 84, 69] (by simp)
  have n6 := hn.at [65, 66, 83] (by simp)
  have n7 := hn.at [73, 78, 86, 69, 82, 84] (by simp)
  have n8 := hn.at [48, 61] (by simp)
  have n9 := hn.at [48, 60] (by simp)
  have n10 := hn.at [48, 62] (by simp)
  clear hn
  go_enter Tryz.func45, Tryz.ntmps45
  go_wp2
  go_ret
  exact ⟨rfl, rfl⟩

set_option maxRecDepth 100000 in
theorem yes_cells (gs gr gm : Nat) (s : ByteArray) (hs : (s.toList == [67, 69, 76, 76, 83]) = true) (hn : noneOf s [[49, 43], [67, 72, 65, 82, 43], [49, 45], [50, 42], [50, 47], [78, 69, 71, 65, 84, 69], [65, 66, 83], [73, 78, 86, 69, 82, 84], [48, 61], [48, 60], [48, 62], [67, 69, 76, 76, 43]]) : SaysYes 33 #[.string s] (Does gs gr gm 1 (pureE fun c => ([e_cells (c.getD 0 0#32)], 0))) := by
  refine ofOne_yes gs gr gm s 127 e_cells entered_one12 (fun W c => e_cells_calls W c) ?_
  intro W
  have n0 := hn.at [49, 43] (by simp)
  have n1 := hn.at [67, 72, 65, 82, 43] (by simp)
  have n2 := hn.at [49, 45] (by simp)
  have n3 := hn.at [50, 42] (by simp)
  have n4 := hn.at [50, 47] (by simp)
  have n5 := hn.at [78, 69, 71, 65, 84, 69] (by simp)
  have n6 := hn.at [65, 66, 83] (by simp)
  have n7 := hn.at [73, 78, 86, 69, 82, 84] (by simp)
  have n8 := hn.at [48, 61] (by simp)
  have n9 := hn.at [48, 60] (by simp)
  have n10 := hn.at [48, 62] (by simp)
  have n11 := hn.at [67, 69, 76, 76, 43] (by simp)
  clear hn
  go_enter Tryz.func45, Tryz.ntmps45
  go_wp2
  go_ret
  exact ⟨rfl, rfl⟩

set_option maxRecDepth 100000 in
theorem yes_chars (gs gr gm : Nat) (s : ByteArray) (hs : (s.toList == [67, 72, 65, 82, 83]) = true) (hn : noneOf s [[49, 43], [67, 72, 65, 82, 43], [49, 45], [50, 42], [50, 47], [78, 69, 71, 65, 84, 69], [65, 66, 83], [73, 78, 86, 69, 82, 84], [48, 61], [48, 60], [48, 62], [67, 69, 76, 76, 43], [67, 69, 76, 76, 83]]) : SaysYes 33 #[.string s] (Does gs gr gm 1 (pureE fun c => ([e_chars (c.getD 0 0#32)], 0))) := by
  refine ofOne_yes gs gr gm s 128 e_chars entered_one13 (fun W c => e_chars_calls W c) ?_
  intro W
  have n0 := hn.at [49, 43] (by simp)
  have n1 := hn.at [67, 72, 65, 82, 43] (by simp)
  have n2 := hn.at [49, 45] (by simp)
  have n3 := hn.at [50, 42] (by simp)
  have n4 := hn.at [50, 47] (by simp)
  have n5 := hn.at [78, 69, 71, 65, 84, 69] (by simp)
  have n6 := hn.at [65, 66, 83] (by simp)
  have n7 := hn.at [73, 78, 86, 69, 82, 84] (by simp)
  have n8 := hn.at [48, 61] (by simp)
  have n9 := hn.at [48, 60] (by simp)
  have n10 := hn.at [48, 62] (by simp)
  have n11 := hn.at [67, 69, 76, 76, 43] (by simp)
  have n12 := hn.at [67, 69, 76, 76, 83] (by simp)
  clear hn
  go_enter Tryz.func45, Tryz.ntmps45
  go_wp2
  go_ret
  exact ⟨rfl, rfl⟩

set_option maxRecDepth 100000 in
theorem yes_align (gs gr gm : Nat) (s : ByteArray) (hs : (s.toList == [65, 76, 73, 71, 78, 69, 68]) = true) (hn : noneOf s [[49, 43], [67, 72, 65, 82, 43], [49, 45], [50, 42], [50, 47], [78, 69, 71, 65, 84, 69], [65, 66, 83], [73, 78, 86, 69, 82, 84], [48, 61], [48, 60], [48, 62], [67, 69, 76, 76, 43], [67, 69, 76, 76, 83], [67, 72, 65, 82, 83]]) : SaysYes 33 #[.string s] (Does gs gr gm 1 (pureE fun c => ([e_align (c.getD 0 0#32)], 0))) := by
  refine ofOne_yes gs gr gm s 129 e_align entered_one14 (fun W c => e_align_calls W c) ?_
  intro W
  have n0 := hn.at [49, 43] (by simp)
  have n1 := hn.at [67, 72, 65, 82, 43] (by simp)
  have n2 := hn.at [49, 45] (by simp)
  have n3 := hn.at [50, 42] (by simp)
  have n4 := hn.at [50, 47] (by simp)
  have n5 := hn.at [78, 69, 71, 65, 84, 69] (by simp)
  have n6 := hn.at [65, 66, 83] (by simp)
  have n7 := hn.at [73, 78, 86, 69, 82, 84] (by simp)
  have n8 := hn.at [48, 61] (by simp)
  have n9 := hn.at [48, 60] (by simp)
  have n10 := hn.at [48, 62] (by simp)
  have n11 := hn.at [67, 69, 76, 76, 43] (by simp)
  have n12 := hn.at [67, 69, 76, 76, 83] (by simp)
  have n13 := hn.at [67, 72, 65, 82, 83] (by simp)
  clear hn
  go_enter Tryz.func45, Tryz.ntmps45
  go_wp2
  go_ret
  exact ⟨rfl, rfl⟩

set_option maxRecDepth 100000 in
theorem yes_add (gs gr gm : Nat) (s : ByteArray) (hs : (s.toList == [43]) = true) (hn : noneOf s [[87, 73, 84, 72, 73, 78]]) : SaysYes 34 #[.string s] (Does gs gr gm 2 (pureE fun c => ([e_add (c.getD 0 0#32) (c.getD 1 0#32)], 0))) := by
  refine ofTwo_yes gs gr gm s (hn.at _ (by simp)) 130 e_add entered_two1 (fun W c d => e_add_calls W c d) ?_
  intro W
  clear hn
  go_enter Tryz.func48, Tryz.ntmps48
  go_wp2
  go_ret
  exact ⟨rfl, rfl⟩

set_option maxRecDepth 100000 in
theorem yes_sub (gs gr gm : Nat) (s : ByteArray) (hs : (s.toList == [45]) = true) (hn : noneOf s [[87, 73, 84, 72, 73, 78], [43]]) : SaysYes 34 #[.string s] (Does gs gr gm 2 (pureE fun c => ([e_sub (c.getD 0 0#32) (c.getD 1 0#32)], 0))) := by
  refine ofTwo_yes gs gr gm s (hn.at _ (by simp)) 131 e_sub entered_two2 (fun W c d => e_sub_calls W c d) ?_
  intro W
  have n0 := hn.at [43] (by simp)
  clear hn
  go_enter Tryz.func48, Tryz.ntmps48
  go_wp2
  go_ret
  exact ⟨rfl, rfl⟩

set_option maxRecDepth 100000 in
theorem yes_mul (gs gr gm : Nat) (s : ByteArray) (hs : (s.toList == [42]) = true) (hn : noneOf s [[87, 73, 84, 72, 73, 78], [43], [45]]) : SaysYes 34 #[.string s] (Does gs gr gm 2 (pureE fun c => ([e_mul (c.getD 0 0#32) (c.getD 1 0#32)], 0))) := by
  refine ofTwo_yes gs gr gm s (hn.at _ (by simp)) 132 e_mul entered_two3 (fun W c d => e_mul_calls W c d) ?_
  intro W
  have n0 := hn.at [43] (by simp)
  have n1 := hn.at [45] (by simp)
  clear hn
  go_enter Tryz.func48, Tryz.ntmps48
  go_wp2
  go_ret
  exact ⟨rfl, rfl⟩

set_option maxRecDepth 100000 in
theorem yes_min (gs gr gm : Nat) (s : ByteArray) (hs : (s.toList == [77, 73, 78]) = true) (hn : noneOf s [[87, 73, 84, 72, 73, 78], [43], [45], [42]]) : SaysYes 34 #[.string s] (Does gs gr gm 2 (pureE fun c => ([e_min (c.getD 0 0#32) (c.getD 1 0#32)], 0))) := by
  refine ofTwo_yes gs gr gm s (hn.at _ (by simp)) 133 e_min entered_two4 (fun W c d => e_min_calls W c d) ?_
  intro W
  have n0 := hn.at [43] (by simp)
  have n1 := hn.at [45] (by simp)
  have n2 := hn.at [42] (by simp)
  clear hn
  go_enter Tryz.func48, Tryz.ntmps48
  go_wp2
  go_ret
  exact ⟨rfl, rfl⟩

set_option maxRecDepth 100000 in
theorem yes_max (gs gr gm : Nat) (s : ByteArray) (hs : (s.toList == [77, 65, 88]) = true) (hn : noneOf s [[87, 73, 84, 72, 73, 78], [43], [45], [42], [77, 73, 78]]) : SaysYes 34 #[.string s] (Does gs gr gm 2 (pureE fun c => ([e_max (c.getD 0 0#32) (c.getD 1 0#32)], 0))) := by
  refine ofTwo_yes gs gr gm s (hn.at _ (by simp)) 134 e_max entered_two5 (fun W c d => e_max_calls W c d) ?_
  intro W
  have n0 := hn.at [43] (by simp)
  have n1 := hn.at [45] (by simp)
  have n2 := hn.at [42] (by simp)
  have n3 := hn.at [77, 73, 78] (by simp)
  clear hn
  go_enter Tryz.func48, Tryz.ntmps48
  go_wp2
  go_ret
  exact ⟨rfl, rfl⟩

set_option maxRecDepth 100000 in
theorem yes_and (gs gr gm : Nat) (s : ByteArray) (hs : (s.toList == [65, 78, 68]) = true) (hn : noneOf s [[87, 73, 84, 72, 73, 78], [43], [45], [42], [77, 73, 78], [77, 65, 88]]) : SaysYes 34 #[.string s] (Does gs gr gm 2 (pureE fun c => ([e_and (c.getD 0 0#32) (c.getD 1 0#32)], 0))) := by
  refine ofTwo_yes gs gr gm s (hn.at _ (by simp)) 135 e_and entered_two6 (fun W c d => e_and_calls W c d) ?_
  intro W
  have n0 := hn.at [43] (by simp)
  have n1 := hn.at [45] (by simp)
  have n2 := hn.at [42] (by simp)
  have n3 := hn.at [77, 73, 78] (by simp)
  have n4 := hn.at [77, 65, 88] (by simp)
  clear hn
  go_enter Tryz.func48, Tryz.ntmps48
  go_wp2
  go_ret
  exact ⟨rfl, rfl⟩

set_option maxRecDepth 100000 in
theorem yes_or (gs gr gm : Nat) (s : ByteArray) (hs : (s.toList == [79, 82]) = true) (hn : noneOf s [[87, 73, 84, 72, 73, 78], [43], [45], [42], [77, 73, 78], [77, 65, 88], [65, 78, 68]]) : SaysYes 34 #[.string s] (Does gs gr gm 2 (pureE fun c => ([e_or (c.getD 0 0#32) (c.getD 1 0#32)], 0))) := by
  refine ofTwo_yes gs gr gm s (hn.at _ (by simp)) 136 e_or entered_two7 (fun W c d => e_or_calls W c d) ?_
  intro W
  have n0 := hn.at [43] (by simp)
  have n1 := hn.at [45] (by simp)
  have n2 := hn.at [42] (by simp)
  have n3 := hn.at [77, 73, 78] (by simp)
  have n4 := hn.at [77, 65, 88] (by simp)
  have n5 := hn.at [65, 78, 68] (by simp)
  clear hn
  go_enter Tryz.func48, Tryz.ntmps48
  go_wp2
  go_ret
  exact ⟨rfl, rfl⟩

set_option maxRecDepth 100000 in
theorem yes_xor (gs gr gm : Nat) (s : ByteArray) (hs : (s.toList == [88, 79, 82]) = true) (hn : noneOf s [[87, 73, 84, 72, 73, 78], [43], [45], [42], [77, 73, 78], [77, 65, 88], [65, 78, 68], [79, 82]]) : SaysYes 34 #[.string s] (Does gs gr gm 2 (pureE fun c => ([e_xor (c.getD 0 0#32) (c.getD 1 0#32)], 0))) := by
  refine ofTwo_yes gs gr gm s (hn.at _ (by simp)) 137 e_xor entered_two8 (fun W c d => e_xor_calls W c d) ?_
  intro W
  have n0 := hn.at [43] (by simp)
  have n1 := hn.at [45] (by simp)
  have n2 := hn.at [42] (by simp)
  have n3 := hn.at [77, 73, 78] (by simp)
  have n4 := hn.at [77, 65, 88] (by simp)
  have n5 := hn.at [65, 78, 68] (by simp)
  have n6 := hn.at [79, 82] (by simp)
  clear hn
  go_enter Tryz.func48, Tryz.ntmps48
  go_wp2
  go_ret
  exact ⟨rfl, rfl⟩

set_option maxRecDepth 100000 in
theorem yes_lsh (gs gr gm : Nat) (s : ByteArray) (hs : (s.toList == [76, 83, 72, 73, 70, 84]) = true) (hn : noneOf s [[87, 73, 84, 72, 73, 78], [43], [45], [42], [77, 73, 78], [77, 65, 88], [65, 78, 68], [79, 82], [88, 79, 82]]) : SaysYes 34 #[.string s] (Does gs gr gm 2 (pureE fun c => ([e_lsh (c.getD 0 0#32) (c.getD 1 0#32)], 0))) := by
  refine ofTwo_yes gs gr gm s (hn.at _ (by simp)) 138 e_lsh entered_two9 (fun W c d => e_lsh_calls W c d) ?_
  intro W
  have n0 := hn.at [43] (by simp)
  have n1 := hn.at [45] (by simp)
  have n2 := hn.at [42] (by simp)
  have n3 := hn.at [77, 73, 78] (by simp)
  have n4 := hn.at [77, 65, 88] (by simp)
  have n5 := hn.at [65, 78, 68] (by simp)
  have n6 := hn.at [79, 82] (by simp)
  have n7 := hn.at [88, 79, 82] (by simp)
  clear hn
  go_enter Tryz.func48, Tryz.ntmps48
  go_wp2
  go_ret
  exact ⟨rfl, rfl⟩

set_option maxRecDepth 100000 in
theorem yes_rsh (gs gr gm : Nat) (s : ByteArray) (hs : (s.toList == [82, 83, 72, 73, 70, 84]) = true) (hn : noneOf s [[87, 73, 84, 72, 73, 78], [43], [45], [42], [77, 73, 78], [77, 65, 88], [65, 78, 68], [79, 82], [88, 79, 82], [76, 83, 72, 73, 70, 84]]) : SaysYes 34 #[.string s] (Does gs gr gm 2 (pureE fun c => ([e_rsh (c.getD 0 0#32) (c.getD 1 0#32)], 0))) := by
  refine ofTwo_yes gs gr gm s (hn.at _ (by simp)) 140 e_rsh entered_two10 (fun W c d => e_rsh_calls W c d) ?_
  intro W
  have n0 := hn.at [43] (by simp)
  have n1 := hn.at [45] (by simp)
  have n2 := hn.at [42] (by simp)
  have n3 := hn.at [77, 73, 78] (by simp)
  have n4 := hn.at [77, 65, 88] (by simp)
  have n5 := hn.at [65, 78, 68] (by simp)
  have n6 := hn.at [79, 82] (by simp)
  have n7 := hn.at [88, 79, 82] (by simp)
  have n8 := hn.at [76, 83, 72, 73, 70, 84] (by simp)
  clear hn
  go_enter Tryz.func48, Tryz.ntmps48
  go_wp2
  go_ret
  exact ⟨rfl, rfl⟩

set_option maxRecDepth 100000 in
theorem yes_eq (gs gr gm : Nat) (s : ByteArray) (hs : (s.toList == [61]) = true) (hn : noneOf s [[87, 73, 84, 72, 73, 78], [43], [45], [42], [77, 73, 78], [77, 65, 88], [65, 78, 68], [79, 82], [88, 79, 82], [76, 83, 72, 73, 70, 84], [82, 83, 72, 73, 70, 84]]) : SaysYes 34 #[.string s] (Does gs gr gm 2 (pureE fun c => ([e_eq (c.getD 0 0#32) (c.getD 1 0#32)], 0))) := by
  refine ofTwo_yes gs gr gm s (hn.at _ (by simp)) 141 e_eq entered_two11 (fun W c d => e_eq_calls W c d) ?_
  intro W
  have n0 := hn.at [43] (by simp)
  have n1 := hn.at [45] (by simp)
  have n2 := hn.at [42] (by simp)
  have n3 := hn.at [77, 73, 78] (by simp)
  have n4 := hn.at [77, 65, 88] (by simp)
  have n5 := hn.at [65, 78, 68] (by simp)
  have n6 := hn.at [79, 82] (by simp)
  have n7 := hn.at [88, 79, 82] (by simp)
  have n8 := hn.at [76, 83, 72, 73, 70, 84] (by simp)
  have n9 := hn.at [82, 83, 72, 73, 70, 84] (by simp)
  clear hn
  go_enter Tryz.func48, Tryz.ntmps48
  go_wp2
  go_ret
  exact ⟨rfl, rfl⟩

set_option maxRecDepth 100000 in
theorem yes_ne (gs gr gm : Nat) (s : ByteArray) (hs : (s.toList == [60, 62]) = true) (hn : noneOf s [[87, 73, 84, 72, 73, 78], [43], [45], [42], [77, 73, 78], [77, 65, 88], [65, 78, 68], [79, 82], [88, 79, 82], [76, 83, 72, 73, 70, 84], [82, 83, 72, 73, 70, 84], [61]]) : SaysYes 34 #[.string s] (Does gs gr gm 2 (pureE fun c => ([e_ne (c.getD 0 0#32) (c.getD 1 0#32)], 0))) := by
  refine ofTwo_yes gs gr gm s (hn.at _ (by simp)) 142 e_ne entered_two12 (fun W c d => e_ne_calls W c d) ?_
  intro W
  have n0 := hn.at [43] (by simp)
  have n1 := hn.at [45] (by simp)
  have n2 := hn.at [42] (by simp)
  have n3 := hn.at [77, 73, 78] (by simp)
  have n4 := hn.at [77, 65, 88] (by simp)
  have n5 := hn.at [65, 78, 68] (by simp)
  have n6 := hn.at [79, 82] (by simp)
  have n7 := hn.at [88, 79, 82] (by simp)
  have n8 := hn.at [76, 83, 72, 73, 70, 84] (by simp)
  have n9 := hn.at [82, 83, 72, 73, 70, 84] (by simp)
  have n10 := hn.at [61] (by simp)
  clear hn
  go_enter Tryz.func48, Tryz.ntmps48
  go_wp2
  go_ret
  exact ⟨rfl, rfl⟩

set_option maxRecDepth 100000 in
theorem yes_lt (gs gr gm : Nat) (s : ByteArray) (hs : (s.toList == [60]) = true) (hn : noneOf s [[87, 73, 84, 72, 73, 78], [43], [45], [42], [77, 73, 78], [77, 65, 88], [65, 78, 68], [79, 82], [88, 79, 82], [76, 83, 72, 73, 70, 84], [82, 83, 72, 73, 70, 84], [61], [60, 62]]) : SaysYes 34 #[.string s] (Does gs gr gm 2 (pureE fun c => ([e_lt (c.getD 0 0#32) (c.getD 1 0#32)], 0))) := by
  refine ofTwo_yes gs gr gm s (hn.at _ (by simp)) 143 e_lt entered_two13 (fun W c d => e_lt_calls W c d) ?_
  intro W
  have n0 := hn.at [43] (by simp)
  have n1 := hn.at [45] (by simp)
  have n2 := hn.at [42] (by simp)
  have n3 := hn.at [77, 73, 78] (by simp)
  have n4 := hn.at [77, 65, 88] (by simp)
  have n5 := hn.at [65, 78, 68] (by simp)
  have n6 := hn.at [79, 82] (by simp)
  have n7 := hn.at [88, 79, 82] (by simp)
  have n8 := hn.at [76, 83, 72, 73, 70, 84] (by simp)
  have n9 := hn.at [82, 83, 72, 73, 70, 84] (by simp)
  have n10 := hn.at [61] (by simp)
  have n11 := hn.at [60, 62] (by simp)
  clear hn
  go_enter Tryz.func48, Tryz.ntmps48
  go_wp2
  go_ret
  exact ⟨rfl, rfl⟩

set_option maxRecDepth 100000 in
theorem yes_gt (gs gr gm : Nat) (s : ByteArray) (hs : (s.toList == [62]) = true) (hn : noneOf s [[87, 73, 84, 72, 73, 78], [43], [45], [42], [77, 73, 78], [77, 65, 88], [65, 78, 68], [79, 82], [88, 79, 82], [76, 83, 72, 73, 70, 84], [82, 83, 72, 73, 70, 84], [61], [60, 62], [60]]) : SaysYes 34 #[.string s] (Does gs gr gm 2 (pureE fun c => ([e_gt (c.getD 0 0#32) (c.getD 1 0#32)], 0))) := by
  refine ofTwo_yes gs gr gm s (hn.at _ (by simp)) 144 e_gt entered_two14 (fun W c d => e_gt_calls W c d) ?_
  intro W
  have n0 := hn.at [43] (by simp)
  have n1 := hn.at [45] (by simp)
  have n2 := hn.at [42] (by simp)
  have n3 := hn.at [77, 73, 78] (by simp)
  have n4 := hn.at [77, 65, 88] (by simp)
  have n5 := hn.at [65, 78, 68] (by simp)
  have n6 := hn.at [79, 82] (by simp)
  have n7 := hn.at [88, 79, 82] (by simp)
  have n8 := hn.at [76, 83, 72, 73, 70, 84] (by simp)
  have n9 := hn.at [82, 83, 72, 73, 70, 84] (by simp)
  have n10 := hn.at [61] (by simp)
  have n11 := hn.at [60, 62] (by simp)
  have n12 := hn.at [60] (by simp)
  clear hn
  go_enter Tryz.func48, Tryz.ntmps48
  go_wp2
  go_ret
  exact ⟨rfl, rfl⟩

set_option maxRecDepth 100000 in
theorem yes_ult (gs gr gm : Nat) (s : ByteArray) (hs : (s.toList == [85, 60]) = true) (hn : noneOf s [[87, 73, 84, 72, 73, 78], [43], [45], [42], [77, 73, 78], [77, 65, 88], [65, 78, 68], [79, 82], [88, 79, 82], [76, 83, 72, 73, 70, 84], [82, 83, 72, 73, 70, 84], [61], [60, 62], [60], [62]]) : SaysYes 34 #[.string s] (Does gs gr gm 2 (pureE fun c => ([e_ult (c.getD 0 0#32) (c.getD 1 0#32)], 0))) := by
  refine ofTwo_yes gs gr gm s (hn.at _ (by simp)) 145 e_ult entered_two15 (fun W c d => e_ult_calls W c d) ?_
  intro W
  have n0 := hn.at [43] (by simp)
  have n1 := hn.at [45] (by simp)
  have n2 := hn.at [42] (by simp)
  have n3 := hn.at [77, 73, 78] (by simp)
  have n4 := hn.at [77, 65, 88] (by simp)
  have n5 := hn.at [65, 78, 68] (by simp)
  have n6 := hn.at [79, 82] (by simp)
  have n7 := hn.at [88, 79, 82] (by simp)
  have n8 := hn.at [76, 83, 72, 73, 70, 84] (by simp)
  have n9 := hn.at [82, 83, 72, 73, 70, 84] (by simp)
  have n10 := hn.at [61] (by simp)
  have n11 := hn.at [60, 62] (by simp)
  have n12 := hn.at [60] (by simp)
  have n13 := hn.at [62] (by simp)
  clear hn
  go_enter Tryz.func48, Tryz.ntmps48
  go_wp2
  go_ret
  exact ⟨rfl, rfl⟩

set_option maxRecDepth 100000 in
theorem yes_ugt (gs gr gm : Nat) (s : ByteArray) (hs : (s.toList == [85, 62]) = true) (hn : noneOf s [[87, 73, 84, 72, 73, 78], [43], [45], [42], [77, 73, 78], [77, 65, 88], [65, 78, 68], [79, 82], [88, 79, 82], [76, 83, 72, 73, 70, 84], [82, 83, 72, 73, 70, 84], [61], [60, 62], [60], [62], [85, 60]]) : SaysYes 34 #[.string s] (Does gs gr gm 2 (pureE fun c => ([e_ugt (c.getD 0 0#32) (c.getD 1 0#32)], 0))) := by
  refine ofTwo_yes gs gr gm s (hn.at _ (by simp)) 146 e_ugt entered_two16 (fun W c d => e_ugt_calls W c d) ?_
  intro W
  have n0 := hn.at [43] (by simp)
  have n1 := hn.at [45] (by simp)
  have n2 := hn.at [42] (by simp)
  have n3 := hn.at [77, 73, 78] (by simp)
  have n4 := hn.at [77, 65, 88] (by simp)
  have n5 := hn.at [65, 78, 68] (by simp)
  have n6 := hn.at [79, 82] (by simp)
  have n7 := hn.at [88, 79, 82] (by simp)
  have n8 := hn.at [76, 83, 72, 73, 70, 84] (by simp)
  have n9 := hn.at [82, 83, 72, 73, 70, 84] (by simp)
  have n10 := hn.at [61] (by simp)
  have n11 := hn.at [60, 62] (by simp)
  have n12 := hn.at [60] (by simp)
  have n13 := hn.at [62] (by simp)
  have n14 := hn.at [85, 60] (by simp)
  clear hn
  go_enter Tryz.func48, Tryz.ntmps48
  go_wp2
  go_ret
  exact ⟨rfl, rfl⟩

end Go.Proofs.YtfnjjanknfmibaaGreat
