/-
  Plain primitives: the names that work on a stack or on memory. Written by draft/genpl7.py.
-/
import Derived.Test.YtfnjjanknfmibaaGreatPlBack
import Derived.Test.YtfnjjanknfmibaaGreatPlTwoS
import Derived.Test.YtfnjjanknfmibaaGreatPlYesC
namespace Go.Proofs.YtfnjjanknfmibaaGreat
open Go.RowKit
set_option linter.unusedVariables false

/-- A closure over the machine. -/
def Boxed (a b c : Option Addr) (k : Nat) (w' : World) (fn : Nat) (first cap : Array Value) : Prop :=
  fn = k ∧ first = #[] ∧ ∃ bl, cap = #[.pointer (some ⟨bl, 0, none⟩)] ∧ w'.cell? ⟨bl, 0, none⟩ = some (.pointer a) ∧ w'.cell? ⟨bl, 1, none⟩ = some (.pointer b) ∧ w'.cell? ⟨bl, 2, none⟩ = some (.pointer c)
theorem Boxed.new (W : World) (a b c : Option Addr) (k : Nat) : Boxed a b c k (W.alloc (.cells #[.pointer a, .pointer b, .pointer c] 61)) k #[] #[.pointer (some ⟨W.heap.size, 0, none⟩)] :=
  ⟨rfl, rfl, _, rfl, cell_alloc_new W _ _ 0, cell_alloc_new W _ _ 1, cell_alloc_new W _ _ 2⟩

set_option maxRecDepth 100000 in
theorem says_qdup (a b c : Option Addr) (s : ByteArray) (hs : (s.toList == [63, 68, 85, 80]) = true) (hn : noneOf s []) : SaysYes 37 #[.agg #[.pointer a, .pointer b, .pointer c], .string s] (fun w' fn first cap => fn = 78 ∧ first = #[] ∧ cap = #[]) := by
  intro W
  clear hn
  go_enter Tryz.func37, Tryz.ntmps37
  go_wp2
  go_ret
  exact ⟨_, _, _, rfl, Keeps.alloc [] W _, rfl, rfl, rfl⟩

set_option maxRecDepth 100000 in
theorem says_depth (a b c : Option Addr) (s : ByteArray) (hs : (s.toList == [68, 69, 80, 84, 72]) = true) (hn : noneOf s [[63, 68, 85, 80]]) : SaysYes 37 #[.agg #[.pointer a, .pointer b, .pointer c], .string s] (Boxed a b c 80) := by
  intro W
  have n0 := hn.at [63, 68, 85, 80] (by simp)
  clear hn
  have HX := Lib.hid (Boxed.new W a b c 80)
  go_enter Tryz.func37, Tryz.ntmps37
  go_wp2
  go_ret
  exact ⟨_, _, _, rfl, Keeps.alloc [] W _, HX.out⟩

set_option maxRecDepth 100000 in
theorem says_pick (a b c : Option Addr) (s : ByteArray) (hs : (s.toList == [80, 73, 67, 75]) = true) (hn : noneOf s [[63, 68, 85, 80], [68, 69, 80, 84, 72]]) : SaysYes 37 #[.agg #[.pointer a, .pointer b, .pointer c], .string s] (Boxed a b c 81) := by
  intro W
  have n0 := hn.at [63, 68, 85, 80] (by simp)
  have n1 := hn.at [68, 69, 80, 84, 72] (by simp)
  clear hn
  have HX := Lib.hid (Boxed.new W a b c 81)
  go_enter Tryz.func37, Tryz.ntmps37
  go_wp2
  go_ret
  exact ⟨_, _, _, rfl, Keeps.alloc [] W _, HX.out⟩

set_option maxRecDepth 100000 in
theorem says_roll (a b c : Option Addr) (s : ByteArray) (hs : (s.toList == [82, 79, 76, 76]) = true) (hn : noneOf s [[63, 68, 85, 80], [68, 69, 80, 84, 72], [80, 73, 67, 75]]) : SaysYes 37 #[.agg #[.pointer a, .pointer b, .pointer c], .string s] (Boxed a b c 84) := by
  intro W
  have n0 := hn.at [63, 68, 85, 80] (by simp)
  have n1 := hn.at [68, 69, 80, 84, 72] (by simp)
  have n2 := hn.at [80, 73, 67, 75] (by simp)
  clear hn
  have HX := Lib.hid (Boxed.new W a b c 84)
  go_enter Tryz.func37, Tryz.ntmps37
  go_wp2
  go_ret
  exact ⟨_, _, _, rfl, Keeps.alloc [] W _, HX.out⟩

set_option maxRecDepth 100000 in
theorem says_tor (a b c : Option Addr) (s : ByteArray) (hs : (s.toList == [62, 82]) = true) (hn : noneOf s [[63, 68, 85, 80], [68, 69, 80, 84, 72], [80, 73, 67, 75], [82, 79, 76, 76]]) : SaysYes 37 #[.agg #[.pointer a, .pointer b, .pointer c], .string s] (Boxed a b c 86) := by
  intro W
  have n0 := hn.at [63, 68, 85, 80] (by simp)
  have n1 := hn.at [68, 69, 80, 84, 72] (by simp)
  have n2 := hn.at [80, 73, 67, 75] (by simp)
  have n3 := hn.at [82, 79, 76, 76] (by simp)
  clear hn
  have HX := Lib.hid (Boxed.new W a b c 86)
  go_enter Tryz.func37, Tryz.ntmps37
  go_wp2
  go_ret
  exact ⟨_, _, _, rfl, Keeps.alloc [] W _, HX.out⟩

set_option maxRecDepth 100000 in
theorem says_rfrom (a b c : Option Addr) (s : ByteArray) (hs : (s.toList == [82, 62]) = true) (hn : noneOf s [[63, 68, 85, 80], [68, 69, 80, 84, 72], [80, 73, 67, 75], [82, 79, 76, 76], [62, 82]]) : SaysYes 37 #[.agg #[.pointer a, .pointer b, .pointer c], .string s] (Boxed a b c 87) := by
  intro W
  have n0 := hn.at [63, 68, 85, 80] (by simp)
  have n1 := hn.at [68, 69, 80, 84, 72] (by simp)
  have n2 := hn.at [80, 73, 67, 75] (by simp)
  have n3 := hn.at [82, 79, 76, 76] (by simp)
  have n4 := hn.at [62, 82] (by simp)
  clear hn
  have HX := Lib.hid (Boxed.new W a b c 87)
  go_enter Tryz.func37, Tryz.ntmps37
  go_wp2
  go_ret
  exact ⟨_, _, _, rfl, Keeps.alloc [] W _, HX.out⟩

set_option maxRecDepth 100000 in
theorem says_rfetch (a b c : Option Addr) (s : ByteArray) (hs : (s.toList == [82, 64]) = true) (hn : noneOf s [[63, 68, 85, 80], [68, 69, 80, 84, 72], [80, 73, 67, 75], [82, 79, 76, 76], [62, 82], [82, 62]]) : SaysYes 37 #[.agg #[.pointer a, .pointer b, .pointer c], .string s] (Boxed a b c 89) := by
  intro W
  have n0 := hn.at [63, 68, 85, 80] (by simp)
  have n1 := hn.at [68, 69, 80, 84, 72] (by simp)
  have n2 := hn.at [80, 73, 67, 75] (by simp)
  have n3 := hn.at [82, 79, 76, 76] (by simp)
  have n4 := hn.at [62, 82] (by simp)
  have n5 := hn.at [82, 62] (by simp)
  clear hn
  have HX := Lib.hid (Boxed.new W a b c 89)
  go_enter Tryz.func37, Tryz.ntmps37
  go_wp2
  go_ret
  exact ⟨_, _, _, rfl, Keeps.alloc [] W _, HX.out⟩

set_option maxRecDepth 100000 in
theorem says_fetch (a b c : Option Addr) (s : ByteArray) (hs : (s.toList == [64]) = true) (hn : noneOf s []) : SaysYes 38 #[.agg #[.pointer a, .pointer b, .pointer c], .string s] (Boxed a b c 90) := by
  intro W
  clear hn
  have HX := Lib.hid (Boxed.new W a b c 90)
  go_enter Tryz.func38, Tryz.ntmps38
  go_wp2
  go_ret
  exact ⟨_, _, _, rfl, Keeps.alloc [] W _, HX.out⟩

set_option maxRecDepth 100000 in
theorem says_cfetch (a b c : Option Addr) (s : ByteArray) (hs : (s.toList == [67, 64]) = true) (hn : noneOf s [[64]]) : SaysYes 38 #[.agg #[.pointer a, .pointer b, .pointer c], .string s] (Boxed a b c 92) := by
  intro W
  have n0 := hn.at [64] (by simp)
  clear hn
  have HX := Lib.hid (Boxed.new W a b c 92)
  go_enter Tryz.func38, Tryz.ntmps38
  go_wp2
  go_ret
  exact ⟨_, _, _, rfl, Keeps.alloc [] W _, HX.out⟩

set_option maxRecDepth 100000 in
theorem says_fetch2 (a b c : Option Addr) (s : ByteArray) (hs : (s.toList == [50, 64]) = true) (hn : noneOf s [[64], [67, 64]]) : SaysYes 38 #[.agg #[.pointer a, .pointer b, .pointer c], .string s] (Boxed a b c 95) := by
  intro W
  have n0 := hn.at [64] (by simp)
  have n1 := hn.at [67, 64] (by simp)
  clear hn
  have HX := Lib.hid (Boxed.new W a b c 95)
  go_enter Tryz.func38, Tryz.ntmps38
  go_wp2
  go_ret
  exact ⟨_, _, _, rfl, Keeps.alloc [] W _, HX.out⟩

set_option maxRecDepth 100000 in
theorem says_count (a b c : Option Addr) (s : ByteArray) (hs : (s.toList == [67, 79, 85, 78, 84]) = true) (hn : noneOf s [[64], [67, 64], [50, 64]]) : SaysYes 38 #[.agg #[.pointer a, .pointer b, .pointer c], .string s] (Boxed a b c 97) := by
  intro W
  have n0 := hn.at [64] (by simp)
  have n1 := hn.at [67, 64] (by simp)
  have n2 := hn.at [50, 64] (by simp)
  clear hn
  have HX := Lib.hid (Boxed.new W a b c 97)
  go_enter Tryz.func38, Tryz.ntmps38
  go_wp2
  go_ret
  exact ⟨_, _, _, rfl, Keeps.alloc [] W _, HX.out⟩

set_option maxRecDepth 100000 in
theorem says_store (a b c : Option Addr) (s : ByteArray) (hs : (s.toList == [33]) = true) (hn : noneOf s [[64], [67, 64], [50, 64], [67, 79, 85, 78, 84]]) : SaysYes 38 #[.agg #[.pointer a, .pointer b, .pointer c], .string s] (Boxed a b c 99) := by
  intro W
  have n0 := hn.at [64] (by simp)
  have n1 := hn.at [67, 64] (by simp)
  have n2 := hn.at [50, 64] (by simp)
  have n3 := hn.at [67, 79, 85, 78, 84] (by simp)
  clear hn
  have HX := Lib.hid (Boxed.new W a b c 99)
  go_enter Tryz.func38, Tryz.ntmps38
  go_wp2
  go_ret
  exact ⟨_, _, _, rfl, Keeps.alloc [] W _, HX.out⟩

set_option maxRecDepth 100000 in
theorem says_cstore (a b c : Option Addr) (s : ByteArray) (hs : (s.toList == [67, 33]) = true) (hn : noneOf s [[64], [67, 64], [50, 64], [67, 79, 85, 78, 84], [33]]) : SaysYes 38 #[.agg #[.pointer a, .pointer b, .pointer c], .string s] (Boxed a b c 101) := by
  intro W
  have n0 := hn.at [64] (by simp)
  have n1 := hn.at [67, 64] (by simp)
  have n2 := hn.at [50, 64] (by simp)
  have n3 := hn.at [67, 79, 85, 78, 84] (by simp)
  have n4 := hn.at [33] (by simp)
  clear hn
  have HX := Lib.hid (Boxed.new W a b c 101)
  go_enter Tryz.func38, Tryz.ntmps38
  go_wp2
  go_ret
  exact ⟨_, _, _, rfl, Keeps.alloc [] W _, HX.out⟩

set_option maxRecDepth 100000 in
theorem says_plusstore (a b c : Option Addr) (s : ByteArray) (hs : (s.toList == [43, 33]) = true) (hn : noneOf s [[64], [67, 64], [50, 64], [67, 79, 85, 78, 84], [33], [67, 33]]) : SaysYes 38 #[.agg #[.pointer a, .pointer b, .pointer c], .string s] (Boxed a b c 103) := by
  intro W
  have n0 := hn.at [64] (by simp)
  have n1 := hn.at [67, 64] (by simp)
  have n2 := hn.at [50, 64] (by simp)
  have n3 := hn.at [67, 79, 85, 78, 84] (by simp)
  have n4 := hn.at [33] (by simp)
  have n5 := hn.at [67, 33] (by simp)
  clear hn
  have HX := Lib.hid (Boxed.new W a b c 103)
  go_enter Tryz.func38, Tryz.ntmps38
  go_wp2
  go_ret
  exact ⟨_, _, _, rfl, Keeps.alloc [] W _, HX.out⟩

set_option maxRecDepth 100000 in
theorem says_store2 (a b c : Option Addr) (s : ByteArray) (hs : (s.toList == [50, 33]) = true) (hn : noneOf s [[64], [67, 64], [50, 64], [67, 79, 85, 78, 84], [33], [67, 33], [43, 33]]) : SaysYes 38 #[.agg #[.pointer a, .pointer b, .pointer c], .string s] (Boxed a b c 105) := by
  intro W
  have n0 := hn.at [64] (by simp)
  have n1 := hn.at [67, 64] (by simp)
  have n2 := hn.at [50, 64] (by simp)
  have n3 := hn.at [67, 79, 85, 78, 84] (by simp)
  have n4 := hn.at [33] (by simp)
  have n5 := hn.at [67, 33] (by simp)
  have n6 := hn.at [43, 33] (by simp)
  clear hn
  have HX := Lib.hid (Boxed.new W a b c 105)
  go_enter Tryz.func38, Tryz.ntmps38
  go_wp2
  go_ret
  exact ⟨_, _, _, rfl, Keeps.alloc [] W _, HX.out⟩

set_option maxRecDepth 100000 in
theorem says_move (a b c : Option Addr) (s : ByteArray) (hs : (s.toList == [77, 79, 86, 69]) = true) (hn : noneOf s [[64], [67, 64], [50, 64], [67, 79, 85, 78, 84], [33], [67, 33], [43, 33], [50, 33]]) : SaysYes 38 #[.agg #[.pointer a, .pointer b, .pointer c], .string s] (Boxed a b c 107) := by
  intro W
  have n0 := hn.at [64] (by simp)
  have n1 := hn.at [67, 64] (by simp)
  have n2 := hn.at [50, 64] (by simp)
  have n3 := hn.at [67, 79, 85, 78, 84] (by simp)
  have n4 := hn.at [33] (by simp)
  have n5 := hn.at [67, 33] (by simp)
  have n6 := hn.at [43, 33] (by simp)
  have n7 := hn.at [50, 33] (by simp)
  clear hn
  have HX := Lib.hid (Boxed.new W a b c 107)
  go_enter Tryz.func38, Tryz.ntmps38
  go_wp2
  go_ret
  exact ⟨_, _, _, rfl, Keeps.alloc [] W _, HX.out⟩

set_option maxRecDepth 100000 in
theorem says_fill (a b c : Option Addr) (s : ByteArray) (hs : (s.toList == [70, 73, 76, 76]) = true) (hn : noneOf s [[64], [67, 64], [50, 64], [67, 79, 85, 78, 84], [33], [67, 33], [43, 33], [50, 33], [77, 79, 86, 69]]) : SaysYes 38 #[.agg #[.pointer a, .pointer b, .pointer c], .string s] (Boxed a b c 109) := by
  intro W
  have n0 := hn.at [64] (by simp)
  have n1 := hn.at [67, 64] (by simp)
  have n2 := hn.at [50, 64] (by simp)
  have n3 := hn.at [67, 79, 85, 78, 84] (by simp)
  have n4 := hn.at [33] (by simp)
  have n5 := hn.at [67, 33] (by simp)
  have n6 := hn.at [43, 33] (by simp)
  have n7 := hn.at [50, 33] (by simp)
  have n8 := hn.at [77, 79, 86, 69] (by simp)
  clear hn
  have HX := Lib.hid (Boxed.new W a b c 109)
  go_enter Tryz.func38, Tryz.ntmps38
  go_wp2
  go_ret
  exact ⟨_, _, _, rfl, Keeps.alloc [] W _, HX.out⟩

def E_qdup (c : List (BitVec 32)) : List (BitVec 32) × Int := (if c.getD 0 0#32 = 0#32 then [c.getD 0 0#32] else [c.getD 0 0#32, c.getD 0 0#32], 0)
theorem qdup_does (gs gr gm : Nat) (W : World) : Does gs gr gm 1 (pureE E_qdup) W 78 #[] #[] := by
  refine Does.pure (k := 1) E_qdup (entered_of Tryz.func78 (by kernel_rfl) rfl) (fun c _ => by unfold E_qdup; simp only; split <;> simp) ?_
  intro w M c hkw hcl hcells
  obtain ⟨c0, rfl⟩ := List.length_eq_one_iff.1 hcl
  exact qdup_gives w M 1 c0 (Nat.le_refl _) (hcells 0 c0 rfl)

/-- The two cells stored. -/
def E_store2 : Eff := fun room win c x => ([], store2T win x.ram (c.getD 2 0#32).toNat (c.getD 1 0#32).toNat (c.getD 0 0#32).toNat, ⟨x.s, x.r, store2L win x.ram (c.getD 2 0#32).toNat (c.getD 1 0#32).toNat (c.getD 0 0#32).toNat⟩)
set_option maxRecDepth 100000 in
theorem store2_does (gs gr gm : Nat) (W : World) (b : Nat) (hb0 : W.cell? ⟨b, 0, none⟩ = some (.pointer (some ⟨gs, 0, none⟩))) (hb1 : W.cell? ⟨b, 1, none⟩ = some (.pointer (some ⟨gr, 0, none⟩))) (hb2 : W.cell? ⟨b, 2, none⟩ = some (.pointer (some ⟨gm, 0, none⟩))) : Does gs gr gm 3 E_store2 W 105 #[] #[.pointer (some ⟨b, 0, none⟩)] := by
  refine ⟨entered_of Tryz.func105 (by kernel_rfl) rfl, fun w0 w κ room s r win ram M c hkw hL hr hc => ?_⟩
  obtain ⟨c0, c1, c2, rfl⟩ := three_of hc
  have hcs := taken_cells hr (by simp)
  have h0 : w.cell? ⟨M, 0, none⟩ = some (.int .u32 (c0.toNat : Int)) := hcs 0 c0 rfl
  have h1 : w.cell? ⟨M, 1, none⟩ = some (.int .u32 (c1.toNat : Int)) := hcs 1 c1 rfl
  have h2 : w.cell? ⟨M, 2, none⟩ = some (.int .u32 (c2.toNat : Int)) := hcs 2 c2 rfl
  have l0 := c0.isLt
  have l1 := c1.isLt
  have l2 := c2.isLt
  replace hb0 := hkw.cell hb0 (by simp)
  replace hb1 := hkw.cell hb1 (by simp)
  replace hb2 := hkw.cell hb2 (by simp)
  unfold E_store2
  simp only [List.getD_cons_zero, List.getD_cons_succ]
  have HB := Lib.hid (fun U (hk : Keeps [] w U) => storeTwo_any (hL.next hk) c2.toNat c1.toNat c0.toNat l2 l1 l0)
  generalize store2L win ram c2.toNat c1.toNat c0.toNat = R at *
  generalize store2T win ram c2.toNat c1.toNat c0.toNat = T at *
  clear hr hkw hL hc hcs
  show Calls _ _ #[.slice (some ⟨M, 0, none⟩) 3 3, .pointer (some ⟨b, 0, none⟩)] w _
  go_enter Tryz.func105, Tryz.ntmps105
  go_upto_region 1 with fail
  refine wp_region_tail 10 (by kernel_rfl) (by kernel_rfl) ?_
  intro wz hwz
  have kz : Keeps [] w wz := by rw [hwz]; exact Keeps.drew _ _
  replace h0 := kz.cell h0 (by simp)
  replace h1 := kz.cell h1 (by simp)
  replace h2 := kz.cell h2 (by simp)
  replace hb0 := kz.cell hb0 (by simp)
  replace hb1 := kz.cell hb1 (by simp)
  replace hb2 := kz.cell hb2 (by simp)
  have KZ := Lib.hid kz
  clear kz hwz
  simp only [List.take_succ_cons, List.take_zero, List.drop_succ_cons, List.drop_zero]
  repeat still_step
  refine wpStill_nil ?_
  go_wp2_with (go_at_call 106; refine (HB.out _ KZ.out).mono ?_; rintro e w1 ⟨rfl, κ1, hl1, hs1⟩; have HL1 := Lib.hid hl1; have HS1 := Lib.hid hs1; clear hl1 hs1)
  go_ret2
  exact ⟨_, 0, 0, κ1, rfl, HL1.out, (Step.of KZ.out).trans HS1.out, UReads.nil _ _ _, fun hn => absurd rfl hn, by decide⟩
end Go.Proofs.YtfnjjanknfmibaaGreat
