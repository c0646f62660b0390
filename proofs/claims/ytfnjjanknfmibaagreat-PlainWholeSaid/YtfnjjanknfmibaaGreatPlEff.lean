/-
  Plain primitives: effect takes the first chooser that says something of a name. Written by draft/genpl.py.
-/
import Derived.Test.YtfnjjanknfmibaaGreatPlNo
namespace Go.Proofs.YtfnjjanknfmibaaGreat
open Go.RowKit
set_option linter.unusedVariables false

def choosersV (a b c : Option Addr) : Array Value := #[.func (.func 32) #[] #[], .func (.func 33) #[] #[], .func (.func 34) #[] #[], .func (.func 35) #[] #[], .func (.func 36) #[] #[], .func (.func 37) #[.agg #[.pointer a, .pointer b, .pointer c]] #[], .func (.func 38) #[.agg #[.pointer a, .pointer b, .pointer c]] #[]]
/-- It says nothing of the name. -/
def SaysNo (f : Nat) (args : Array Value) : Prop := ∀ W, Calls Tryz.prog f args W fun e w' => e = .returned .nilFunc ∧ Keeps [] W w'
/-- It says something: a function value, of which P holds. -/
def SaysYes (f : Nat) (args : Array Value) (P : World → Nat → Array Value → Array Value → Prop) : Prop :=
  ∀ W, Calls Tryz.prog f args W fun e w' => ∃ fn first cap, e = .returned (.func (.func fn) first cap) ∧ Keeps [] W w' ∧ P w' fn first cap

set_option maxRecDepth 100000 in
set_option maxHeartbeats 4000000 in
theorem effect_0 (w : World) (a b c : Option Addr) (s : ByteArray)  (P : World → Nat → Array Value → Array Value → Prop) (h0 : SaysYes 32 #[.string s] P) :
    Calls Tryz.prog 20 #[.agg #[.pointer a, .pointer b, .pointer c], .string s] w fun e w' => ∃ fn first cap, e = .returned (.func (.func fn) first cap) ∧ Keeps [] w w' ∧ P w' fn first cap := by
  have f1 := run_nil_neq 59 under_effect
  have f2 := run_fn_neq 59 under_effect
  have HS := Lib.hid (show (w.alloc (.cells #[.pointer a, .pointer b, .pointer c] 61)).heap.size = w.heap.size + 1 from by simp)
  have KA := Lib.hid (fun (v : World) (o1 o2 : Obj) (x : World) (hk : Keeps [] ((v.alloc o1).alloc o2) x) => ((Keeps.alloc [] v o1).trans (Keeps.alloc [] _ o2)).trans hk)
  go_enter Tryz.func20, Tryz.ntmps20
  go_wp2
  go_loopw [14] (fun i wr => ∃ j : Nat, j ≤ 0 ∧ i = .int .i64 (j : Int) ∧ Keeps [] ((w.alloc (.cells #[.pointer a, .pointer b, .pointer c] 61)).alloc (.cells (choosersV a b c) 62)) wr) (fun i _ => 7 - (intOf i).toNat)
  case atStart => exact ⟨0, by omega, rfl, Keeps.refl _ _⟩
  case round =>
    obtain ⟨j, hj, rfl, hk⟩ := hrel
    have HK := Lib.hid hk
    have HC := Lib.hid fun i v (hv : (choosersV a b c)[i]? = some v) => (show wr.cell? ⟨w.heap.size + 1, i, none⟩ = some v from HS.out ▸ hk.cell (p := ⟨(w.alloc (.cells #[.pointer a, .pointer b, .pointer c] 61)).heap.size, i, none⟩) ((cell_of_row _ _ _ _ _ (0, 0) (heap_alloc_new _ _)).trans hv) (by simp))
    clear hk
    have hcase : j = 0 := by omega
    rcases hcase with rfl
    · have c0 := HC.out 0 _ rfl
      clear HC
      go_wp2_with (refine (h0 _).mono ?_; rintro e w1 ⟨fn, first, cap, rfl, hk1, hp⟩; have HK1 := Lib.hid hk1; have HP := Lib.hid hp; clear hk1 hp)
      go_ret
      exact ⟨fn, first, cap, rfl, KA.out _ _ _ _ (HK.out.trans HK1.out), HP.out⟩

set_option maxRecDepth 100000 in
set_option maxHeartbeats 4000000 in
theorem effect_1 (w : World) (a b c : Option Addr) (s : ByteArray) (h0 : SaysNo 32 #[.string s]) (P : World → Nat → Array Value → Array Value → Prop) (h1 : SaysYes 33 #[.string s] P) :
    Calls Tryz.prog 20 #[.agg #[.pointer a, .pointer b, .pointer c], .string s] w fun e w' => ∃ fn first cap, e = .returned (.func (.func fn) first cap) ∧ Keeps [] w w' ∧ P w' fn first cap := by
  have f1 := run_nil_neq 59 under_effect
  have f2 := run_fn_neq 59 under_effect
  have HS := Lib.hid (show (w.alloc (.cells #[.pointer a, .pointer b, .pointer c] 61)).heap.size = w.heap.size + 1 from by simp)
  have KA := Lib.hid (fun (v : World) (o1 o2 : Obj) (x : World) (hk : Keeps [] ((v.alloc o1).alloc o2) x) => ((Keeps.alloc [] v o1).trans (Keeps.alloc [] _ o2)).trans hk)
  go_enter Tryz.func20, Tryz.ntmps20
  go_wp2
  go_loopw [14] (fun i wr => ∃ j : Nat, j ≤ 1 ∧ i = .int .i64 (j : Int) ∧ Keeps [] ((w.alloc (.cells #[.pointer a, .pointer b, .pointer c] 61)).alloc (.cells (choosersV a b c) 62)) wr) (fun i _ => 7 - (intOf i).toNat)
  case atStart => exact ⟨0, by omega, rfl, Keeps.refl _ _⟩
  case round =>
    obtain ⟨j, hj, rfl, hk⟩ := hrel
    have HK := Lib.hid hk
    have HC := Lib.hid fun i v (hv : (choosersV a b c)[i]? = some v) => (show wr.cell? ⟨w.heap.size + 1, i, none⟩ = some v from HS.out ▸ hk.cell (p := ⟨(w.alloc (.cells #[.pointer a, .pointer b, .pointer c] 61)).heap.size, i, none⟩) ((cell_of_row _ _ _ _ _ (0, 0) (heap_alloc_new _ _)).trans hv) (by simp))
    clear hk
    have hcase : j = 0 ∨ j = 1 := by omega
    rcases hcase with rfl | rfl
    · have c0 := HC.out 0 _ rfl
      clear HC
      go_wp2_with (refine (h0 _).mono ?_; rintro e w1 ⟨rfl, hk1⟩; have HK1 := Lib.hid hk1; clear hk1)
      go_roundw
      case rel => exact ⟨1, by omega, by go_num, HK.out.trans HK1.out⟩
      case measure => simp [intOf]
    · have c0 := HC.out 1 _ rfl
      clear HC
      go_wp2_with (refine (h1 _).mono ?_; rintro e w1 ⟨fn, first, cap, rfl, hk1, hp⟩; have HK1 := Lib.hid hk1; have HP := Lib.hid hp; clear hk1 hp)
      go_ret
      exact ⟨fn, first, cap, rfl, KA.out _ _ _ _ (HK.out.trans HK1.out), HP.out⟩

set_option maxRecDepth 100000 in
set_option maxHeartbeats 4000000 in
theorem effect_2 (w : World) (a b c : Option Addr) (s : ByteArray) (h0 : SaysNo 32 #[.string s]) (h1 : SaysNo 33 #[.string s]) (P : World → Nat → Array Value → Array Value → Prop) (h2 : SaysYes 34 #[.string s] P) :
    Calls Tryz.prog 20 #[.agg #[.pointer a, .pointer b, .pointer c], .string s] w fun e w' => ∃ fn first cap, e = .returned (.func (.func fn) first cap) ∧ Keeps [] w w' ∧ P w' fn first cap := by
  have f1 := run_nil_neq 59 under_effect
  have f2 := run_fn_neq 59 under_effect
  have HS := Lib.hid (show (w.alloc (.cells #[.pointer a, .pointer b, .pointer c] 61)).heap.size = w.heap.size + 1 from by simp)
  have KA := Lib.hid (fun (v : World) (o1 o2 : Obj) (x : World) (hk : Keeps [] ((v.alloc o1).alloc o2) x) => ((Keeps.alloc [] v o1).trans (Keeps.alloc [] _ o2)).trans hk)
  go_enter Tryz.func20, Tryz.ntmps20
  go_wp2
  go_loopw [14] (fun i wr => ∃ j : Nat, j ≤ 2 ∧ i = .int .i64 (j : Int) ∧ Keeps [] ((w.alloc (.cells #[.pointer a, .pointer b, .pointer c] 61)).alloc (.cells (choosersV a b c) 62)) wr) (fun i _ => 7 - (intOf i).toNat)
  case atStart => exact ⟨0, by omega, rfl, Keeps.refl _ _⟩
  case round =>
    obtain ⟨j, hj, rfl, hk⟩ := hrel
    have HK := Lib.hid hk
    have HC := Lib.hid fun i v (hv : (choosersV a b c)[i]? = some v) => (show wr.cell? ⟨w.heap.size + 1, i, none⟩ = some v from HS.out ▸ hk.cell (p := ⟨(w.alloc (.cells #[.pointer a, .pointer b, .pointer c] 61)).heap.size, i, none⟩) ((cell_of_row _ _ _ _ _ (0, 0) (heap_alloc_new _ _)).trans hv) (by simp))
    clear hk
    have hcase : j = 0 ∨ j = 1 ∨ j = 2 := by omega
    rcases hcase with rfl | rfl | rfl
    · have c0 := HC.out 0 _ rfl
      clear HC
      go_wp2_with (refine (h0 _).mono ?_; rintro e w1 ⟨rfl, hk1⟩; have HK1 := Lib.hid hk1; clear hk1)
      go_roundw
      case rel => exact ⟨1, by omega, by go_num, HK.out.trans HK1.out⟩
      case measure => simp [intOf]
    · have c0 := HC.out 1 _ rfl
      clear HC
      go_wp2_with (refine (h1 _).mono ?_; rintro e w1 ⟨rfl, hk1⟩; have HK1 := Lib.hid hk1; clear hk1)
      go_roundw
      case rel => exact ⟨2, by omega, by go_num, HK.out.trans HK1.out⟩
      case measure => simp [intOf]
    · have c0 := HC.out 2 _ rfl
      clear HC
      go_wp2_with (refine (h2 _).mono ?_; rintro e w1 ⟨fn, first, cap, rfl, hk1, hp⟩; have HK1 := Lib.hid hk1; have HP := Lib.hid hp; clear hk1 hp)
      go_ret
      exact ⟨fn, first, cap, rfl, KA.out _ _ _ _ (HK.out.trans HK1.out), HP.out⟩

set_option maxRecDepth 100000 in
set_option maxHeartbeats 4000000 in
theorem effect_3 (w : World) (a b c : Option Addr) (s : ByteArray) (h0 : SaysNo 32 #[.string s]) (h1 : SaysNo 33 #[.string s]) (h2 : SaysNo 34 #[.string s]) (P : World → Nat → Array Value → Array Value → Prop) (h3 : SaysYes 35 #[.string s] P) :
    Calls Tryz.prog 20 #[.agg #[.pointer a, .pointer b, .pointer c], .string s] w fun e w' => ∃ fn first cap, e = .returned (.func (.func fn) first cap) ∧ Keeps [] w w' ∧ P w' fn first cap := by
  have f1 := run_nil_neq 59 under_effect
  have f2 := run_fn_neq 59 under_effect
  have HS := Lib.hid (show (w.alloc (.cells #[.pointer a, .pointer b, .pointer c] 61)).heap.size = w.heap.size + 1 from by simp)
  have KA := Lib.hid (fun (v : World) (o1 o2 : Obj) (x : World) (hk : Keeps [] ((v.alloc o1).alloc o2) x) => ((Keeps.alloc [] v o1).trans (Keeps.alloc [] _ o2)).trans hk)
  go_enter Tryz.func20, Tryz.ntmps20
  go_wp2
  go_loopw [14] (fun i wr => ∃ j : Nat, j ≤ 3 ∧ i = .int .i64 (j : Int) ∧ Keeps [] ((w.alloc (.cells #[.pointer a, .pointer b, .pointer c] 61)).alloc (.cells (choosersV a b c) 62)) wr) (fun i _ => 7 - (intOf i).toNat)
  case atStart => exact ⟨0, by omega, rfl, Keeps.refl _ _⟩
  case round =>
    obtain ⟨j, hj, rfl, hk⟩ := hrel
    have HK := Lib.hid hk
    have HC := Lib.hid fun i v (hv : (choosersV a b c)[i]? = some v) => (show wr.cell? ⟨w.heap.size + 1, i, none⟩ = some v from HS.out ▸ hk.cell (p := ⟨(w.alloc (.cells #[.pointer a, .pointer b, .pointer c] 61)).heap.size, i, none⟩) ((cell_of_row _ _ _ _ _ (0, 0) (heap_alloc_new _ _)).trans hv) (by simp))
    clear hk
    have hcase : j = 0 ∨ j = 1 ∨ j = 2 ∨ j = 3 := by omega
    rcases hcase with rfl | rfl | rfl | rfl
    · have c0 := HC.out 0 _ rfl
      clear HC
      go_wp2_with (refine (h0 _).mono ?_; rintro e w1 ⟨rfl, hk1⟩; have HK1 := Lib.hid hk1; clear hk1)
      go_roundw
      case rel => exact ⟨1, by omega, by go_num, HK.out.trans HK1.out⟩
      case measure => simp [intOf]
    · have c0 := HC.out 1 _ rfl
      clear HC
      go_wp2_with (refine (h1 _).mono ?_; rintro e w1 ⟨rfl, hk1⟩; have HK1 := Lib.hid hk1; clear hk1)
      go_roundw
      case rel => exact ⟨2, by omega, by go_num, HK.out.trans HK1.out⟩
      case measure => simp [intOf]
    · have c0 := HC.out 2 _ rfl
      clear HC
      go_wp2_with (refine (h2 _).mono ?_; rintro e w1 ⟨rfl, hk1⟩; have HK1 := Lib.hid hk1; clear hk1)
      go_roundw
      case rel => exact ⟨3, by omega, by go_num, HK.out.trans HK1.out⟩
      case measure => simp [intOf]
    · have c0 := HC.out 3 _ rfl
      clear HC
      go_wp2_with (refine (h3 _).mono ?_; rintro e w1 ⟨fn, first, cap, rfl, hk1, hp⟩; have HK1 := Lib.hid hk1; have HP := Lib.hid hp; clear hk1 hp)
      go_ret
      exact ⟨fn, first, cap, rfl, KA.out _ _ _ _ (HK.out.trans HK1.out), HP.out⟩

set_option maxRecDepth 100000 in
set_option maxHeartbeats 4000000 in
theorem effect_4 (w : World) (a b c : Option Addr) (s : ByteArray) (h0 : SaysNo 32 #[.string s]) (h1 : SaysNo 33 #[.string s]) (h2 : SaysNo 34 #[.string s]) (h3 : SaysNo 35 #[.string s]) (P : World → Nat → Array Value → Array Value → Prop) (h4 : SaysYes 36 #[.string s] P) :
    Calls Tryz.prog 20 #[.agg #[.pointer a, .pointer b, .pointer c], .string s] w fun e w' => ∃ fn first cap, e = .returned (.func (.func fn) first cap) ∧ Keeps [] w w' ∧ P w' fn first cap := by
  have f1 := run_nil_neq 59 under_effect
  have f2 := run_fn_neq 59 under_effect
  have HS := Lib.hid (show (w.alloc (.cells #[.pointer a, .pointer b, .pointer c] 61)).heap.size = w.heap.size + 1 from by simp)
  have KA := Lib.hid (fun (v : World) (o1 o2 : Obj) (x : World) (hk : Keeps [] ((v.alloc o1).alloc o2) x) => ((Keeps.alloc [] v o1).trans (Keeps.alloc [] _ o2)).trans hk)
  go_enter Tryz.func20, Tryz.ntmps20
  go_wp2
  go_loopw [14] (fun i wr => ∃ j : Nat, j ≤ 4 ∧ i = .int .i64 (j : Int) ∧ Keeps [] ((w.alloc (.cells #[.pointer a, .pointer b, .pointer c] 61)).alloc (.cells (choosersV a b c) 62)) wr) (fun i _ => 7 - (intOf i).toNat)
  case atStart => exact ⟨0, by omega, rfl, Keeps.refl _ _⟩
  case round =>
    obtain ⟨j, hj, rfl, hk⟩ := hrel
    have HK := Lib.hid hk
    have HC := Lib.hid fun i v (hv : (choosersV a b c)[i]? = some v) => (show wr.cell? ⟨w.heap.size + 1, i, none⟩ = some v from HS.out ▸ hk.cell (p := ⟨(w.alloc (.cells #[.pointer a, .pointer b, .pointer c] 61)).heap.size, i, none⟩) ((cell_of_row _ _ _ _ _ (0, 0) (heap_alloc_new _ _)).trans hv) (by simp))
    clear hk
    have hcase : j = 0 ∨ j = 1 ∨ j = 2 ∨ j = 3 ∨ j = 4 := by omega
    rcases hcase with rfl | rfl | rfl | rfl | rfl
    · have c0 := HC.out 0 _ rfl
      clear HC
      go_wp2_with (refine (h0 _).mono ?_; rintro e w1 ⟨rfl, hk1⟩; have HK1 := Lib.hid hk1; clear hk1)
      go_roundw
      case rel => exact ⟨1, by omega, by go_num, HK.out.trans HK1.out⟩
      case measure => simp [intOf]
    · have c0 := HC.out 1 _ rfl
      clear HC
      go_wp2_with (refine (h1 _).mono ?_; rintro e w1 ⟨rfl, hk1⟩; have HK1 := Lib.hid hk1; clear hk1)
      go_roundw
      case rel => exact ⟨2, by omega, by go_num, HK.out.trans HK1.out⟩
      case measure => simp [intOf]
    · have c0 := HC.out 2 _ rfl
      clear HC
      go_wp2_with (refine (h2 _).mono ?_; rintro e w1 ⟨rfl, hk1⟩; have HK1 := Lib.hid hk1; clear hk1)
      go_roundw
      case rel => exact ⟨3, by omega, by go_num, HK.out.trans HK1.out⟩
      case measure => simp [intOf]
    · have c0 := HC.out 3 _ rfl
      clear HC
      go_wp2_with (refine (h3 _).mono ?_; rintro e w1 ⟨rfl, hk1⟩; have HK1 := Lib.hid hk1; clear hk1)
      go_roundw
      case rel => exact ⟨4, by omega, by go_num, HK.out.trans HK1.out⟩
      case measure => simp [intOf]
    · have c0 := HC.out 4 _ rfl
      clear HC
      go_wp2_with (refine (h4 _).mono ?_; rintro e w1 ⟨fn, first, cap, rfl, hk1, hp⟩; have HK1 := Lib.hid hk1; have HP := Lib.hid hp; clear hk1 hp)
      go_ret
      exact ⟨fn, first, cap, rfl, KA.out _ _ _ _ (HK.out.trans HK1.out), HP.out⟩

set_option maxRecDepth 100000 in
set_option maxHeartbeats 4000000 in
theorem effect_5 (w : World) (a b c : Option Addr) (s : ByteArray) (h0 : SaysNo 32 #[.string s]) (h1 : SaysNo 33 #[.string s]) (h2 : SaysNo 34 #[.string s]) (h3 : SaysNo 35 #[.string s]) (h4 : SaysNo 36 #[.string s]) (P : World → Nat → Array Value → Array Value → Prop) (h5 : SaysYes 37 #[.agg #[.pointer a, .pointer b, .pointer c], .string s] P) :
    Calls Tryz.prog 20 #[.agg #[.pointer a, .pointer b, .pointer c], .string s] w fun e w' => ∃ fn first cap, e = .returned (.func (.func fn) first cap) ∧ Keeps [] w w' ∧ P w' fn first cap := by
  have f1 := run_nil_neq 59 under_effect
  have f2 := run_fn_neq 59 under_effect
  have HS := Lib.hid (show (w.alloc (.cells #[.pointer a, .pointer b, .pointer c] 61)).heap.size = w.heap.size + 1 from by simp)
  have KA := Lib.hid (fun (v : World) (o1 o2 : Obj) (x : World) (hk : Keeps [] ((v.alloc o1).alloc o2) x) => ((Keeps.alloc [] v o1).trans (Keeps.alloc [] _ o2)).trans hk)
  go_enter Tryz.func20, Tryz.ntmps20
  go_wp2
  go_loopw [14] (fun i wr => ∃ j : Nat, j ≤ 5 ∧ i = .int .i64 (j : Int) ∧ Keeps [] ((w.alloc (.cells #[.pointer a, .pointer b, .pointer c] 61)).alloc (.cells (choosersV a b c) 62)) wr) (fun i _ => 7 - (intOf i).toNat)
  case atStart => exact ⟨0, by omega, rfl, Keeps.refl _ _⟩
  case round =>
    obtain ⟨j, hj, rfl, hk⟩ := hrel
    have HK := Lib.hid hk
    have HC := Lib.hid fun i v (hv : (choosersV a b c)[i]? = some v) => (show wr.cell? ⟨w.heap.size + 1, i, none⟩ = some v from HS.out ▸ hk.cell (p := ⟨(w.alloc (.cells #[.pointer a, .pointer b, .pointer c] 61)).heap.size, i, none⟩) ((cell_of_row _ _ _ _ _ (0, 0) (heap_alloc_new _ _)).trans hv) (by simp))
    clear hk
    have hcase : j = 0 ∨ j = 1 ∨ j = 2 ∨ j = 3 ∨ j = 4 ∨ j = 5 := by omega
    rcases hcase with rfl | rfl | rfl | rfl | rfl | rfl
    · have c0 := HC.out 0 _ rfl
      clear HC
      go_wp2_with (refine (h0 _).mono ?_; rintro e w1 ⟨rfl, hk1⟩; have HK1 := Lib.hid hk1; clear hk1)
      go_roundw
      case rel => exact ⟨1, by omega, by go_num, HK.out.trans HK1.out⟩
      case measure => simp [intOf]
    · have c0 := HC.out 1 _ rfl
      clear HC
      go_wp2_with (refine (h1 _).mono ?_; rintro e w1 ⟨rfl, hk1⟩; have HK1 := Lib.hid hk1; clear hk1)
      go_roundw
      case rel => exact ⟨2, by omega, by go_num, HK.out.trans HK1.out⟩
      case measure => simp [intOf]
    · have c0 := HC.out 2 _ rfl
      clear HC
      go_wp2_with (refine (h2 _).mono ?_; rintro e w1 ⟨rfl, hk1⟩; have HK1 := Lib.hid hk1; clear hk1)
      go_roundw
      case rel => exact ⟨3, by omega, by go_num, HK.out.trans HK1.out⟩
      case measure => simp [intOf]
    · have c0 := HC.out 3 _ rfl
      clear HC
      go_wp2_with (refine (h3 _).mono ?_; rintro e w1 ⟨rfl, hk1⟩; have HK1 := Lib.hid hk1; clear hk1)
      go_roundw
      case rel => exact ⟨4, by omega, by go_num, HK.out.trans HK1.out⟩
      case measure => simp [intOf]
    · have c0 := HC.out 4 _ rfl
      clear HC
      go_wp2_with (refine (h4 _).mono ?_; rintro e w1 ⟨rfl, hk1⟩; have HK1 := Lib.hid hk1; clear hk1)
      go_roundw
      case rel => exact ⟨5, by omega, by go_num, HK.out.trans HK1.out⟩
      case measure => simp [intOf]
    · have c0 := HC.out 5 _ rfl
      clear HC
      go_wp2_with (refine (h5 _).mono ?_; rintro e w1 ⟨fn, first, cap, rfl, hk1, hp⟩; have HK1 := Lib.hid hk1; have HP := Lib.hid hp; clear hk1 hp)
      go_ret
      exact ⟨fn, first, cap, rfl, KA.out _ _ _ _ (HK.out.trans HK1.out), HP.out⟩

set_option maxRecDepth 100000 in
set_option maxHeartbeats 4000000 in
theorem effect_6 (w : World) (a b c : Option Addr) (s : ByteArray) (h0 : SaysNo 32 #[.string s]) (h1 : SaysNo 33 #[.string s]) (h2 : SaysNo 34 #[.string s]) (h3 : SaysNo 35 #[.string s]) (h4 : SaysNo 36 #[.string s]) (h5 : SaysNo 37 #[.agg #[.pointer a, .pointer b, .pointer c], .string s]) (P : World → Nat → Array Value → Array Value → Prop) (h6 : SaysYes 38 #[.agg #[.pointer a, .pointer b, .pointer c], .string s] P) :
    Calls Tryz.prog 20 #[.agg #[.pointer a, .pointer b, .pointer c], .string s] w fun e w' => ∃ fn first cap, e = .returned (.func (.func fn) first cap) ∧ Keeps [] w w' ∧ P w' fn first cap := by
  have f1 := run_nil_neq 59 under_effect
  have f2 := run_fn_neq 59 under_effect
  have HS := Lib.hid (show (w.alloc (.cells #[.pointer a, .pointer b, .pointer c] 61)).heap.size = w.heap.size + 1 from by simp)
  have KA := Lib.hid (fun (v : World) (o1 o2 : Obj) (x : World) (hk : Keeps [] ((v.alloc o1).alloc o2) x) => ((Keeps.alloc [] v o1).trans (Keeps.alloc [] _ o2)).trans hk)
  go_enter Tryz.func20, Tryz.ntmps20
  go_wp2
  go_loopw [14] (fun i wr => ∃ j : Nat, j ≤ 6 ∧ i = .int .i64 (j : Int) ∧ Keeps [] ((w.alloc (.cells #[.pointer a, .pointer b, .pointer c] 61)).alloc (.cells (choosersV a b c) 62)) wr) (fun i _ => 7 - (intOf i).toNat)
  case atStart => exact ⟨0, by omega, rfl, Keeps.refl _ _⟩
  case round =>
    obtain ⟨j, hj, rfl, hk⟩ := hrel
    have HK := Lib.hid hk
    have HC := Lib.hid fun i v (hv : (choosersV a b c)[i]? = some v) => (show wr.cell? ⟨w.heap.size + 1, i, none⟩ = some v from HS.out ▸ hk.cell (p := ⟨(w.alloc (.cells #[.pointer a, .pointer b, .pointer c] 61)).heap.size, i, none⟩) ((cell_of_row _ _ _ _ _ (0, 0) (heap_alloc_new _ _)).trans hv) (by simp))
    clear hk
    have hcase : j = 0 ∨ j = 1 ∨ j = 2 ∨ j = 3 ∨ j = 4 ∨ j = 5 ∨ j = 6 := by omega
    rcases hcase with rfl | rfl | rfl | rfl | rfl | rfl | rfl
    · have c0 := HC.out 0 _ rfl
      clear HC
      go_wp2_with (refine (h0 _).mono ?_; rintro e w1 ⟨rfl, hk1⟩; have HK1 := Lib.hid hk1; clear hk1)
      go_roundw
      case rel => exact ⟨1, by omega, by go_num, HK.out.trans HK1.out⟩
      case measure => simp [intOf]
    · have c0 := HC.out 1 _ rfl
      clear HC
      go_wp2_with (refine (h1 _).mono ?_; rintro e w1 ⟨rfl, hk1⟩; have HK1 := Lib.hid hk1; clear hk1)
      go_roundw
      case rel => exact ⟨2, by omega, by go_num, HK.out.trans HK1.out⟩
      case measure => simp [intOf]
    · have c0 := HC.out 2 _ rfl
      clear HC
      go_wp2_with (refine (h2 _).mono ?_; rintro e w1 ⟨rfl, hk1⟩; have HK1 := Lib.hid hk1; clear hk1)
      go_roundw
      case rel => exact ⟨3, by omega, by go_num, HK.out.trans HK1.out⟩
      case measure => simp [intOf]
    · have c0 := HC.out 3 _ rfl
      clear HC
      go_wp2_with (refine (h3 _).mono ?_; rintro e w1 ⟨rfl, hk1⟩; have HK1 := Lib.hid hk1; clear hk1)
      go_roundw
      case rel => exact ⟨4, by omega, by go_num, HK.out.trans HK1.out⟩
      case measure => simp [intOf]
    · have c0 := HC.out 4 _ rfl
      clear HC
      go_wp2_with (refine (h4 _).mono ?_; rintro e w1 ⟨rfl, hk1⟩; have HK1 := Lib.hid hk1; clear hk1)
      go_roundw
      case rel => exact ⟨5, by omega, by go_num, HK.out.trans HK1.out⟩
      case measure => simp [intOf]
    · have c0 := HC.out 5 _ rfl
      clear HC
      go_wp2_with (refine (h5 _).mono ?_; rintro e w1 ⟨rfl, hk1⟩; have HK1 := Lib.hid hk1; clear hk1)
      go_roundw
      case rel => exact ⟨6, by omega, by go_num, HK.out.trans HK1.out⟩
      case measure => simp [intOf]
    · have c0 := HC.out 6 _ rfl
      clear HC
      go_wp2_with (refine (h6 _).mono ?_; rintro e w1 ⟨fn, first, cap, rfl, hk1, hp⟩; have HK1 := Lib.hid hk1; have HP := Lib.hid hp; clear hk1 hp)
      go_ret
      exact ⟨fn, first, cap, rfl, KA.out _ _ _ _ (HK.out.trans HK1.out), HP.out⟩

set_option maxRecDepth 100000 in
set_option maxHeartbeats 4000000 in
theorem effect_none (w : World) (a b c : Option Addr) (s : ByteArray) (h0 : SaysNo 32 #[.string s]) (h1 : SaysNo 33 #[.string s]) (h2 : SaysNo 34 #[.string s]) (h3 : SaysNo 35 #[.string s]) (h4 : SaysNo 36 #[.string s]) (h5 : SaysNo 37 #[.agg #[.pointer a, .pointer b, .pointer c], .string s]) (h6 : SaysNo 38 #[.agg #[.pointer a, .pointer b, .pointer c], .string s]) :
    Calls Tryz.prog 20 #[.agg #[.pointer a, .pointer b, .pointer c], .string s] w fun e w' => e = .returned .nilFunc ∧ Keeps [] w w' := by
  have f1 := run_nil_neq 59 under_effect
  have f2 := run_fn_neq 59 under_effect
  have HS := Lib.hid (show (w.alloc (.cells #[.pointer a, .pointer b, .pointer c] 61)).heap.size = w.heap.size + 1 from by simp)
  have KA := Lib.hid (fun (v : World) (o1 o2 : Obj) (x : World) (hk : Keeps [] ((v.alloc o1).alloc o2) x) => ((Keeps.alloc [] v o1).trans (Keeps.alloc [] _ o2)).trans hk)
  go_enter Tryz.func20, Tryz.ntmps20
  go_wp2
  go_loopw [14] (fun i wr => ∃ j : Nat, j ≤ 7 ∧ i = .int .i64 (j : Int) ∧ Keeps [] ((w.alloc (.cells #[.pointer a, .pointer b, .pointer c] 61)).alloc (.cells (choosersV a b c) 62)) wr) (fun i _ => 7 - (intOf i).toNat)
  case atStart => exact ⟨0, by omega, rfl, Keeps.refl _ _⟩
  case round =>
    obtain ⟨j, hj, rfl, hk⟩ := hrel
    have HK := Lib.hid hk
    have HC := Lib.hid fun i v (hv : (choosersV a b c)[i]? = some v) => (show wr.cell? ⟨w.heap.size + 1, i, none⟩ = some v from HS.out ▸ hk.cell (p := ⟨(w.alloc (.cells #[.pointer a, .pointer b, .pointer c] 61)).heap.size, i, none⟩) ((cell_of_row _ _ _ _ _ (0, 0) (heap_alloc_new _ _)).trans hv) (by simp))
    clear hk
    have hcase : j = 0 ∨ j = 1 ∨ j = 2 ∨ j = 3 ∨ j = 4 ∨ j = 5 ∨ j = 6 ∨ j = 7 := by omega
    rcases hcase with rfl | rfl | rfl | rfl | rfl | rfl | rfl | rfl
    · have c0 := HC.out 0 _ rfl
      clear HC
      go_wp2_with (refine (h0 _).mono ?_; rintro e w1 ⟨rfl, hk1⟩; have HK1 := Lib.hid hk1; clear hk1)
      go_roundw
      case rel => exact ⟨1, by omega, by go_num, HK.out.trans HK1.out⟩
      case measure => simp [intOf]
    · have c0 := HC.out 1 _ rfl
      clear HC
      go_wp2_with (refine (h1 _).mono ?_; rintro e w1 ⟨rfl, hk1⟩; have HK1 := Lib.hid hk1; clear hk1)
      go_roundw
      case rel => exact ⟨2, by omega, by go_num, HK.out.trans HK1.out⟩
      case measure => simp [intOf]
    · have c0 := HC.out 2 _ rfl
      clear HC
      go_wp2_with (refine (h2 _).mono ?_; rintro e w1 ⟨rfl, hk1⟩; have HK1 := Lib.hid hk1; clear hk1)
      go_roundw
      case rel => exact ⟨3, by omega, by go_num, HK.out.trans HK1.out⟩
      case measure => simp [intOf]
    · have c0 := HC.out 3 _ rfl
      clear HC
      go_wp2_with (refine (h3 _).mono ?_; rintro e w1 ⟨rfl, hk1⟩; have HK1 := Lib.hid hk1; clear hk1)
      go_roundw
      case rel => exact ⟨4, by omega, by go_num, HK.out.trans HK1.out⟩
      case measure => simp [intOf]
    · have c0 := HC.out 4 _ rfl
      clear HC
      go_wp2_with (refine (h4 _).mono ?_; rintro e w1 ⟨rfl, hk1⟩; have HK1 := Lib.hid hk1; clear hk1)
      go_roundw
      case rel => exact ⟨5, by omega, by go_num, HK.out.trans HK1.out⟩
      case measure => simp [intOf]
    · have c0 := HC.out 5 _ rfl
      clear HC
      go_wp2_with (refine (h5 _).mono ?_; rintro e w1 ⟨rfl, hk1⟩; have HK1 := Lib.hid hk1; clear hk1)
      go_roundw
      case rel => exact ⟨6, by omega, by go_num, HK.out.trans HK1.out⟩
      case measure => simp [intOf]
    · have c0 := HC.out 6 _ rfl
      clear HC
      go_wp2_with (refine (h6 _).mono ?_; rintro e w1 ⟨rfl, hk1⟩; have HK1 := Lib.hid hk1; clear hk1)
      go_roundw
      case rel => exact ⟨7, by omega, by go_num, HK.out.trans HK1.out⟩
      case measure => simp [intOf]
    · clear HC
      go_wp2
      go_ret
      exact ⟨rfl, KA.out _ _ _ _ HK.out⟩

end Go.Proofs.YtfnjjanknfmibaaGreat
