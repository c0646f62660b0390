/-
  Plain primitives: the examples of the chapter. Written by draft/genpl8.py.
-/
import Derived.Test.YtfnjjanknfmibaaGreatPlBec
namespace Go.Proofs.YtfnjjanknfmibaaGreat
open Go.RowKit
set_option linter.unusedVariables false

/-- Cells, names and cells written out one behind the other. -/
theorem becomes_lit (W : World) (ci cn co : Array Value) (inL outL : List (BitVec 32)) (is : List Nat) (ni n no : Nat) (want : Int) (e1 : ci = (inL.map uv).toArray) (e2 : cn = (is.map fun i => str (primI i).name).toArray) (e3 : co = (outL.map uv).toArray)
    (hni : ni = inL.length) (hn : n = is.length) (hno : no = outL.length) (l1 : inL.length ≤ 1000) (l2 : n ≤ 100) (h73 : is.all (fun i => decide (i < 73)) = true)
    (hT : (namedM 20 [] is ⟨inL.take (min inL.length 20), [], List.replicate 32 0⟩).1 = want) (hS : (namedM 20 [] is ⟨inL.take (min inL.length 20), [], List.replicate 32 0⟩).2.s = outL) :
    Calls Tryz.prog 27 #[.slice (some ⟨W.heap.size, 0, none⟩) ni ni, .slice (some ⟨W.heap.size + 1, 0, none⟩) n n, .slice (some ⟨W.heap.size + 2, 0, none⟩) no no, .int .i32 want]
      (((W.alloc (.cells ci 24)).alloc (.cells cn 9)).alloc (.cells co 24)) fun e w' => e = .returned (.bool true) ∧ Keeps [] W w' := by
  have s1 : (W.alloc (.cells ci 24)).heap.size = W.heap.size + 1 := by simp
  have s2 : ((W.alloc (.cells ci 24)).alloc (.cells cn 9)).heap.size = W.heap.size + 2 := by simp
  have k1 := Keeps.alloc [] W (.cells ci 24)
  have k2 := Keeps.alloc [] (W.alloc (.cells ci 24)) (.cells cn 9)
  have k3 := Keeps.alloc [] ((W.alloc (.cells ci 24)).alloc (.cells cn 9)) (.cells co 24)
  have hI := ((UReads.lit12 W inL ci 24 ni e1 hni).keeps k2 (by simp)).keeps k3 (by simp)
  have hO := UReads.lit12 ((W.alloc (.cells ci 24)).alloc (.cells cn 9)) outL co 24 no e3 hno
  rw [s2] at hO
  refine (becomes_ok _ _ _ inL outL _ 0 _ 0 (W.heap.size + 1) n n is want _ hI hO (by unfold maxLen; omega) hn.symm l2 (fun j i hj => of_decide_eq_true (List.all_eq_true.1 h73 i (List.mem_of_getElem? hj))) (fun j i hj => ?_) ?_ (Prod.ext hT rfl) hS).mono ?_
  · refine k3.cell ?_ (by simp)
    rw [← s1, cell_alloc_new, e2]
    simp [hj]
  · have := k3.size; omega
  · rintro e w' ⟨he, hk⟩
    exact ⟨he, ((k1.trans k2).trans k3).trans hk⟩

set_option maxRecDepth 100000 in
theorem minus_any (w : World) (n : Int) : Calls Tryz.prog 26 #[.int .u32 n] w fun e w' => e = .returned (.int .u32 (-n % 4294967296)) ∧ w = w' := by
  go_enter Tryz.func26, Tryz.ntmps26
  go_wp2
  go_ret
  exact ⟨rfl, rfl⟩

set_option maxRecDepth 100000 in
theorem aw_0 (W : World) : Calls Tryz.prog 27 #[.slice (some ⟨W.heap.size, 0, none⟩) 3 3, .slice (some ⟨W.heap.size + 1, 0, none⟩) 1 1, .slice (some ⟨W.heap.size + 2, 0, none⟩) 3 3, .int .i32 (0)]
      (((W.alloc (.cells #[.int .u32 1, .int .u32 2, .int .u32 3] 24)).alloc (.cells #[.string ⟨#[82, 79, 84]⟩] 9)).alloc (.cells #[.int .u32 2, .int .u32 3, .int .u32 1] 24)) fun e w' => e = .returned (.bool true) ∧ Keeps [] W w' :=
  becomes_lit W _ _ _ [1#32, 2#32, 3#32] [2#32, 3#32, 1#32] [4] 3 1 3 (0) rfl (by kernel_rfl) rfl rfl rfl rfl (by decide) (by decide) (by kernel_rfl) (by kernel_rfl) (by kernel_rfl)
set_option maxRecDepth 100000 in
theorem aw_1 (W : World) : Calls Tryz.prog 27 #[.slice (some ⟨W.heap.size, 0, none⟩) 2 2, .slice (some ⟨W.heap.size + 1, 0, none⟩) 1 1, .slice (some ⟨W.heap.size + 2, 0, none⟩) 2 2, .int .i32 (0)]
      (((W.alloc (.cells #[.int .u32 7, .int .u32 4294967294] 24)).alloc (.cells #[.string ⟨#[47, 77, 79, 68]⟩] 9)).alloc (.cells #[.int .u32 4294967295, .int .u32 4294967292] 24)) fun e w' => e = .returned (.bool true) ∧ Keeps [] W w' :=
  becomes_lit W _ _ _ [7#32, 4294967294#32] [4294967295#32, 4294967292#32] [20] 2 1 2 (0) rfl (by kernel_rfl) rfl rfl rfl rfl (by decide) (by decide) (by kernel_rfl) (by kernel_rfl) (by kernel_rfl)
set_option maxRecDepth 100000 in
theorem aw_2 (W : World) : Calls Tryz.prog 27 #[.slice (some ⟨W.heap.size, 0, none⟩) 2 2, .slice (some ⟨W.heap.size + 1, 0, none⟩) 1 1, .slice (some ⟨W.heap.size + 2, 0, none⟩) 2 2, .int .i32 (-10)]
      (((W.alloc (.cells #[.int .u32 5, .int .u32 0] 24)).alloc (.cells #[.string ⟨#[47]⟩] 9)).alloc (.cells #[.int .u32 5, .int .u32 0] 24)) fun e w' => e = .returned (.bool true) ∧ Keeps [] W w' :=
  becomes_lit W _ _ _ [5#32, 0#32] [5#32, 0#32] [18] 2 1 2 (-10) rfl (by kernel_rfl) rfl rfl rfl rfl (by decide) (by decide) (by kernel_rfl) (by kernel_rfl) (by kernel_rfl)
set_option maxRecDepth 100000 in
theorem aw_3 (W : World) : Calls Tryz.prog 27 #[.slice (some ⟨W.heap.size, 0, none⟩) 3 3, .slice (some ⟨W.heap.size + 1, 0, none⟩) 1 1, .slice (some ⟨W.heap.size + 2, 0, none⟩) 3 3, .int .i32 (-4)]
      (((W.alloc (.cells #[.int .u32 1, .int .u32 2, .int .u32 2] 24)).alloc (.cells #[.string ⟨#[80, 73, 67, 75]⟩] 9)).alloc (.cells #[.int .u32 1, .int .u32 2, .int .u32 2] 24)) fun e w' => e = .returned (.bool true) ∧ Keeps [] W w' :=
  becomes_lit W _ _ _ [1#32, 2#32, 2#32] [1#32, 2#32, 2#32] [13] 3 1 3 (-4) rfl (by kernel_rfl) rfl rfl rfl rfl (by decide) (by decide) (by kernel_rfl) (by kernel_rfl) (by kernel_rfl)
set_option maxRecDepth 100000 in
theorem aw_4 (W : World) : Calls Tryz.prog 27 #[.slice (some ⟨W.heap.size, 0, none⟩) 3 3, .slice (some ⟨W.heap.size + 1, 0, none⟩) 1 1, .slice (some ⟨W.heap.size + 2, 0, none⟩) 1 1, .int .i32 (0)]
      (((W.alloc (.cells #[.int .u32 3, .int .u32 1, .int .u32 5] 24)).alloc (.cells #[.string ⟨#[87, 73, 84, 72, 73, 78]⟩] 9)).alloc (.cells #[.int .u32 4294967295] 24)) fun e w' => e = .returned (.bool true) ∧ Keeps [] W w' :=
  becomes_lit W _ _ _ [3#32, 1#32, 5#32] [4294967295#32] [54] 3 1 1 (0) rfl (by kernel_rfl) rfl rfl rfl rfl (by decide) (by decide) (by kernel_rfl) (by kernel_rfl) (by kernel_rfl)
set_option maxRecDepth 100000 in
theorem aw_5 (W : World) : Calls Tryz.prog 27 #[.slice (some ⟨W.heap.size, 0, none⟩) 3 3, .slice (some ⟨W.heap.size + 1, 0, none⟩) 1 1, .slice (some ⟨W.heap.size + 2, 0, none⟩) 1 1, .int .i32 (0)]
      (((W.alloc (.cells #[.int .u32 5, .int .u32 1, .int .u32 5] 24)).alloc (.cells #[.string ⟨#[87, 73, 84, 72, 73, 78]⟩] 9)).alloc (.cells #[.int .u32 0] 24)) fun e w' => e = .returned (.bool true) ∧ Keeps [] W w' :=
  becomes_lit W _ _ _ [5#32, 1#32, 5#32] [0#32] [54] 3 1 1 (0) rfl (by kernel_rfl) rfl rfl rfl rfl (by decide) (by decide) (by kernel_rfl) (by kernel_rfl) (by kernel_rfl)
set_option maxRecDepth 100000 in
theorem aw_6 (W : World) : Calls Tryz.prog 27 #[.slice (some ⟨W.heap.size, 0, none⟩) 3 3, .slice (some ⟨W.heap.size + 1, 0, none⟩) 2 2, .slice (some ⟨W.heap.size + 2, 0, none⟩) 1 1, .int .i32 (0)]
      (((W.alloc (.cells #[.int .u32 1048576, .int .u32 258, .int .u32 1048576] 24)).alloc (.cells #[.string ⟨#[33]⟩, .string ⟨#[67, 64]⟩] 9)).alloc (.cells #[.int .u32 2] 24)) fun e w' => e = .returned (.bool true) ∧ Keeps [] W w' :=
  becomes_lit W _ _ _ [1048576#32, 258#32, 1048576#32] [2#32] [56, 57] 3 2 1 (0) rfl (by kernel_rfl) rfl rfl rfl rfl (by decide) (by decide) (by kernel_rfl) (by kernel_rfl) (by kernel_rfl)
set_option maxRecDepth 100000 in
theorem aw_7 (W : World) : Calls Tryz.prog 27 #[.slice (some ⟨W.heap.size, 0, none⟩) 3 3, .slice (some ⟨W.heap.size + 1, 0, none⟩) 2 2, .slice (some ⟨W.heap.size + 2, 0, none⟩) 2 2, .int .i32 (0)]
      (((W.alloc (.cells #[.int .u32 1048576, .int .u32 258, .int .u32 1048576] 24)).alloc (.cells #[.string ⟨#[33]⟩, .string ⟨#[67, 79, 85, 78, 84]⟩] 9)).alloc (.cells #[.int .u32 1048577, .int .u32 2] 24)) fun e w' => e = .returned (.bool true) ∧ Keeps [] W w' :=
  becomes_lit W _ _ _ [1048576#32, 258#32, 1048576#32] [1048577#32, 2#32] [56, 69] 3 2 2 (0) rfl (by kernel_rfl) rfl rfl rfl rfl (by decide) (by decide) (by kernel_rfl) (by kernel_rfl) (by kernel_rfl)
set_option maxRecDepth 100000 in
theorem aw_8 (W : World) : Calls Tryz.prog 27 #[.slice (some ⟨W.heap.size, 0, none⟩) 1 1, .slice (some ⟨W.heap.size + 1, 0, none⟩) 3 3, .slice (some ⟨W.heap.size + 2, 0, none⟩) 2 2, .int .i32 (0)]
      (((W.alloc (.cells #[.int .u32 7] 24)).alloc (.cells #[.string ⟨#[62, 82]⟩, .string ⟨#[82, 64]⟩, .string ⟨#[82, 62]⟩] 9)).alloc (.cells #[.int .u32 7, .int .u32 7] 24)) fun e w' => e = .returned (.bool true) ∧ Keeps [] W w' :=
  becomes_lit W _ _ _ [7#32] [7#32, 7#32] [70, 72, 71] 1 3 2 (0) rfl (by kernel_rfl) rfl rfl rfl rfl (by decide) (by decide) (by kernel_rfl) (by kernel_rfl) (by kernel_rfl)

set_option maxRecDepth 100000 in
set_option maxHeartbeats 4000000 in
theorem awake12_any (w : World) : Calls Tryz.prog 10 #[] w fun e w' => e = .returned (.bool true) ∧ Keeps [] w w' := by
  have M1 := fun W => minus_any W 1
  have M2 := fun W => minus_any W 2
  have M4 := fun W => minus_any W 4
  rw [show (-1 : Int) % 4294967296 = 4294967295 from rfl] at M1
  rw [show (-2 : Int) % 4294967296 = 4294967294 from rfl] at M2
  rw [show (-4 : Int) % 4294967296 = 4294967292 from rfl] at M4
  have HM1 := Lib.hid M1
  have HM2 := Lib.hid M2
  have HM4 := Lib.hid M4
  clear M1 M2 M4
  have KP := Lib.hid (Keeps.refl [] w)
  go_enter Tryz.func10, Tryz.ntmps10
  go_wp2_with (first
    | (go_at_call 26; (with_reducible refine (HM1.out _).mono ?_); rintro e w' ⟨rfl, rfl⟩)
    | (go_at_call 26; (with_reducible refine (HM2.out _).mono ?_); rintro e w' ⟨rfl, rfl⟩)
    | (go_at_call 26; (with_reducible refine (HM4.out _).mono ?_); rintro e w' ⟨rfl, rfl⟩)
    | (go_at_call 27; (with_reducible refine (aw_0 _).mono ?_); rintro e w1 ⟨rfl, hk⟩; replace KP := Lib.hid (KP.out.trans hk); clear hk)
    | (go_at_call 27; (with_reducible refine (aw_1 _).mono ?_); rintro e w1 ⟨rfl, hk⟩; replace KP := Lib.hid (KP.out.trans hk); clear hk)
    | (go_at_call 27; (with_reducible refine (aw_2 _).mono ?_); rintro e w1 ⟨rfl, hk⟩; replace KP := Lib.hid (KP.out.trans hk); clear hk)
    | (go_at_call 27; (with_reducible refine (aw_3 _).mono ?_); rintro e w1 ⟨rfl, hk⟩; replace KP := Lib.hid (KP.out.trans hk); clear hk)
    | (go_at_call 27; (with_reducible refine (aw_4 _).mono ?_); rintro e w1 ⟨rfl, hk⟩; replace KP := Lib.hid (KP.out.trans hk); clear hk)
    | (go_at_call 27; (with_reducible refine (aw_5 _).mono ?_); rintro e w1 ⟨rfl, hk⟩; replace KP := Lib.hid (KP.out.trans hk); clear hk)
    | (go_at_call 27; (with_reducible refine (aw_6 _).mono ?_); rintro e w1 ⟨rfl, hk⟩; replace KP := Lib.hid (KP.out.trans hk); clear hk)
    | (go_at_call 27; (with_reducible refine (aw_7 _).mono ?_); rintro e w1 ⟨rfl, hk⟩; replace KP := Lib.hid (KP.out.trans hk); clear hk)
    | (go_at_call 27; (with_reducible refine (aw_8 _).mono ?_); rintro e w1 ⟨rfl, hk⟩; replace KP := Lib.hid (KP.out.trans hk); clear hk))
  go_ret
  exact ⟨rfl, KP.out⟩
end Go.Proofs.YtfnjjanknfmibaaGreat
