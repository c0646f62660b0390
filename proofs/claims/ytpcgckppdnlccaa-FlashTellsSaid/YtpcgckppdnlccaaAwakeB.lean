/-
  awake answers true, whatever the world; nothing that was there is changed.
-/
import Derived.Test.YtpcgckppdnlccaaAwake
namespace Go.Proofs.Ytpcgckppdnlccaa
open Go.RowKit

theorem make4 (w : World) : (Instr.makeSlice 31 (.int .i64 4) (.int .i64 4)).run Try.prog w = .ok (.slice (some ⟨w.heap.size, 0, none⟩) 4 4) (w.alloc (.cells #[.int .u8 0, .int .u8 0, .int .u8 0, .int .u8 0] 5)) := by kernel_rfl
theorem make3 (w : World) : (Instr.makeSlice 31 (.int .i64 3) (.int .i64 3)).run Try.prog w = .ok (.slice (some ⟨w.heap.size, 0, none⟩) 3 3) (w.alloc (.cells #[.int .u8 0, .int .u8 0, .int .u8 0] 5)) := by kernel_rfl

set_option maxRecDepth 100000 in
set_option maxHeartbeats 4000000 in
theorem awake_any (w : World) : Calls Try.prog 10 #[] w fun e w' => e = .returned (.bool true) ∧ Keeps [] w w' := by
  have hm4 := make4
  have hm3 := make3
  go_enter Try.func10, Try.ntmps10
  go_wp2_with fail
  refine (New_ok _ 8 (by omega) (by omega)).mono ?_
  rintro e w1 ⟨F, B, W, M, rfl, gF, gB, gW, hF, hK⟩
  have H1 := Lib.hid hF
  have K1 := Lib.hid hK
  clear hF hK
  go_wp2_with fail
  refine (New_bad _ 7 (by omega)).mono ?_
  rintro e w1' ⟨rfl, rfl⟩
  go_wp2_with fail
  refine (stands_lit _ H1.out 0 [255, 255, 255, 255] _ 4 true rfl rfl rfl (h0 start_new) (p0 start_new)).mono ?_
  rintro e w2 ⟨rfl, hF, hK⟩
  have H2 := Lib.hid hF
  have K2 := Lib.hid hK
  clear hF hK
  go_wp2_with fail
  refine (Program_lit _ H2.out 4 [15, 15, 15, 15] _ 4 _ _ rfl rfl (by decide) (e01 start_new)).mono ?_
  rintro e w3 ⟨rfl, hF, hK⟩
  have H3 := Lib.hid hF
  have K3 := Lib.hid hK
  clear hF hK
  go_wp2_with fail
  refine (Program_lit _ H3.out 4 [240, 255, 0, 1] _ 4 _ _ rfl rfl (by decide) (e12 start_new)).mono ?_
  rintro e w4 ⟨rfl, hF, hK⟩
  have H4 := Lib.hid hF
  have K4 := Lib.hid hK
  clear hF hK
  go_wp2_with fail
  refine (stands_lit _ H4.out 4 [0, 15, 0, 1] _ 4 true rfl rfl (d2 start_new) (h2 start_new) (p2 start_new)).mono ?_
  rintro e w5 ⟨rfl, hF, hK⟩
  have H5 := Lib.hid hF
  have K5 := Lib.hid hK
  clear hF hK
  go_wp2_with fail
  refine (Program_lit _ H5.out 2 [0, 0, 0, 0] _ 4 _ _ rfl rfl (by decide) (e2a start_new)).mono ?_
  rintro e w6 ⟨rfl, hF, hK⟩
  have H6 := Lib.hid hF
  have K6 := Lib.hid hK
  clear hF hK
  go_wp2_with fail
  refine (Program_lit _ H6.out 4 [0, 0, 0] _ 3 _ _ rfl rfl (by decide) (e2b start_new)).mono ?_
  rintro e w7 ⟨rfl, hF, hK⟩
  have H7 := Lib.hid hF
  have K7 := Lib.hid hK
  clear hF hK
  go_wp2_with fail
  refine (Program_lit _ H7.out 2048 [0, 0, 0, 0] _ 4 _ _ rfl rfl (by decide) (e2c start_new)).mono ?_
  rintro e w8 ⟨rfl, hF, hK⟩
  have H8 := Lib.hid hF
  have K8 := Lib.hid hK
  clear hF hK
  go_wp2_with fail
  refine (Arm_lit _ H8.out 0 [255, 1] _ 2 rfl rfl (by decide) (d2 start_new) (by decide) (by decide)).mono ?_
  rintro e w9 ⟨rfl, M9, _, hF, hK⟩
  have H9 := Lib.hid hF
  have K9 := Lib.hid hK
  clear hF hK
  go_wp2_with fail
  refine (Program_lit _ H9.out 8 [0, 0, 0, 0] _ 4 _ _ rfl rfl (by decide) (e34 start_new)).mono ?_
  rintro e w10 ⟨rfl, hF, hK⟩
  have H10 := Lib.hid hF
  have K10 := Lib.hid hK
  clear hF hK
  go_wp2_with fail
  refine (Read_down _ H10.out 8 4 rfl).mono ?_
  rintro e w' ⟨rfl, rfl⟩
  go_wp2_with fail
  refine (Up_yes _ H10.out).mono ?_
  rintro e w11 ⟨rfl, hF, hK⟩
  have H11 := Lib.hid hF
  have K11 := Lib.hid hK
  clear hF hK
  go_wp2_with fail
  refine (stands_lit _ H11.out 8 [0, 254, 255, 255] _ 4 true rfl rfl rfl (h5 start_new) (p5 start_new)).mono ?_
  rintro e w12 ⟨rfl, hF, hK⟩
  have H12 := Lib.hid hF
  have K12 := Lib.hid hK
  clear hF hK
  go_wp2_with fail
  refine (Arm_lit _ H12.out 0 [7] _ 1 rfl rfl (by decide) rfl (by decide) (by decide)).mono ?_
  rintro e w13 ⟨rfl, M13, _, hF, hK⟩
  have H13 := Lib.hid hF
  have K13 := Lib.hid hK
  clear hF hK
  go_wp2_with fail
  refine (Erase_lit (s := S6 (FS.new 8)) _ H13.out 0 _ _ (wr6 start_new) (e67 start_new)).mono ?_
  rintro e w14 ⟨rfl, hF, hK⟩
  have H14 := Lib.hid hF
  have K14 := Lib.hid hK
  clear hF hK
  go_wp2_with fail
  refine (Up_yes _ H14.out).mono ?_
  rintro e w15 ⟨rfl, hF, hK⟩
  have H15 := Lib.hid hF
  have K15 := Lib.hid hK
  clear hF hK
  go_wp2_with fail
  refine (stands_lit _ H15.out 0 [7, 0, 0] _ 3 true rfl rfl rfl (h8 start_new) (p8 start_new)).mono ?_
  rintro e w16 ⟨rfl, hF, hK⟩
  have H16 := Lib.hid hF
  have K16 := Lib.hid hK
  clear hF hK
  go_wp2_with fail
  refine (Wear_yes _ H16.out 0 _ (x8 start_new)).mono ?_
  rintro e w' ⟨rfl, rfl⟩
  go_wp2_with fail
  refine (Erase_lit (s := S8 (FS.new 8)) _ H16.out 0 _ _ (wr8 start_new) (e89 start_new)).mono ?_
  rintro e w17 ⟨rfl, hF, hK⟩
  have H17 := Lib.hid hF
  have K17 := Lib.hid hK
  clear hF hK
  go_wp2_with fail
  refine (stands_lit _ H17.out 0 [255, 255, 255] _ 3 true rfl rfl rfl (h9 start_new) (p9 start_new)).mono ?_
  rintro e w18 ⟨rfl, hF, hK⟩
  have H18 := Lib.hid hF
  have K18 := Lib.hid hK
  clear hF hK
  go_wp2_with fail
  refine (Wear_yes _ H18.out 0 _ (x9 start_new)).mono ?_
  rintro e w' ⟨rfl, rfl⟩
  go_wp2_with fail
  go_ret
  have k1 := K1.out
  have k2 := k1.then K2.out (by intro x hx; simp at hx <;> (right; omega))
  have k3 := k2.then K3.out (by intro x hx; simp at hx <;> (right; omega))
  have k4 := k3.then K4.out (by intro x hx; simp at hx <;> (right; omega))
  have k5 := k4.then K5.out (by intro x hx; simp at hx <;> (right; omega))
  have k6 := k5.then K6.out (by intro x hx; simp at hx <;> (right; omega))
  have k7 := k6.then K7.out (by intro x hx; simp at hx <;> (right; omega))
  have k8 := k7.then K8.out (by intro x hx; simp at hx <;> (right; omega))
  have k9 := k8.then K9.out (by intro x hx; simp at hx <;> (right; omega))
  have k10 := k9.then K10.out (by intro x hx; simp at hx <;> (right; omega))
  have k11 := k10.then K11.out (by intro x hx; simp at hx <;> (right; omega))
  have k12 := k11.then K12.out (by intro x hx; simp at hx <;> (right; omega))
  have k13 := k12.then K13.out (by intro x hx; simp at hx <;> (right; omega))
  have k14 := k13.then K14.out (by intro x hx; simp at hx <;> (right; omega))
  have k15 := k14.then K15.out (by intro x hx; simp at hx <;> (right; omega))
  have k16 := k15.then K16.out (by intro x hx; simp at hx <;> (right; omega))
  have k17 := k16.then K17.out (by intro x hx; simp at hx <;> (right; omega))
  have k18 := k17.then K18.out (by intro x hx; simp at hx <;> (right; omega))
  exact ⟨rfl, k18⟩
end Go.Proofs.Ytpcgckppdnlccaa
