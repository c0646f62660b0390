/-
  Package number: the chapter's examples. Written by draft/gennu.py.
-/
import Derived.Test.YtfnjjanknfmibaaNuH
namespace Go.Proofs.Ytfnjjanknfmibaa
open Go.RowKit Go.Deep
set_option linter.unusedVariables false

set_option maxRecDepth 100000 in
set_option maxHeartbeats 1000000 in
theorem reads_yes (w : World) (l : List UInt8) (b x y z M : Nat) (d : Bool) (hl : l.length ≤ maxLen) (hr : readN l b = ⟨x, y, d, true⟩) (c0 : w.cell? ⟨M, 0, none⟩ = some (.int .u32 (x : Int))) (c1 : w.cell? ⟨M, 1, none⟩ = some (.int .u32 (y : Int))) (c2 : w.cell? ⟨M, 2, none⟩ = some (.int .u32 (z : Int))) (hz : decide (z = 1) = d) :
    Calls Try.prog 43 #[str l, .int .u32 (b : Int), .slice (some ⟨M, 0, none⟩) 3 3] w fun e w' => e = .returned (.bool true) ∧ Keeps [] w w' := by
  have HR := Lib.hid (nRead_any w l b hl)
  rw [hr] at HR
  simp only [] at HR
  have HC0 := Lib.hid c0
  have HC1 := Lib.hid c1
  have HC2 := Lib.hid c2
  clear c0 c1 c2 hr hl
  unfold str at *
  generalize ByteArray.mk l.toArray = S at *
  cases d with
  | true =>
    obtain rfl : z = 1 := of_decide_eq_true hz
    go_enter Try.func43, Try.ntmps43
    go_upto_region 4 with (go_at_call 26; refine HR.out.mono ?_; rintro e w1 ⟨rfl, hk⟩; have HK := Lib.hid hk; clear hk)
    have c0 := HK.out.cell HC0.out (by simp)
    have c1 := HK.out.cell HC1.out (by simp)
    have c2 := HK.out.cell HC2.out (by simp)
    go_wp2
    go_ret
    exact ⟨rfl, HK.out⟩
  | false =>
    have h1 : ((z : Int) == 1) = false := by have := of_decide_eq_false hz; simp; omega
    clear hz
    go_enter Try.func43, Try.ntmps43
    go_upto_region 4 with (go_at_call 26; refine HR.out.mono ?_; rintro e w1 ⟨rfl, hk⟩; have HK := Lib.hid hk; clear hk)
    have c0 := HK.out.cell HC0.out (by simp)
    have c1 := HK.out.cell HC1.out (by simp)
    have c2 := HK.out.cell HC2.out (by simp)
    go_wp2
    go_ret
    exact ⟨rfl, HK.out⟩

set_option maxRecDepth 100000 in
set_option maxHeartbeats 1000000 in
theorem reads_no (w : World) (l : List UInt8) (b : Nat) (hl : l.length ≤ maxLen) (hr : readN l b = ⟨0, 0, false, false⟩) :
    Calls Try.prog 43 #[str l, .int .u32 (b : Int), .slice none 0 0] w fun e w' => e = .returned (.bool true) ∧ Keeps [] w w' := by
  have HR := Lib.hid (nRead_any w l b hl)
  rw [hr] at HR
  simp only [] at HR
  clear hr hl
  unfold str at *
  generalize ByteArray.mk l.toArray = S at *
  go_enter Try.func43, Try.ntmps43
  go_wp2_with (go_at_call 26; refine HR.out.mono ?_; rintro e w1 ⟨rfl, hk⟩; have HK := Lib.hid hk; clear hk)
  go_ret
  exact ⟨rfl, HK.out⟩

theorem reads_lit (W : World) (l : List UInt8) (b x y z : Nat) (d : Bool) (hl : l.length ≤ maxLen) (hr : readN l b = ⟨x, y, d, true⟩) (hz : decide (z = 1) = d) :
    Calls Try.prog 43 #[str l, .int .u32 (b : Int), .slice (some ⟨W.heap.size, 0, none⟩) 3 3] (W.alloc (.cells #[.int .u32 (x : Int), .int .u32 (y : Int), .int .u32 (z : Int)] 22)) fun e w' => e = .returned (.bool true) ∧ Keeps [] W w' := by
  have k := reads_yes (W.alloc (.cells #[.int .u32 (x : Int), .int .u32 (y : Int), .int .u32 (z : Int)] 22)) l b x y z W.heap.size d hl hr (cell_alloc_new W _ _ 0) (cell_alloc_new W _ _ 1) (cell_alloc_new W _ _ 2) hz
  exact k.mono fun e w' ⟨he, hk⟩ => ⟨he, (Keeps.alloc [] W _).trans hk⟩

theorem rd_0 (W : World) : Calls Try.prog 43 #[.string ⟨#[49, 50]⟩, .int .u32 10, .slice (some ⟨W.heap.size, 0, none⟩) 3 3] (W.alloc (.cells #[.int .u32 12, .int .u32 0, .int .u32 0] 22)) fun e w' => e = .returned (.bool true) ∧ Keeps [] W w' :=
  reads_lit W [49, 50] 10 12 0 0 false (by unfold maxLen; decide) (by kernel_rfl) (by decide)
theorem rd_1 (W : World) : Calls Try.prog 43 #[.string ⟨#[45, 49]⟩, .int .u32 10, .slice (some ⟨W.heap.size, 0, none⟩) 3 3] (W.alloc (.cells #[.int .u32 4294967295, .int .u32 0, .int .u32 0] 22)) fun e w' => e = .returned (.bool true) ∧ Keeps [] W w' :=
  reads_lit W [45, 49] 10 4294967295 0 0 false (by unfold maxLen; decide) (by kernel_rfl) (by decide)
theorem rd_2 (W : World) : Calls Try.prog 43 #[.string ⟨#[102, 102]⟩, .int .u32 16, .slice (some ⟨W.heap.size, 0, none⟩) 3 3] (W.alloc (.cells #[.int .u32 255, .int .u32 0, .int .u32 0] 22)) fun e w' => e = .returned (.bool true) ∧ Keeps [] W w' :=
  reads_lit W [102, 102] 16 255 0 0 false (by unfold maxLen; decide) (by kernel_rfl) (by decide)
theorem rd_3 (W : World) : Calls Try.prog 43 #[.string ⟨#[36, 70, 70]⟩, .int .u32 10, .slice (some ⟨W.heap.size, 0, none⟩) 3 3] (W.alloc (.cells #[.int .u32 255, .int .u32 0, .int .u32 0] 22)) fun e w' => e = .returned (.bool true) ∧ Keeps [] W w' :=
  reads_lit W [36, 70, 70] 10 255 0 0 false (by unfold maxLen; decide) (by kernel_rfl) (by decide)
theorem rd_4 (W : World) : Calls Try.prog 43 #[.string ⟨#[37, 45, 49, 48, 49]⟩, .int .u32 10, .slice (some ⟨W.heap.size, 0, none⟩) 3 3] (W.alloc (.cells #[.int .u32 4294967291, .int .u32 0, .int .u32 0] 22)) fun e w' => e = .returned (.bool true) ∧ Keeps [] W w' :=
  reads_lit W [37, 45, 49, 48, 49] 10 4294967291 0 0 false (by unfold maxLen; decide) (by kernel_rfl) (by decide)
theorem rd_5 (W : World) : Calls Try.prog 43 #[.string ⟨#[55, 46]⟩, .int .u32 10, .slice (some ⟨W.heap.size, 0, none⟩) 3 3] (W.alloc (.cells #[.int .u32 7, .int .u32 0, .int .u32 1] 22)) fun e w' => e = .returned (.bool true) ∧ Keeps [] W w' :=
  reads_lit W [55, 46] 10 7 0 1 true (by unfold maxLen; decide) (by kernel_rfl) (by decide)
theorem rd_6 (W : World) : Calls Try.prog 43 #[.string ⟨#[39, 65, 39]⟩, .int .u32 10, .slice (some ⟨W.heap.size, 0, none⟩) 3 3] (W.alloc (.cells #[.int .u32 65, .int .u32 0, .int .u32 0] 22)) fun e w' => e = .returned (.bool true) ∧ Keeps [] W w' :=
  reads_lit W [39, 65, 39] 10 65 0 0 false (by unfold maxLen; decide) (by kernel_rfl) (by decide)
theorem rn_0 (W : World) : Calls Try.prog 43 #[.string ⟨#[]⟩, .int .u32 10, .slice none 0 0] W fun e w' => e = .returned (.bool true) ∧ Keeps [] W w' :=
  reads_no W [] 10 (by unfold maxLen; decide) (by kernel_rfl)
theorem rn_1 (W : World) : Calls Try.prog 43 #[.string ⟨#[45]⟩, .int .u32 10, .slice none 0 0] W fun e w' => e = .returned (.bool true) ∧ Keeps [] W w' :=
  reads_no W [45] 10 (by unfold maxLen; decide) (by kernel_rfl)
theorem rn_2 (W : World) : Calls Try.prog 43 #[.string ⟨#[52, 50, 57, 52, 57, 54, 55, 50, 57, 54]⟩, .int .u32 10, .slice none 0 0] W fun e w' => e = .returned (.bool true) ∧ Keeps [] W w' :=
  reads_no W [52, 50, 57, 52, 57, 54, 55, 50, 57, 54] 10 (by unfold maxLen; decide) (by kernel_rfl)
theorem rn_3 (W : World) : Calls Try.prog 43 #[.string ⟨#[49, 46, 50]⟩, .int .u32 10, .slice none 0 0] W fun e w' => e = .returned (.bool true) ∧ Keeps [] W w' :=
  reads_no W [49, 46, 50] 10 (by unfold maxLen; decide) (by kernel_rfl)
theorem rn_4 (W : World) : Calls Try.prog 43 #[.string ⟨#[36]⟩, .int .u32 10, .slice none 0 0] W fun e w' => e = .returned (.bool true) ∧ Keeps [] W w' :=
  reads_no W [36] 10 (by unfold maxLen; decide) (by kernel_rfl)
theorem rn_5 (W : World) : Calls Try.prog 43 #[.string ⟨#[45, 32, 49]⟩, .int .u32 10, .slice none 0 0] W fun e w' => e = .returned (.bool true) ∧ Keeps [] W w' :=
  reads_no W [45, 32, 49] 10 (by unfold maxLen; decide) (by kernel_rfl)
theorem rn_6 (W : World) : Calls Try.prog 43 #[.string ⟨#[49, 50]⟩, .int .u32 2, .slice none 0 0] W fun e w' => e = .returned (.bool true) ∧ Keeps [] W w' :=
  reads_no W [49, 50] 2 (by unfold maxLen; decide) (by kernel_rfl)

theorem tx_0 (W : World) : Calls Try.prog 30 #[.int .u32 255, .int .u32 0, .int .u32 16, .bool false] W fun e w' => e = .returned (.tuple #[.string ⟨#[70, 70]⟩, .bool true]) ∧ Keeps [] W w' := by
  have k := nText_ok W 255 0 16 255 (by decide) (by decide) (by decide) (by decide) false false (by decide)
  rw [show textN 16 (if false = true then negN 255 else 255) false = [70, 70] by kernel_rfl] at k
  exact k
theorem tx_1 (W : World) : Calls Try.prog 30 #[.int .u32 4294967295, .int .u32 4294967295, .int .u32 10, .bool true] W fun e w' => e = .returned (.tuple #[.string ⟨#[45, 49]⟩, .bool true]) ∧ Keeps [] W w' := by
  have k := nText_ok W 4294967295 4294967295 10 18446744073709551615 (by decide) (by decide) (by decide) (by decide) true true (by decide)
  rw [show textN 10 (if true = true then negN 18446744073709551615 else 18446744073709551615) true = [45, 49] by kernel_rfl] at k
  exact k
theorem tx_2 (W : World) : Calls Try.prog 30 #[.int .u32 0, .int .u32 0, .int .u32 10, .bool true] W fun e w' => e = .returned (.tuple #[.string ⟨#[48]⟩, .bool true]) ∧ Keeps [] W w' := by
  have k := nText_ok W 0 0 10 0 (by decide) (by decide) (by decide) (by decide) true false (by decide)
  rw [show textN 10 (if false = true then negN 0 else 0) false = [48] by kernel_rfl] at k
  exact k
theorem st_0 (W : World) : Calls Try.prog 28 #[.int .u32 12, .int .u32 0, .int .u32 10] W fun e w' => e = .returned (.tuple #[.int .u32 1, .int .u32 0, .int .u8 50, .bool true]) ∧ Keeps [] W w' :=
  nStep_ok W 12 0 10 (by decide) (by decide) (by decide) 12 (by decide) 1 0 (by decide) (by decide) 50 (by decide)

set_option maxRecDepth 100000 in
set_option maxHeartbeats 4000000 in
theorem awake13_any (w : World) : Calls Try.prog 23 #[] w fun e w' => e = .returned (.bool true) ∧ Keeps [] w w' := by
  have KP := Lib.hid (Keeps.refl [] w)
  go_enter Try.func23, Try.ntmps23
  go_upto_region 3 with (first
    | (go_at_call 43; (with_reducible refine (rd_0 _).mono ?_); rintro e w1 ⟨rfl, hk⟩; replace KP := Lib.hid (KP.out.trans hk); clear hk)
    | (go_at_call 43; (with_reducible refine (rd_1 _).mono ?_); rintro e w1 ⟨rfl, hk⟩; replace KP := Lib.hid (KP.out.trans hk); clear hk)
    | (go_at_call 43; (with_reducible refine (rd_2 _).mono ?_); rintro e w1 ⟨rfl, hk⟩; replace KP := Lib.hid (KP.out.trans hk); clear hk)
    | (go_at_call 43; (with_reducible refine (rd_3 _).mono ?_); rintro e w1 ⟨rfl, hk⟩; replace KP := Lib.hid (KP.out.trans hk); clear hk)
    | (go_at_call 43; (with_reducible refine (rd_4 _).mono ?_); rintro e w1 ⟨rfl, hk⟩; replace KP := Lib.hid (KP.out.trans hk); clear hk)
    | (go_at_call 43; (with_reducible refine (rd_5 _).mono ?_); rintro e w1 ⟨rfl, hk⟩; replace KP := Lib.hid (KP.out.trans hk); clear hk)
    | (go_at_call 43; (with_reducible refine (rd_6 _).mono ?_); rintro e w1 ⟨rfl, hk⟩; replace KP := Lib.hid (KP.out.trans hk); clear hk))
  have HB := Lib.hid (show ∀ U, Keeps [] (w1.alloc (.cells #[.string ⟨#[]⟩, .string ⟨#[45]⟩, .string ⟨#[52, 50, 57, 52, 57, 54, 55, 50, 57, 54]⟩, .string ⟨#[49, 46, 50]⟩, .string ⟨#[36]⟩, .string ⟨#[45, 32, 49]⟩] 9)) U → U.cell? ⟨w1.heap.size, 0, none⟩ = some (.string ⟨#[]⟩) ∧ U.cell? ⟨w1.heap.size, 1, none⟩ = some (.string ⟨#[45]⟩) ∧ U.cell? ⟨w1.heap.size, 2, none⟩ = some (.string ⟨#[52, 50, 57, 52, 57, 54, 55, 50, 57, 54]⟩) ∧ U.cell? ⟨w1.heap.size, 3, none⟩ = some (.string ⟨#[49, 46, 50]⟩) ∧ U.cell? ⟨w1.heap.size, 4, none⟩ = some (.string ⟨#[36]⟩) ∧ U.cell? ⟨w1.heap.size, 5, none⟩ = some (.string ⟨#[45, 32, 49]⟩) from fun U hU => ⟨hU.cell (cell_alloc_new w1 _ _ 0) (by simp), hU.cell (cell_alloc_new w1 _ _ 1) (by simp), hU.cell (cell_alloc_new w1 _ _ 2) (by simp), hU.cell (cell_alloc_new w1 _ _ 3) (by simp), hU.cell (cell_alloc_new w1 _ _ 4) (by simp), hU.cell (cell_alloc_new w1 _ _ 5) (by simp)⟩)
  have HK1 := Lib.hid (KP.out.trans (Keeps.alloc [] w1 (.cells #[.string ⟨#[]⟩, .string ⟨#[45]⟩, .string ⟨#[52, 50, 57, 52, 57, 54, 55, 50, 57, 54]⟩, .string ⟨#[49, 46, 50]⟩, .string ⟨#[36]⟩, .string ⟨#[45, 32, 49]⟩] 9)))
  generalize hB : w1.heap.size = B at *
  go_upto_region 9 with fail
  generalize hV : w1.alloc (.cells #[.string ⟨#[]⟩, .string ⟨#[45]⟩, .string ⟨#[52, 50, 57, 52, 57, 54, 55, 50, 57, 54]⟩, .string ⟨#[49, 46, 50]⟩, .string ⟨#[36]⟩, .string ⟨#[45, 32, 49]⟩] 9) = V at *
  clear hV hB
  go_loopw [48] (fun i wr => ∃ j : Nat, j ≤ 6 ∧ i = .int .i64 (j : Int) ∧ Hid (Keeps [] V wr)) (fun i _ => 6 - (intOf i).toNat)
  case atStart => exact ⟨0, by omega, rfl, Keeps.refl _ _⟩
  case round =>
    obtain ⟨j, hj, rfl, HK⟩ := hrel
    have hcase : j = 0 ∨ j = 1 ∨ j = 2 ∨ j = 3 ∨ j = 4 ∨ j = 5 ∨ j = 6 := by omega
    rcases hcase with rfl | rfl | rfl | rfl | rfl | rfl | rfl
    · have ck := (HB.out _ HK.out).1
      go_wp2_with (go_at_call 43; (with_reducible refine (rn_0 _).mono ?_); rintro e w2 ⟨rfl, hk⟩; have HK2 := Lib.hid hk; clear hk)
      go_roundw
      case rel => exact ⟨1, by omega, by go_num, HK.out.trans HK2.out⟩
      case measure => simp [intOf]
    · have ck := (HB.out _ HK.out).2.1
      go_wp2_with (go_at_call 43; (with_reducible refine (rn_1 _).mono ?_); rintro e w2 ⟨rfl, hk⟩; have HK2 := Lib.hid hk; clear hk)
      go_roundw
      case rel => exact ⟨2, by omega, by go_num, HK.out.trans HK2.out⟩
      case measure => simp [intOf]
    · have ck := (HB.out _ HK.out).2.2.1
      go_wp2_with (go_at_call 43; (with_reducible refine (rn_2 _).mono ?_); rintro e w2 ⟨rfl, hk⟩; have HK2 := Lib.hid hk; clear hk)
      go_roundw
      case rel => exact ⟨3, by omega, by go_num, HK.out.trans HK2.out⟩
      case measure => simp [intOf]
    · have ck := (HB.out _ HK.out).2.2.2.1
      go_wp2_with (go_at_call 43; (with_reducible refine (rn_3 _).mono ?_); rintro e w2 ⟨rfl, hk⟩; have HK2 := Lib.hid hk; clear hk)
      go_roundw
      case rel => exact ⟨4, by omega, by go_num, HK.out.trans HK2.out⟩
      case measure => simp [intOf]
    · have ck := (HB.out _ HK.out).2.2.2.2.1
      go_wp2_with (go_at_call 43; (with_reducible refine (rn_4 _).mono ?_); rintro e w2 ⟨rfl, hk⟩; have HK2 := Lib.hid hk; clear hk)
      go_roundw
      case rel => exact ⟨5, by omega, by go_num, HK.out.trans HK2.out⟩
      case measure => simp [intOf]
    · have ck := (HB.out _ HK.out).2.2.2.2.2
      go_wp2_with (go_at_call 43; (with_reducible refine (rn_5 _).mono ?_); rintro e w2 ⟨rfl, hk⟩; have HK2 := Lib.hid hk; clear hk)
      go_roundw
      case rel => exact ⟨6, by omega, by go_num, HK.out.trans HK2.out⟩
      case measure => simp [intOf]
    · go_wp2_with (first
        | (go_at_call_of 30 (#[Value.int .u32 255, Value.int .u32 0, Value.int .u32 16, Value.bool false]); refine (tx_0 _).mono ?_; rintro e w3 ⟨rfl, hk⟩; have K3 := Lib.hid hk; clear hk)
        | (go_at_call_of 30 (#[Value.int .u32 4294967295, Value.int .u32 4294967295, Value.int .u32 10, Value.bool true]); refine (tx_1 _).mono ?_; rintro e w4 ⟨rfl, hk⟩; have K4 := Lib.hid hk; clear hk)
        | (go_at_call_of 30 (#[Value.int .u32 0, Value.int .u32 0, Value.int .u32 10, Value.bool true]); refine (tx_2 _).mono ?_; rintro e w5 ⟨rfl, hk⟩; have K5 := Lib.hid hk; clear hk)
        | (go_at_call 28; refine (st_0 _).mono ?_; rintro e w6 ⟨rfl, hk⟩; have K6 := Lib.hid hk; clear hk)
        | (go_at_call 43; (with_reducible refine (rn_6 _).mono ?_); rintro e w7 ⟨rfl, hk⟩; have K7 := Lib.hid hk; clear hk))
      go_ret
      exact ⟨rfl, (((((HK1.out.trans HK.out).trans K3.out).trans K4.out).trans K5.out).trans K6.out).trans K7.out⟩
end Go.Proofs.Ytfnjjanknfmibaa
