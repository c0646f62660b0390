/-
  StackMay, walked.
-/
import Derived.Test.YtdeiehcblfiepaaStkBackA
namespace Go.Proofs.Ytdeiehcblfiepaa
open Go.RowKit
set_option linter.unusedVariables false

theorem u32s_list (z : Value) (n : Nat) : (madeCells #[z] n).toList = List.replicate n z := by
  refine List.ext_getElem? fun i => ?_
  simp only [madeCells, Array.toList_map, Array.toList_range, List.getElem?_map, List.getElem?_replicate]
  by_cases h : i < n
  · simp [h, Nat.mod_one]
  · simp [h]

theorem run_u32s (w : World) (n : Nat) (hm : n ≤ 1000000) :
    (Instr.makeSlice 28 (.int .i64 n) (.int .i64 n)).run Try.prog w = .ok (.slice (some ⟨w.heap.size, 0, none⟩) n n) (w.alloc (.cells (List.replicate n (Value.int .u32 0)).toArray 40)) := by
  obtain ⟨i0, hi, hz0, hz1, hz2⟩ := info_parts infoU
  rw [run_make w 28 40 i0 (.int .u32 0) Try.underlying28 hi hz0 .i64 .i64 _ _ (by omega) (by omega) (by rw [hz2]; omega) (by omega)]
  rw [hz1, Int.toNat_natCast, Nat.mul_one, show (Value.int IntKind.u32 0).cells = #[.int .u32 0] from rfl, ← u32s_list]

theorem UReads.zeros (w : World) (k : Nat) : UReads (w.alloc (.cells (List.replicate k (Value.int .u32 0)).toArray 40)) (.slice (some ⟨w.heap.size, 0, none⟩) k k) (List.replicate k 0#32) w.heap.size 0 :=
  UReads.lit w (List.replicate k 0#32) _ _ k (by simp) (by simp)

set_option maxRecDepth 100000 in
set_option maxHeartbeats 4000000 in
theorem StackMay_any (w : World) (most takes gives : Nat) (m1 : most < 256) (t1 : takes < 256) (g1 : gives < 256) (v : Value) (l : List (BitVec 32)) (M o : Nat) (h : UReads w v l M o) (hl : l.length ≤ maxLen) :
    Calls Try.prog 6 #[.int .u8 most, v, .int .u8 takes, .int .u8 gives] w fun e w' => e = .returned (.bool true) ∧ Keeps [] w w' := by
  have hml : maxLen = 9223372036854775807 := rfl
  obtain ⟨a, cap, rfl, hcap⟩ := h.shape
  obtain ⟨n, hn⟩ : ∃ n, n = 1 + most % 60 := ⟨_, rfl⟩
  obtain ⟨k3, hk3⟩ : ∃ k3, k3 = min l.length n := ⟨_, rfl⟩
  obtain ⟨A, hA⟩ : ∃ A, A = takes % 71 := ⟨_, rfl⟩
  obtain ⟨B, hB⟩ : ∃ B, B = gives % 71 := ⟨_, rfl⟩
  have eA : (takes : Int) % 71 = (A : Int) := by omega
  have eB : (gives : Int) % 71 = (B : Int) := by omega
  obtain ⟨N0, hN0⟩ : ∃ N0, N0 = most % 60 := ⟨_, rfl⟩
  have eN : (most : Int) % 60 = (N0 : Int) := by omega
  have eN1 : (1 : Int) + (N0 : Int) = (n : Int) := by omega
  have hmn := fun w ts t => run_minU w ts t (l.length : Int) (n : Int) k3 (by omega)
  have hcut := fun w => run_cutU_h w a l.length cap k3 (by omega)
  have hhd := h.head k3 (by omega)
  have htk : (l.take k3).length = k3 := by simp; omega
  rw [htk] at hhd
  rw [hhd.1] at hcut
  have HH := Lib.hid hhd.2
  have bn : 1 ≤ n ∧ n ≤ 60 := by omega
  have bN : N0 < 60 := by omega
  have bA : A ≤ 70 := by omega
  have bB : B ≤ 70 := by omega
  have bk : k3 ≤ n ∧ k3 ≤ l.length := by omega
  obtain ⟨bn1, bn2⟩ := bn
  obtain ⟨bk1, bk2⟩ := bk
  clear hn hk3 hA hB hN0 hhd h
  obtain ⟨T, hT⟩ : ∃ T, T = mayT n (-5) (-6) (l.take k3) A B := ⟨_, rfl⟩
  have HT := Lib.hid hT
  have hTv : T = if k3 < A then -6 else if (n : Int) - k3 < (B : Int) - A then -5 else 0 := by
    rw [hT]; unfold mayT
    rw [htk, show max (A : Int) 0 = A by omega, show max (B : Int) 0 = B by omega]
    congr 1
    exact propext ⟨fun h => by omega, fun h => by omega⟩
  have HTV := Lib.hid hTv
  generalize hLL : l.take k3 = L at *
  have HLN := Lib.hid htk
  clear hT hTv hLL htk
  generalize l.length = nl at *
  go_enter Try.func6, Try.ntmps6
  go_upto_region 5 with (go_at_call 9; refine (New_mine _ (n : Int) (-5) (-6) (by omega) (by omega) (by decide) (by decide) (by decide) (by decide)).mono ?_; rintro e w1 ⟨g, rfl, hs⟩; have HS := Lib.hid hs; clear hs)
  have HP := Lib.hid (Push_mine HS.out _ _ _ _ (HH.out.keeps HS.out.kept (by simp)) (by rw [HLN.out]; omega) 0 L (by unfold pushT; rw [HLN.out, if_pos (by simp; omega)]) (by unfold pushL; rw [HLN.out, if_pos (by simp; omega)]; simp))
  clear HS
  go_upto_region 8 with (first | (go_at_call 13; refine HP.out.mono ?_; rintro e w2 ⟨rfl, h2⟩; have HS := Lib.hid h2; clear h2) | (go_at_call 24; refine (May_mine HS.out A B T (by omega) (by omega) HT.out.symm).mono ?_; rintro e w3 ⟨rfl, h3⟩; have HS3 := Lib.hid h3; clear h3))
  go_upto_region 9 with (fail)
  go_loopw [15, 16, 48] (fun _ _ i wr => ∃ j : Nat, j ≤ A ∧ j ≤ k3 ∧ i = .int .i64 j ∧ Hid (Mine w wr g n (-5) (-6) (L.take (k3 - j)))) (fun _ _ i _ => A - (intOf i).toNat)
  case atStart => exact ⟨0, by omega, by omega, rfl, by rw [Nat.sub_zero, ← HLN.out, List.take_length]; exact HS3⟩
  case round =>
    obtain ⟨j, hj, hjk, rfl, hm⟩ := hrel
    have hlen : (L.take (k3 - j)).length = k3 - j := by simp; have := HLN.out; omega
    have HL := Lib.hid hlen
    clear hlen HP HH HS
    by_cases hlt : j < A
    · have hji : (j : Int) < A := by omega
      by_cases hjk2 : j < k3
      · obtain ⟨y, hy⟩ : ∃ y : Int, y = (peekX (L.take (k3 - j)) 0).toNat := ⟨_, rfl⟩
        have HP := Lib.hid (Pop_mine hm.out y 0 (L.take (k3 - (j + 1))) hy.symm (by unfold peekT; rw [HL.out, if_pos (by omega)]) (by rw [HL.out, List.take_take]; congr 1; omega))
        clear hy
        go_wp2_with (go_at_call 15; refine HP.out.mono ?_; rintro e w2 ⟨rfl, h2⟩; have HM := Lib.hid h2; clear h2)
        go_roundw
        case rel => exact ⟨j + 1, by omega, by omega, by go_num, HM⟩
        case measure => simp [intOf]; omega
      · have e0 : k3 - j = 0 := by omega
        have HP := Lib.hid (Pop_mine hm.out 0 (-6) [] (by rw [e0]; simp [peekX]) (by rw [e0]; simp [peekT]) (by rw [e0]; simp))
        have hTT : T = -6 := by rw [HTV.out, if_pos (by omega)]
        subst hTT
        clear e0
        go_wp2_with (first | (go_at_call 15; refine HP.out.mono ?_; rintro e w2 ⟨rfl, h2⟩; have HM := Lib.hid h2; clear h2) | (go_at_call 12; refine (awake8_any _).mono ?_; rintro e w3 ⟨rfl, hk⟩; have HK := Lib.hid hk; clear hk))
        go_ret
        exact ⟨rfl, HM.out.kept.trans HK.out⟩
    · obtain rfl : j = A := by omega
      have HZ := Lib.hid (UReads.zeros wr B)
      have hmk := run_u32s wr B (by omega)
      generalize hC : (List.replicate B (Value.int .u32 0)).toArray = C at *
      have HM2 := Lib.hid (hm.out.next (Keeps.alloc [] wr (.cells C 40)))
      by_cases hr : (n : Int) - k3 < (B : Int) - j
      · have hTT : T = -5 := by rw [HTV.out, if_neg (by omega), if_pos hr]
        subst hTT
        have HP := Lib.hid (Push_mine HM2.out _ _ _ _ HZ.out (by rw [List.length_replicate]; omega) (-5) (L.take (k3 - j)) (by unfold pushT; rw [HL.out, if_neg (by simp; omega)]) (by unfold pushL; rw [HL.out, if_neg (by simp; omega)]))
        clear hr
        go_wp2_with (first | (go_at_call 13; refine HP.out.mono ?_; rintro e w2 ⟨rfl, h2⟩; have HM := Lib.hid h2; clear h2) | (go_at_call 12; refine (awake8_any _).mono ?_; rintro e w3 ⟨rfl, hk⟩; have HK := Lib.hid hk; clear hk))
        go_ret
        exact ⟨rfl, HM.out.kept.trans HK.out⟩
      · have hTT : T = 0 := by rw [HTV.out, if_neg (by omega), if_neg hr]
        subst hTT
        have HP := Lib.hid (Push_mine HM2.out _ _ _ _ HZ.out (by rw [List.length_replicate]; omega) 0 (L.take (k3 - j) ++ List.replicate B 0#32) (by unfold pushT; rw [HL.out, if_pos (by simp; omega)]) (by unfold pushL; rw [HL.out, if_pos (by simp; omega)]))
        clear hr
        go_wp2_with (first | (go_at_call 13; refine HP.out.mono ?_; rintro e w2 ⟨rfl, h2⟩; have HM := Lib.hid h2; clear h2) | (go_at_call 12; refine (awake8_any _).mono ?_; rintro e w3 ⟨rfl, hk⟩; have HK := Lib.hid hk; clear hk))
        go_ret
        exact ⟨rfl, HM.out.kept.trans HK.out⟩

theorem StackMay_all (w : World) (most takes gives : Int) (v : Value) (l : List (BitVec 32)) (M o : Nat) (h : UReads w v l M o) (hl : l.length ≤ maxLen) (hb : 0 ≤ most ∧ most ≤ 255) (ht : 0 ≤ takes ∧ takes ≤ 255) (hg : 0 ≤ gives ∧ gives ≤ 255) :
    Calls Try.prog 6 #[.int .u8 most, v, .int .u8 takes, .int .u8 gives] w fun e w' => e = .returned (.bool true) ∧ Keeps [] w w' := by
  obtain ⟨m, rfl⟩ := Int.eq_ofNat_of_zero_le hb.1
  obtain ⟨t, rfl⟩ := Int.eq_ofNat_of_zero_le ht.1
  obtain ⟨g, rfl⟩ := Int.eq_ofNat_of_zero_le hg.1
  exact StackMay_any w m t g (by omega) (by omega) (by omega) v l M o h hl
end Go.Proofs.Ytdeiehcblfiepaa
