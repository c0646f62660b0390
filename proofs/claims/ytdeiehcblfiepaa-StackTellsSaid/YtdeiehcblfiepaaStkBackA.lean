/-
  StackBack, walked.
-/
import Derived.Test.YtdeiehcblfiepaaStkF
namespace Go.Proofs.Ytdeiehcblfiepaa
open Go.RowKit
set_option linter.unusedVariables false

theorem run_minU (w : World) (ts : Array TypeId) (t : TypeId) (a b : Int) (n : Nat) (hn : (n : Int) = min a b) :
    (Builtin.min_ ts t #[.int .i64 a, .int .i64 b]).run Try.prog w = .ok (.int .i64 (n : Int)) w := by
  rw [run_min_int2, hn]
  congr 2
  rw [Int.min_def]
  split <;> split <;> omega

theorem run_minU3 (w : World) (ts : Array TypeId) (t : TypeId) (a b c : Int) (n : Nat) (hn : (n : Int) = min (min a b) c) :
    (Builtin.min_ ts t #[.int .i64 a, .int .i64 b, .int .i64 c]).run Try.prog w = .ok (.int .i64 (n : Int)) w := by
  simp only [Builtin.min_, Builtin.min2, List.foldlM]
  rw [hn]
  simp [Int.min_def]
  repeat' split
  all_goals first | rfl | (simp; omega) | (exfalso; omega)

theorem take_min_succ (l : List (BitVec 32)) (i n : Nat) (hi : i < l.length) (hn : i < n) : l.take (min i n) ++ [l.getD i 0#32] = l.take (min (i + 1) n) := by
  rw [Nat.min_eq_left (by omega), Nat.min_eq_left (by omega), List.take_succ_eq_append_getElem hi, List.getD_eq_getElem?_getD, List.getElem?_eq_getElem hi]
  rfl

theorem UReads.one (w : World) (y : Int) (x : BitVec 32) (hy : y = x.toNat) (T : TypeId) : UReads (w.alloc (.cells #[Value.int .u32 y] T)) (.slice (some ⟨w.heap.size, 0, none⟩) 1 1) [x] w.heap.size 0 :=
  UReads.lit w [x] _ _ 1 (by simp [hy]) rfl

set_option maxRecDepth 100000 in
set_option maxHeartbeats 4000000 in
theorem StackBack_any (w : World) (most : Nat) (m1 : most < 256) (v : Value) (l : List (BitVec 32)) (M o : Nat) (h : UReads w v l M o) (hl : l.length ≤ maxLen) :
    Calls Try.prog 4 #[.int .u8 most, v] w fun e w' => e = .returned (.bool true) ∧ Keeps [] w w' := by
  have hml : maxLen = 9223372036854775807 := rfl
  obtain ⟨a, cap, rfl, hcap⟩ := h.shape
  obtain ⟨k3, hk3⟩ : ∃ k3, k3 = min l.length 300 := ⟨_, rfl⟩
  obtain ⟨n, hn⟩ : ∃ n, n = 1 + most := ⟨_, rfl⟩
  obtain ⟨many, hmany⟩ : ∃ many, many = min k3 n := ⟨_, rfl⟩
  have hmn := fun w ts t => run_minU w ts t (l.length : Int) 300 k3 (by omega)
  have hmn3 := fun w ts t => run_minU3 w ts t (l.length : Int) (n : Int) 300 many (by omega)
  have hcut := fun w => run_cutU_h w a l.length cap k3 (by omega)
  have hhd := h.head k3 (by omega)
  have htk : (l.take k3).length = k3 := by simp; omega
  rw [htk] at hhd
  rw [hhd.1] at hcut
  have hnn : (1 : Int) + (most : Int) = (n : Int) := by omega
  have hnr : 1 ≤ n ∧ n ≤ 256 := by omega
  have hk3l := Lib.hid (show k3 ≤ l.length ∧ k3 ≤ 300 ∧ many ≤ k3 ∧ many ≤ n ∧ (many = k3 ∨ many = n) ∧ (l.length = k3 ∨ k3 = 300) from by omega)
  have hk300 : k3 ≤ 300 := by omega
  have hm300 : many ≤ 256 := by omega
  have HA := Lib.hid (show ∀ j, j < l.length → a = some ⟨M, o, none⟩ ∧ ∃ y, y = ((l.getD j 0#32).toNat : Int) ∧ w.cell? ⟨M, o + j, none⟩ = some (.int .u32 y) from fun j hj => by
    obtain ⟨c, e, _, hc⟩ := h.cells (by intro e; simp [e] at hj)
    injection e with e
    refine ⟨e, _, rfl, ?_⟩
    exact hc j _ (by rw [List.getD_eq_getElem?_getD, List.getElem?_eq_getElem hj]; rfl))
  clear hhd htk h hk3 hmany hn
  obtain ⟨hn1, hn2⟩ := hnr
  generalize hN : l.length = nl at *
  have HNL := Lib.hid hN
  clear hN
  go_enter Try.func4, Try.ntmps4
  go_upto_region 3 with (go_at_call 9; refine (New_mine _ (n : Int) (-3) (-4) (by omega) (by omega) (by decide) (by decide) (by decide) (by decide)).mono ?_; rintro e w1 ⟨g, rfl, hs⟩; have HS := Lib.hid hs; clear hs)
  go_upto_region 6 with (fail)
  go_loopw [8, 9, 10, 33] (fun _ _ _ i wr => ∃ j : Nat, j ≤ k3 ∧ i = .int .i64 j ∧ Hid (Mine w wr g n (-3) (-4) (l.take (min j n)))) (fun _ _ _ i _ => k3 - (intOf i).toNat)
  case atStart => exact ⟨0, by omega, rfl, by simpa using HS⟩
  case round =>
    obtain ⟨j, hj, rfl, hm⟩ := hrel
    by_cases hlt : j < k3
    · have hji : (j : Int) < k3 := by omega
      obtain ⟨ha, y, hy, hc⟩ := HA.out j (by have := hk3l.out; omega)
      have q := hm.out.kept.cell hc (by simp)
      have HY := Lib.hid hy
      subst ha
      have HO := Lib.hid (UReads.one wr y _ hy 40)
      have HM2 := Lib.hid (hm.out.next (Keeps.alloc [] wr (.cells #[Value.int .u32 y] 40)))
      clear hc hy
      by_cases hjn : j < n
      · have hjni : (j : Int) < n := by omega
        have hlen : (l.take (min j n)).length = j := by simp; have := hk3l.out; have := HNL.out; omega
        have hP := Lib.hid (Push_mine HM2.out _ _ _ _ HO.out (by show 1 ≤ maxLen; decide) 0 (l.take (min (j + 1) n)) (by unfold pushT; rw [hlen, if_pos (by simp; omega)]) (by
          unfold pushL; rw [hlen, if_pos (by simp; omega)]
          exact take_min_succ l j n (by have := hk3l.out; have := HNL.out; omega) hjn))
        clear hlen HY
        go_wp2_with (go_at_call 13; refine hP.out.mono ?_; rintro e w2 ⟨rfl, h2⟩; have HM3 := Lib.hid h2; clear h2)
        go_roundw
        case rel => exact ⟨j + 1, by omega, by go_num, HM3⟩
        case measure => simp [intOf]; omega
      · have hjni : (n : Int) ≤ j := by omega
        have hlen : (l.take (min j n)).length = n := by simp; have := hk3l.out; have := HNL.out; omega
        have hmm : min (j + 1) n = min j n := by omega
        have hP := Lib.hid (Push_mine HM2.out _ _ _ _ HO.out (by show 1 ≤ maxLen; decide) (-3) (l.take (min (j + 1) n)) (by unfold pushT; rw [hlen, if_neg (by simp)]) (by
          unfold pushL; rw [hlen, if_neg (by simp), hmm]))
        clear hlen HY hmm
        go_wp2_with (go_at_call 13; refine hP.out.mono ?_; rintro e w2 ⟨rfl, h2⟩; have HM3 := Lib.hid h2; clear h2)
        go_roundw
        case rel => exact ⟨j + 1, by omega, by go_num, HM3⟩
        case measure => simp [intOf]; omega
    · obtain rfl : j = k3 := by omega
      have hmy : min j n = many := by have := hk3l.out; omega
      have HM := Lib.hid (hmy ▸ hm.out)
      have hlen : (l.take many).length = many := by simp; have := hk3l.out; have := HNL.out; omega
      clear hm hmy HS
      go_upto_region 14 with (go_at_call 11; refine (Len_mine HM.out (many : Int) (by rw [hlen])).mono ?_; rintro e w' ⟨rfl, rfl⟩)
      go_upto_region 16 with (fail)
      go_loopw [12, 13, 14] (fun i _ _ wr2 => ∃ k : Nat, k ≤ many ∧ i = .int .i64 ((k : Int) - 1) ∧ Hid (Mine w wr2 g n (-3) (-4) (l.take k))) (fun i _ _ _ => (intOf i + 1).toNat)
      case atStart => exact ⟨many, by omega, by go_num, HM⟩
      case round =>
        obtain ⟨k, hk, rfl, hm⟩ := hrel
        clear HM hlen
        match k, hk, hm with
        | 0, hk, hm =>
          have HP := Lib.hid (Pop_mine hm.out 0 (-4) [] (by simp [peekX]) (by simp [peekT]) (by simp))
          clear hm
          go_wp2_with (first | (go_at_call 15; refine HP.out.mono ?_; rintro e w2 ⟨rfl, h2⟩; have HM3 := Lib.hid h2; clear h2) | (go_at_call 12; refine (awake8_any _).mono ?_; rintro e w3 ⟨rfl, hk⟩; have HK := Lib.hid hk; clear hk))
          go_ret
          exact ⟨rfl, HM3.out.kept.trans HK.out⟩
        | k + 1, hk, hm =>
          rw [show ((k + 1 : Nat) : Int) - 1 = (k : Int) by omega]
          obtain ⟨ha, y, hy, hc⟩ := HA.out k (by have := hk3l.out; omega)
          have hlen : (l.take (k + 1)).length = k + 1 := by simp; have := hk3l.out; have := HNL.out; omega
          have hlen2 : (l.take k).length = k := by simp; have := hk3l.out; have := HNL.out; omega
          have q := hm.out.kept.cell hc (by simp)
          have HP := Lib.hid (Pop_mine hm.out y 0 (l.take k) (by
            unfold peekX; rw [hlen, if_pos (by omega), hy]
            simp [List.getD_eq_getElem?_getD]) (by unfold peekT; rw [hlen, if_pos (by omega)]) (by rw [hlen, List.take_take]; congr 1; omega))
          have HC := Lib.hid hc
          have hkl : k < nl := by have := hk3l.out; omega
          subst ha
          clear hm hc hy hlen
          go_wp2_with (first | (go_at_call 15; refine HP.out.mono ?_; rintro e w2 ⟨rfl, h2⟩; have HM3 := Lib.hid h2; replace q := h2.kept.cell HC.out (by simp); clear h2) | (go_at_call 11; refine (Len_mine HM3.out (k : Int) (by rw [hlen2])).mono ?_; rintro e w' ⟨rfl, rfl⟩))
          go_roundw
          case rel => exact ⟨k, by omega, by go_num, HM3⟩
          case measure => simp [intOf]

theorem StackBack_all (w : World) (most : Int) (v : Value) (l : List (BitVec 32)) (M o : Nat) (h : UReads w v l M o) (hl : l.length ≤ maxLen) (hb : 0 ≤ most ∧ most ≤ 255) :
    Calls Try.prog 4 #[.int .u8 most, v] w fun e w' => e = .returned (.bool true) ∧ Keeps [] w w' := by
  obtain ⟨m, rfl⟩ := Int.eq_ofNat_of_zero_le hb.1
  exact StackBack_any w m (by omega) v l M o h hl
end Go.Proofs.Ytdeiehcblfiepaa
