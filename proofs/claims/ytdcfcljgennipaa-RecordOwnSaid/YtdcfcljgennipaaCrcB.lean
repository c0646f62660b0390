/-
  Contracts of crc: the table of sixteen numbers.
-/
import Derived.Test.YtdcfcljgennipaaCrcA
import Derived.Laws.Rows
namespace Go.Proofs.Ytdcfcljgennipaa
open Go.RowKit

theorem zeroBitsFn_int (w : World) (b : Nat) (n : Nat) (x : Int) (s : BitVec 32) (hx : x = s.toNat) (hn : n ≤ 32) (hc : w.cell? ⟨b, 0, none⟩ = some (.int .i64 n)) :
    Calls Try.prog 103 #[.int .u32 x, .pointer (some ⟨b, 0, none⟩)] w fun e w' => e = .returned (uv (zb n s)) ∧ w = w' := by
  subst hx; exact zeroBitsFn_any w b n s hn hc

set_option maxRecDepth 100000 in
set_option maxHeartbeats 400000 in
theorem zeroBits_any (w : World) (n : Int) :
    Calls Try.prog 102 #[.int .i64 n] w fun e w' => e = .returned (.func (.func 103) #[] #[.pointer (some ⟨w.heap.size, 0, none⟩)]) ∧ w.alloc (.cells #[.int .i64 n] 3) = w' := by
  go_enter Try.func102, Try.ntmps102
  go_wp2
  go_ret
  exact ⟨rfl, rfl⟩

theorem tabK_zero16 (f : Nat → BitVec 32) : (tabK 16 f 0).toArray = #[uv 0#32, uv 0#32, uv 0#32, uv 0#32, uv 0#32, uv 0#32, uv 0#32, uv 0#32, uv 0#32, uv 0#32, uv 0#32, uv 0#32, uv 0#32, uv 0#32, uv 0#32, uv 0#32] := rfl

theorem sizeArr16 : (Try.prog.info? 133).map (·.size) = some 16 := by kernel_rfl

set_option maxRecDepth 100000 in
set_option maxHeartbeats 1000000 in
theorem table_any (w : World) :
    Calls Try.prog 101 #[] w fun e w' => e = .returned (.agg (tab 16 fun i => zb 4 (BitVec.ofNat 32 i)).toArray) ∧ Keeps [] w w' := by
  generalize hf : (fun i => zb 4 (BitVec.ofNat 32 i)) = f
  have HF := Lib.hid (show ∀ i, zb 4 (BitVec.ofNat 32 i) = f i from fun i => congrFun hf i)
  clear hf
  go_enter Try.func101, Try.ntmps101
  go_wp2_with (go_at_call 102; refine (zeroBits_any _ _).mono ?_; rintro e w' ⟨rfl, rfl⟩)
  go_loopw [5] (fun i wr => ∃ k : Nat, k ≤ 16 ∧ i = .int .i64 k ∧ Whole wr (w.heap.size + 1) 133 (tabK 16 f k) ∧ Whole wr w.heap.size 133 (tabK 16 f 0) ∧ Whole wr (w.heap.size + 1 + 1) 3 [.int .i64 4] ∧ Keeps [] w wr) (fun i _ => 16 - (intOf i).toNat)
  case atStart =>
    refine ⟨0, Nat.zero_le _, rfl, ?_, ?_, ?_, ?_⟩
    · exact (Whole.new_at (w.alloc _) _ (tabK 16 f 0) _ (by simp)).keeps (Keeps.alloc [] _ _) (by simp)
    · exact ((Whole.new w _ (tabK 16 f 0)).keeps (Keeps.alloc [] _ _) (by simp)).keeps (Keeps.alloc [] _ _) (by simp)
    · exact Whole.new_at ((w.alloc _).alloc _) _ [.int .i64 4] _ (by simp)
    · exact ((Keeps.alloc [] _ _).trans (Keeps.alloc [] _ _)).trans (Keeps.alloc [] _ _)
  case round =>
    obtain ⟨k, hk, rfl, w1, w0, w2, kp⟩ := hrel
    by_cases hlt : k < 16
    · have hlt' : (k : Int) < 16 := by omega
      have c2 := w2.cell 0
      have c1 := w1.cell k
      rw [tabK_get _ _ _ _ hlt, if_neg (Nat.lt_irrefl _)] at c1
      have f1 := w1.frozen k
      have hz := kp.size
      have S1 := Lib.hid (w1.set k (uv (f k)))
      have W0 := Lib.hid w0
      have W2 := Lib.hid w2
      have KP := Lib.hid kp
      clear w0 w1 w2 kp
      go_wp2_with (go_at_call 103; refine (zeroBitsFn_int _ _ 4 _ (BitVec.ofNat 32 k) (by simp; omega) (by omega) c2).mono ?_; rintro e w' ⟨rfl, rfl⟩)
      go_roundw
      case rel =>
        rw [HF.out]
        refine ⟨k + 1, by omega, by go_num, ?_, ?_, ?_, ?_⟩
        · have := S1.out; rw [tabK_set] at this; exact this
        · exact W0.out.keeps (Keeps.setCell (S := [w.heap.size + 1]) _ (by simp) _) (by simp)
        · exact W2.out.keeps (Keeps.setCell (S := [w.heap.size + 1]) _ (by simp) _) (by simp)
        · exact KP.out.then (Keeps.setCell (S := [w.heap.size + 1]) _ (by simp) _) (fun x hx => .inr (by simp at hx; omega))
      case measure => simp [intOf]; omega
    · have hkn : k = 16 := by omega
      subst hkn
      rw [tabK_all] at w1
      have W0 := Lib.hid w0
      have W1 := Lib.hid w1
      have KP := Lib.hid kp
      clear w0 w1 w2 kp
      go_wp2_with (first | (refine wpList_load_row rfl 133 _ rfl (w.heap.size + 1) rfl 133 (tab 16 f).toArray (0, 0) _ W1.out Try.underlying133 rfl (by rw [sizeArr16]; simp [tab_length]) ?_) | (refine wpList_store_row rfl 133 _ _ rfl w.heap.size (tab 16 f).toArray rfl rfl 133 (tabK 16 f 0).toArray W0.out (by rw [sizeArr16]; simp [tab_length]) (by simp [tab_length, tabK_length]) (tab_one _ _) ?_))
      exact bodyPost_ret (results_cell_row Try.results101 _ _ w.heap.size 133 (tab 16 f).toArray (0, 0) _ rfl (W0.out.setRow (tab 16 f)) Try.underlying133 rfl (by rw [sizeArr16]; simp [tab_length])) rfl ⟨rfl, KP.out.then (Keeps.setRow (S := [w.heap.size]) _ (by simp) _) (fun x hx => .inr (by simp at hx; omega))⟩
end Go.Proofs.Ytdcfcljgennipaa
