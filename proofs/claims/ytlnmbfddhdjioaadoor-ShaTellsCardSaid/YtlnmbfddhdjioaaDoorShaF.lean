/-
  Contracts of sha: wordsOf.
-/
import Derived.Test.YtlnmbfddhdjioaaDoorShaB
namespace Go.Proofs.YtlnmbfddhdjioaaDoor
open Go.RowKit

theorem szU32 : (Tryd.prog.info? 38).map (·.size) = some 1 := by kernel_rfl
theorem szArr64b : (Tryd.prog.info? 46).map (·.size) = some 64 := by kernel_rfl
theorem szArr16 : (Tryd.prog.info? 70).map (·.size) = some 16 := by kernel_rfl
theorem szArr8 : (Tryd.prog.info? 45).map (·.size) = some 8 := by kernel_rfl
theorem szArr64 : (Tryd.prog.info? 72).map (·.size) = some 64 := by kernel_rfl

theorem shl8 (s : BitVec 32) : IntKind.u32.wrap ((s.toNat : Int) * (256 : Int)) = ((s <<< 8).toNat : Int) := shl32 s 8
theorem shl8m (s : BitVec 32) : ((s.toNat : Int) * (256 : Int)) % 4294967296 = ((s <<< 8).toNat : Int) := shl32 s 8

set_option maxHeartbeats 2000000 in
theorem wordsOf_any (w : World) (xs : List UInt8) (hl : xs.length = 64) :
    Calls Tryd.prog 33 #[.agg (xs.map bv).toArray] w fun e w' => e = .returned (.agg (tab 16 (wordOf xs)).toArray) ∧ Keeps [] w w' := by
  have HL := Lib.hid hl
  clear hl
  go_enter Tryd.func33, Tryd.ntmps33
  go_wp2_with (first | (refine wpList_load_row rfl 46 _ rfl w.heap.size rfl 46 (xs.map bv).toArray (0, 0) _ ?c1 Tryd.underlying46 rfl ?c2 ?_))
  case c1 => exact (((Whole.new w 46 (xs.map bv)).keeps (Keeps.alloc [] _ _) (by simp)).keeps (Keeps.alloc [] _ _) (by simp))
  case c2 => rw [szArr64b]; simp [HL.out]
  go_wp2
  go_loopw [7] (fun i wr => ∃ k : Nat, k ≤ 64 ∧ i = .int .i64 k ∧ Whole wr (w.heap.size + 1 + 1) 70 (tab 16 (wordK xs k)) ∧ Whole wr (w.heap.size + 1) 70 (tab 16 (fun _ => 0#32)) ∧ Keeps [] w wr) (fun i _ => 64 - (intOf i).toNat)
  case atStart =>
    refine ⟨0, Nat.zero_le _, rfl, ?_, ?_, ?_⟩
    · rw [tab_congr (g := fun _ => 0#32) (fun i _ => wordK_zero xs i)]
      exact Whole.new_at ((w.alloc _).alloc _) _ (tab 16 (fun _ => 0#32)) _ (by simp)
    · exact (Whole.new_at (w.alloc _) _ (tab 16 (fun _ => 0#32)) _ (by simp)).keeps (Keeps.alloc [] _ _) (by simp)
    · exact ((Keeps.alloc [] _ _).trans (Keeps.alloc [] _ _)).trans (Keeps.alloc [] _ _)
  case round =>
    obtain ⟨k, hk, rfl, w2, w1, kp⟩ := hrel
    by_cases hlt : k < 64
    · have hlt' : (k : Int) < 64 := by omega
      have hxk : xs[k]? = some (xs.getD k 0) := by have := HL.out; simp [List.getD, List.getElem?_eq_getElem (show k < xs.length by omega)]
      have hi := fun w => run_index_at w 46 5 64 Tryd.underlying46 szByte aggByte (xs.map bv) (by simp [HL.out]) k .u8 ((xs.getD k 0).toNat : Int) (by rw [List.getElem?_map, hxk]; rfl)
      have hq : (k : Int) / 4 = ((k / 4 : Nat) : Int) := by omega
      have hq2 : (k : Int).tdiv 4 = ((k / 4 : Nat) : Int) := by rw [Int.tdiv_eq_ediv_of_nonneg (by omega)]; exact hq
      have hq16 : ((k / 4 : Nat) : Int) < 16 := by omega
      have hq16n : k / 4 < 16 := by omega
      have c2 := (w2.cell (k / 4)).trans (tab_get 16 _ (k / 4) hq16n)
      have f2 := w2.frozen (k / 4)
      have hset := tab_set (n := 16) (f := wordK xs k) (g := wordK xs (k + 1)) (k / 4) _ (fun i _ => wordK_succ xs k i)
      have S2 := Lib.hid (hset ▸ w2.set (k / 4) _)
      have h8 := shl8 (wordK xs k (k / 4))
      have h8m := shl8m (wordK xs k (k / 4))
      have hb : bits .or .u32 ((wordK xs k (k / 4) <<< 8).toNat : Int) ((xs.getD k 0).toNat : Int) = ((wordK xs k (k / 4) <<< 8 ||| (xs.getD k 0).toBitVec.setWidth 32).toNat : Int) := by
        rw [byte32, bits_or32]
      have hw8 : IntKind.u32.wrap ((xs.getD k 0).toNat : Int) = ((xs.getD k 0).toNat : Int) := by
        have : (xs.getD k 0).toNat < 256 := (xs.getD k 0).toNat_lt
        exact IntWalk.u32_in _ (by omega)
      generalize wordK xs k (k / 4) <<< 8 ||| (xs.getD k 0).toBitVec.setWidth 32 = nv at *
      generalize wordK xs k (k / 4) = ov at *
      generalize ov <<< 8 = ov8 at *
      generalize xs.getD k 0 = cc at *
      generalize k / 4 = q at *
      have W1 := Lib.hid w1
      have KP := Lib.hid kp
      clear w1 w2 kp hset hxk
      go_wp2
      go_roundw
      case rel =>
        refine ⟨k + 1, by omega, by go_num, S2.out, ?_, ?_⟩
        · exact W1.out.keeps (Keeps.setCell (S := [w.heap.size + 1 + 1]) _ (by simp) _) (by simp)
        · exact KP.out.then (Keeps.setCell (S := [w.heap.size + 1 + 1]) _ (by simp) _) (fun x hx => .inr (by simp at hx; omega))
      case measure => simp [intOf]; omega
    · have hkn : k = 64 := by omega
      subst hkn
      rw [tab_congr (fun i hi => wordK_all xs i hi)] at w2
      have W2 := Lib.hid w2
      have W1 := Lib.hid w1
      have KP := Lib.hid kp
      clear w1 w2 kp
      go_wp2_with (first | (refine wpList_load_row rfl 70 _ rfl (w.heap.size + 1 + 1) rfl 70 (tab 16 (wordOf xs)).toArray (0, 0) _ W2.out Tryd.underlying70 rfl (by rw [szArr16]; simp [tab_length]) ?_) | (refine wpList_store_row rfl 70 _ _ rfl (w.heap.size + 1) (tab 16 (wordOf xs)).toArray rfl rfl 70 (tab 16 (fun _ => 0#32)).toArray W1.out (by rw [szArr16]; simp [tab_length]) (by simp [tab_length]) (tab_one _ _) ?_))
      exact bodyPost_ret (results_cell_row Tryd.results33 _ _ (w.heap.size + 1) 70 (tab 16 (wordOf xs)).toArray (0, 0) _ rfl (W1.out.setRow (tab 16 (wordOf xs))) Tryd.underlying70 rfl (by rw [szArr16]; simp [tab_length])) rfl ⟨rfl, KP.out.then (Keeps.setRow (S := [w.heap.size + 1]) _ (by simp) _) (fun x hx => .inr (by simp at hx; omega))⟩
end Go.Proofs.YtlnmbfddhdjioaaDoor
