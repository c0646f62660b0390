/-
  Contracts of crc: Add, Begin, End, Of.
-/
import Derived.Test.YtdcfcljgennipaaCrcB
namespace Go.Proofs.Ytdcfcljgennipaa
open Go.RowKit

/-- What four zero bits make of a number below sixteen. -/
def four (i : Nat) : BitVec 32 := zb 4 (BitVec.ofNat 32 i)

theorem zb4_four (t : BitVec 32) : (t >>> 4) ^^^ four (t &&& 15#32).toNat = zb 4 t := by
  rw [zb4 t]; unfold four; simp

theorem and_fifteen (t : BitVec 32) : bits .and .u32 (t.toNat : Int) 15 = ((t &&& 15#32).toNat : Int) := by
  rw [show (15 : Int) = ((15#32).toNat : Int) from rfl, bits_and32]

theorem and_fifteen_lt (t : BitVec 32) : (t &&& 15#32).toNat < 16 := by
  rw [BitVec.toNat_and]
  exact Nat.lt_of_le_of_lt Nat.and_le_right (by decide)

theorem shr_four (s : BitVec 32) : (s.toNat : Int) / (16 : Int) = ((s >>> 4).toNat : Int) := by
  rw [BitVec.toNat_ushiftRight, Nat.shiftRight_eq_div_pow]; omega

theorem add1_two (s : BitVec 32) (c : UInt8) : add1 s c = zb 4 (zb 4 (s ^^^ c.toBitVec.setWidth 32)) := by
  unfold add1; rw [← zb_add]

set_option maxRecDepth 100000 in
set_option maxHeartbeats 1000000 in
theorem Add_some (w : World) (s : BitVec 32) (l : List UInt8) (M off cap : Nat) (hl : l.length ≤ 65536) (hc : ∀ i c, l[i]? = some c → w.cell? ⟨M, off + i, none⟩ = some (bv c)) :
    Calls Try.prog 98 #[uv s, .slice (some ⟨M, off, none⟩) l.length cap] w fun e w' => e = .returned (uv (addl s l)) ∧ Keeps [] w w' := by
  have HC := Lib.hid hc
  clear hc
  generalize hn : l.length = n at *
  have HN := Lib.hid hn
  clear hn
  go_enter Try.func98, Try.ntmps98
  go_wp2_with (first | (go_at_call 101; refine (table_any _).mono ?_; rintro e w1 ⟨rfl, k1⟩; have K1 := Lib.hid k1; clear k1) | (refine wpList_store_row rfl 133 _ _ rfl w1.heap.size (tab 16 four).toArray rfl rfl 133 (tabK 16 four 0).toArray (Whole.new w1 _ (tabK 16 four 0)) (by rw [sizeArr16]; simp [tab_length]) (by simp [tab_length, tabK_length]) (tab_one _ _) ?_))
  go_loopw [0, 11] (fun t i wr => ∃ k : Nat, k ≤ n ∧ i = .int .i64 k ∧ t = uv (addl s (l.take k)) ∧ Whole wr w1.heap.size 133 (tab 16 four) ∧ Keeps [] w wr) (fun _ i _ => n - (intOf i).toNat)
  case atStart =>
    exact ⟨0, Nat.zero_le _, rfl, rfl, (Whole.new w1 _ (tabK 16 four 0)).setRow _, (K1.out.trans (Keeps.alloc [] _ _)).then (Keeps.setRow (S := [w1.heap.size]) _ (by simp) _) (fun x hx => .inr (by simp at hx; have := K1.out.size; omega))⟩
  case round =>
    obtain ⟨k, hk, rfl, rfl, wt, kp⟩ := hrel
    by_cases hlt : k < n
    · have hck : l[k]? = some (l.getD k 0) := by have := HN.out; simp [List.getD, List.getElem?_eq_getElem (show k < l.length by omega)]
      have p0 := kp.cell (HC.out k _ hck) (by simp)
      have HA := Lib.hid (show addl s (l.take (k + 1)) = add1 (addl s (l.take k)) (l.getD k 0) by
        rw [List.take_add_one, hck, addl_append]; rfl)
      generalize l.getD k 0 = c at *
      generalize addl s (l.take k) = t at *
      have hcb : c.toNat < 256 := c.toNat_lt
      have hx : bits .xor .u32 (t.toNat : Int) (c.toNat : Int) = ((t ^^^ c.toBitVec.setWidth 32).toNat : Int) := by rw [byte32, bits_xor32]
      rw [add1_two] at HA
      generalize t ^^^ c.toBitVec.setWidth 32 = t1 at *
      have a1 := and_fifteen t1
      have l1 := and_fifteen_lt t1
      have q1 := shr_four t1
      have x1 : bits .xor .u32 ((t1 >>> 4).toNat : Int) ((four (t1 &&& 15#32).toNat).toNat : Int) = ((zb 4 t1).toNat : Int) := by rw [bits_xor32, zb4_four]
      have e1 := wt.cell (t1 &&& 15#32).toNat
      rw [tab_get _ _ _ l1] at e1
      generalize (t1 &&& 15#32).toNat = j1 at *
      generalize four j1 = f1 at *
      generalize t1 >>> 4 = s1 at *
      generalize zb 4 t1 = t2 at *
      have a2 := and_fifteen t2
      have l2 := and_fifteen_lt t2
      have q2 := shr_four t2
      have x2 : bits .xor .u32 ((t2 >>> 4).toNat : Int) ((four (t2 &&& 15#32).toNat).toNat : Int) = ((zb 4 t2).toNat : Int) := by rw [bits_xor32, zb4_four]
      have e2 := wt.cell (t2 &&& 15#32).toNat
      rw [tab_get _ _ _ l2] at e2
      generalize (t2 &&& 15#32).toNat = j2 at *
      generalize four j2 = f2 at *
      generalize t2 >>> 4 = s2 at *
      generalize zb 4 t2 = t3 at *
      have WT := Lib.hid wt
      have KP := Lib.hid kp
      clear wt kp hck
      unfold bv at p0
      go_wp2
      go_roundw
      case rel => exact ⟨k + 1, by omega, by go_num, by rw [HA.out], WT.out, KP.out⟩
      case measure => simp [intOf]; omega
    · have hkn : k = n := by omega
      subst hkn
      have KP := Lib.hid kp
      clear kp wt
      have HA := Lib.hid (show addl s (l.take k) = addl s l by rw [List.take_of_length_le (by have := HN.out; omega)])
      go_wp2
      go_ret
      rw [← HA.out]
      exact ⟨rfl, KP.out⟩
end Go.Proofs.Ytdcfcljgennipaa
