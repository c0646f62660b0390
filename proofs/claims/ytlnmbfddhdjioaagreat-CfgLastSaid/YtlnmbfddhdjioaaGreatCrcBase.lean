/-
  Contracts of crc: the effect of zero bits, its table, Add, Begin, End, Of.
  Contracts of crc: the table of sixteen numbers.
  Contracts of crc: Add, Begin, End, Of.
  Contracts of crc: Add of any bytes, Begin, End, Of; the matrix: of, squared, repeated; zeroBit, zeroByte, Join.
-/
import Derived.Test.YtlnmbfddhdjioaaGreatRows
import Derived.Test.YtlnmbfddhdjioaaGreatGround
import Derived.Test.YtlnmbfddhdjioaaGreatCrcMath
import Derived.Deep.QuietTactic
import Derived.BigQuiet
import Derived.Outline
import Derived.Laws.Rows
namespace Go.Proofs.YtlnmbfddhdjioaaGreat
open Go.RowKit

theorem and_one (s : BitVec 32) : bits .and .u32 (s.toNat : Int) 1 = if s.getLsbD 0 then 1 else 0 := by
  rw [show (1 : Int) = ((1#32).toNat : Int) from rfl, bits_and32]
  cases h : s.getLsbD 0
  · rw [show s &&& 1#32 = 0#32 by ext i hi; simp; cases i <;> simp_all]; rfl
  · rw [show s &&& 1#32 = 1#32 by ext i hi; simp; cases i <;> simp_all]; rfl

theorem shr_one (s : BitVec 32) : (s.toNat : Int) / (2 : Int) = ((s >>> 1).toNat : Int) := by
  rw [BitVec.toNat_ushiftRight, Nat.shiftRight_eq_div_pow]; omega

set_option maxRecDepth 100000 in
set_option maxHeartbeats 400000 in
theorem zeroBitsFn_any (w : World) (b : Nat) (n : Nat) (s : BitVec 32) (hn : n ≤ 32) (hc : w.cell? ⟨b, 0, none⟩ = some (.int .i64 n)) :
    Calls Tryz.prog 136 #[uv s, .pointer (some ⟨b, 0, none⟩)] w fun e w' => e = .returned (uv (zb n s)) ∧ w = w' := by
  go_enter Tryz.func136, Tryz.ntmps136
  go_wp2
  go_loop [0, 6] (fun t i => ∃ k : Nat, k ≤ n ∧ i = .int .i64 k ∧ t = uv (zb k s)) (fun _ i => n - (intOf i).toNat)
  case atStart => exact ⟨0, Nat.zero_le _, rfl, rfl⟩
  case round =>
    obtain ⟨k, hk, rfl, rfl⟩ := hrel
    have HS := Lib.hid (zb_succ k s)
    generalize hz : zb k s = t at *
    have HZ := Lib.hid hz
    clear hz
    have h1 := and_one t
    have H2 := Lib.hid (shr_one t)
    have H3 := Lib.hid (show bits .xor .u32 ((t.toNat : Int) / (2 : Int)) 3988292384 = ((t >>> 1 ^^^ poly).toNat : Int) by rw [shr_one]; exact bits_xor32 _ poly)
    have HT := Lib.hid (show step1 t = if t.getLsbD 0 then (t >>> 1) ^^^ poly else t >>> 1 from rfl)
    by_cases hlt : k < n
    · cases hb : t.getLsbD 0
      all_goals
        rw [hb] at h1
        simp only [Bool.false_eq_true, if_false, if_true] at h1
        rw [hb] at HT
        clear hb
        go_wp2
        go_round
        case rel => exact ⟨k + 1, by omega, by go_num, by rw [HS.out, HT.out]; first | exact congrArg (Value.int .u32) H2.out | exact congrArg (Value.int .u32) H3.out⟩
        case measure => simp [intOf]; omega
    · go_wp2
      go_ret
      have : k = n := by omega
      subst this
      rw [HZ.out]
      exact ⟨rfl, rfl⟩
end Go.Proofs.YtlnmbfddhdjioaaGreat

namespace Go.Proofs.YtlnmbfddhdjioaaGreat
open Go.RowKit

theorem zeroBitsFn_int (w : World) (b : Nat) (n : Nat) (x : Int) (s : BitVec 32) (hx : x = s.toNat) (hn : n ≤ 32) (hc : w.cell? ⟨b, 0, none⟩ = some (.int .i64 n)) :
    Calls Tryz.prog 136 #[.int .u32 x, .pointer (some ⟨b, 0, none⟩)] w fun e w' => e = .returned (uv (zb n s)) ∧ w = w' := by
  subst hx; exact zeroBitsFn_any w b n s hn hc

set_option maxRecDepth 100000 in
set_option maxHeartbeats 400000 in
theorem zeroBits_any (w : World) (n : Int) :
    Calls Tryz.prog 134 #[.int .i64 n] w fun e w' => e = .returned (.func (.func 136) #[] #[.pointer (some ⟨w.heap.size, 0, none⟩)]) ∧ w.alloc (.cells #[.int .i64 n] 3) = w' := by
  go_enter Tryz.func134, Tryz.ntmps134
  go_wp2
  go_ret
  exact ⟨rfl, rfl⟩

theorem tabK_zero16 (f : Nat → BitVec 32) : (tabK 16 f 0).toArray = #[uv 0#32, uv 0#32, uv 0#32, uv 0#32, uv 0#32, uv 0#32, uv 0#32, uv 0#32, uv 0#32, uv 0#32, uv 0#32, uv 0#32, uv 0#32, uv 0#32, uv 0#32, uv 0#32] := rfl

theorem sizeArr16 : (Tryz.prog.info? 173).map (·.size) = some 16 := by kernel_rfl

set_option maxRecDepth 100000 in
set_option maxHeartbeats 1000000 in
theorem table_any (w : World) :
    Calls Tryz.prog 128 #[] w fun e w' => e = .returned (.agg (tab 16 fun i => zb 4 (BitVec.ofNat 32 i)).toArray) ∧ Keeps [] w w' := by
  generalize hf : (fun i => zb 4 (BitVec.ofNat 32 i)) = f
  have HF := Lib.hid (show ∀ i, zb 4 (BitVec.ofNat 32 i) = f i from fun i => congrFun hf i)
  clear hf
  go_enter Tryz.func128, Tryz.ntmps128
  go_wp2_with (go_at_call 134; refine (zeroBits_any _ _).mono ?_; rintro e w' ⟨rfl, rfl⟩)
  go_loopw [5] (fun i wr => ∃ k : Nat, k ≤ 16 ∧ i = .int .i64 k ∧ Whole wr (w.heap.size + 1) 173 (tabK 16 f k) ∧ Whole wr w.heap.size 173 (tabK 16 f 0) ∧ Whole wr (w.heap.size + 1 + 1) 3 [.int .i64 4] ∧ Keeps [] w wr) (fun i _ => 16 - (intOf i).toNat)
  case atStart =>
    refine ⟨0, Nat.zero_le _, rfl, ?_, ?_, ?_, ?_⟩
    · exact (Whole.new_at (w.alloc _) _ (tabK 16 f 0) _ (by simp)).keeps (Keeps.alloc [] _ _) (by simp)
    · exact ((Whole.new w _ (tabK 16 f 0)).keeps (Keeps.alloc [] _ _) (by simp)).keeps (Keeps.alloc [] _ _) (by simp)
    · exact Whole.new_at ((w.alloc _).alloc _) _ [.int .i64 4] _ (by simp)
    · exact ((Keeps.alloc [] _ _).trans (Keeps.alloc [] _ _)).trans (Keeps.alloc [] _ _)
  case round =>
    obtain ⟨k, hk, rfl, w1, w0, w2, kp⟩ := hrel
    by_cases hlt : k < 16
    · have hlt' : (k : Int) < 16 := by omega
      have c2 := w2.cell 0
      have c1 := w1.cell k
      rw [tabK_get _ _ _ _ hlt, if_neg (Nat.lt_irrefl _)] at c1
      have f1 := w1.frozen k
      have hz := kp.size
      have S1 := Lib.hid (w1.set k (uv (f k)))
      have W0 := Lib.hid w0
      have W2 := Lib.hid w2
      have KP := Lib.hid kp
      clear w0 w1 w2 kp
      go_wp2_with (go_at_call 136; refine (zeroBitsFn_int _ _ 4 _ (BitVec.ofNat 32 k) (by simp; omega) (by omega) c2).mono ?_; rintro e w' ⟨rfl, rfl⟩)
      go_roundw
      case rel =>
        rw [HF.out]
        refine ⟨k + 1, by omega, by go_num, ?_, ?_, ?_, ?_⟩
        · have := S1.out; rw [tabK_set] at this; exact this
        · exact W0.out.keeps (Keeps.setCell (S := [w.heap.size + 1]) _ (by simp) _) (by simp)
        · exact W2.out.keeps (Keeps.setCell (S := [w.heap.size + 1]) _ (by simp) _) (by simp)
        · exact KP.out.then (Keeps.setCell (S := [w.heap.size + 1]) _ (by simp) _) (fun x hx => .inr (by simp at hx; omega))
      case measure => simp [intOf]; omega
    · have hkn : k = 16 := by omega
      subst hkn
      rw [tabK_all] at w1
      have W0 := Lib.hid w0
      have W1 := Lib.hid w1
      have KP := Lib.hid kp
      clear w0 w1 w2 kp
      go_wp2_with (first | (refine wpList_load_row rfl 173 _ rfl (w.heap.size + 1) rfl 173 (tab 16 f).toArray (0, 0) _ W1.out Tryz.underlying173 rfl (by rw [sizeArr16]; simp [tab_length]) ?_) | (refine wpList_store_row rfl 173 _ _ rfl w.heap.size (tab 16 f).toArray rfl rfl 173 (tabK 16 f 0).toArray W0.out (by rw [sizeArr16]; simp [tab_length]) (by simp [tab_length, tabK_length]) (tab_one _ _) ?_))
      exact bodyPost_ret (results_cell_row Tryz.results128 _ _ w.heap.size 173 (tab 16 f).toArray (0, 0) _ rfl (W0.out.setRow (tab 16 f)) Tryz.underlying173 rfl (by rw [sizeArr16]; simp [tab_length])) rfl ⟨rfl, KP.out.then (Keeps.setRow (S := [w.heap.size]) _ (by simp) _) (fun x hx => .inr (by simp at hx; omega))⟩
end Go.Proofs.YtlnmbfddhdjioaaGreat

namespace Go.Proofs.YtlnmbfddhdjioaaGreat
open Go.RowKit

/-- What four zero bits make of a number below sixteen. -/
def four (i : Nat) : BitVec 32 := zb 4 (BitVec.ofNat 32 i)

theorem zb4_four (t : BitVec 32) : (t >>> 4) ^^^ four (t &&& 15#32).toNat = zb 4 t := by
  rw [zb4 t]; unfold four; simp

theorem and_fifteen (t : BitVec 32) : bits .and .u32 (t.toNat : Int) 15 = ((t &&& 15#32).toNat : Int) := by
  rw [show (15 : Int) = ((15#32).toNat : Int) from rfl, bits_and32]

theorem and_fifteen_lt (t : BitVec 32) : (t &&& 15#32).toNat < 16 := by
  rw [BitVec.toNat_and]
  exact Nat.lt_of_le_of_lt Nat.and_le_right (by decide)

theorem shr_four (s : BitVec 32) : (s.toNat : Int) / (16 : Int) = ((s >>> 4).toNat : Int) := by
  rw [BitVec.toNat_ushiftRight, Nat.shiftRight_eq_div_pow]; omega

theorem add1_two (s : BitVec 32) (c : UInt8) : add1 s c = zb 4 (zb 4 (s ^^^ c.toBitVec.setWidth 32)) := by
  unfold add1; rw [← zb_add]

set_option maxRecDepth 100000 in
set_option maxHeartbeats 1000000 in
theorem Add_some (w : World) (s : BitVec 32) (l : List UInt8) (M off cap : Nat) (hl : l.length ≤ 65536) (hc : ∀ i c, l[i]? = some c → w.cell? ⟨M, off + i, none⟩ = some (bv c)) :
    Calls Tryz.prog 113 #[uv s, .slice (some ⟨M, off, none⟩) l.length cap] w fun e w' => e = .returned (uv (addl s l)) ∧ Keeps [] w w' := by
  have HC := Lib.hid hc
  clear hc
  generalize hn : l.length = n at *
  have HN := Lib.hid hn
  clear hn
  go_enter Tryz.func113, Tryz.ntmps113
  go_wp2_with (first | (go_at_call 128; refine (table_any _).mono ?_; rintro e w1 ⟨rfl, k1⟩; have K1 := Lib.hid k1; clear k1) | (refine wpList_store_row rfl 173 _ _ rfl w1.heap.size (tab 16 four).toArray rfl rfl 173 (tabK 16 four 0).toArray (Whole.new w1 _ (tabK 16 four 0)) (by rw [sizeArr16]; simp [tab_length]) (by simp [tab_length, tabK_length]) (tab_one _ _) ?_))
  go_loopw [0, 11] (fun t i wr => ∃ k : Nat, k ≤ n ∧ i = .int .i64 k ∧ t = uv (addl s (l.take k)) ∧ Whole wr w1.heap.size 173 (tab 16 four) ∧ Keeps [] w wr) (fun _ i _ => n - (intOf i).toNat)
  case atStart =>
    exact ⟨0, Nat.zero_le _, rfl, rfl, (Whole.new w1 _ (tabK 16 four 0)).setRow _, (K1.out.trans (Keeps.alloc [] _ _)).then (Keeps.setRow (S := [w1.heap.size]) _ (by simp) _) (fun x hx => .inr (by simp at hx; have := K1.out.size; omega))⟩
  case round =>
    obtain ⟨k, hk, rfl, rfl, wt, kp⟩ := hrel
    by_cases hlt : k < n
    · have hck : l[k]? = some (l.getD k 0) := by have := HN.out; simp [List.getD, List.getElem?_eq_getElem (show k < l.length by omega)]
      have p0 := kp.cell (HC.out k _ hck) (by simp)
      have HA := Lib.hid (show addl s (l.take (k + 1)) = add1 (addl s (l.take k)) (l.getD k 0) by
        rw [List.take_add_one, hck, addl_append]; rfl)
      generalize l.getD k 0 = c at *
      generalize addl s (l.take k) = t at *
      have hcb : c.toNat < 256 := c.toNat_lt
      have hx : bits .xor .u32 (t.toNat : Int) (c.toNat : Int) = ((t ^^^ c.toBitVec.setWidth 32).toNat : Int) := by rw [byte32, bits_xor32]
      rw [add1_two] at HA
      generalize t ^^^ c.toBitVec.setWidth 32 = t1 at *
      have a1 := and_fifteen t1
      have l1 := and_fifteen_lt t1
      have q1 := shr_four t1
      have x1 : bits .xor .u32 ((t1 >>> 4).toNat : Int) ((four (t1 &&& 15#32).toNat).toNat : Int) = ((zb 4 t1).toNat : Int) := by rw [bits_xor32, zb4_four]
      have e1 := wt.cell (t1 &&& 15#32).toNat
      rw [tab_get _ _ _ l1] at e1
      generalize (t1 &&& 15#32).toNat = j1 at *
      generalize four j1 = f1 at *
      generalize t1 >>> 4 = s1 at *
      generalize zb 4 t1 = t2 at *
      have a2 := and_fifteen t2
      have l2 := and_fifteen_lt t2
      have q2 := shr_four t2
      have x2 : bits .xor .u32 ((t2 >>> 4).toNat : Int) ((four (t2 &&& 15#32).toNat).toNat : Int) = ((zb 4 t2).toNat : Int) := by rw [bits_xor32, zb4_four]
      have e2 := wt.cell (t2 &&& 15#32).toNat
      rw [tab_get _ _ _ l2] at e2
      generalize (t2 &&& 15#32).toNat = j2 at *
      generalize four j2 = f2 at *
      generalize t2 >>> 4 = s2 at *
      generalize zb 4 t2 = t3 at *
      have WT := Lib.hid wt
      have KP := Lib.hid kp
      clear wt kp hck
      unfold bv at p0
      go_wp2
      go_roundw
      case rel => exact ⟨k + 1, by omega, by go_num, by rw [HA.out], WT.out, KP.out⟩
      case measure => simp [intOf]; omega
    · have hkn : k = n := by omega
      subst hkn
      have KP := Lib.hid kp
      clear kp wt
      have HA := Lib.hid (show addl s (l.take k) = addl s l by rw [List.take_of_length_le (by have := HN.out; omega)])
      go_wp2
      go_ret
      rw [← HA.out]
      exact ⟨rfl, KP.out⟩
end Go.Proofs.YtlnmbfddhdjioaaGreat

namespace Go.Proofs.YtlnmbfddhdjioaaGreat
open Go.RowKit

set_option maxRecDepth 100000 in
set_option maxHeartbeats 1000000 in
theorem Add_none (w : World) (s : BitVec 32) (p : Option Addr) (cap : Nat) :
    Calls Tryz.prog 113 #[uv s, .slice p 0 cap] w fun e w' => e = .returned (uv s) ∧ Keeps [] w w' := by
  go_enter Tryz.func113, Tryz.ntmps113
  go_wp2_with (first | (go_at_call 128; refine (table_any _).mono ?_; rintro e w1 ⟨rfl, k1⟩; have K1 := Lib.hid k1; clear k1) | (refine wpList_store_row rfl 173 _ _ rfl w1.heap.size (tab 16 four).toArray rfl rfl 173 (tabK 16 four 0).toArray (Whole.new w1 _ (tabK 16 four 0)) (by rw [sizeArr16]; simp [tab_length]) (by simp [tab_length, tabK_length]) (tab_one _ _) ?_))
  refine wp_loop_rounds 1 ?_; rw [rounds_succ]
  go_wp2
  go_ret
  exact ⟨rfl, (K1.out.trans (Keeps.alloc [] _ _)).then (Keeps.setRow (S := [w1.heap.size]) _ (by simp) _) (fun x hx => .inr (by simp at hx; have := K1.out.size; omega))⟩

theorem Add_any (w : World) (s : BitVec 32) (v : Value) (l : List UInt8) (M : Nat) (h : Reads w v l M) (hl : l.length ≤ 65536) :
    Calls Tryz.prog 113 #[uv s, v] w fun e w' => e = .returned (uv (addl s l)) ∧ Keeps [] w w' := by
  by_cases he : l = []
  · subst he
    rcases h with ⟨rfl, _⟩ | ⟨ad, cap, rfl, _⟩
    · exact Add_none w s none 0
    · exact Add_none w s (some ad) cap
  · obtain ⟨off, cap, rfl, _, hc⟩ := h.at he
    exact Add_some w s l M off cap hl hc

set_option maxRecDepth 100000 in
set_option maxHeartbeats 400000 in
theorem Begin_any (w : World) : Calls Tryz.prog 114 #[] w fun e w' => e = .returned (uv ones32) ∧ w = w' := by
  go_enter Tryz.func114, Tryz.ntmps114
  go_wp2
  go_ret
  exact ⟨rfl, rfl⟩

theorem bits_not (s : BitVec 32) : bits .xor .u32 4294967295 (s.toNat : Int) = ((~~~ s).toNat : Int) := by
  rw [show (4294967295 : Int) = ((ones32).toNat : Int) from rfl, bits_xor32, not_xor_ones, BitVec.xor_comm]

set_option maxRecDepth 100000 in
set_option maxHeartbeats 400000 in
theorem End_any (w : World) (s : BitVec 32) : Calls Tryz.prog 112 #[uv s] w fun e w' => e = .returned (uv (~~~ s)) ∧ w = w' := by
  have h : bits .xor .u32 IntKind.u32.max (s.toNat : Int) = ((~~~ s).toNat : Int) := bits_not s
  generalize ~~~ s = t at *
  go_enter Tryz.func112, Tryz.ntmps112
  go_wp2
  go_ret
  exact ⟨rfl, rfl⟩

theorem sizeU32 : (Tryz.prog.info? 58).map (·.size) = some 1 := by kernel_rfl
end Go.Proofs.YtlnmbfddhdjioaaGreat
