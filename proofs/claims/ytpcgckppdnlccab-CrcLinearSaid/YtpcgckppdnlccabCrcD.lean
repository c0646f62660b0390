/-
  Contracts of crc: Add of any bytes, Begin, End, Of; the matrix: of, squared, repeated; zeroBit, zeroByte, Join.
-/
import Derived.Test.YtpcgckppdnlccabCrcC
namespace Go.Proofs.Ytpcgckppdnlccab
open Go.RowKit

set_option maxHeartbeats 1000000 in
theorem Add_none (w : World) (s : BitVec 32) (p : Option Addr) (cap : Nat) :
    Calls Try.prog 11 #[uv s, .slice p 0 cap] w fun e w' => e = .returned (uv s) ∧ Keeps [] w w' := by
  go_enter Try.func11, Try.ntmps11
  go_wp2_with (first | (go_at_call 19; refine (table_any _).mono ?_; rintro e w1 ⟨rfl, k1⟩; have K1 := Lib.hid k1; clear k1) | (refine wpList_store_row rfl 42 _ _ rfl w1.heap.size (tab 16 four).toArray rfl rfl 42 (tabK 16 four 0).toArray (Whole.new w1 _ (tabK 16 four 0)) (by rw [sizeArr16]; simp [tab_length]) (by simp [tab_length, tabK_length]) (tab_one _ _) ?_))
  refine wp_loop_rounds 1 ?_; rw [rounds_succ]
  go_wp2
  go_ret
  exact ⟨rfl, (K1.out.trans (Keeps.alloc [] _ _)).then (Keeps.setRow (S := [w1.heap.size]) _ (by simp) _) (fun x hx => .inr (by simp at hx; have := K1.out.size; omega))⟩

theorem Add_any (w : World) (s : BitVec 32) (v : Value) (l : List UInt8) (M : Nat) (h : Reads w v l M) (hl : l.length ≤ 65536) :
    Calls Try.prog 11 #[uv s, v] w fun e w' => e = .returned (uv (addl s l)) ∧ Keeps [] w w' := by
  by_cases he : l = []
  · subst he
    rcases h with ⟨rfl, _⟩ | ⟨ad, cap, rfl, _⟩
    · exact Add_none w s none 0
    · exact Add_none w s (some ad) cap
  · obtain ⟨off, cap, rfl, _, hc⟩ := h.at he
    exact Add_some w s l M off cap hl hc

set_option maxHeartbeats 400000 in
theorem Begin_any (w : World) : Calls Try.prog 10 #[] w fun e w' => e = .returned (uv ones32) ∧ w = w' := by
  go_enter Try.func10, Try.ntmps10
  go_wp2
  go_ret
  exact ⟨rfl, rfl⟩

theorem bits_not (s : BitVec 32) : bits .xor .u32 4294967295 (s.toNat : Int) = ((~~~ s).toNat : Int) := by
  rw [show (4294967295 : Int) = ((ones32).toNat : Int) from rfl, bits_xor32, not_xor_ones, BitVec.xor_comm]

set_option maxHeartbeats 400000 in
theorem End_any (w : World) (s : BitVec 32) : Calls Try.prog 13 #[uv s] w fun e w' => e = .returned (uv (~~~ s)) ∧ w = w' := by
  have h : bits .xor .u32 IntKind.u32.max (s.toNat : Int) = ((~~~ s).toNat : Int) := bits_not s
  generalize ~~~ s = t at *
  go_enter Try.func13, Try.ntmps13
  go_wp2
  go_ret
  exact ⟨rfl, rfl⟩

set_option maxHeartbeats 400000 in
theorem Of_any (w : World) (v : Value) (l : List UInt8) (M : Nat) (h : Reads w v l M) (hl : l.length ≤ 65536) :
    Calls Try.prog 12 #[v] w fun e w' => e = .returned (uv (crcOf l)) ∧ Keeps [] w w' := by
  have HR := Lib.hid h
  clear h
  go_enter Try.func12, Try.ntmps12
  go_wp2_with (first | (go_at_call 10; refine (Begin_any _).mono ?_; rintro e w' ⟨rfl, rfl⟩) | (go_at_call 11; refine (Add_any _ _ _ l M HR.out hl).mono ?_; rintro e w1 ⟨rfl, k1⟩; have K1 := Lib.hid k1; clear k1) | (go_at_call 13; refine (End_any _ _).mono ?_; rintro e w' ⟨rfl, rfl⟩))
  go_ret
  exact ⟨rfl, K1.out⟩

theorem sizeU32 : (Try.prog.info? 25).map (·.size) = some 1 := by kernel_rfl
theorem sizeMatrix : (Try.prog.info? 46).map (·.size) = some 32 := by kernel_rfl

theorem run_index_row (w : World) (f : Nat → BitVec 32) (k : Nat) (hk : k < 32) : (Instr.index 46 (.agg (tab 32 f).toArray) (.int .i64 k)).run Try.prog w = .ok (uv (f k)) w := by
  have h := tab_get 32 f k hk
  have hi : ∃ i, Try.prog.info? 25 = some i ∧ i.size = 1 := by
    have := sizeU32
    cases hq : Try.prog.info? 25 with
    | none => rw [hq] at this; cases this
    | some i => rw [hq] at this; exact ⟨i, rfl, by simpa using this⟩
  obtain ⟨i, hi, hs⟩ := hi
  simp [Instr.index, asIntOf, run_underlying Try.underlying46, sizeOf, typeInfo, hi, hs, part, h]
  omega
end Go.Proofs.Ytpcgckppdnlccab
