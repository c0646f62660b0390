/-
  Contracts of crc: Add of any bytes, Begin, End, Of; the matrix: of, squared, repeated; zeroBit, zeroByte, Join.
-/
import Derived.Test.YtdcfcljgennipaaCrcC
namespace Go.Proofs.Ytdcfcljgennipaa
open Go.RowKit

set_option maxRecDepth 100000 in
set_option maxHeartbeats 1000000 in
theorem Add_none (w : World) (s : BitVec 32) (p : Option Addr) (cap : Nat) :
    Calls Try.prog 98 #[uv s, .slice p 0 cap] w fun e w' => e = .returned (uv s) ∧ Keeps [] w w' := by
  go_enter Try.func98, Try.ntmps98
  go_wp2_with (first | (go_at_call 101; refine (table_any _).mono ?_; rintro e w1 ⟨rfl, k1⟩; have K1 := Lib.hid k1; clear k1) | (refine wpList_store_row rfl 133 _ _ rfl w1.heap.size (tab 16 four).toArray rfl rfl 133 (tabK 16 four 0).toArray (Whole.new w1 _ (tabK 16 four 0)) (by rw [sizeArr16]; simp [tab_length]) (by simp [tab_length, tabK_length]) (tab_one _ _) ?_))
  refine wp_loop_rounds 1 ?_; rw [rounds_succ]
  go_wp2
  go_ret
  exact ⟨rfl, (K1.out.trans (Keeps.alloc [] _ _)).then (Keeps.setRow (S := [w1.heap.size]) _ (by simp) _) (fun x hx => .inr (by simp at hx; have := K1.out.size; omega))⟩

theorem Add_any (w : World) (s : BitVec 32) (v : Value) (l : List UInt8) (M : Nat) (h : Reads w v l M) (hl : l.length ≤ 65536) :
    Calls Try.prog 98 #[uv s, v] w fun e w' => e = .returned (uv (addl s l)) ∧ Keeps [] w w' := by
  by_cases he : l = []
  · subst he
    rcases h with ⟨rfl, _⟩ | ⟨ad, cap, rfl, _⟩
    · exact Add_none w s none 0
    · exact Add_none w s (some ad) cap
  · obtain ⟨off, cap, rfl, _, hc⟩ := h.at he
    exact Add_some w s l M off cap hl hc

set_option maxRecDepth 100000 in
set_option maxHeartbeats 400000 in
theorem Begin_any (w : World) : Calls Try.prog 99 #[] w fun e w' => e = .returned (uv ones32) ∧ w = w' := by
  go_enter Try.func99, Try.ntmps99
  go_wp2
  go_ret
  exact ⟨rfl, rfl⟩

theorem bits_not (s : BitVec 32) : bits .xor .u32 4294967295 (s.toNat : Int) = ((~~~ s).toNat : Int) := by
  rw [show (4294967295 : Int) = ((ones32).toNat : Int) from rfl, bits_xor32, not_xor_ones, BitVec.xor_comm]

set_option maxRecDepth 100000 in
set_option maxHeartbeats 400000 in
theorem End_any (w : World) (s : BitVec 32) : Calls Try.prog 97 #[uv s] w fun e w' => e = .returned (uv (~~~ s)) ∧ w = w' := by
  have h : bits .xor .u32 IntKind.u32.max (s.toNat : Int) = ((~~~ s).toNat : Int) := bits_not s
  generalize ~~~ s = t at *
  go_enter Try.func97, Try.ntmps97
  go_wp2
  go_ret
  exact ⟨rfl, rfl⟩

theorem sizeU32 : (Try.prog.info? 54).map (·.size) = some 1 := by kernel_rfl
end Go.Proofs.Ytdcfcljgennipaa
