/-
  Contract: lightshiplow's All.
-/
import Derived.Test.YtpcgckppdnlccaaLawOrder
namespace Go.Proofs.Ytpcgckppdnlccaa
open Go.RowKit Go.Deep

def lenOf : Value → Nat | .slice _ n _ => n | _ => 0

theorem owns_shape {w : World} {base : Nat} {T : TypeId} {size n : Nat} {v : Value} {xs : List Value} (h : w.ownsRow base T size v n xs) : ∃ ao cap, v = .slice ao n cap := by
  rcases h.2 with ⟨rfl, rfl⟩ | ⟨g, cap, cur, rfl, _⟩
  · exact ⟨none, 0, rfl⟩
  · exact ⟨_, cap, rfl⟩

theorem Keeps.owned {S : List Nat} {w wr w' : World} {T : TypeId} {size n : Nat} {v : Value} {xs : List Value} (hk : Keeps S w wr) (h : wr.ownsRow w.heap.size T size v n xs) (hg : wr.grownBy w' v.ownBlock) : Keeps S w w' :=
  ⟨hg.os.trans hk.os, hg.tape.trans hk.tape, hg.output.trans hk.output, Nat.le_trans hk.size hg.size, fun k hlt hs =>
    (hg.block k (Nat.lt_of_lt_of_le hlt hk.size) (fun e => by have := (h.lt k e.symm).1; omega)).trans (hk.block k hlt hs)⟩

set_option maxHeartbeats 1000000 in
theorem All_any (w : World) (c : UInt8) (n : Nat) (hn0 : 0 < n) (hn : n ≤ 65536) :
    Calls Try.prog 28 #[.int .u8 c.toNat, .int .i64 n] w fun e w' => ∃ b k, e = .returned (.slice (some ⟨b, 0, none⟩) n k) ∧ w.heap.size ≤ b ∧ Row w' b 5 ((List.replicate n c).map bv) k ∧ Keeps [] w w' := by
  obtain ⟨i0, hi, hz0, hz1, hz2⟩ := info_parts infoByte
  go_enter Try.func28, Try.ntmps28
  go_wp2
  go_loopw [5] (fun v wr => ∃ (i : Nat) (ao : Option Addr) (cap : Nat), i ≤ n ∧ v = .slice ao i cap ∧ wr.ownsRow w.heap.size 5 1 (.slice ao i cap) i (List.replicate i (bv c)) ∧ Keeps [] w wr) (fun v _ => n - lenOf v)
  case atStart => exact ⟨0, none, 0, Nat.zero_le _, rfl, World.ownsRow_nil _ _ _ _, Keeps.refl _ _⟩
  case round =>
    obtain ⟨i, ao, cap, hin, rfl, hown, hk⟩ := hrel
    have HO := Lib.hid hown
    have HK := Lib.hid hk
    clear hown hk
    by_cases hlt : i < n
    · have hlt' : (i : Int) < n := by omega
      go_wp2_with (at_builtin; refine wpList_append_own _ rfl _ _ 31 rfl w.heap.size 5 i0 (.int .u8 0) 1 1 Try.underlying31 hi hz0 hz1 hz2 rfl (by decide) (.slice ao i cap) i (List.replicate i (bv c)) rfl (HO.out.alloc _) ⟨wr.heap.size, 0, none⟩ 1 1 [bv c] rfl rfl ?c1 ?c2 ?c3 ?c4 ?c5 ?_)
      case c1 =>
        intro j u hu
        rw [Addr.add_off, Nat.zero_add, cell_alloc_new]
        match j, hu with
        | 0, hu => simpa [bv] using hu
      case c2 => intro u hu; simp at hu; subst hu; rfl
      case c3 => unfold maxLen; omega
      case c4 => omega
      case c5 => have := HK.out.size; simp; omega
      intro v' w1 hown1 hg1 _
      have HK1 := Lib.hid ((HK.out.trans (Keeps.alloc [] wr _)).owned (HO.out.alloc _) hg1)
      have hrep : List.replicate i (bv c) ++ [bv c] = List.replicate (i + 1) (bv c) := by rw [List.replicate_succ']
      rw [hrep] at hown1
      obtain ⟨ao', cap', rfl⟩ := owns_shape hown1
      have HO1 := Lib.hid hown1
      clear hown1 hg1 hrep
      go_wp2
      go_roundw
      case rel => exact ⟨i + 1, ao', cap', by omega, rfl, HO1.out, HK1.out⟩
      case measure => simp [lenOf]; omega
    · obtain rfl : i = n := by omega
      have hge : ¬ ((i : Int) < i) := by omega
      obtain ⟨b, k, hv, hb, hR⟩ := Row.ofOwns HO.out (by intro e; simp at e; omega)
      simp at hv
      obtain ⟨rfl, rfl⟩ := hv
      have HR := Lib.hid hR
      clear hR
      go_wp2
      go_ret
      exact ⟨b, cap, rfl, hb, HR.out, HK.out⟩
end Go.Proofs.Ytpcgckppdnlccaa
