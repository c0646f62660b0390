/-
  ShaNone answers true, whatever it is given.
-/
import Derived.Test.YtpabooocbileiaaDoorShaU
namespace Go.Proofs.YtpabooocbileiaaDoor
open Go.RowKit

/-- A pointer of which made says no. -/
def NoHash (w : World) (p : Option Addr) : Prop := p = none ∨ ∃ F, p = some ⟨F, 0, none⟩ ∧ w.cell? ⟨F, 0, none⟩ = some (.pointer none)

theorem NoHash.keeps {w w' : World} {p : Option Addr} (h : NoHash w p) (hk : Keeps [] w w') : NoHash w' p := by
  rcases h with rfl | ⟨F, rfl, hc⟩
  · exact .inl rfl
  · exact .inr ⟨F, rfl, hk.cell hc (by simp)⟩

theorem made_none (p : Option Addr) (w : World) (h : NoHash w p) : Calls Tryd.prog 26 #[.pointer p] w fun e w' => e = .returned (.bool false) ∧ w = w' := by
  rcases h with rfl | ⟨F, rfl, hc⟩
  · exact made_nil w
  · exact made_not w F hc

set_option maxHeartbeats 400000 in
theorem Write_none (p : Option Addr) (w : World) (v : Value) (h : NoHash w p) : Calls Tryd.prog 13 #[.pointer p, v] w fun e w' => e = .returned (.int .i64 1) ∧ w = w' := by
  go_enter Tryd.func13, Tryd.ntmps13
  go_wp2_with (go_at_call 26; refine (made_none p _ h).mono ?_; rintro e w' ⟨rfl, rfl⟩)
  go_ret
  exact ⟨rfl, rfl⟩

set_option maxHeartbeats 400000 in
theorem Len_none (p : Option Addr) (w : World) (h : NoHash w p) : Calls Tryd.prog 14 #[.pointer p] w fun e w' => e = .returned (.int .i64 0) ∧ w = w' := by
  go_enter Tryd.func14, Tryd.ntmps14
  go_wp2_with (go_at_call 26; refine (made_none p _ h).mono ?_; rintro e w' ⟨rfl, rfl⟩)
  go_ret
  exact ⟨rfl, rfl⟩

theorem wpList_build_0 {P : Program} {ops : Array Oper} {rest : List Oper} {o : Oper} {a : Act} {w : World} {Q : Exit → Act → World → Prop} (hg : o.guard = none) (t : TypeId) (ho : o.op = .build t #[])
    (cs : Array Value) (hc : P.built t [] = some cs) (h : wpList P ops Q rest (a.put o.dst (.agg cs)) w) : wpList P ops Q (o :: rest) a w :=
  wpList_build_at hg t _ ho cs (by simpa using hc) h

theorem built_zero32 : Tryd.prog.built 27 [] = some ((List.replicate 32 (0 : UInt8)).map bv).toArray := by kernel_rfl
theorem built_zeroHash : Tryd.prog.built 48 [] = some (Value.pointer none :: zeroT).toArray := by kernel_rfl

set_option maxHeartbeats 1000000 in
theorem Sum_none (p : Option Addr) (w : World) (h : NoHash w p) : Calls Tryd.prog 15 #[.pointer p] w fun e w' => e = .returned (.agg ((List.replicate 32 (0 : UInt8)).map bv).toArray) ∧ Keeps [] w w' := by
  go_enter Tryd.func15, Tryd.ntmps15
  go_upto_region 1 with (fail)
  generalize hV : World.alloc w _ = V
  have w1 : Whole V w.heap.size 27 ((List.replicate 32 (0 : UInt8)).map bv) := by
    rw [← hV]; exact Whole.new w 27 ((List.replicate 32 (0 : UInt8)).map bv)
  have kV : Keeps [] w V := by rw [← hV]; exact Keeps.alloc [] _ _
  have hV2 := h.keeps kV
  have W1 := Lib.hid w1
  have KV := Lib.hid kV
  have HN := Lib.hid hV2
  clear hV w1 kV hV2 h
  go_wp2_with (first | (go_at_call 26; refine (made_none p _ HN.out).mono ?_; rintro e w' ⟨rfl, rfl⟩) | (refine wpList_build_0 rfl 27 rfl ((List.replicate 32 (0 : UInt8)).map bv).toArray built_zero32 ?_) | (refine wpList_store_row rfl 27 _ _ rfl w.heap.size ((List.replicate 32 (0 : UInt8)).map bv).toArray rfl rfl 27 ((List.replicate 32 (0 : UInt8)).map bv).toArray W1.out (by rw [szBytes32]; simp) (by simp) (bytes_one _) ?_))
  exact bodyPost_ret (results_cell_row Tryd.results15 _ _ w.heap.size 27 ((List.replicate 32 (0 : UInt8)).map bv).toArray (0, 0) _ rfl (W1.out.setRow _) Tryd.underlying27 rfl (by rw [szBytes32]; simp)) rfl ⟨rfl, KV.out.then (Keeps.setRow (S := [w.heap.size]) _ (by simp) _) (fun x hx => .inr (by simp at hx; omega))⟩

set_option maxRecDepth 100000 in
set_option maxHeartbeats 2000000 in
theorem ShaNone_any (w : World) (v : Value) (hR : Roots w) :
    Calls Tryd.prog 7 #[v] w fun e w' => e = .returned (.bool true) ∧ Keeps [] w w' := by
  have HR := Lib.hid hR
  clear hR
  have hne := fun w => (show (Op.equalIn 10000 27 (.agg #[bv 0, bv 0, bv 0, bv 0, bv 0, bv 0, bv 0, bv 0, bv 0, bv 0, bv 0, bv 0, bv 0, bv 0, bv 0, bv 0, bv 0, bv 0, bv 0, bv 0, bv 0, bv 0, bv 0, bv 0, bv 0, bv 0, bv 0, bv 0, bv 0, bv 0, bv 0, bv 0]) (.agg #[Value.int .u8 0, Value.int .u8 0, Value.int .u8 0, Value.int .u8 0, Value.int .u8 0, Value.int .u8 0, Value.int .u8 0, Value.int .u8 0, Value.int .u8 0, Value.int .u8 0, Value.int .u8 0, Value.int .u8 0, Value.int .u8 0, Value.int .u8 0, Value.int .u8 0, Value.int .u8 0, Value.int .u8 0, Value.int .u8 0, Value.int .u8 0, Value.int .u8 0, Value.int .u8 0, Value.int .u8 0, Value.int .u8 0, Value.int .u8 0, Value.int .u8 0, Value.int .u8 0, Value.int .u8 0, Value.int .u8 0, Value.int .u8 0, Value.int .u8 0, Value.int .u8 0, Value.int .u8 0])).run Tryd.prog w = .ok true w from run_same w (List.replicate 32 (0 : UInt8)) (by simp))
  have hgd := run_guard
  go_enter Tryd.func7, Tryd.ntmps7
  go_wp2_with (refine wpList_build_0 rfl 48 rfl (Value.pointer none :: zeroT).toArray built_zeroHash ?_)
  generalize hw0 : World.alloc (World.alloc w _) _ = w0
  have hk0 : Keeps [] w w0 := by rw [← hw0]; exact (Keeps.alloc [] w _).trans (Keeps.alloc [] _ _)
  have cells : ∀ j : Nat, j < 2 → ∃ p, w0.cell? ⟨w.heap.size + 1, j, none⟩ = some (.pointer p) ∧ NoHash w0 p := by
    have hz : w0.cell? ⟨w.heap.size, 0, none⟩ = some (.pointer none) := by
      rw [← hw0]; exact (Keeps.alloc [] _ _).cell (by rw [cell_alloc_new]; rfl) (by simp)
    have hp : Whole w0 (w.heap.size + 1) 29 [.pointer none, .pointer (some ⟨w.heap.size, 0, none⟩)] := by
      rw [← hw0]; exact Whole.new_at (w.alloc _) 29 [.pointer none, .pointer (some ⟨w.heap.size, 0, none⟩)] _ (by simp)
    intro j hj
    match j, hj with
    | 0, _ => exact ⟨none, hp.cell 0, .inl rfl⟩
    | 1, _ => exact ⟨some ⟨w.heap.size, 0, none⟩, hp.cell 1, .inr ⟨_, rfl, hz⟩⟩
  have HC := Lib.hid cells
  have HK0 := Lib.hid hk0
  clear cells hk0 hw0
  go_loopw [11] (fun i wr => ∃ j : Nat, j ≤ 2 ∧ i = .int .i64 j ∧ Keeps [] w0 wr) (fun i _ => 2 - (intOf i).toNat)
  case atStart => exact ⟨0, by omega, rfl, Keeps.refl _ _⟩
  case round =>
    obtain ⟨j, hj, rfl, kp⟩ := hrel
    by_cases hlt : j < 2
    · have hlt' : (j : Int) < 2 := by omega
      obtain ⟨p, hp, hn0⟩ := HC.out j hlt
      have hp' := kp.cell hp (by simp)
      have hn1 := hn0.keeps kp
      have HN := Lib.hid hn1
      have HKP := Lib.hid kp
      clear hp hn0 hn1 kp
      go_wp2_with (first | (go_at_call 13; refine (Write_none p _ _ HN.out).mono ?_; rintro e w' ⟨rfl, rfl⟩) | (go_at_call 14; refine (Len_none p _ HN.out).mono ?_; rintro e w' ⟨rfl, rfl⟩) | (go_at_call 15; refine (Sum_none p _ HN.out).mono ?_; rintro e w1 ⟨rfl, hk1⟩; have HK1 := Lib.hid hk1; clear hk1) | (refine wpList_build_0 rfl 27 rfl ((List.replicate 32 (0 : UInt8)).map bv).toArray built_zero32 ?_))
      go_roundw
      case rel => exact ⟨j + 1, by omega, by go_num, HKP.out.trans HK1.out⟩
      case measure => simp [intOf]; omega
    · have hj2 : ¬ (j : Int) < 2 := by omega
      have HKP := Lib.hid kp
      have HR2 := Lib.hid (HR.out.keeps (HK0.out.trans kp) (by simp) (by simp))
      clear kp
      go_wp2_with (go_at_call 8; refine (awake3_any _ HR2.out).mono ?_; rintro e w1 ⟨rfl, hk1⟩; have HK1 := Lib.hid hk1; clear hk1)
      go_ret
      exact ⟨rfl, (HK0.out.trans HKP.out).trans HK1.out⟩
end Go.Proofs.YtpabooocbileiaaDoor
