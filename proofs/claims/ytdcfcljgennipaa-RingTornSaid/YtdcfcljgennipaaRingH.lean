/-
  Headers that are the same, compared; AreHeaders of lists that are the same.
-/
import Derived.Test.YtdcfcljgennipaaRingG
import Derived.Laws.StructEq
namespace Go.Proofs.Ytdcfcljgennipaa
open Go.RowKit

theorem hdr_fields : (Try.prog.fieldsOf 56).toList = [{ name := "Sector", type := 3, offset := 0, embedded := false, tag := "", pkgPath := "", byteOffset := 0 },
          { name := "Kind", type := 5, offset := 1, embedded := false, tag := "", pkgPath := "", byteOffset := 8 },
          { name := "Number", type := 54, offset := 2, embedded := false, tag := "", pkgPath := "", byteOffset := 12 }] := by kernel_rfl

theorem hdr_under : Try.prog.underlying 56 = some (.struct (Try.prog.fieldsOf 56)) := by kernel_rfl
theorem hdr_held : Try.prog.stoodInHeld 56 = false := by kernel_rfl
theorem hdr_guard : Try.prog.eqGuardType Try.prog.depth 56 = false := by kernel_rfl

theorem hdr_equalN (w : World) (d : Nat) (s k x : Int) : (Op.equalIn (d + 1 + 1) 56 (.agg #[.int .i64 s, .int .u8 k, .int .u32 x]) (.agg #[.int .i64 s, .int .u8 k, .int .u32 x])).run Try.prog w = .ok true w := by
  rw [run_equalIn_struct w (d + 1) 56 _ _ hdr_under hdr_held, hdr_fields]
  have h1 := fun w => run_equalIn_int (P := Try.prog) w d 3 .i64 .i64 s s Try.underlying3
  have h2 := fun w => run_equalIn_int (P := Try.prog) w d 5 .u8 .u8 k k Try.underlying5
  have h3 := fun w => run_equalIn_int (P := Try.prog) w d 54 .u32 .u32 x x Try.underlying54
  simp [Op.eqFields, _root_.Go.part, h1, h2, h3]

theorem hdr_equal (w : World) (s k x : Int) : (Op.equalIn 10000 56 (.agg #[.int .i64 s, .int .u8 k, .int .u32 x]) (.agg #[.int .i64 s, .int .u8 k, .int .u32 x])).run Try.prog w = .ok true w := hdr_equalN w 9998 s k x

theorem hdr_eqGuard (w : World) (op : BinOp) (x y : Operand) (xs ys : Array Value) : (eqGuard op 56 x y (.agg xs) (.agg ys)).run Try.prog w = .ok () w := run_eqGuard_agg w op _ x y xs ys hdr_guard

set_option maxRecDepth 100000 in
set_option maxHeartbeats 2000000 in
theorem AreHeaders_same (w : World) (va vb : Value) (hs : List Hdr) (ha : HdrsAt w va hs) (hb : HdrsAt w vb hs) (hn : hs.length ≤ 100000) :
    Calls Try.prog 36 #[va, vb] w fun e w' => e = .returned (.bool true) ∧ Keeps [] w w' := by
  obtain ⟨aa, ca, rfl, _, hca⟩ := ha
  obtain ⟨ab, cb, rfl, _, hcb⟩ := hb
  obtain ⟨n, hrn⟩ : ∃ n, n = hs.length := ⟨_, rfl⟩
  have HRN := Lib.hid hrn
  have HA := Lib.hid hca
  have HB := Lib.hid hcb
  rw [← hrn] at hn ⊢
  clear hca hcb hrn
  go_enter Try.func36, Try.ntmps36
  go_wp2
  go_loopw [5, 8] (fun i5 i wr => ∃ k : Nat, k ≤ n ∧ i = .int .i64 k ∧ Keeps [] w wr) (fun _ i _ => n - (intOf i).toNat)
  case atStart => exact ⟨0, Nat.zero_le _, rfl, Keeps.refl _ _⟩
  case round =>
    obtain ⟨k, hk, rfl, hkm⟩ := hrel
    by_cases hlt : k < n
    · obtain ⟨x, hx⟩ : ∃ x, hs[k]? = some x := ⟨_, List.getElem?_eq_getElem (by rw [← HRN.out]; exact hlt)⟩
      obtain ⟨ga, rfl, _, a0, a1, a2⟩ := HA.out k x hx
      obtain ⟨gb, rfl, _, b0, b1, b2⟩ := HB.out k x hx
      obtain ⟨t, kd, nm⟩ := x
      dsimp only at a0 a1 a2 b0 b1 b2
      have a0 := hkm.cell a0 (by simp)
      have a1 := hkm.cell a1 (by simp)
      have a2 := hkm.cell a2 (by simp)
      have b0 := hkm.cell b0 (by simp)
      have b1 := hkm.cell b1 (by simp)
      have b2 := hkm.cell b2 (by simp)
      have HK := Lib.hid hkm
      have d1 : decide ((n : Int) ≤ (k : Int)) = false := by simp; omega
      have d2 : decide (n ≤ k) = false := by simp; omega
      have k0 : (k : Int) < (n : Int) := by omega
      generalize (kd.toNat : Int) = kz at *
      generalize (nm.toNat : Int) = nz at *
      have hsm := fun w => hdr_equal w t kz nz
      have hgd := hdr_guard
      clear hx hkm
      go_wp2
      go_quiet (fail)
      go_wp2
      go_roundw
      case rel => exact ⟨k + 1, by omega, by go_num, HK.out.trans (Keeps.drewN _ _ _)⟩
      case measure => simp [intOf]; omega
    · obtain rfl : k = n := by omega
      go_wp2
      go_ret
      exact ⟨by simp, hkm⟩
end Go.Proofs.Ytdcfcljgennipaa
