/-
  The chapter's examples (crc).
-/
import Derived.Test.YtpcgckppdnlccabCrcH
import Derived.Test.YtpcgckppdnlccabArgs
import Derived.Lib.SlBytesConst
namespace Go.Proofs.Ytpcgckppdnlccab
open Go.RowKit

theorem Reads.lit (w : World) (l : List UInt8) (cs : Array Value) (T : TypeId) (n : Nat) (fz : Nat × Nat) (hcs : cs = (l.map bv).toArray) (hn : n = l.length) :
    Reads (w.alloc (.cells cs T fz)) (.slice (some ⟨w.heap.size, 0, none⟩) n n) l w.heap.size := by
  subst hn
  refine .inr ⟨⟨w.heap.size, 0, none⟩, l.length, rfl, Nat.le_refl _, fun _ => rfl, fun i c hi => ?_⟩
  rw [Addr.add_off, Nat.zero_add, cell_of_row _ _ _ cs T fz (heap_alloc_new w _), hcs]
  simp [hi]

theorem Of_lit (w : World) (l : List UInt8) (cs : Array Value) (n : Nat) (fz : Nat × Nat) (r : Int) (hcs : cs = (l.map bv).toArray) (hn : n = l.length) (hl : l.length ≤ 65536) (hr : ((crcOf l).toNat : Int) = r) :
    Calls Try.prog 12 #[.slice (some ⟨w.heap.size, 0, none⟩) n n] (w.alloc (.cells cs 5 fz)) fun e w' => e = .returned (.int .u32 r) ∧ Keeps [] w w' :=
  (Of_any _ _ l _ (Reads.lit w l cs 5 n fz hcs hn) hl).mono fun _ _ h => ⟨by rw [h.1, ← hr], (Keeps.alloc [] _ _).trans h.2⟩

theorem Of_nil (w : World) : Calls Try.prog 12 #[.slice none 0 0] w fun e w' => e = .returned (.int .u32 0) ∧ Keeps [] w w' :=
  (Of_any w _ [] 0 (Reads.nil w 0) (by decide)).mono fun _ _ h => ⟨by rw [h.1]; rfl, h.2⟩

theorem crc_9 : ((crcOf [49, 50, 51, 52, 53, 54, 55, 56, 57]).toNat : Int) = 3421780262 := by decide +kernel
theorem crc_0 : ((crcOf [0]).toNat : Int) = 3523407757 := by decide +kernel
theorem crc_4 : ((crcOf [49, 50, 51, 52]).toNat : Int) = 2615402659 := by decide +kernel
theorem crc_5 : ((crcOf [53, 54, 55, 56, 57]).toNat : Int) = 320708720 := by decide +kernel
theorem join_9 : (zb (8 * (5 : Int).toNat) 2615402659#32 ^^^ 320708720#32).toNat = 3421780262 := by decide +kernel

theorem Join_9 (w : World) : Calls Try.prog 16 #[.int .u32 2615402659, .int .u32 320708720, .int .i64 5] w fun e w' => e = .returned (.int .u32 3421780262) ∧ Keeps [] w w' :=
  (Join_any w 2615402659#32 320708720#32 5 (by decide)).mono fun _ _ h => ⟨by rw [h.1]; unfold uv; rw [join_9]; rfl, h.2⟩

set_option maxHeartbeats 1000000 in
theorem awake2_any (w : World) : Calls Try.prog 7 #[] w fun e w' => e = .returned (.bool true) ∧ Keeps [] w w' := by
  have kc := fun (w : World) (C : Array Value) (n c : Nat) => Lib.run_convert_bytes_const (P := Try.prog) w 22 5 C n c Try.underlying22 Try.underlying5
  go_enter Try.func7, Try.ntmps7
  go_wp2_with fail
  refine (Of_nil _).mono ?_
  rintro e w1 ⟨rfl, k1⟩
  have K1 := Lib.hid k1
  clear k1
  go_wp2_with fail
  refine (Of_lit _ [49, 50, 51, 52, 53, 54, 55, 56, 57] _ _ _ _ rfl rfl (by decide) crc_9).mono ?_
  rintro e w2 ⟨rfl, k2⟩
  have K2 := Lib.hid (K1.out.trans k2)
  clear k2
  go_wp2_with fail
  refine (Of_lit _ [0] _ _ _ _ rfl rfl (by decide) crc_0).mono ?_
  rintro e w3 ⟨rfl, k3⟩
  have K3 := Lib.hid (K2.out.trans k3)
  clear k3
  go_wp2_with fail
  refine (Of_lit _ [49, 50, 51, 52] _ _ _ _ rfl rfl (by decide) crc_4).mono ?_
  rintro e w4 ⟨rfl, k4⟩
  have K4 := Lib.hid (K3.out.trans k4)
  clear k4
  go_wp2_with fail
  refine (Of_lit _ [53, 54, 55, 56, 57] _ _ _ _ rfl rfl (by decide) crc_5).mono ?_
  rintro e w5 ⟨rfl, k5⟩
  have K5 := Lib.hid (K4.out.trans k5)
  clear k5
  go_wp2_with fail
  refine (Join_9 _).mono ?_
  rintro e w6 ⟨rfl, k6⟩
  have K6 := Lib.hid (K5.out.trans k6)
  clear k6
  go_wp2
  go_ret
  exact ⟨rfl, K6.out⟩
end Go.Proofs.Ytpcgckppdnlccab
