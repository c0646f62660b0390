/-
  Memories beside the document's: what both tell of an address is the same.
-/
import Derived.Test.YtcbdkkpoliameaaMemRefD
import Derived.Deep.CutRange
import Derived.Deep.CutBlock
namespace Go.Proofs.Ytcbdkkpoliameaa
open Go.RowKit Go.Deep
set_option linter.unusedVariables false

section
variable {win ram : List UInt8}

set_option maxRecDepth 100000 in
set_option maxHeartbeats 4000000 in
theorem same_any (w : World) {H g rb M : Nat} {wv : Value} (hm : MemAt w H g rb M wv win ram) (aw : Option Addr) (cw Mw : Nat) (ar : Option Addr) (cr Mr : Nat) (wl rl : Nat) (hwl : wl = win.length) (hrl : rl = ram.length) (hwR : Reads w (.slice aw wl cw) win Mw) (hrR : Reads w (.slice ar rl cr) ram Mr)
    (A n : Nat) (a1 : A < 4294967296) (n1 : n < 4294967296) :
    Calls Try.prog 20 #[.pointer (some ⟨g, 0, none⟩), .agg #[.slice aw wl cw, .slice ar rl cr], .int .u32 A, .int .u32 n] w fun e w' => e = .returned (.bool true) ∧ Keeps [] w w' := by
  have hw := hm.winL
  have hr : ram.length ≤ 65536 := hm.ram4.2.1
  have HM := Lib.hid (fun (U : World) (hU : Keeps [] w U) => hm.next hU)
  obtain ⟨x, hx⟩ : ∃ x : Int, (loadX win ram A : Int) = x := ⟨_, rfl⟩
  obtain ⟨t, ht⟩ : ∃ t : Int, loadT win ram A = t := ⟨_, rfl⟩
  have HL := Lib.hid (fun (U : World) (hU : Keeps [] w U) => Load_at (hm.next hU) A a1)
  rw [hx, ht] at HL
  have HRL := Lib.hid (fun (U : World) (hU : Keeps [] w U) => r9Load_any U aw cw Mw ar cr Mr wl rl hwl hrl hw hr (hwR.keeps hU (by simp)) (hrR.keeps hU (by simp)) A a1 x t hx ht)
  have HG := Lib.hid (fun (U : World) (hU : Keeps [] w U) (k : Nat) (hk : k < 4294967296) => Get_any (win := win) (ram := ram) U aw cw Mw ar cr Mr wl rl hwl hrl hw hr (hwR.keeps hU (by simp)) (hrR.keeps hU (by simp)) A k a1 hk)
  have HB1 := Lib.hid (fun (U : World) (hU : Keeps [] w U) => Byte_at (hm.next hU) A a1)
  have HBN := Lib.hid (fun (U : World) (hU : Keeps [] w U) => Bytes_at (hm.next hU) A n a1 n1)
  have HGN := Lib.hid (fun (U : World) (hU : Keeps [] w U) => HG.out U hU n n1)
  have HG1 := Lib.hid (fun (U : World) (hU : Keeps [] w U) => HG.out U hU 1 (by decide))
  have hcase : ∃ (f y : Int), tT win ram A 1 = f ∧ ((byteX win ram A).toNat : Int) = y ∧ ((f = 0 ∧ ∃ c : UInt8, gL win ram A 1 = [c] ∧ bv c = .int .u8 y) ∨ (f = -9 ∧ y = 0)) := by
    refine ⟨_, _, rfl, rfl, ?_⟩
    rcases tT_or win ram A 1 with h0 | h9
    · obtain ⟨c, hc⟩ := List.length_eq_one_iff.1 (gL_length h0)
      exact .inl ⟨h0, c, hc, by unfold byteX; rw [hc]; rfl⟩
    · exact .inr ⟨h9, by unfold byteX; rw [gL_none (by rw [h9]; decide)]; rfl⟩
  obtain ⟨f, y, hf, hy, hcase⟩ := hcase
  rw [hf] at HB1 HG1
  unfold bv at HB1
  rw [hy] at HB1
  obtain ⟨L, hL⟩ : ∃ L, gL win ram A n = L := ⟨_, rfl⟩
  obtain ⟨q, hq⟩ : ∃ q, tT win ram A n = q := ⟨_, rfl⟩
  rw [hL, hq] at HBN HGN
  obtain ⟨L1, hL1⟩ : ∃ L1, gL win ram A 1 = L1 := ⟨_, rfl⟩
  rw [hL1] at HG1 hcase
  have HCASE := Lib.hid hcase
  have a2 : (A : Int) < 4294967296 := by omega
  have n2 : (n : Int) < 4294967296 := by omega
  clear hm hwR hrR hwl hrl hw hr hx ht hf hy hL hq hL1 HG HM hcase
  generalize L.length = ll at *
  go_enter Try.func20, Try.ntmps20
  go_upto_region 1 with fail
  generalize hV : World.alloc _ _ = V
  have kV : Keeps [] w V := by rw [← hV]; exact Keeps.alloc [] _ _
  have wB : Whole V w.heap.size 31 [.slice aw wl cw, .slice ar rl cr] := by rw [← hV]; exact Whole.new w 31 [.slice aw wl cw, .slice ar rl cr]
  have KV := Lib.hid kV
  have d0 := wB.cell 0
  have d1 := wB.cell 1
  simp only [List.getElem?_cons_zero, List.getElem?_cons_succ] at d0 d1
  clear hV kV wB
  generalize w.heap.size = B at *
  go_upto_region 2 with (go_at_call 21; refine (HL.out _ KV.out).mono ?_; rintro e w1 ⟨rfl, hk⟩; have K1 := Lib.hid (KV.out.trans hk); replace d0 := hk.cell d0 (by simp); replace d1 := hk.cell d1 (by simp); clear hk)
  go_upto_region 3 with (go_at_call 33; refine (HRL.out _ K1.out).mono ?_; rintro e w2 ⟨rfl, hk⟩; have K2 := Lib.hid (K1.out.trans hk); replace d0 := hk.cell d0 (by simp); replace d1 := hk.cell d1 (by simp); clear hk)
  go_upto_region 4 with (go_at_call 22; refine (HB1.out _ K2.out).mono ?_; rintro e w3 ⟨rfl, hk⟩; have K3 := Lib.hid (K2.out.trans hk); replace d0 := hk.cell d0 (by simp); replace d1 := hk.cell d1 (by simp); clear hk)
  go_upto_region 5 with (go_at_call 32; refine (HG1.out _ K3.out).mono ?_; rintro e w4 ⟨u4, rfl, ho4, hk⟩; have HO4 := Lib.hid ho4; obtain ⟨a4, c4, rfl⟩ := owns_shape2 ho4; have K4 := Lib.hid (K3.out.trans hk); replace d0 := hk.cell d0 (by simp); replace d1 := hk.cell d1 (by simp); clear hk ho4)
  go_upto_region 6 with (go_at_call 23; refine (HBN.out _ K4.out).mono ?_; rintro e w5 ⟨a5, c5, M5, rfl, hr5, hM5, hk⟩; have HO5 := Lib.hid (World.ownsRow.keeps HO4.out hk (by simp)); have HR5 := Lib.hid hr5; have K5 := Lib.hid (K4.out.trans hk); replace d0 := hk.cell d0 (by simp); replace d1 := hk.cell d1 (by simp); clear hk hr5 hM5)
  go_upto_region 7 with (go_at_call 32; refine (HGN.out _ K5.out).mono ?_; rintro e w6 ⟨u6, rfl, ho6, hk⟩; have HO6 := Lib.hid (World.ownsRow.keeps HO5.out hk (by simp)); have hcv1 := conv_reads (HR5.out.keeps hk (by simp)); have HR6 := Lib.hid (owns_reads0 ho6); obtain ⟨a6, c6, rfl⟩ := owns_shape2 ho6; have K6 := Lib.hid (K5.out.trans hk); clear hk ho6)
  have hcv2 := conv_reads HR6.out.choose_spec
  rcases HCASE.out with ⟨rfl, c, rfl, hc⟩ | ⟨rfl, rfl⟩
  · obtain ⟨b, cb, hsl, _, hrow⟩ := owns_some HO6.out (by simp)
    injection hsl with e1 _ _
    subst e1
    have q0 : w6.cell? ⟨b, 0, none⟩ = some (.int .u8 y) := by rw [← hc]; exact hrow.cell 0 rfl
    clear hrow hc
    go_wp2
    go_ret
    exact ⟨rfl, K6.out⟩
  · go_wp2
    go_ret
    exact ⟨rfl, K6.out⟩
end
end Go.Proofs.Ytcbdkkpoliameaa
