/-
  The chapter's examples (sha).
-/
import Derived.Test.YtlnmbfddhdjioaaDoorShaL
import Derived.Test.YtlnmbfddhdjioaaDoorShaQ
import Derived.Test.YtlnmbfddhdjioaaDoorGround
namespace Go.Proofs.YtlnmbfddhdjioaaDoor
open Go.RowKit

def by32 (n : Nat) : BitVec 32 := (UInt8.ofNat n).toBitVec.setWidth 32

theorem by32_get (x : BitVec 32) (k j : Nat) : (by32 (x.toNat / 2 ^ k)).getLsbD j = (decide (j < 8) && x.getLsbD (k + j)) := by
  unfold by32
  rw [BitVec.getLsbD_setWidth]
  have h : (UInt8.ofNat (x.toNat / 2 ^ k)).toBitVec = BitVec.ofNat 8 (x.toNat / 2 ^ k) := rfl
  rw [h, BitVec.getLsbD_ofNat, Nat.testBit_div_two_pow]
  have : x.toNat.testBit (j + k) = x.getLsbD (k + j) := by rw [Nat.add_comm]; rfl
  rw [this]
  by_cases h8 : j < 8
  · simp [h8, show j < 32 by omega]
  · simp [h8]

theorem word_of (x : BitVec 32) : by32 (x.toNat / 2 ^ 24) <<< 24 ||| by32 (x.toNat / 2 ^ 16) <<< 16 ||| by32 (x.toNat / 2 ^ 8) <<< 8 ||| by32 (x.toNat / 2 ^ 0) = x := by
  apply BitVec.eq_of_getLsbD_eq
  intro i hi
  simp only [BitVec.getLsbD_or, BitVec.getLsbD_shiftLeft, by32_get, hi, decide_true, Bool.true_and]
  by_cases h1 : i < 8
  · simp [h1, show i < 24 by omega, show i < 16 by omega]
  · by_cases h2 : i < 16
    · simp [h1, h2, show i < 24 by omega, show i - 8 < 8 by omega, show 8 + (i - 8) = i by omega]
    · by_cases h3 : i < 24
      · simp [h1, h2, h3, show ¬ i - 8 < 8 by omega, show i - 16 < 8 by omega, show 16 + (i - 16) = i by omega]
      · simp [h1, h2, h3, show ¬ i - 8 < 8 by omega, show ¬ i - 16 < 8 by omega, show i - 24 < 8 by omega, show 24 + (i - 24) = i by omega]

theorem outs_bv (s : W8) (i : Nat) (hi : i < 32) : ((outs s).map bv)[i]? = some (.int .u8 ((by32 ((s.get (i / 4)).toNat / 2 ^ (24 - i % 4 * 8))).toNat : Int)) := by
  rw [List.getElem?_map, outs_get s i hi]
  show some (bv _) = _
  unfold bv outb by32
  rw [byte32]

theorem by32_lt (n : Nat) : (by32 n).toNat < 256 := by
  unfold by32
  rw [BitVec.toNat_setWidth]
  exact Nat.lt_of_le_of_lt (Nat.mod_le _ _) (UInt8.ofNat n).toNat_lt

set_option maxHeartbeats 2000000 in
theorem begins_yes (w : World) (s : W8) (f l : Int) (hf : (s.a.toNat : Int) = f) (hl : (s.h.toNat : Int) = l) :
    Calls Tryd.prog 14 #[.agg ((outs s).map bv).toArray, .int .u32 f, .int .u32 l] w fun e w' => e = .returned (.bool true) ∧ Keeps [] w w' := by
  have key : ∀ y0 y1 y2 y3 y28 y29 y30 y31 : BitVec 32, y0.toNat < 256 → y1.toNat < 256 → y2.toNat < 256 → y3.toNat < 256 → y28.toNat < 256 → y29.toNat < 256 → y30.toNat < 256 → y31.toNat < 256 →
      y0 <<< 24 ||| y1 <<< 16 ||| y2 <<< 8 ||| y3 = s.a → y28 <<< 24 ||| y29 <<< 16 ||| y30 <<< 8 ||| y31 = s.h →
      ((outs s).map bv)[0]? = some (.int .u8 (y0.toNat : Int)) → ((outs s).map bv)[1]? = some (.int .u8 (y1.toNat : Int)) → ((outs s).map bv)[2]? = some (.int .u8 (y2.toNat : Int)) → ((outs s).map bv)[3]? = some (.int .u8 (y3.toNat : Int)) →
      ((outs s).map bv)[28]? = some (.int .u8 (y28.toNat : Int)) → ((outs s).map bv)[29]? = some (.int .u8 (y29.toNat : Int)) → ((outs s).map bv)[30]? = some (.int .u8 (y30.toNat : Int)) → ((outs s).map bv)[31]? = some (.int .u8 (y31.toNat : Int)) →
      Calls Tryd.prog 14 #[.agg ((outs s).map bv).toArray, .int .u32 f, .int .u32 l] w fun e w' => e = .returned (.bool true) ∧ Keeps [] w w' := by
    intro y0 y1 y2 y3 y28 y29 y30 y31 b0 b1 b2 b3 b28 b29 b30 b31 ha hh g0 g1 g2 g3 g28 g29 g30 g31
    rw [← ha] at hf
    rw [← hh] at hl
    subst hf hl
    clear ha hh
    generalize (outs s).map bv = X at *
    have W0 := Whole.new w 27 X
    have c0 := (W0.cell 0).trans g0
    have c1 := (W0.cell 1).trans g1
    have c2 := (W0.cell 2).trans g2
    have c3 := (W0.cell 3).trans g3
    have c28 := (W0.cell 28).trans g28
    have c29 := (W0.cell 29).trans g29
    have c30 := (W0.cell 30).trans g30
    have c31 := (W0.cell 31).trans g31
    have K0 := Lib.hid (Keeps.alloc [] w (.cells X.toArray 27))
    have p24 : ∀ y : BitVec 32, IntKind.u32.wrap ((y.toNat : Int) * 16777216) = ((y <<< 24).toNat : Int) := fun y => shl32 y 24
    have p16 : ∀ y : BitVec 32, IntKind.u32.wrap ((y.toNat : Int) * 65536) = ((y <<< 16).toNat : Int) := fun y => shl32 y 16
    have p8 : ∀ y : BitVec 32, IntKind.u32.wrap ((y.toNat : Int) * 256) = ((y <<< 8).toNat : Int) := fun y => shl32 y 8
    have m24 : ∀ y : BitVec 32, ((y.toNat : Int) * 16777216) % 4294967296 = ((y <<< 24).toNat : Int) := fun y => shl32 y 24
    have m16 : ∀ y : BitVec 32, ((y.toNat : Int) * 65536) % 4294967296 = ((y <<< 16).toNat : Int) := fun y => shl32 y 16
    have m8 : ∀ y : BitVec 32, ((y.toNat : Int) * 256) % 4294967296 = ((y <<< 8).toNat : Int) := fun y => shl32 y 8
    have q0 := p24 y0; have r0 := m24 y0
    have q1 := p16 y1; have r1 := m16 y1
    have q2 := p8 y2; have r2 := m8 y2
    have q28 := p24 y28; have r28 := m24 y28
    have q29 := p16 y29; have r29 := m16 y29
    have q30 := p8 y30; have r30 := m8 y30
    have o1 := bits_or32 (y0 <<< 24) (y1 <<< 16)
    have o2 := bits_or32 (y0 <<< 24 ||| y1 <<< 16) (y2 <<< 8)
    have o3 := bits_or32 (y0 <<< 24 ||| y1 <<< 16 ||| y2 <<< 8) y3
    have o4 := bits_or32 (y28 <<< 24) (y29 <<< 16)
    have o5 := bits_or32 (y28 <<< 24 ||| y29 <<< 16) (y30 <<< 8)
    have o6 := bits_or32 (y28 <<< 24 ||| y29 <<< 16 ||| y30 <<< 8) y31
    clear p24 p16 p8 m24 m16 m8 g0 g1 g2 g3 g28 g29 g30 g31 W0
    generalize y0 <<< 24 ||| y1 <<< 16 ||| y2 <<< 8 ||| y3 = A at *
    generalize y28 <<< 24 ||| y29 <<< 16 ||| y30 <<< 8 ||| y31 = B at *
    generalize y0 <<< 24 ||| y1 <<< 16 ||| y2 <<< 8 = A1 at *
    generalize y28 <<< 24 ||| y29 <<< 16 ||| y30 <<< 8 = B1 at *
    generalize y0 <<< 24 ||| y1 <<< 16 = A2 at *
    generalize y28 <<< 24 ||| y29 <<< 16 = B2 at *
    generalize y0 <<< 24 = A3 at *
    generalize y28 <<< 24 = B3 at *
    generalize y1 <<< 16 = A4 at *
    generalize y29 <<< 16 = B4 at *
    generalize y2 <<< 8 = A5 at *
    generalize y30 <<< 8 = B5 at *
    go_enter Tryd.func14, Tryd.ntmps14
    go_wp2
    go_ret
    exact ⟨rfl, K0.out⟩
  exact key _ _ _ _ _ _ _ _ (by32_lt _) (by32_lt _) (by32_lt _) (by32_lt _) (by32_lt _) (by32_lt _) (by32_lt _) (by32_lt _) (word_of s.a) (word_of s.h) (outs_bv s 0 (by omega)) (outs_bv s 1 (by omega)) (outs_bv s 2 (by omega)) (outs_bv s 3 (by omega)) (outs_bv s 28 (by omega)) (outs_bv s 29 (by omega)) (outs_bv s 30 (by omega)) (outs_bv s 31 (by omega))

theorem Of_lit (w : World) (l : List UInt8) (cs : Array Value) (n : Nat) (fz : Nat × Nat) (hR : Roots w) (hcs : cs = (l.map bv).toArray) (hn : n = l.length) (hl : l.length ≤ 100000000) :
    Calls Tryd.prog 12 #[.slice (some ⟨w.heap.size, 0, none⟩) n n] (w.alloc (.cells cs 5 fz)) fun e w' => e = .returned (.agg ((sumOf kk h0 l).map bv).toArray) ∧ Keeps [] w w' :=
  (Of_any _ _ l _ (Reads.lit w l cs 5 n fz hcs hn) (by simp) (hR.keeps (Keeps.alloc [] _ _) (by simp) (by simp)) hl).mono fun _ _ h => ⟨h.1, (Keeps.alloc [] _ _).trans h.2⟩

theorem Of_nil (w : World) (hR : Roots w) : Calls Tryd.prog 12 #[.slice none 0 0] w fun e w' => e = .returned (.agg ((sumOf kk h0 []).map bv).toArray) ∧ Keeps [] w w' :=
  Of_any w _ [] 0 (Reads.nil w 0) (by have := hR.lt; omega) hR (by decide)

theorem Write_lit (w : World) (b : Nat) (l bs : List UInt8) (cs : Array Value) (n : Nat) (fz : Nat × Nat) (h : HashAt w b l) (hR : Roots w) (hb : 2 ≤ b) (hcs : cs = (bs.map bv).toArray) (hn : n = bs.length) (hl : l.length + bs.length ≤ 1000000000) :
    Calls Tryd.prog 9 #[.pointer (some ⟨b, 0, none⟩), .slice (some ⟨w.heap.size, 0, none⟩) n n] (w.alloc (.cells cs 5 fz)) fun e w' => e = .returned (.int .i64 0) ∧ HashAt w' b (l ++ bs) ∧ Keeps [b] w w' :=
  (Write_any _ b w.heap.size l bs _ (h.keeps (Keeps.alloc [] _ _) (by simp)) (Reads.lit w bs cs 5 n fz hcs hn) (by have := h.lt; omega) (hR.keeps (Keeps.alloc [] _ _) (by simp) (by simp)) (by omega) (by omega) hl).mono
    fun _ _ h => ⟨h.1, h.2.1, (Keeps.alloc [b] _ _).trans h.2.2⟩

set_option maxRecDepth 100000 in
set_option maxHeartbeats 2000000 in
theorem awake3_any (w : World) (hR : Roots w) : Calls Tryd.prog 4 #[] w fun e w' => e = .returned (.bool true) ∧ Keeps [] w w' := by
  have kc := fun (w : World) (C : Array Value) (n c : Nat) => Lib.run_convert_bytes_const (P := Tryd.prog) w 22 5 C n c Tryd.underlying22 Tryd.underlying5
  have HR := Lib.hid hR
  have hlt := hR.lt
  clear hR
  go_enter Tryd.func4, Tryd.ntmps4
  go_wp2_with fail
  refine (New_any _ HR.out).mono ?_
  rintro e w1 ⟨b, rfl, hb, hh, k1⟩
  have K1 := Lib.hid k1
  have R1 := Lib.hid (HR.out.keeps k1 (by simp) (by simp))
  have H1 := Lib.hid hh
  clear k1 hh
  go_wp2_with fail
  refine (Of_nil _ R1.out).mono ?_
  rintro e w2 ⟨rfl, k2⟩
  have K2 := Lib.hid (K1.out.trans k2)
  have R2 := Lib.hid (R1.out.keeps k2 (by simp) (by simp))
  have H2 := Lib.hid (H1.out.keeps k2 (by simp))
  clear k2
  rw [sum_E]
  go_wp2_with fail
  refine (begins_yes _ _ _ _ rfl rfl).mono ?_
  rintro e w3 ⟨rfl, k3⟩
  have K3 := Lib.hid (K2.out.trans k3)
  have R3 := Lib.hid (R2.out.keeps k3 (by simp) (by simp))
  have H3 := Lib.hid (H2.out.keeps k3 (by simp))
  clear k3
  go_wp2_with fail
  refine (Of_lit _ [97, 98, 99] _ _ _ R3.out rfl rfl (by decide)).mono ?_
  rintro e w4 ⟨rfl, k4⟩
  have K4 := Lib.hid (K3.out.trans k4)
  have R4 := Lib.hid (R3.out.keeps k4 (by simp) (by simp))
  have H4 := Lib.hid (H3.out.keeps k4 (by simp))
  clear k4
  rw [sum_ABC]
  go_wp2_with fail
  refine (begins_yes _ _ _ _ rfl rfl).mono ?_
  rintro e w5 ⟨rfl, k5⟩
  have K5 := Lib.hid (K4.out.trans k5)
  have R5 := Lib.hid (R4.out.keeps k5 (by simp) (by simp))
  have H5 := Lib.hid (H4.out.keeps k5 (by simp))
  clear k5
  go_wp2_with fail
  refine (Write_lit _ b [] [97] _ _ _ H5.out R5.out (by omega) rfl rfl (by decide)).mono ?_
  rintro e w6 ⟨rfl, h6, k6⟩
  have K6 := Lib.hid (K5.out.then k6 (fun x hx => .inr (by simp at hx; omega)))
  have R6 := Lib.hid (R5.out.keeps k6 (notMem1 (by omega)) (notMem1 (by omega)))
  have H6 := Lib.hid h6
  clear k6 h6
  go_wp2_with fail
  refine (Write_lit _ b ([] ++ [97]) [98, 99] _ _ _ H6.out R6.out (by omega) rfl rfl (by decide)).mono ?_
  rintro e w7 ⟨rfl, h7, k7⟩
  have K7 := Lib.hid (K6.out.then k7 (fun x hx => .inr (by simp at hx; omega)))
  have R7 := Lib.hid (R6.out.keeps k7 (notMem1 (by omega)) (notMem1 (by omega)))
  have H7 := Lib.hid (show HashAt w7 b [97, 98, 99] from h7)
  clear k7 h7
  go_wp2_with fail
  refine (Len_any _ b _ H7.out).mono ?_
  rintro e w' ⟨rfl, rfl⟩
  go_wp2_with fail
  refine (Sum_any _ b _ H7.out R7.out (by decide)).mono ?_
  rintro e w8 ⟨rfl, k8⟩
  have K8 := Lib.hid (K7.out.trans k8)
  clear k8
  rw [sum_ABC]
  go_wp2_with fail
  refine (begins_yes _ _ _ _ rfl rfl).mono ?_
  rintro e w9 ⟨rfl, k9⟩
  have K9 := Lib.hid (K8.out.trans k9)
  clear k9
  go_wp2
  go_ret
  exact ⟨rfl, K9.out⟩
end Go.Proofs.YtlnmbfddhdjioaaDoor
