/-
  Words as bytes: cells out of bytes (the program's).
-/
import Derived.Test.YteaikbchbahdjaaImBytes
namespace Go.Proofs.Yteaikbchbahdjaa
open Go.RowKit Go.Deep
set_option linter.unusedVariables false

theorem or_byte10 (x y k : Nat) (hx : x < 2 ^ k) (hk : k ≤ 24) (hy : y < 256) : bits .or .u32 (x : Int) ((y * 2 ^ k : Nat) : Int) = ((x + y * 2 ^ k : Nat) : Int) := by
  have hb : x + y * 2 ^ k < 2 ^ 32 := by
    have : y * 2 ^ k ≤ 255 * 2 ^ k := Nat.mul_le_mul_right _ (by omega)
    have : 2 ^ k ≤ 2 ^ 24 := Nat.pow_le_pow_right (by decide) hk
    omega
  have e1 : (x : Int) = ((BitVec.ofNat 32 x).toNat : Int) := by rw [BitVec.toNat_ofNat, Nat.mod_eq_of_lt (by omega)]
  have e2 : ((y * 2 ^ k : Nat) : Int) = ((BitVec.ofNat 32 (y * 2 ^ k)).toNat : Int) := by rw [BitVec.toNat_ofNat, Nat.mod_eq_of_lt (by omega)]
  rw [e1, e2, bits_or32, BitVec.toNat_or, BitVec.toNat_ofNat, BitVec.toNat_ofNat, Nat.mod_eq_of_lt (by omega), Nat.mod_eq_of_lt (by omega), Nat.or_comm]
  have := Nat.shiftLeft_add_eq_or_of_lt (i := k) (b := x) hx y
  rw [Nat.shiftLeft_eq] at this
  omega

theorem of4_nat (a b c d : UInt8) : (of4 a b c d).toNat = a.toNat + 256 * b.toNat + 65536 * c.toNat + 16777216 * d.toNat := by
  have h1 := a.toNat_lt; have h2 := b.toNat_lt; have h3 := c.toNat_lt; have h4 := d.toNat_lt
  unfold of4
  rw [BitVec.toNat_ofNat, Nat.mod_eq_of_lt (by omega)]

theorem of4_or (a b c d : UInt8) : bits .or .u32 (bits .or .u32 (bits .or .u32 (a.toNat : Int) ((b.toNat : Int) * 256)) ((c.toNat : Int) * 65536)) ((d.toNat : Int) * 16777216) = ((of4 a b c d).toNat : Int) := by
  have ha := a.toNat_lt
  have hb := b.toNat_lt
  have hc := c.toNat_lt
  have hd := d.toNat_lt
  have e1 := or_byte10 a.toNat b.toNat 8 ha (by decide) hb
  have e2 := or_byte10 (a.toNat + b.toNat * 2 ^ 8) c.toNat 16 (by omega) (by decide) hc
  have e3 := or_byte10 (a.toNat + b.toNat * 2 ^ 8 + c.toNat * 2 ^ 16) d.toNat 24 (by omega) (by decide) hd
  rw [show ((b.toNat : Int) * 256) = ((b.toNat * 2 ^ 8 : Nat) : Int) by omega, e1, show ((c.toNat : Int) * 65536) = ((c.toNat * 2 ^ 16 : Nat) : Int) by omega, e2,
    show ((d.toNat : Int) * 16777216) = ((d.toNat * 2 ^ 24 : Nat) : Int) by omega, e3, of4_nat]
  omega

theorem list4b {l : List UInt8} {k : Nat} (h : k + 4 ≤ l.length) : (l.drop k).take 4 = [l.getD k 0, l.getD (k + 1) 0, l.getD (k + 2) 0, l.getD (k + 3) 0] := by
  apply List.ext_getElem?
  intro i
  rw [List.getElem?_take]
  simp only [List.getD_eq_getElem?_getD]
  match i with
  | 0 => simp [List.getElem?_eq_getElem (show k < l.length by omega)]
  | 1 => simp [List.getElem?_eq_getElem (show k + 1 < l.length by omega)]
  | 2 => simp [List.getElem?_eq_getElem (show k + 2 < l.length by omega)]
  | 3 => simp [List.getElem?_eq_getElem (show k + 3 < l.length by omega)]
  | i + 4 => simp; omega

def codeF (b : List UInt8) (i : Nat) : BitVec 32 := of4 (b.getD (4 * i) 0) (b.getD (4 * i + 1) 0) (b.getD (4 * i + 2) 0) (b.getD (4 * i + 3) 0)
theorem codeF_tab (n : Nat) (b : List UInt8) : tab n (codeF b) = (codeOfL n b).map uv := by
  unfold tab codeOfL
  rw [List.map_map]; rfl

theorem made_u32s (n : Nat) (hm : n ≤ 1000000) : ∃ C : Array Value, C = (List.replicate n (uv 0#32)).toArray ∧ ∀ w : World, (Instr.makeSlice 25 (.int .i64 n) (.int .i64 n)).run Try.prog w = .ok (.slice (some ⟨w.heap.size, 0, none⟩) n n) (w.alloc (.cells C 44)) := by
  obtain ⟨i0, hi, hz0, hz1, hz2⟩ := info_parts infoU
  refine ⟨_, rfl, fun w => ?_⟩
  rw [run_make w 25 44 i0 (.int .u32 0) Try.underlying25 hi hz0 .i64 .i64 _ _ (by omega) (by omega) (by rw [hz2]; omega) (by omega)]
  rw [hz1, Int.toNat_natCast, Nat.mul_one, show (Value.int IntKind.u32 0).cells = #[.int .u32 0] from rfl]
  congr 3
  apply Array.ext'
  refine List.ext_getElem? fun i => ?_
  simp only [madeCells, Array.toList_map, Array.toList_range, List.getElem?_map, List.getElem?_replicate]
  by_cases h : i < n
  · simp [h, Nat.mod_one]
  · simp [h]

theorem tabK_zero (n : Nat) (f : Nat → BitVec 32) : tabK n f 0 = List.replicate n (uv 0#32) := by
  unfold tabK
  apply List.ext_getElem
  · simp
  · intro i h1 h2; simp

set_option maxRecDepth 100000 in
set_option maxHeartbeats 2000000 in
theorem codeOf_any (w : World) (v : Value) (b : List UInt8) (M : Nat) (hr : Reads w v b M) (n : Nat) (hn : 4 * n ≤ b.length) (hb : b.length ≤ 1000000) :
    Calls Try.prog 32 #[v, .int .i64 n] w fun e w' => ∃ g, e = .returned (.slice (some ⟨g, 0, none⟩) n n) ∧ Whole w' g 44 ((codeOfL n b).map uv) ∧ w.heap.size ≤ g ∧ Keeps [] w w' := by
  obtain ⟨a, cap, rfl, hcap⟩ := hr.shape
  obtain ⟨C, hC, hmk⟩ := made_u32s n (by omega)
  have HC := Lib.hid hC
  have HR := Lib.hid hr
  have HT := Lib.hid (codeF_tab n b)
  have HA := Lib.hid (tabK_all n (codeF b))
  clear hC hr
  obtain ⟨m, hm⟩ : ∃ m, m = b.length := ⟨_, rfl⟩
  have HM := Lib.hid hm
  rw [← hm] at hn hb hcap ⊢
  clear hm
  go_enter Try.func32, Try.ntmps32
  go_upto_region 2 with fail
  generalize hV : World.alloc w _ = V
  have W0 := Lib.hid (show Whole V w.heap.size 44 (tabK n (codeF b) 0) by rw [← hV, tabK_zero, HC.out]; exact Whole.new w 44 _)
  have KV := Lib.hid (show Keeps [] w V by rw [← hV]; exact Keeps.alloc _ _ _)
  clear hV
  go_wp2
  go_loopw [6, 7, 12] (fun _ _ i wr => ∃ k : Nat, k ≤ n ∧ i = .int .i64 k ∧ Whole wr w.heap.size 44 (tabK n (codeF b) k) ∧ Keeps [] w wr) (fun _ _ i _ => n - (intOf i).toNat)
  case atStart => exact ⟨0, Nat.zero_le _, rfl, W0.out, KV.out⟩
  case round =>
    obtain ⟨k, hk, rfl, hw, hkp⟩ := hrel
    by_cases hlt : k < n
    · obtain ⟨lo, hlo⟩ : ∃ lo, lo = 4 * k := ⟨_, rfl⟩
      obtain ⟨hi, hhi⟩ : ∃ hi, hi = lo + 4 := ⟨_, rfl⟩
      have e1 : (4 : Int) * (k : Int) = (lo : Int) := by omega
      have e2 : (lo : Int) + 4 = (hi : Int) := by omega
      have hrr := HR.out.keeps hkp (by simp)
      obtain ⟨p, c, hcut, hrc⟩ := hrr.cut lo hi (by omega) (by rw [← HM.out]; omega)
      rw [show hi - lo = 4 by omega, hlo, list4b (by rw [← HM.out]; omega), ← hlo] at hcut hrc
      obtain ⟨off, c', hv, _, hcc⟩ := hrc.at (by simp)
      injection hv with hp _ _
      subst hp
      have hrun := fun w => run_cut_lh w a m cap lo hi (by omega) (by omega)
      have hcut' : sliced a lo hi cap 1 = .slice (some ⟨M, off, none⟩) 4 c := hcut
      rw [hcut'] at hrun
      have q0 := hcc 0 _ rfl
      rw [Nat.add_zero] at q0
      have q1 := hcc 1 _ rfl
      have q2 := hcc 2 _ rfl
      have q3 := hcc 3 _ rfl
      have HF := Lib.hid (show codeF b k = of4 (b.getD lo 0) (b.getD (lo + 1) 0) (b.getD (lo + 2) 0) (b.getD (lo + 3) 0) by rw [hlo]; rfl)
      generalize b.getD lo 0 = x0 at *
      generalize b.getD (lo + 1) 0 = x1 at *
      generalize b.getD (lo + 2) 0 = x2 at *
      generalize b.getD (lo + 3) 0 = x3 at *
      have HW := Lib.hid (of4_or x0 x1 x2 x3)
      rw [← HF.out] at HW
      have HWR := Lib.hid hw
      have HTG := Lib.hid (tabK_get n (codeF b) k k hlt)
      have HTS := Lib.hid (tabK_set n (codeF b) k)
      have HK := Lib.hid hkp
      have b0 : (x0.toNat : Int) < 256 := by have := x0.toNat_lt; omega
      have d0 : (0 : Int) ≤ (x0.toNat : Int) := by omega
      have b1 : (x1.toNat : Int) < 256 := by have := x1.toNat_lt; omega
      have d1 : (0 : Int) ≤ (x1.toNat : Int) := by omega
      have b2 : (x2.toNat : Int) < 256 := by have := x2.toNat_lt; omega
      have d2 : (0 : Int) ≤ (x2.toNat : Int) := by omega
      have b3 : (x3.toNat : Int) < 256 := by have := x3.toNat_lt; omega
      have d3 : (0 : Int) ≤ (x3.toNat : Int) := by omega
      have HLT := Lib.hid hlo
      clear hrr hcut hcut' hrc hcc hw hkp hlo hhi
      unfold bv at q0 q1 q2 q3
      generalize (x0.toNat : Int) = y0 at *
      generalize (x1.toNat : Int) = y1 at *
      generalize (x2.toNat : Int) = y2 at *
      generalize (x3.toNat : Int) = y3 at *
      go_wp2
      refine wp_region_tail 25 (by kernel_rfl) (by kernel_rfl) ?_
      intro wz hwz
      have kz : Keeps [] wr wz := by rw [hwz]; exact Keeps.drew _ _
      have q0 := kz.cell q0 (by simp)
      have q1 := kz.cell q1 (by simp)
      have q2 := kz.cell q2 (by simp)
      have q3 := kz.cell q3 (by simp)
      have hwz2 := HWR.out.keeps kz (by simp)
      have cw := (hwz2.cell k).trans HTG.out
      rw [if_neg (Nat.lt_irrefl _)] at cw
      have fw := hwz2.frozen k
      have HS := Lib.hid (show Whole (wz.setCell ⟨w.heap.size, k, none⟩ (uv (codeF b k))) w.heap.size 44 (tabK n (codeF b) (k + 1)) from HTS.out ▸ hwz2.set k (uv (codeF b k)))
      have HKZ := Lib.hid ((HK.out.trans kz).then (Keeps.setCell (S := [w.heap.size]) wz (p := ⟨w.heap.size, k, none⟩) (by simp) (uv (codeF b k))) (fun x hx => .inr (by simp at hx; omega)) : Keeps [] w _)
      clear kz hwz hwz2
      simp only [List.take_succ_cons, List.take_zero, List.drop_succ_cons, List.drop_zero]
      repeat still_step
      refine wpStill_nil ?_
      go_wp2
      rw [HW.out]
      go_roundw
      case rel => exact ⟨k + 1, by omega, by go_num, HS.out, HKZ.out⟩
      case measure => simp [intOf]; omega
    · have hjk : k = n := by omega
      subst hjk
      rw [HA.out, HT.out] at hw
      have HW := Lib.hid hw
      have HK := Lib.hid hkp
      clear hw hkp
      go_wp2
      go_ret
      exact ⟨_, rfl, HW.out, Nat.le_refl _, HK.out⟩
end Go.Proofs.Yteaikbchbahdjaa
