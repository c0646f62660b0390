/-
  Memories: Load, Byte, Bytes, Store, Fill, SetByte, Move, Ram.
-/
import Derived.Test.YtfnjjanknfmibaaGreatMemB
namespace Go.Proofs.YtfnjjanknfmibaaGreat
open Go.RowKit Go.Deep
set_option linter.unusedVariables false

theorem list4 {l : List UInt8} (h : l.length = 4) : ∃ a b c d, l = [a, b, c, d] := by
  match l, h with
  | [a, b, c, d], _ => exact ⟨a, b, c, d, rfl⟩

theorem or_byte (x y k : Nat) (hx : x < 2 ^ k) (hk : k ≤ 24) (hy : y < 256) : bits .or .u32 (x : Int) ((y * 2 ^ k : Nat) : Int) = ((x + y * 2 ^ k : Nat) : Int) := by
  have hb : x + y * 2 ^ k < 2 ^ 32 := by
    have : y * 2 ^ k ≤ 255 * 2 ^ k := Nat.mul_le_mul_right _ (by omega)
    have : 2 ^ k ≤ 2 ^ 24 := Nat.pow_le_pow_right (by decide) hk
    omega
  have e1 : (x : Int) = ((BitVec.ofNat 32 x).toNat : Int) := by rw [BitVec.toNat_ofNat, Nat.mod_eq_of_lt (by omega)]
  have e2 : ((y * 2 ^ k : Nat) : Int) = ((BitVec.ofNat 32 (y * 2 ^ k)).toNat : Int) := by rw [BitVec.toNat_ofNat, Nat.mod_eq_of_lt (by omega)]
  rw [e1, e2, bits_or32, BitVec.toNat_or, BitVec.toNat_ofNat, BitVec.toNat_ofNat, Nat.mod_eq_of_lt (by omega), Nat.mod_eq_of_lt (by omega), Nat.or_comm]
  have := Nat.shiftLeft_add_eq_or_of_lt (i := k) (b := x) hx y
  rw [Nat.shiftLeft_eq] at this
  omega

theorem word_or (a b c d : UInt8) : bits .or .u32 (bits .or .u32 (bits .or .u32 (a.toNat : Int) ((b.toNat : Int) * 256)) ((c.toNat : Int) * 65536)) ((d.toNat : Int) * 16777216) = (wordN [a, b, c, d] : Int) := by
  have ha := a.toNat_lt
  have hb := b.toNat_lt
  have hc := c.toNat_lt
  have hd := d.toNat_lt
  have e1 := or_byte a.toNat b.toNat 8 ha (by decide) hb
  have e2 := or_byte (a.toNat + b.toNat * 2 ^ 8) c.toNat 16 (by omega) (by decide) hc
  have e3 := or_byte (a.toNat + b.toNat * 2 ^ 8 + c.toNat * 2 ^ 16) d.toNat 24 (by omega) (by decide) hd
  rw [show ((b.toNat : Int) * 256) = ((b.toNat * 2 ^ 8 : Nat) : Int) by omega, e1, show ((c.toNat : Int) * 65536) = ((c.toNat * 2 ^ 16 : Nat) : Int) by omega, e2,
    show ((d.toNat : Int) * 16777216) = ((d.toNat * 2 ^ 24 : Nat) : Int) by omega, e3]
  unfold wordN
  simp
  omega

section
variable {w : World} {H g rb M : Nat} {wv : Value} {win ram : List UInt8}

theorem there_some (h : MemAt w H g rb M wv win ram) (A n : Nat) (a1 : A < 4294967296) (n1 : n < 4294967296) (n0 : 0 < n) (ht : tT win ram A n = 0) :
    Calls Tryz.prog 19 #[.pointer (some ⟨g, 0, none⟩), .int .u32 A, .int .u32 n] w fun e w' => ∃ Mx off, e = .returned (.tuple #[.slice (some ⟨Mx, off, none⟩) n n, .int .i32 0]) ∧ (∀ i c, (gL win ram A n)[i]? = some c → w'.cell? ⟨Mx, off + i, none⟩ = some (bv c)) ∧ Keeps [] w w' := by
  refine (there_any h A n a1 n1).mono ?_
  rintro e w' ⟨a, m, Mx, rfl, hm, hr, _, hk⟩
  have hl := gL_length ht
  rw [hl] at hm
  subst hm
  obtain ⟨off, cap, hv, _, hc⟩ := hr.at (by intro e; rw [e] at hl; simp at hl; omega)
  injection hv with e1 _ _
  subst e1
  exact ⟨Mx, off, by rw [ht], hc, hk⟩

theorem there_fail (h : MemAt w H g rb M wv win ram) (A n : Nat) (a1 : A < 4294967296) (n1 : n < 4294967296) (ht : tT win ram A n ≠ 0) :
    Calls Tryz.prog 19 #[.pointer (some ⟨g, 0, none⟩), .int .u32 A, .int .u32 n] w fun e w' => ∃ a, e = .returned (.tuple #[.slice a 0 0, .int .i32 (-9)]) ∧ Keeps [] w w' := by
  refine (there_any h A n a1 n1).mono ?_
  rintro e w' ⟨a, m, Mx, rfl, hm, hr, _, hk⟩
  rw [gL_none ht] at hm
  subst hm
  exact ⟨a, by rcases tT_or win ram A n with h | h; exact absurd h ht; rw [h]; rfl, hk⟩

set_option maxRecDepth 100000 in
set_option maxHeartbeats 1000000 in
theorem Load_at (h : MemAt w H g rb M wv win ram) (A : Nat) (a1 : A < 4294967296) :
    Calls Tryz.prog 91 #[.pointer (some ⟨g, 0, none⟩), .int .u32 A] w fun e w' => e = .returned (.tuple #[.int .u32 (loadX win ram A : Nat), .int .i32 (loadT win ram A)]) ∧ Keeps [] w w' := by
  unfold loadX loadT
  by_cases ha : A % 4 = 0
  · rw [if_pos ha, if_pos ha]
    have HA := Lib.hid (aligned_at h A (by omega) (by omega) 0 (by rw [if_pos (by omega)]))
    by_cases ht : tT win ram A 4 = 0
    · have HT := Lib.hid (there_some h A 4 a1 (by decide) (by decide) ht)
      rw [ht]
      obtain ⟨c0, c1, c2, c3, hg⟩ := list4 (gL_length ht)
      rw [hg] at HT ⊢
      have HW := Lib.hid (word_or c0 c1 c2 c3)
      clear h hg ht ha
      generalize (wordN [c0, c1, c2, c3] : Int) = W at *
      have b0 : (c0.toNat : Int) < 256 := by have := c0.toNat_lt; omega
      have d0 : (0 : Int) ≤ (c0.toNat : Int) := by omega
      have b1 : (c1.toNat : Int) < 256 := by have := c1.toNat_lt; omega
      have d1 : (0 : Int) ≤ (c1.toNat : Int) := by omega
      have b2 : (c2.toNat : Int) < 256 := by have := c2.toNat_lt; omega
      have d2 : (0 : Int) ≤ (c2.toNat : Int) := by omega
      have b3 : (c3.toNat : Int) < 256 := by have := c3.toNat_lt; omega
      have d3 : (0 : Int) ≤ (c3.toNat : Int) := by omega
      go_enter Tryz.func91, Tryz.ntmps91
      go_wp2_with (first | (go_at_call 153; refine HA.out.mono ?_; rintro e w' ⟨rfl, rfl⟩) | (go_at_call 19; refine HT.out.mono ?_; rintro e w2 ⟨Mx, off, rfl, hc, hk⟩; have HK := Lib.hid hk; clear hk; have q0 : w2.cell? ⟨Mx, off + 0, none⟩ = some (.int .u8 (c0.toNat : Int)) := hc 0 c0 rfl; have q1 : w2.cell? ⟨Mx, off + 1, none⟩ = some (.int .u8 (c1.toNat : Int)) := hc 1 c1 rfl; have q2 : w2.cell? ⟨Mx, off + 2, none⟩ = some (.int .u8 (c2.toNat : Int)) := hc 2 c2 rfl; have q3 : w2.cell? ⟨Mx, off + 3, none⟩ = some (.int .u8 (c3.toNat : Int)) := hc 3 c3 rfl; rw [Nat.add_zero] at q0; clear hc; generalize (c0.toNat : Int) = y0 at *; generalize (c1.toNat : Int) = y1 at *; generalize (c2.toNat : Int) = y2 at *; generalize (c3.toNat : Int) = y3 at *) | go_quiet (fail))
      go_ret2
      exact ⟨congrArg (fun x => Ending.returned (.tuple #[.int .u32 x, .int .i32 0])) HW.out, HK.out.trans (Keeps.drewN _ _ _)⟩
    · have HT := Lib.hid (there_fail h A 4 a1 (by decide) ht)
      have hW : wordN (gL win ram A 4) = 0 := by rw [gL_none ht]; rfl
      have ht' : tT win ram A 4 = -9 := by rcases tT_or win ram A 4 with h | h; exact absurd h ht; exact h
      rw [hW, ht']
      clear h ht ht' hW ha
      go_enter Tryz.func91, Tryz.ntmps91
      go_wp2_with (first | (go_at_call 153; refine HA.out.mono ?_; rintro e w' ⟨rfl, rfl⟩) | (go_at_call 19; refine HT.out.mono ?_; rintro e w2 ⟨a, rfl, hk⟩; have HK := Lib.hid hk; clear hk))
      go_ret2
      exact ⟨rfl, HK.out⟩
  · rw [if_neg ha, if_neg ha]
    have HA := Lib.hid (aligned_at h A (by omega) (by omega) (-23) (by rw [if_neg (by omega)]))
    clear h ha
    go_enter Tryz.func91, Tryz.ntmps91
    go_wp2_with (first | (go_at_call 153; refine HA.out.mono ?_; rintro e w' ⟨rfl, rfl⟩))
    go_ret2
    exact ⟨rfl, Keeps.refl _ _⟩

set_option maxRecDepth 100000 in
theorem Byte_at (h : MemAt w H g rb M wv win ram) (A : Nat) (a1 : A < 4294967296) :
    Calls Tryz.prog 94 #[.pointer (some ⟨g, 0, none⟩), .int .u32 A] w fun e w' => e = .returned (.tuple #[bv (byteX win ram A), .int .i32 (tT win ram A 1)]) ∧ Keeps [] w w' := by
  unfold byteX
  by_cases ht : tT win ram A 1 = 0
  · have HT := Lib.hid (there_some h A 1 a1 (by decide) (by decide) ht)
    rw [ht]
    obtain ⟨c, hg⟩ := List.length_eq_one_iff.1 (gL_length ht)
    rw [hg] at HT ⊢
    clear h hg ht
    rw [show [c].getD 0 0 = c from rfl]
    unfold bv
    obtain ⟨y, hy⟩ : ∃ y : Int, y = c.toNat := ⟨_, rfl⟩
    rw [← hy]
    have HY := Lib.hid hy
    clear hy
    go_enter Tryz.func94, Tryz.ntmps94
    go_wp2_with (first | (go_at_call 19; refine HT.out.mono ?_; rintro e w2 ⟨Mx, off, rfl, hc, hk⟩; have HK := Lib.hid hk; clear hk; have q0 : w2.cell? ⟨Mx, off + 0, none⟩ = some (.int .u8 y) := (by rw [HY.out]; exact hc 0 c rfl); rw [Nat.add_zero] at q0; clear hc))
    go_ret2
    exact ⟨rfl, HK.out⟩
  · have HT := Lib.hid (there_fail h A 1 a1 (by decide) ht)
    have hW : (gL win ram A 1).getD 0 0 = 0 := by rw [gL_none ht]; rfl
    have ht' : tT win ram A 1 = -9 := by rcases tT_or win ram A 1 with h | h; exact absurd h ht; exact h
    rw [hW, ht']
    clear h ht ht' hW
    go_enter Tryz.func94, Tryz.ntmps94
    go_wp2_with (first | (go_at_call 19; refine HT.out.mono ?_; rintro e w2 ⟨a, rfl, hk⟩; have HK := Lib.hid hk; clear hk))
    go_ret2
    exact ⟨rfl, HK.out⟩

/-- RAM's bytes are others now. -/
theorem MemAt.put (h : MemAt w H g rb M wv win ram) {w' : World} {ram' : List UInt8} (hk : Keeps [rb] w w') (hr : Whole w' rb 5 (ram'.map bv)) (hl : ram'.length = ram.length) : MemAt w' H g rb M wv win ram' :=
  ⟨by rw [hl]; exact h.whole.keeps hk (by simp [h.ne]), hr, h.winR.ifKept hk (fun hw => by have := (h.winM hw).2.2.2; simp [this]), fun hw => by have := h.winM hw; have := hk.size; exact ⟨by omega, by omega, by omega, by omega⟩, h.gH, h.rbH, h.ne, by rw [hl]; exact h.ram4, h.winL⟩

set_option maxRecDepth 100000 in
set_option maxHeartbeats 1000000 in
theorem Fill_at (h : MemAt w H g rb M wv win ram) (A n : Nat) (a1 : A < 4294967296) (n1 : n < 4294967296) (c : UInt8) :
    Calls Tryz.prog 110 #[.pointer (some ⟨g, 0, none⟩), .int .u32 A, .int .u32 n, bv c] w fun e w' => e = .returned (.int .i32 (pT win ram A n)) ∧ MemAt w' H g rb M wv win (pL ram A (List.replicate n c)) ∧ Keeps [rb] w w' := by
  have hpl : ¬ (inAt 1048576 ram A n ∧ 0 < n) → pL ram A (List.replicate n c) = ram := by
    intro hn
    unfold pL
    rw [List.length_replicate]
    split
    · next hi =>
      obtain rfl : n = 0 := by by_cases hz : n = 0; exact hz; exact absurd ⟨hi, by omega⟩ hn
      unfold inAt at hi
      exact putAt_nil _ _ (by omega)
    · rfl
  by_cases hin : inAt 1048576 ram A n ∧ 0 < n
  · obtain ⟨hin, n0⟩ := hin
    have hp : pL ram A (List.replicate n c) = putAt ram (A - 1048576) (List.replicate n c) := by unfold pL; rw [List.length_replicate, if_pos hin]
    have hpt : pT win ram A n = 0 := by unfold pT; rw [if_pos hin]
    rw [hp, hpt]
    have HT := Lib.hid (writable_in h A n hin n0)
    unfold inAt at hin
    have HKN := Lib.hid (show A - 1048576 + n ≤ ram.length ∧ ram.length ≤ 65536 from by have := h.ram4; omega)
    have hnb : n ≤ 65536 := by have := h.ram4; omega
    have HM := Lib.hid h
    clear h hin hpl hp hpt
    generalize A - 1048576 = k at *
    unfold bv
    obtain ⟨y, hy⟩ : ∃ y : Int, y = c.toNat := ⟨_, rfl⟩
    rw [← hy]
    have HY := Lib.hid hy
    clear hy
    go_enter Tryz.func110, Tryz.ntmps110
    go_wp2_with (first | (go_at_call 154; refine HT.out.mono ?_; rintro e w2 ⟨rfl, hk⟩; have HK := Lib.hid hk; have HM2 := Lib.hid (HM.out.next hk); clear hk) | fail)
    go_loopw [11, 21] (fun _ i wr => ∃ j : Nat, j ≤ n ∧ i = .int .i64 j ∧ Hid (Whole wr rb 5 ((putAt ram k ((List.replicate n c).take j)).map bv)) ∧ Hid (Keeps [rb] w2 wr)) (fun _ i _ => n - (intOf i).toNat)
    case atStart => exact ⟨0, by omega, rfl, Lib.hid (by rw [List.take_zero, putAt_nil _ _ (by have := HKN.out; omega)]; exact HM2.out.row), Lib.hid (Keeps.refl _ _)⟩
    case round =>
      obtain ⟨j, hj, rfl, hrow, hkw⟩ := hrel
      by_cases hlt : j < n
      · have hji : (j : Int) < n := by omega
        have hlen : (putAt ram k ((List.replicate n c).take j)).length = ram.length := putAt_length _ _ _ (by have := HKN.out; simp; omega)
        obtain ⟨z, hz⟩ : ∃ z, wr.cell? ⟨rb, k + j, none⟩ = some z := ⟨_, (hrow.out.cell (k + j)).trans (List.getElem?_eq_getElem (by rw [List.length_map, hlen]; have := HKN.out; omega))⟩
        have hfr : wr.frozen? ⟨rb, k + j, none⟩ = false := hrow.out.frozen _
        clear hlen
        go_wp2
        go_roundw
        case rel =>
          refine ⟨j + 1, by omega, by go_num, Lib.hid ?_, Lib.hid (hkw.out.trans (Keeps.setCell _ (by simp) _))⟩
          have := hrow.out.set (k + j) (.int .u8 y)
          rw [HY.out] at this ⊢
          rw [show (Value.int .u8 (c.toNat : Int)) = bv c from rfl, ← List.map_set, putAt_step ram k j (List.replicate n c) c (by have := HKN.out; simp; omega) (by rw [List.getElem?_replicate, if_pos hlt])] at this
          exact this
        case measure => simp [intOf]; omega
      · obtain rfl : j = n := by omega
        go_wp2
        go_ret
        rw [List.take_of_length_le (by simp)] at hrow
        exact ⟨rfl, HM2.out.put hkw.out hrow.out (putAt_length _ _ _ (by have := HKN.out; simp; omega)), (HK.out.mono (by simp)).trans hkw.out⟩
  · have HT := Lib.hid (writable_no h A n a1 n1 hin)
    rw [hpl hin]
    have HM := Lib.hid h
    clear h hin hpl
    generalize pT win ram A n = t at *
    unfold bv
    generalize (c.toNat : Int) = y at *
    go_enter Tryz.func110, Tryz.ntmps110
    go_wp2_with (first | (go_at_call 154; refine HT.out.mono ?_; rintro e w2 ⟨a, rfl, hk⟩; have HK := Lib.hid hk; have HM2 := Lib.hid (HM.out.next hk); clear hk) | fail)
    go_loopw [11, 21] (fun _ i wr => i = .int .i64 0 ∧ wr = w2) (fun _ i _ => 0)
    case atStart => exact ⟨rfl, rfl⟩
    case round =>
      obtain ⟨rfl, rfl⟩ := hrel
      go_wp2
      go_ret
      exact ⟨rfl, HM2.out, HK.out.mono (by simp)⟩

theorem SetByte_at (h : MemAt w H g rb M wv win ram) (A : Nat) (a1 : A < 4294967296) (c : UInt8) :
    Calls Tryz.prog 102 #[.pointer (some ⟨g, 0, none⟩), .int .u32 A, bv c] w fun e w' => e = .returned (.int .i32 (pT win ram A 1)) ∧ MemAt w' H g rb M wv win (pL ram A [c]) ∧ Keeps [rb] w w' := by
  have HF := Lib.hid (Fill_at h A 1 a1 (by decide) c)
  clear h
  rw [show List.replicate 1 c = [c] from rfl, show ((1 : Nat) : Int) = 1 from rfl] at HF
  generalize pT win ram A 1 = t at *
  generalize pL ram A [c] = r' at *
  unfold bv at *
  generalize (c.toNat : Int) = y at *
  go_enter Tryz.func102, Tryz.ntmps102
  go_wp2_with (go_at_call 110; refine HF.out.mono ?_; rintro e w2 ⟨rfl, hm, hk⟩; have HM := Lib.hid hm; have HK := Lib.hid hk; clear hm hk)
  go_ret
  exact ⟨rfl, HM.out, HK.out⟩

theorem fourL_get (x j : Nat) (hj : j < 4) : (fourL x)[j]? = some (UInt8.ofNat (x / 2 ^ (8 * j))) := by
  match j, hj with
  | 0, _ => simp [fourL]
  | 1, _ => rfl
  | 2, _ => rfl
  | 3, _ => rfl

theorem byte_cell (x : Nat) : bv (UInt8.ofNat x) = .int .u8 ((x : Int) % 256) := by
  unfold bv
  congr 1

set_option maxRecDepth 100000 in
set_option maxHeartbeats 2000000 in
theorem Store_at (h : MemAt w H g rb M wv win ram) (A x : Nat) (a1 : A < 4294967296) (x1 : x < 4294967296) :
    Calls Tryz.prog 100 #[.pointer (some ⟨g, 0, none⟩), .int .u32 A, .int .u32 x] w fun e w' => e = .returned (.int .i32 (storeT win ram A)) ∧ MemAt w' H g rb M wv win (storeL ram A x) ∧ Keeps [rb] w w' := by
  unfold storeT storeL
  by_cases ha : A % 4 = 0
  · rw [if_pos ha, if_pos ha]
    have HA := Lib.hid (aligned_at h A (by omega) (by omega) 0 (by rw [if_pos (by omega)]))
    by_cases hin : inAt 1048576 ram A 4
    · have hp : pL ram A (fourL x) = putAt ram (A - 1048576) (fourL x) := by show (if inAt 1048576 ram A 4 then _ else _) = _; rw [if_pos hin]
      have hpt : pT win ram A 4 = 0 := by unfold pT; rw [if_pos hin]
      rw [hp, hpt]
      have HT := Lib.hid (writable_in h A 4 hin (by decide))
      unfold inAt at hin
      have HKN := Lib.hid (show A - 1048576 + 4 ≤ ram.length ∧ ram.length ≤ 65536 from by have := h.ram4; omega)
      have HM := Lib.hid h
      have hf4 : (fourL x).length = 4 := rfl
      have HG := Lib.hid (fourL_get x)
      clear h hin hp hpt ha
      generalize A - 1048576 = k at *
      generalize hfx : fourL x = bs at *
      clear hfx
      go_enter Tryz.func100, Tryz.ntmps100
      go_wp2_with (first | (go_at_call 153; refine HA.out.mono ?_; rintro e w' ⟨rfl, rfl⟩) | (go_at_call 154; refine HT.out.mono ?_; rintro e w2 ⟨rfl, hk⟩; have HK := Lib.hid hk; have HM2 := Lib.hid (HM.out.next hk); clear hk) | fail)
      go_loopw [10, 25] (fun _ i wr => ∃ j : Nat, j ≤ 4 ∧ i = .int .i64 j ∧ Hid (Whole wr rb 5 ((putAt ram k (bs.take j)).map bv)) ∧ Hid (Keeps [rb] w2 wr)) (fun _ i _ => 4 - (intOf i).toNat)
      case atStart => exact ⟨0, by omega, rfl, Lib.hid (by rw [List.take_zero, putAt_nil _ _ (by have := HKN.out; omega)]; exact HM2.out.row), Lib.hid (Keeps.refl _ _)⟩
      case round =>
        obtain ⟨j, hj, rfl, hrow, hkw⟩ := hrel
        by_cases hlt : j < 4
        · have hlen : (putAt ram k (bs.take j)).length = ram.length := putAt_length _ _ _ (by have := HKN.out; simp; omega)
          obtain ⟨z, hz⟩ : ∃ z, wr.cell? ⟨rb, k + j, none⟩ = some z := ⟨_, (hrow.out.cell (k + j)).trans (List.getElem?_eq_getElem (by rw [List.length_map, hlen]; have := HKN.out; omega))⟩
          have hfr : wr.frozen? ⟨rb, k + j, none⟩ = false := hrow.out.frozen _
          have HN := Lib.hid (show Whole (wr.setCell ⟨rb, k + j, none⟩ (.int .u8 (((x / 2 ^ (8 * j) : Nat) : Int) % 256))) rb 5 ((putAt ram k (bs.take (j + 1))).map bv) from by
            have := hrow.out.set (k + j) (bv (UInt8.ofNat (x / 2 ^ (8 * j))))
            rw [← List.map_set, putAt_step ram k j bs _ (by have := HKN.out; omega) (HG.out j hlt), byte_cell] at this
            exact this)
          clear hlen hf4
          match j, hlt with
          | 0, _ =>
            rw [show ((x / 2 ^ (8 * 0) : Nat) : Int) = (x : Int) by simp] at HN
            rw [Nat.add_zero] at hz hfr HN
            clear hrow
            go_wp2
            go_roundw
            case rel => exact ⟨1, by omega, rfl, HN, Lib.hid (hkw.out.trans (Keeps.setCell _ (by simp) _))⟩
            case measure => simp [intOf]
          | 1, _ =>
            rw [show ((x / 2 ^ (8 * 1) : Nat) : Int) = (x : Int) / 256 by simp] at HN
            clear hrow
            go_wp2
            go_roundw
            case rel => exact ⟨2, by omega, rfl, HN, Lib.hid (hkw.out.trans (Keeps.setCell _ (by simp) _))⟩
            case measure => simp [intOf]
          | 2, _ =>
            rw [show ((x / 2 ^ (8 * 2) : Nat) : Int) = (x : Int) / 65536 by simp] at HN
            clear hrow
            go_wp2
            go_roundw
            case rel => exact ⟨3, by omega, rfl, HN, Lib.hid (hkw.out.trans (Keeps.setCell _ (by simp) _))⟩
            case measure => simp [intOf]
          | 3, _ =>
            rw [show ((x / 2 ^ (8 * 3) : Nat) : Int) % 256 = (x : Int) / 16777216 by rw [show ((x / 2 ^ (8 * 3) : Nat) : Int) = (x : Int) / 16777216 by simp]; omega] at HN
            clear hrow
            go_wp2
            go_roundw
            case rel => exact ⟨4, by omega, rfl, HN, Lib.hid (hkw.out.trans (Keeps.setCell _ (by simp) _))⟩
            case measure => simp [intOf]
        · obtain rfl : j = 4 := by omega
          rw [List.take_of_length_le (by omega)] at hrow
          have HM3 := Lib.hid (HM2.out.put hkw.out hrow.out (putAt_length _ _ _ (by have := HKN.out; omega)))
          clear hf4
          go_wp2
          go_ret
          exact ⟨rfl, HM3.out, (HK.out.mono (by simp)).trans hkw.out⟩
    · have HT := Lib.hid (writable_no h A 4 a1 (by decide) (fun hh => hin hh.1))
      have hp : pL ram A (fourL x) = ram := by show (if inAt 1048576 ram A 4 then _ else _) = _; rw [if_neg hin]
      rw [hp]
      have HM := Lib.hid h
      clear h hin hp ha
      generalize pT win ram A 4 = t at *
      go_enter Tryz.func100, Tryz.ntmps100
      go_wp2_with (first | (go_at_call 153; refine HA.out.mono ?_; rintro e w' ⟨rfl, rfl⟩) | (go_at_call 154; refine HT.out.mono ?_; rintro e w2 ⟨a, rfl, hk⟩; have HK := Lib.hid hk; have HM2 := Lib.hid (HM.out.next hk); clear hk) | fail)
      go_loopw [10, 25] (fun _ i wr => i = .int .i64 0 ∧ wr = w2) (fun _ i _ => 0)
      case atStart => exact ⟨rfl, rfl⟩
      case round =>
        obtain ⟨rfl, rfl⟩ := hrel
        go_wp2
        go_ret
        exact ⟨rfl, HM2.out, HK.out.mono (by simp)⟩
  · rw [if_neg ha, if_neg ha]
    have HA := Lib.hid (aligned_at h A (by omega) (by omega) (-23) (by rw [if_neg (by omega)]))
    have HM := Lib.hid h
    clear h ha
    go_enter Tryz.func100, Tryz.ntmps100
    go_wp2_with (first | (go_at_call 153; refine HA.out.mono ?_; rintro e w' ⟨rfl, rfl⟩))
    go_ret
    exact ⟨rfl, HM.out, Keeps.refl _ _⟩

set_option maxRecDepth 100000 in
set_option maxHeartbeats 1000000 in
/-- Bytes of one's own. -/
theorem Clone9 (w : World) (v : Value) (l : List UInt8) (M : Nat) (h : Reads w v l M) (hl : l.length ≤ 65536) :
    Calls Tryz.prog 18 #[v] w fun e w' => ∃ u M', e = .returned u ∧ Reads w' u l M' ∧ (l ≠ [] → w.heap.size ≤ M' ∧ M' < w'.heap.size) ∧ Keeps [] w w' := by
  rcases h with ⟨rfl, rfl⟩ | ⟨ad, cap, rfl, hcap, hb, hc⟩
  · have hne := fun w => Lib.run_eql_slice_nil (P := Tryz.prog) w 23 5 none 0 0 0 0 Tryz.underlying23
    go_enter Tryz.func18, Tryz.ntmps18
    go_wp2
    go_ret
    exact ⟨_, 0, rfl, Reads.nil _ _, fun h => absurd rfl h, Keeps.refl _ _⟩
  · have HB := Lib.hid (show Reads w (.slice (some ad) l.length cap) l M from .inr ⟨ad, cap, rfl, hcap, hb, hc⟩)
    clear hb hc
    have hne := fun w => Lib.run_eql_slice_nil (P := Tryz.prog) w 23 5 (some ad) l.length cap 0 0 Tryz.underlying23
    go_enter Tryz.func18, Tryz.ntmps18
    have HO := Lib.hid (show (w.alloc (.cells #[] 5)).ownsRow w.heap.size 5 1 (.slice (some ⟨w.heap.size, 0, none⟩) 0 0) ([] : List UInt8).length (([] : List UInt8).map bv) from Whole.owns (xs := []) (ys := []) (Whole.new w 5 []) (Nat.le_refl _) rfl rfl (by decide))
    have HB1 := Lib.hid (HB.out.keeps (Keeps.alloc [] w (.cells #[] 5)) (by simp))
    go_wp2_with (first | (at_builtin; refine wpList_append_reads rfl _ _ rfl w.heap.size _ [] rfl HO.out _ l M rfl HB1.out (by simp; omega) (by simp) ?_; intro v3 w3 hown3 hk3; have HO3 := Lib.hid hown3; have HK3 := Lib.hid hk3; clear hown3 hk3))
    go_ret
    have hk : Keeps [] w w3 := (Keeps.alloc [] w (.cells #[] 5)).then HK3.out (fun x hx => .inr (by have hx' : x ∈ [w.heap.size] := hx; simp at hx'; omega))
    have hsz : w.heap.size < w3.heap.size := by have := HK3.out.size; simp at this; omega
    have ho : w3.ownsRow w.heap.size 5 1 v3 l.length (l.map bv) := by simpa using HO3.out
    have ho2 := ho
    rcases ho2.2 with ⟨rfl, hz⟩ | ⟨g, cp, cur, rfl, hbg, hg, _⟩
    · obtain rfl : l = [] := List.eq_nil_of_length_eq_zero hz
      exact ⟨_, 0, rfl, Reads.nil _ _, fun h => absurd rfl h, hk⟩
    · exact ⟨_, g, rfl, (Row.ofOwnsAt ho).reads, fun _ => ⟨hbg, (Array.getElem?_eq_some_iff.1 hg).1⟩, hk⟩

set_option maxRecDepth 100000 in
set_option maxHeartbeats 1000000 in
theorem Bytes_at (h : MemAt w H g rb M wv win ram) (A n : Nat) (a1 : A < 4294967296) (n1 : n < 4294967296) :
    Calls Tryz.prog 7 #[.pointer (some ⟨g, 0, none⟩), .int .u32 A, .int .u32 n] w fun e w' => ∃ a c M', e = .returned (.tuple #[.slice a (gL win ram A n).length c, .int .i32 (tT win ram A n)]) ∧ Reads w' (.slice a (gL win ram A n).length c) (gL win ram A n) M' ∧ (gL win ram A n ≠ [] → w.heap.size ≤ M' ∧ M' < w'.heap.size) ∧ Keeps [] w w' := by
  have HT := Lib.hid (there_any h A n a1 n1)
  have HL := Lib.hid (show (gL win ram A n).length ≤ 65536 from by
    rcases tT_or win ram A n with ht | ht
    · rw [gL_length ht]; unfold tT at ht; have := h.ram4; have := h.winL
      split at ht
      · next hi => unfold inAt at hi; omega
      · cases ht
    · rw [gL_none (by rw [ht]; decide)]; simp)
  clear h
  generalize gL win ram A n = L at *
  generalize tT win ram A n = t at *
  go_enter Tryz.func7, Tryz.ntmps7
  go_wp2_with (first | (go_at_call 19; refine HT.out.mono ?_; rintro e w2 ⟨a, m, Mx, rfl, hm, hr, hM0, hk⟩; have HK := Lib.hid hk; have HC := Lib.hid (Clone9 w2 _ L Mx hr HL.out); clear hk hr hm hM0) | (go_at_call 18; refine HC.out.mono ?_; rintro e w3 ⟨u, M', rfl, hr, hM, hk⟩; have HR := Lib.hid hr; have HM := Lib.hid hM; have HK3 := Lib.hid hk; obtain ⟨a3, c3, rfl, _⟩ := hr.shape; clear hM hk hr))
  go_ret2
  exact ⟨_, _, M', rfl, HR.out, fun hl => by have := HM.out hl; have := HK.out.size; omega, HK.out.trans HK3.out⟩

set_option maxRecDepth 100000 in
set_option maxHeartbeats 1000000 in
theorem Ram_at (h : MemAt w H g rb M wv win ram) :
    Calls Tryz.prog 6 #[.pointer (some ⟨g, 0, none⟩)] w fun e w' => ∃ a c M', e = .returned (.slice a ram.length c) ∧ Reads w' (.slice a ram.length c) ram M' ∧ w.heap.size ≤ M' ∧ M' < w'.heap.size ∧ Keeps [] w w' := by
  have c0 := h.cell 0 _ rfl
  have c4 := h.cell 4 _ rfl
  have HR := Lib.hid h.ramR
  have hr4 := h.ram4
  have HC := Lib.hid (Clone9 w _ ram rb h.ramR (by omega))
  clear h
  generalize hn : ram.length = n at *
  go_enter Tryz.func6, Tryz.ntmps6
  go_wp2_with (first | (go_at_call 17; refine (mmMade_at _ _ c0).mono ?_; rintro e w' ⟨rfl, rfl⟩) | (go_at_call 18; refine HC.out.mono ?_; rintro e w3 ⟨u, M', rfl, hr, hM, hk⟩; have HR := Lib.hid hr; have HM := Lib.hid hM; have HK3 := Lib.hid hk; obtain ⟨a3, c3, rfl, _⟩ := hr.shape; clear hM hk hr))
  go_ret
  have := HM.out (by intro e; subst e; simp at hn; omega)
  rw [hn] at HR
  exact ⟨a3, c3, M', rfl, HR.out, this.1, this.2, HK3.out⟩
end
end Go.Proofs.YtfnjjanknfmibaaGreat
