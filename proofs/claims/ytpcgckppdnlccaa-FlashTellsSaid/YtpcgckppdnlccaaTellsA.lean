/-
  The document's own flash (lightshipref01) in memory, and the contracts of its small functions. Its state is told in the words of the program's one (FS).
-/
import Derived.Test.YtpcgckppdnlccaaLawOrderB
namespace Go.Proofs.Ytpcgckppdnlccaa
open Go.RowKit Go.Deep

/-- How many operations are let through: -1, if all. -/
def FS.lets (s : FS) : Int := if s.armed = true then s.left else -1

/-- The document's flash in the state s lies at R, its bytes in C, its wears in W, its mask ms in M. -/
structure RefAt (w : World) (R C W M : Nat) (s : FS) (ms : List UInt8) : Prop where
  nRC : R ≠ C
  nRW : R ≠ W
  nCW : C ≠ W
  nM : M ≠ R ∧ M ≠ C ∧ M ≠ W
  len : s.bs.length = 256 * s.wear.length
  few : s.wear.length ≤ 256
  left0 : 0 ≤ s.left
  left1 : s.left ≤ 9223372036854775807
  maskl : ms.length ≤ 65536
  mask : s.armed = true → s.mask = ms.take s.bs.length
  here : ∃ cc cw mv, w.heap[R]? = some (.cells #[.slice (some ⟨C, 0, none⟩) s.bs.length cc, .slice (some ⟨W, 0, none⟩) s.wear.length cw, .int .i64 s.lets, mv, .bool s.down] 39 (0, 0)) ∧
    Row w C 5 (s.bs.map bv) cc ∧ Row w W 3 (s.wear.map (Value.int .i64)) cw ∧ Reads w mv ms M

theorem RefAt.cells {w : World} {R C W M : Nat} {s : FS} {ms : List UInt8} (h : RefAt w R C W M s ms) : ∃ cc cw mv,
    w.cell? ⟨R, 0, none⟩ = some (.slice (some ⟨C, 0, none⟩) s.bs.length cc) ∧ w.cell? ⟨R, 1, none⟩ = some (.slice (some ⟨W, 0, none⟩) s.wear.length cw) ∧
    w.cell? ⟨R, 2, none⟩ = some (.int .i64 s.lets) ∧ w.cell? ⟨R, 3, none⟩ = some mv ∧ w.cell? ⟨R, 4, none⟩ = some (.bool s.down) ∧ (∀ i, w.frozen? ⟨R, i, none⟩ = false) ∧
    Row w C 5 (s.bs.map bv) cc ∧ Row w W 3 (s.wear.map (Value.int .i64)) cw ∧ Reads w mv ms M := by
  obtain ⟨cc, cw, mv, hR, hC, hW, hM⟩ := h.here
  refine ⟨cc, cw, mv, ?_, ?_, ?_, ?_, ?_, ?_, hC, hW, hM⟩ <;> simp [World.cell?, World.frozen?, hR]

theorem RefAt.lt {w : World} {R C W M : Nat} {s : FS} {ms : List UInt8} (h : RefAt w R C W M s ms) : R < w.heap.size ∧ C < w.heap.size ∧ W < w.heap.size := by
  obtain ⟨cc, cw, mv, hR, hC, hW, hM⟩ := h.here
  exact ⟨(Array.getElem?_eq_some_iff.1 hR).1, hC.lt, hW.lt⟩

theorem RefAt.keeps {S : List Nat} {w w' : World} {R C W M : Nat} {s : FS} {ms : List UInt8} (h : RefAt w R C W M s ms) (hk : Keeps S w w') (hR : R ∉ S) (hC : C ∉ S) (hW : W ∉ S) (hM : M ∉ S) : RefAt w' R C W M s ms := by
  obtain ⟨cc, cw, mv, f, b, c, m⟩ := h.here
  exact { h with here := ⟨cc, cw, mv, hk.obj f hR, b.keeps hk hC, c.keeps hk hW, m.keeps hk hM⟩ }

set_option maxHeartbeats 400000 in
theorem Rthere_any {R C W M : Nat} {s : FS} {ms : List UInt8} (w : World) (h : RefAt w R C W M s ms) (a n : Int) :
    Calls Try.prog 52 #[.pointer (some ⟨R, 0, none⟩), .int .i64 a, .int .i64 n] w fun e w' => e = .returned (.bool (decide (s.has a n))) ∧ w = w' := by
  obtain ⟨cc, cw, mv, c0, c1, c2, c3, c4, cf, rC, rW, rM⟩ := h.cells
  have hlen := h.len
  have hfew := h.few
  by_cases h0 : 0 ≤ a
  · by_cases h1 : a ≤ s.bs.length
    · by_cases h2 : 0 ≤ n
      · by_cases h3 : n ≤ s.bs.length - a
        · rw [decide_eq_true (show s.has a n by unfold FS.has; omega)]
          go_enter Try.func52, Try.ntmps52
          go_wp2
          go_ret
          exact ⟨by simp; omega, rfl⟩
        · rw [decide_eq_false (show ¬ s.has a n by unfold FS.has; omega)]
          go_enter Try.func52, Try.ntmps52
          go_wp2
          go_ret
          exact ⟨by simp; omega, rfl⟩
      · rw [decide_eq_false (show ¬ s.has a n by unfold FS.has; omega)]
        go_enter Try.func52, Try.ntmps52
        go_wp2
        go_ret
        exact ⟨by simp, rfl⟩
    · rw [decide_eq_false (show ¬ s.has a n by unfold FS.has; omega)]
      go_enter Try.func52, Try.ntmps52
      go_wp2
      go_ret
      exact ⟨by simp, rfl⟩
  · rw [decide_eq_false (show ¬ s.has a n by unfold FS.has; omega)]
    go_enter Try.func52, Try.ntmps52
    go_wp2
    go_ret
    exact ⟨by simp, rfl⟩

/-- Its cells, when the number of operations and the power are written. -/
theorem RefAt.written {w : World} {R C W M : Nat} {s : FS} {ms : List UInt8} (h : RefAt w R C W M s ms) (l : Int) (d : Bool) (s' : FS) (hb : s'.bs = s.bs) (hw : s'.wear = s.wear) (hl : s'.lets = l) (hd : s'.down = d) (h0 : 0 ≤ s'.left) (h1 : s'.left ≤ 9223372036854775807) (hm : s'.armed = true → s'.mask = ms.take s'.bs.length) :
    RefAt ((w.setCell ⟨R, 2, none⟩ (.int .i64 l)).setCell ⟨R, 4, none⟩ (.bool d)) R C W M s' ms ∧ Keeps [R] w ((w.setCell ⟨R, 2, none⟩ (.int .i64 l)).setCell ⟨R, 4, none⟩ (.bool d)) := by
  obtain ⟨cc, cw, mv, hR, hC, hW, hM⟩ := h.here
  have k : Keeps [R] w ((w.setCell ⟨R, 2, none⟩ (.int .i64 l)).setCell ⟨R, 4, none⟩ (.bool d)) := (Keeps.setCell _ (by simp) _).trans (Keeps.setCell _ (by simp) _)
  refine ⟨⟨h.nRC, h.nRW, h.nCW, h.nM, by rw [hb, hw]; exact h.len, by rw [hw]; exact h.few, h0, h1, h.maskl, hm, cc, cw, mv, ?_, ?_, ?_, ?_⟩, k⟩
  · rw [heap_setCell_at _ _ _ _ _ _ _ (heap_setCell_at w R 2 _ _ _ _ hR), hb, hw, hl, hd]; rfl
  · rw [hb]; exact hC.keeps k (by simpa using h.nRC.symm)
  · rw [hw]; exact hW.keeps k (by simpa using h.nRW.symm)
  · exact hM.keeps k (by simpa using h.nM.1)

theorem RefAt.counted {w : World} {R C W M : Nat} {s : FS} {ms : List UInt8} (h : RefAt w R C W M s ms) (l : Int) (s' : FS) (hb : s'.bs = s.bs) (hw : s'.wear = s.wear) (hl : s'.lets = l) (hd : s'.down = s.down) (h0 : 0 ≤ s'.left) (h1 : s'.left ≤ 9223372036854775807) (hm : s'.armed = true → s'.mask = ms.take s'.bs.length) :
    RefAt (w.setCell ⟨R, 2, none⟩ (.int .i64 l)) R C W M s' ms ∧ Keeps [R] w (w.setCell ⟨R, 2, none⟩ (.int .i64 l)) := by
  obtain ⟨cc, cw, mv, hR, hC, hW, hM⟩ := h.here
  have k : Keeps [R] w (w.setCell ⟨R, 2, none⟩ (.int .i64 l)) := Keeps.setCell _ (by simp) _
  refine ⟨⟨h.nRC, h.nRW, h.nCW, h.nM, by rw [hb, hw]; exact h.len, by rw [hw]; exact h.few, h0, h1, h.maskl, hm, cc, cw, mv, ?_, ?_, ?_, ?_⟩, k⟩
  · rw [heap_setCell_at w R 2 _ _ _ _ hR, hb, hw, hl, hd]; rfl
  · rw [hb]; exact hC.keeps k (by simpa using h.nRC.symm)
  · rw [hw]; exact hW.keeps k (by simpa using h.nRW.symm)
  · exact hM.keeps k (by simpa using h.nM.1)

set_option maxHeartbeats 400000 in
theorem RUp_any {R C W M : Nat} {s : FS} {ms : List UInt8} (w : World) (h : RefAt w R C W M s ms) :
    Calls Try.prog 18 #[.pointer (some ⟨R, 0, none⟩)] w fun e w' => e = .returned (.tuple #[]) ∧ RefAt w' R C W M s.up ms ∧ Keeps [R] w w' := by
  obtain ⟨cc, cw, mv, c0, c1, c2, c3, c4, cf, rC, rW, rM⟩ := h.cells
  have f2 := cf 2
  have f4 := cf 4
  have hk := Lib.hid (h.written (-1) false s.up rfl rfl rfl rfl (Int.le_refl 0) (by show (0 : Int) ≤ _; omega) (by intro e; cases e))
  clear cf rC rW rM h
  go_enter Try.func18, Try.ntmps18
  go_wp2
  go_end0
  exact ⟨rfl, hk.out.1, hk.out.2⟩

/-- After an operation is counted. -/
def FS.spent (s : FS) : FS := if s.armed = true ∧ s.left = 0 then { s with down := true, armed := false, left := 0, mask := [] } else { s with left := if s.armed then s.left - 1 else s.left }
def FS.tears (s : FS) : Bool := decide (s.armed = true ∧ s.left = 0)

set_option maxHeartbeats 400000 in
theorem Rgoes_any {R C W M : Nat} {s : FS} {ms : List UInt8} (w : World) (h : RefAt w R C W M s ms) :
    Calls Try.prog 53 #[.pointer (some ⟨R, 0, none⟩)] w fun e w' => e = .returned (.bool s.tears) ∧ RefAt w' R C W M s.spent ms ∧ Keeps [R] w w' := by
  obtain ⟨cc, cw, mv, c0, c1, c2, c3, c4, cf, rC, rW, rM⟩ := h.cells
  have f2 := cf 2
  have f4 := cf 4
  have l0 := h.left0
  have l1 := h.left1
  by_cases ha : s.armed = true
  · by_cases hz : s.left = 0
    · have e1 : s.spent = { s with down := true, armed := false, left := 0, mask := [] } := by unfold FS.spent; rw [if_pos ⟨ha, hz⟩]
      have e2 : s.tears = true := by unfold FS.tears; rw [decide_eq_true ⟨ha, hz⟩]
      have e3 : s.lets = 0 := by unfold FS.lets; rw [if_pos ha, hz]
      have hk := Lib.hid (h.written (-1) true s.spent (by rw [e1]) (by rw [e1]) (by rw [e1]; rfl) (by rw [e1]) (by rw [e1]; simp) (by rw [e1]; simp) (by rw [e1]; intro e; cases e))
      rw [e2]
      rw [e3] at c2
      clear cf rC rW rM h e1 e2 e3
      go_enter Try.func53, Try.ntmps53
      go_wp2
      go_ret
      exact ⟨rfl, hk.out.1, hk.out.2⟩
    · have e1 : s.spent = { s with left := s.left - 1 } := by unfold FS.spent; rw [if_neg (fun e => hz e.2), if_pos ha]
      have e2 : s.tears = false := by unfold FS.tears; rw [decide_eq_false (fun e => hz e.2)]
      have e3 : s.lets = s.left := by unfold FS.lets; rw [if_pos ha]
      have hk := Lib.hid (h.counted (s.left - 1) s.spent (by rw [e1]) (by rw [e1]) (by rw [e1]; unfold FS.lets; rw [if_pos ha]) (by rw [e1]) (by rw [e1]; show 0 ≤ s.left - 1; omega) (by rw [e1]; show s.left - 1 ≤ _; omega) (by rw [e1]; exact h.mask))
      have hz' : (s.left == 0) = false := by simpa using hz
      have hp : 0 < s.left := by omega
      rw [e2]
      rw [e3] at c2
      clear cf rC rW rM h e1 e2 e3
      go_enter Try.func53, Try.ntmps53
      go_wp2
      go_ret
      exact ⟨rfl, hk.out.1, hk.out.2⟩
  · have e1 : s.spent = s := by unfold FS.spent; rw [if_neg (fun e => ha e.1), if_neg ha]
    have e2 : s.tears = false := by unfold FS.tears; rw [decide_eq_false (fun e => ha e.1)]
    have e3 : s.lets = -1 := by unfold FS.lets; rw [if_neg ha]
    have hk := Lib.hid h
    rw [e1, e2]
    rw [e3] at c2
    clear cf rC rW rM h e1 e2 e3
    go_enter Try.func53, Try.ntmps53
    go_wp2
    go_ret
    exact ⟨rfl, hk.out, Keeps.refl _ _⟩

set_option maxHeartbeats 400000 in
theorem Rmask_any {R C W M : Nat} {s : FS} {ms : List UInt8} (w : World) (h : RefAt w R C W M s ms) (i : Nat) :
    Calls Try.prog 55 #[.pointer (some ⟨R, 0, none⟩), .int .i64 i] w fun e w' => e = .returned (bv (ms.getD i 0)) ∧ w = w' := by
  obtain ⟨cc, cw, mv, c0, c1, c2, c3, c4, cf, rC, rW, rM⟩ := h.cells
  have hml := h.maskl
  by_cases hi : i < ms.length
  · have hne : ms ≠ [] := by intro e; rw [e] at hi; simp at hi
    obtain ⟨off, cap, rfl, hcap, hc⟩ := rM.at hne
    have hck : ms[i]? = some (ms.getD i 0) := by rw [List.getElem?_eq_getElem hi]; simp [List.getD, List.getElem?_eq_getElem hi]
    have pc := hc i _ hck
    have hi' : (i : Int) < ms.length := by omega
    generalize ms.getD i 0 = x at *
    clear hc rM hck rC rW cf
    go_enter Try.func55, Try.ntmps55
    go_wp2
    go_ret
    exact ⟨rfl, rfl⟩
  · have hi' : ¬ (i : Int) < ms.length := by omega
    have e0 : ms.getD i 0 = 0 := by rw [List.getD_eq_getElem?_getD, List.getElem?_eq_none (by omega)]; rfl
    rw [e0]
    obtain ⟨ao, cap, rfl⟩ := readsShape rM
    clear rM rC rW cf
    go_enter Try.func55, Try.ntmps55
    go_wp2
    go_ret
    exact ⟨rfl, rfl⟩

theorem bit_div (n k : Nat) : (((n : Int) / 2 ^ k).tmod 2 == 1) = n.testBit k := by
  have e : (n : Int) / 2 ^ k = ((n / 2 ^ k : Nat) : Int) := by simp
  rw [e, Int.tmod_eq_emod_of_nonneg (Int.natCast_nonneg _), Nat.testBit_eq_decide_div_mod_eq]
  generalize n / 2 ^ k = q
  rw [Bool.eq_iff_iff]
  simp
  omega

set_option maxHeartbeats 400000 in
theorem Rbit_any (w : World) (b : UInt8) (k : Nat) (hk : k < 8) :
    Calls Try.prog 61 #[.int .u8 b.toNat, .int .i64 k] w fun e w' => e = .returned (.bool (b.toNat.testBit k)) ∧ w = w' := by
  have hb := b.toNat_lt
  go_enter Try.func61, Try.ntmps61
  go_wp2
  go_ret
  exact ⟨by rw [bit_div]; rfl, rfl⟩

/-- What is programmed of a byte, torn or not. -/
def tornT (torn : Bool) (m : UInt8) : UInt8 := if torn then m else 255

theorem clears_bit (c t x : UInt8) (k : Nat) (hk : k < 8) : (clears c t x).toNat.testBit k = (c.toNat.testBit k && (x.toNat.testBit k || !t.toNat.testBit k)) := by
  show (clears c t x).toBitVec.getLsbD k = (c.toBitVec.getLsbD k && (x.toBitVec.getLsbD k || !t.toBitVec.getLsbD k))
  unfold clears
  rw [UInt8.toBitVec_and, UInt8.toBitVec_not, UInt8.toBitVec_and, UInt8.toBitVec_not, BitVec.getLsbD_and, BitVec.getLsbD_not, BitVec.getLsbD_and, BitVec.getLsbD_not]
  simp only [hk, decide_true, Bool.true_and]
  cases x.toBitVec.getLsbD k <;> cases t.toBitVec.getLsbD k <;> rfl

theorem shift_bit (X k : Nat) : X >>> k = 2 * (X >>> (k + 1)) + (X.testBit k).toNat := by
  rw [Nat.shiftRight_succ, Nat.testBit_eq_decide_div_mod_eq, ← Nat.shiftRight_eq_div_pow]
  rcases Nat.mod_two_eq_zero_or_one (X >>> k) with h | h <;> simp [h] <;> omega

set_option maxHeartbeats 1000000 in
theorem Rprogrammed_any (w : World) (c b m : UInt8) (torn : Bool) :
    Calls Try.prog 54 #[.int .u8 c.toNat, .int .u8 b.toNat, .bool torn, .int .u8 m.toNat] w fun e w' => e = .returned (bv (clears c (tornT torn m) b)) ∧ w = w' := by
  go_enter Try.func54, Try.ntmps54
  go_wp2
  obtain ⟨X, hX⟩ : ∃ X, (clears c (tornT torn m) b).toNat = X := ⟨_, rfl⟩
  have hX8 : X < 256 := by rw [← hX]; exact UInt8.toNat_lt _
  have HX := Lib.hid hX
  go_loopw [9, 10] (fun o k wr => ∃ j : Nat, j ≤ 8 ∧ k = .int .i64 ((j : Int) - 1) ∧ o = .int .u8 ((X >>> j : Nat) : Int) ∧ wr = w) (fun _ k _ => (intOf k + 1).toNat)
  case atStart => exact ⟨8, Nat.le_refl _, rfl, by rw [Nat.shiftRight_eq_div_pow, Nat.div_eq_of_lt (by omega)]; rfl, rfl⟩
  case round =>
    obtain ⟨j, hj, rfl, rfl, rfl⟩ := hrel
    match j, hj with
    | 0, _ =>
      go_wp2
      go_ret
      exact ⟨by unfold bv; rw [HX.out]; rfl, rfl⟩
    | k + 1, hj =>
      have hk8 : k < 8 := by omega
      have hs := shift_bit X k
      have hbit := clears_bit c (tornT torn m) b k hk8
      rw [HX.out] at hbit
      have hy : X >>> (k + 1) < 128 := by
        rw [Nat.shiftRight_succ]
        have : X >>> k ≤ X := by rw [Nat.shiftRight_eq_div_pow]; exact Nat.div_le_self _ _
        omega
      have hkk : (((k + 1 : Nat) : Int) - 1) = (k : Int) := by omega
      rw [hkk]
      obtain ⟨y, hye⟩ : ∃ y, X >>> (k + 1) = y := ⟨_, rfl⟩
      obtain ⟨z, hze⟩ : ∃ z, X >>> k = z := ⟨_, rfl⟩
      rw [hye] at hs hy ⊢
      rw [hze] at hs
      have HZ := Lib.hid hze
      have HS := Lib.hid hs
      have HB := Lib.hid hbit
      have q1 := Rbit_any wr c k hk8
      have q2 := Rbit_any wr b k hk8
      have q3 := Rbit_any wr m k hk8
      have ht : (tornT torn m).toNat.testBit k = (!torn || m.toNat.testBit k) := by
        cases torn
        · show (255 : UInt8).toNat.testBit k = true
          match k, hk8 with
          | 0, _ | 1, _ | 2, _ | 3, _ | 4, _ | 5, _ | 6, _ | 7, _ => rfl
        · simp [tornT]
      rw [ht] at hbit
      rw [hbit] at hs
      clear hye hze hbit ht HB HS HX hX hX8
      have Q1 := Lib.hid q1
      have Q2 := Lib.hid q2
      have Q3 := Lib.hid q3
      have HS := Lib.hid hs
      clear q1 q2 q3 hs
      by_cases h1 : c.toNat.testBit k = true
      · by_cases h2 : b.toNat.testBit k = true
        · have q1 := Q1.out
          have q2 := Q2.out
          have hs := HS.out
          rw [h1] at q1
          rw [h2] at q2
          rw [h1, h2] at hs
          simp at hs
          have P1 := Lib.hid q1
          have P2 := Lib.hid q2
          have PS := Lib.hid hs
          clear q1 q2 hs h1 h2 Q1 Q2 Q3 HS
          go_wp2_with fail
          refine P1.out.mono ?_
          rintro e w' ⟨rfl, rfl⟩
          go_wp2_with fail
          refine P2.out.mono ?_
          rintro e w' ⟨rfl, rfl⟩
          go_wp2
          go_roundw
          case rel => exact ⟨k, by omega, by go_num, by rw [HZ.out, PS.out]; simp; try omega, by simp⟩
          case measure => simp [intOf]
        · have h2 : b.toNat.testBit k = false := by simpa using h2
          cases torn
          · have q1 := Q1.out
            have q2 := Q2.out
            have hs := HS.out
            rw [h1] at q1
            rw [h2] at q2
            rw [h1, h2] at hs
            simp at hs
            have P1 := Lib.hid q1
            have P2 := Lib.hid q2
            have PS := Lib.hid hs
            clear q1 q2 hs h1 h2 Q1 Q2 Q3 HS
            go_wp2_with fail
            refine P1.out.mono ?_
            rintro e w' ⟨rfl, rfl⟩
            go_wp2_with fail
            refine P2.out.mono ?_
            rintro e w' ⟨rfl, rfl⟩
            go_wp2
            go_roundw
            case rel => exact ⟨k, by omega, by go_num, by rw [HZ.out, PS.out]; simp; try omega, by simp⟩
            case measure => simp [intOf]
          · cases h3 : m.toNat.testBit k
            all_goals
              have q1 := Q1.out
              have q2 := Q2.out
              have q3 := Q3.out
              have hs := HS.out
              rw [h1] at q1
              rw [h2] at q2
              rw [h3] at q3
              rw [h1, h2, h3] at hs
              simp at hs
              have P1 := Lib.hid q1
              have P2 := Lib.hid q2
              have P3 := Lib.hid q3
              have PS := Lib.hid hs
              clear q1 q2 q3 hs h1 h2 h3 Q1 Q2 Q3 HS
              go_wp2_with fail
              refine P1.out.mono ?_
              rintro e w' ⟨rfl, rfl⟩
              go_wp2_with fail
              refine P2.out.mono ?_
              rintro e w' ⟨rfl, rfl⟩
              go_wp2_with fail
              refine P3.out.mono ?_
              rintro e w' ⟨rfl, rfl⟩
              go_wp2
              go_roundw
              case rel => exact ⟨k, by omega, by go_num, by rw [HZ.out, PS.out]; simp; try omega, by simp⟩
              case measure => simp [intOf]
      · have h1 : c.toNat.testBit k = false := by simpa using h1
        have q1 := Q1.out
        have hs := HS.out
        rw [h1] at q1
        rw [h1] at hs
        simp at hs
        have P1 := Lib.hid q1
        have PS := Lib.hid hs
        clear q1 hs h1 Q1 Q2 Q3 HS
        go_wp2_with fail
        refine P1.out.mono ?_
        rintro e w' ⟨rfl, rfl⟩
        go_wp2
        go_roundw
        case rel => exact ⟨k, by omega, by go_num, by rw [HZ.out, PS.out]; simp; try omega, by simp⟩
        case measure => simp [intOf]
end Go.Proofs.Ytpcgckppdnlccaa
