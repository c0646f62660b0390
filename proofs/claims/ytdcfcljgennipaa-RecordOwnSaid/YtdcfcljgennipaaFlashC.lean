/-
  Contracts: Up, Arm, mayProgram, mayErase.
-/
import Derived.Test.YtdcfcljgennipaaFlashB
namespace Go.Proofs.Ytdcfcljgennipaa
open Go.RowKit

/-- The four cells of the power, stored one by one. -/
theorem FlashAt.power {w : World} {F B W M : Nat} {s : FS} (hF : FlashAt w F B W M s) (d a : Bool) (l : Int) (mv : Value) (m : List UInt8) (M' : Nat) (l0 : 0 ≤ l) (l1 : l ≤ 9223372036854775807)
    (hm : m.length ≤ 65536) (hM : M' ≠ F ∧ M' ≠ B ∧ M' ≠ W) (hr : Reads w mv m M') :
    FlashAt ((((w.setCell ⟨F, 3, none⟩ (.bool d)).setCell ⟨F, 4, none⟩ (.bool a)).setCell ⟨F, 5, none⟩ (.int .i64 l)).setCell ⟨F, 6, none⟩ mv) F B W M' { s with down := d, armed := a, left := l, mask := m } ∧
    Keeps [F] w ((((w.setCell ⟨F, 3, none⟩ (.bool d)).setCell ⟨F, 4, none⟩ (.bool a)).setCell ⟨F, 5, none⟩ (.int .i64 l)).setCell ⟨F, 6, none⟩ mv) := by
  obtain ⟨cb, cw, mv0, f, b, c, _⟩ := hF.here
  have k : Keeps [F] w ((((w.setCell ⟨F, 3, none⟩ (.bool d)).setCell ⟨F, 4, none⟩ (.bool a)).setCell ⟨F, 5, none⟩ (.int .i64 l)).setCell ⟨F, 6, none⟩ mv) :=
    (((Keeps.setCell w (by simp) _).trans (Keeps.setCell _ (by simp) _)).trans (Keeps.setCell _ (by simp) _)).trans (Keeps.setCell _ (by simp) _)
  refine ⟨{ hF with left0 := l0, left1 := l1, maskl := hm, nM := hM, here := ⟨cb, cw, mv, ?_, b.keeps k (by simpa using Ne.symm hF.nFB), c.keeps k (by simpa using Ne.symm hF.nFW), hr.keeps k (by simpa using hM.1)⟩ }, k⟩
  have h1 := heap_setCell_at w F 3 (.bool d) _ _ _ f
  have h2 := heap_setCell_at _ F 4 (.bool a) _ _ _ h1
  have h3 := heap_setCell_at _ F 5 (.int .i64 l) _ _ _ h2
  have h4 := heap_setCell_at _ F 6 mv _ _ _ h3
  simpa using h4

def FS.up (s : FS) : FS := { s with down := false, armed := false, left := 0, mask := [] }

set_option maxRecDepth 100000 in
set_option maxHeartbeats 400000 in
theorem Up_yes {F B W M : Nat} {s : FS} (w : World) (hF : FlashAt w F B W M s) :
    Calls Try.prog 42 #[.pointer (some ⟨F, 0, none⟩)] w fun e w' => e = .returned (.int .i64 0) ∧ FlashAt w' F B W M s.up ∧ Keeps [F] w w' := by
  obtain ⟨cb, cw, mv, c0, c1, c2, c3, c4, c5, c6, cf, rB, rW, rM⟩ := hF.cells
  have f3 := cf 3
  have f4 := cf 4
  have f5 := cf 5
  have f6 := cf 6
  clear cf
  go_enter Try.func42, Try.ntmps42
  go_wp2_with (go_at_call 66; refine (made_yes F _ c0).mono ?_; rintro e w' ⟨rfl, rfl⟩)
  go_ret
  have := hF.power false false 0 (.slice none 0 0) [] M (by omega) (by omega) (by simp) hF.nM (Reads.nil _ _)
  exact ⟨rfl, this.1, this.2⟩

set_option maxRecDepth 100000 in
set_option maxHeartbeats 400000 in
theorem Arm_not (p : Option Addr) (w : World) (h : NotMade w p) (n : Int) (v : Value) :
    Calls Try.prog 41 #[.pointer p, .int .i64 n, v] w fun e w' => e = .returned (.int .i64 1) ∧ w = w' := by
  go_enter Try.func41, Try.ntmps41
  go_wp2_with (go_at_call 58; refine (ready_not _ _ h).mono ?_; rintro e w' ⟨rfl, rfl⟩)
  go_ret
  exact ⟨rfl, rfl⟩

set_option maxRecDepth 100000 in
set_option maxHeartbeats 400000 in
theorem Arm_down {F B W M : Nat} {s : FS} (w : World) (hF : FlashAt w F B W M s) (n : Int) (v : Value) (hd : s.down = true) :
    Calls Try.prog 41 #[.pointer (some ⟨F, 0, none⟩), .int .i64 n, v] w fun e w' => e = .returned (.int .i64 12) ∧ w = w' := by
  obtain ⟨cb, cw, mv, c0, c1, c2, c3, c4, c5, c6, cf, rB, rW, rM⟩ := hF.cells
  rw [hd] at c3
  clear hd
  go_enter Try.func41, Try.ntmps41
  go_wp2_with (go_at_call 58; refine (ready_yes F _ true c0 c3).mono ?_; rintro e w' ⟨rfl, rfl⟩)
  go_ret
  exact ⟨rfl, rfl⟩

set_option maxRecDepth 100000 in
set_option maxHeartbeats 400000 in
theorem Arm_arg {F B W M : Nat} {s : FS} (w : World) (hF : FlashAt w F B W M s) (n : Int) (v : Value) (hd : s.down = false) (hn : n < 0) :
    Calls Try.prog 41 #[.pointer (some ⟨F, 0, none⟩), .int .i64 n, v] w fun e w' => e = .returned (.int .i64 2) ∧ w = w' := by
  obtain ⟨cb, cw, mv, c0, c1, c2, c3, c4, c5, c6, cf, rB, rW, rM⟩ := hF.cells
  rw [hd] at c3
  clear hd
  go_enter Try.func41, Try.ntmps41
  go_wp2_with (go_at_call 58; refine (ready_yes F _ false c0 c3).mono ?_; rintro e w' ⟨rfl, rfl⟩)
  go_ret
  exact ⟨rfl, rfl⟩

def FS.arm (s : FS) (n : Int) (m : List UInt8) : FS := { s with down := false, armed := true, left := n, mask := m.take s.bs.length }

set_option maxRecDepth 100000 in
set_option maxHeartbeats 400000 in
theorem Arm_nil {F B W M : Nat} {s : FS} (w : World) (hF : FlashAt w F B W M s) (n : Int) (hd : s.down = false) (hn : 0 ≤ n) (hn' : n ≤ 9223372036854775807) :
    Calls Try.prog 41 #[.pointer (some ⟨F, 0, none⟩), .int .i64 n, .slice none 0 0] w fun e w' => e = .returned (.int .i64 0) ∧ FlashAt w' F B W M (s.arm n []) ∧ Keeps [F] w w' := by
  obtain ⟨cb, cw, mv, c0, c1, c2, c3, c4, c5, c6, cf, rB, rW, rM⟩ := hF.cells
  rw [hd] at c3
  clear hd
  have f3 := cf 3
  have f4 := cf 4
  have f5 := cf 5
  have f6 := cf 6
  clear cf
  go_enter Try.func41, Try.ntmps41
  go_wp2_with (first | (go_at_call 58; refine (ready_yes F _ false c0 c3).mono ?_; rintro e w' ⟨rfl, rfl⟩) | (go_at_call 60; refine (cloneB_nil _ _ _).mono ?_; rintro e w' ⟨rfl, rfl⟩) | fail)
  go_ret
  have := hF.power false true n (.slice none 0 0) [] M (by omega) (by omega) (by simp) hF.nM (Reads.nil _ _)
  exact ⟨rfl, by simpa [FS.arm] using this.1, this.2⟩

set_option maxRecDepth 100000 in
set_option maxHeartbeats 400000 in
theorem Arm_some {F B W M : Nat} {s : FS} (w : World) (hF : FlashAt w F B W M s) (n : Int) (hd : s.down = false) (hn : 0 ≤ n) (hn' : n ≤ 9223372036854775807)
    (ad : Addr) (k cap : Nat) (l : List UInt8) (hl : l.length = k) (hk : k ≤ cap) (hm : k ≤ 9223372036854775807) (hc : ∀ i c, l[i]? = some c → w.cell? (ad.add i) = some (bv c)) :
    Calls Try.prog 41 #[.pointer (some ⟨F, 0, none⟩), .int .i64 n, .slice (some ad) k cap] w fun e w' => e = .returned (.int .i64 0) ∧ ∃ M', w.heap.size ≤ M' ∧ FlashAt w' F B W M' (s.arm n l) ∧ Keeps [F] w w' := by
  obtain ⟨cb, cw, mv, c0, c1, c2, c3, c4, c5, c6, cf, rB, rW, rM⟩ := hF.cells
  rw [hd] at c3
  have hlen := hF.len
  have hfew := hF.few
  have hbs : s.bs.length ≤ 65536 := by omega
  have HL := Lib.hid hl
  have f3 := cf 3
  have f4 := cf 4
  have f5 := cf 5
  have f6 := cf 6
  clear hd cf hl hlen
  go_enter Try.func41, Try.ntmps41
  go_wp2_with (first | (go_at_call 58; refine (ready_yes F _ false c0 c3).mono ?_; rintro e w' ⟨rfl, rfl⟩) | fail)
  all_goals
    refine (cloneB_some _ _ _ _ ((l.take s.bs.length).map bv) ?_ ?_ (one_bytes _) ?_).mono ?_
    · have := HL.out
      rw [List.length_map, List.length_take]; omega
    · omega
    · intro i u hu
      rw [List.getElem?_map, List.getElem?_take] at hu
      split at hu
      · obtain ⟨c, hc1, rfl⟩ := Option.map_eq_some_iff.1 hu
        exact hc i c hc1
      · simp at hu
    · rintro e w1 ⟨b, c, rfl, hb, hr, hk1⟩
      have hw1 := hF.keeps hk1 (by simp) (by simp) (by simp) (by simp)
      have HW1 := Lib.hid hw1
      have HR := Lib.hid hr
      obtain ⟨cb', cw', mv', d0, d1, d2, d3, d4, d5, d6, df, _, _, _⟩ := hw1.cells
      have g3 := df 3
      have g4 := df 4
      have g5 := df 5
      have g6 := df 6
      clear df hw1 hr
      go_wp2
      go_ret
      have hlt := hF.lt
      have hrd := HR.out.reads
      have hmv : (l.take s.bs.length).length ≤ 65536 := by rw [List.length_take]; omega
      have hln : (l.take s.bs.length).length = min s.bs.length k := by have := HL.out; rw [List.length_take, this]
      have fin := HW1.out.power false true n _ _ b (by omega) (by omega) hmv ⟨by omega, by omega, by omega⟩ hrd
      rw [hln] at fin
      first
      | rw [Nat.min_eq_left (by omega)] at fin
      | rw [Nat.min_eq_right (by omega)] at fin
      exact ⟨rfl, b, hb, fin.1, (hk1.mono (by simp)).trans fin.2⟩

/-- May bytes be programmed there? -/
def FS.mayProgram (s : FS) (a n : Int) : Int := if s.down then 12 else if ¬ s.has a n then 10 else if a % 4 ≠ 0 ∨ n % 4 ≠ 0 then 11 else 0

set_option maxRecDepth 100000 in
set_option maxHeartbeats 400000 in
theorem mayProgram_not (p : Option Addr) (w : World) (h : NotMade w p) (a n : Int) :
    Calls Try.prog 74 #[.pointer p, .int .i64 a, .int .i64 n] w fun e w' => e = .returned (.int .i64 1) ∧ w = w' := by
  go_enter Try.func74, Try.ntmps74
  go_wp2_with (go_at_call 58; refine (ready_not _ _ h).mono ?_; rintro e w' ⟨rfl, rfl⟩)
  go_ret
  exact ⟨rfl, rfl⟩

set_option maxRecDepth 100000 in
set_option maxHeartbeats 400000 in
theorem mayProgram_yes {F B W M : Nat} {s : FS} (w : World) (hF : FlashAt w F B W M s) (a n : Int) (hn : n ≤ 9223372036854775807) :
    Calls Try.prog 74 #[.pointer (some ⟨F, 0, none⟩), .int .i64 a, .int .i64 n] w fun e w' => e = .returned (.int .i64 (s.mayProgram a n)) ∧ w = w' := by
  obtain ⟨cb, cw, mv, c0, c1, c2, c3, c4, c5, c6, cf, rB, rW, rM⟩ := hF.cells
  have hlen := hF.len
  have hfew := hF.few
  have hbs : s.bs.length ≤ 65536 := by omega
  clear hlen
  cases hd : s.down with
  | true =>
    rw [hd] at c3
    have Hr := Lib.hid (show s.mayProgram a n = 12 by simp [FS.mayProgram, hd])
    clear hd
    go_enter Try.func74, Try.ntmps74
    go_wp2_with (go_at_call 58; refine (ready_yes F _ true c0 c3).mono ?_; rintro e w' ⟨rfl, rfl⟩)
    go_ret
    exact ⟨by rw [Hr.out]; rfl, rfl⟩
  | false =>
    rw [hd] at c3
    by_cases hh : s.has a n
    · have h3 := hh
      obtain ⟨h0, h1, h2⟩ := h3
      by_cases ha : a % 4 = 0
      · by_cases hb : n % 4 = 0
        · have Hr := Lib.hid (show s.mayProgram a n = 0 by simp [FS.mayProgram, hd, hh, ha, hb])
          have ha' : (a % 4 != 0) = false := by simp [ha]
          have hb' : (n % 4 != 0) = false := by simp [hb]
          clear hd ha hb
          go_enter Try.func74, Try.ntmps74
          go_wp2_with (first | (go_at_call 58; refine (ready_yes F _ false c0 c3).mono ?_; rintro e w' ⟨rfl, rfl⟩) | (go_at_call 59; refine (has_yes F B _ _ cb _ _ hbs c1 hh).mono ?_; rintro e w' ⟨rfl, rfl⟩) | fail)
          go_ret
          exact ⟨by rw [Hr.out]; rfl, rfl⟩
        · have Hr := Lib.hid (show s.mayProgram a n = 11 by simp [FS.mayProgram, hd, hh, hb])
          have ha' : (a % 4 != 0) = false := by simp [ha]
          have hb' : (n % 4 != 0) = true := by simp [hb]
          clear hd ha hb
          go_enter Try.func74, Try.ntmps74
          go_wp2_with (first | (go_at_call 58; refine (ready_yes F _ false c0 c3).mono ?_; rintro e w' ⟨rfl, rfl⟩) | (go_at_call 59; refine (has_yes F B _ _ cb _ _ hbs c1 hh).mono ?_; rintro e w' ⟨rfl, rfl⟩) | fail)
          go_ret
          exact ⟨by rw [Hr.out]; rfl, rfl⟩
      · have Hr := Lib.hid (show s.mayProgram a n = 11 by simp [FS.mayProgram, hd, hh, ha])
        have ha' : (a % 4 != 0) = true := by simp [ha]
        clear hd ha
        go_enter Try.func74, Try.ntmps74
        go_wp2_with (first | (go_at_call 58; refine (ready_yes F _ false c0 c3).mono ?_; rintro e w' ⟨rfl, rfl⟩) | (go_at_call 59; refine (has_yes F B _ _ cb _ _ hbs c1 hh).mono ?_; rintro e w' ⟨rfl, rfl⟩) | fail)
        go_ret
        exact ⟨by rw [Hr.out]; rfl, rfl⟩
    · have Hr := Lib.hid (show s.mayProgram a n = 10 by simp [FS.mayProgram, hd, hh])
      clear hd
      go_enter Try.func74, Try.ntmps74
      go_wp2_with (first | (go_at_call 58; refine (ready_yes F _ false c0 c3).mono ?_; rintro e w' ⟨rfl, rfl⟩) | (go_at_call 59; refine (has_no F B _ _ cb _ _ hbs c1 hn hh).mono ?_; rintro e w' ⟨rfl, rfl⟩) | fail)
      go_ret
      exact ⟨by rw [Hr.out]; rfl, rfl⟩

def FS.mayErase (s : FS) (a : Int) : Int := if s.down then 12 else if ¬ (0 ≤ a ∧ a < s.wear.length) then 10 else 0

set_option maxRecDepth 100000 in
set_option maxHeartbeats 400000 in
theorem mayErase_not (p : Option Addr) (w : World) (h : NotMade w p) (a : Int) :
    Calls Try.prog 88 #[.pointer p, .int .i64 a] w fun e w' => e = .returned (.int .i64 1) ∧ w = w' := by
  go_enter Try.func88, Try.ntmps88
  go_wp2_with (go_at_call 58; refine (ready_not _ _ h).mono ?_; rintro e w' ⟨rfl, rfl⟩)
  go_ret
  exact ⟨rfl, rfl⟩

set_option maxRecDepth 100000 in
set_option maxHeartbeats 400000 in
theorem mayErase_yes {F B W M : Nat} {s : FS} (w : World) (hF : FlashAt w F B W M s) (a : Int) :
    Calls Try.prog 88 #[.pointer (some ⟨F, 0, none⟩), .int .i64 a] w fun e w' => e = .returned (.int .i64 (s.mayErase a)) ∧ w = w' := by
  obtain ⟨cb, cw, mv, c0, c1, c2, c3, c4, c5, c6, cf, rB, rW, rM⟩ := hF.cells
  cases hd : s.down with
  | true =>
    rw [hd] at c3
    have Hr := Lib.hid (show s.mayErase a = 12 by simp [FS.mayErase, hd])
    clear hd
    go_enter Try.func88, Try.ntmps88
    go_wp2_with (go_at_call 58; refine (ready_yes F _ true c0 c3).mono ?_; rintro e w' ⟨rfl, rfl⟩)
    go_ret
    exact ⟨by rw [Hr.out]; rfl, rfl⟩
  | false =>
    rw [hd] at c3
    by_cases hh : 0 ≤ a ∧ a < s.wear.length
    · have Hr := Lib.hid (show s.mayErase a = 0 by simp [FS.mayErase, hd, hh])
      have HH := Lib.hid hh
      clear hd hh
      go_enter Try.func88, Try.ntmps88
      go_wp2_with (first | (go_at_call 58; refine (ready_yes F _ false c0 c3).mono ?_; rintro e w' ⟨rfl, rfl⟩) | (go_at_call 67; refine (hasSector_yes F W _ _ cw _ c2 HH.out).mono ?_; rintro e w' ⟨rfl, rfl⟩) | fail)
      go_ret
      exact ⟨by rw [Hr.out]; rfl, rfl⟩
    · have Hr := Lib.hid (show s.mayErase a = 10 by simp [FS.mayErase, hd]; omega)
      have HH := Lib.hid hh
      clear hd hh
      go_enter Try.func88, Try.ntmps88
      go_wp2_with (first | (go_at_call 58; refine (ready_yes F _ false c0 c3).mono ?_; rintro e w' ⟨rfl, rfl⟩) | (go_at_call 67; refine (hasSector_no F W _ _ cw _ c2 HH.out).mono ?_; rintro e w' ⟨rfl, rfl⟩) | fail)
      go_ret
      exact ⟨by rw [Hr.out]; rfl, rfl⟩
end Go.Proofs.Ytdcfcljgennipaa
