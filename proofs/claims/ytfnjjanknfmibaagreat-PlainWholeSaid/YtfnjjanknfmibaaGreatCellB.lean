/-
  Contracts of package cell: the signed divisions.
-/
import Derived.Test.YtfnjjanknfmibaaGreatCellA
namespace Go.Proofs.YtfnjjanknfmibaaGreat
set_option linter.unusedVariables false
open Go.RowKit

theorem cSym1_any (w : World) (r : Int) : Calls Tryz.prog 149 #[.int .i64 r] w fun e w' => e = .returned (.bool false) ∧ w = w' := by
  go_enter Tryz.func149, Tryz.ntmps149
  go_wp2
  go_ret
  exact ⟨rfl, rfl⟩

theorem cFlo1_any (w : World) (b : Nat) (r n : Int) (hc : w.cell? ⟨b, 0, none⟩ = some (.int .i32 n)) :
    Calls Tryz.prog 156 #[.int .i64 r, .pointer (some ⟨b, 0, none⟩)] w fun e w' => e = .returned (.bool (Cell.lessB r n)) ∧ w = w' := by
  by_cases h0 : r = 0
  · subst h0
    go_enter Tryz.func156, Tryz.ntmps156
    go_wp2
    go_ret
    exact ⟨rfl, rfl⟩
  · have H := Lib.hid (show Cell.lessB r n = (decide (r < 0) != decide (n < 0)) by unfold Cell.lessB; rw [decide_eq_true h0]; rfl)
    by_cases h1 : r < 0 <;> by_cases h2 : n < 0
    · have HB := Lib.hid (show Cell.lessB r n = false by rw [H.out]; simp [h1, h2])
      clear H
      go_enter Tryz.func156, Tryz.ntmps156
      go_wp2
      go_ret
      rw [HB.out]
      refine ⟨?_, rfl⟩
      first | rfl | (show Ending.returned (.bool (r != 0)) = _; simp [h0])
    · have HB := Lib.hid (show Cell.lessB r n = true by rw [H.out]; simp [h1, h2])
      clear H
      go_enter Tryz.func156, Tryz.ntmps156
      go_wp2
      go_ret
      rw [HB.out]
      refine ⟨?_, rfl⟩
      first | rfl | (show Ending.returned (.bool (r != 0)) = _; simp [h0])
    · have HB := Lib.hid (show Cell.lessB r n = true by rw [H.out]; simp [h1, h2])
      clear H
      go_enter Tryz.func156, Tryz.ntmps156
      go_wp2
      go_ret
      rw [HB.out]
      refine ⟨?_, rfl⟩
      first | rfl | (show Ending.returned (.bool (r != 0)) = _; simp [h0])
    · have HB := Lib.hid (show Cell.lessB r n = false by rw [H.out]; simp [h1, h2])
      clear H
      go_enter Tryz.func156, Tryz.ntmps156
      go_wp2
      go_ret
      rw [HB.out]
      refine ⟨?_, rfl⟩
      first | rfl | (show Ending.returned (.bool (r != 0)) = _; simp [h0])


set_option maxHeartbeats 1000000 in
theorem cDivided_sym_small (w : World) (lo hi n D r q : Int) (l0 : 0 ≤ lo) (l1 : lo < 4294967296) (h0 : -2147483648 ≤ hi) (h1 : hi < 2147483648) (n0 : n ≠ 0) (n1 : -2147483648 ≤ n) (n2 : n < 2147483648)
    (hD : D = hi * 4294967296 + lo) (hr : D.tmod n = r) (hq : wrap64 (D.tdiv n) = q) (hr1 : r.natAbs < n.natAbs) (hs0 : -2147483648 ≤ q) (hs1 : q ≤ 2147483647) :
    Calls Tryz.prog 150 #[.int .u32 lo, .int .i32 hi, .int .i32 n, .func (.func 149) #[] #[]] w fun e w' => e = .returned (.tuple #[.int .i32 (r), .int .i32 (q), .int .i32 0]) ∧ Keeps [] w w' := by
  have e1 : IntKind.i64.wrap (hi % 4294967296 * 4294967296 + lo) = D := by rw [IntKind.wrap_i64]; omega
  have e2 : wrap64 (hi % 4294967296 * 4294967296 + lo) = D := by unfold wrap64; omega
  have hn0 : (n == 0) = false := by simpa using n0
  have hq0 : -9223372036854775808 ≤ q ∧ q < 9223372036854775808 := by rw [← hq]; unfold wrap64; omega
  obtain ⟨hq0, hq1⟩ := hq0
  have hr2 : -2147483648 ≤ r := by omega
  have hr3 : r < 2147483648 := by omega
  clear hD hr1
  have h00 : 0 ≤ hi % 4294967296 := by omega
  have h01 : hi % 4294967296 < 4294967296 := by omega
  go_enter Tryz.func150, Tryz.ntmps150
  go_wp2_with (go_at_call 148; refine (cDouble_any _ _ _ l0 l1 h00 h01).mono ?_; rintro e w' ⟨rfl, rfl⟩)
  go_quiet (fail)
  go_wp2_with (go_at_call 149; refine (cSym1_any _ r).mono ?_; rintro e w' ⟨rfl, rfl⟩)
  all_goals exact bodyPost_ret (v := .tuple #[.int .i32 (r), .int .i32 (q), .int .i32 0]) (by simp [results, Tryz.results150, go_sem]) rfl ⟨rfl, Keeps.drewN _ _ _⟩

set_option maxHeartbeats 1000000 in
theorem cDivided_flo_small (w : World) (b : Nat) (lo hi n D r q : Int) (l0 : 0 ≤ lo) (l1 : lo < 4294967296) (h0 : -2147483648 ≤ hi) (h1 : hi < 2147483648) (n0 : n ≠ 0) (n1 : -2147483648 ≤ n) (n2 : n < 2147483648)
    (hD : D = hi * 4294967296 + lo) (hr : D.tmod n = r) (hq : wrap64 (D.tdiv n) = q) (hr1 : r.natAbs < n.natAbs) (hc : w.cell? ⟨b, 0, none⟩ = some (.int .i32 n)) (hl : Cell.lessB r n = false) (hs0 : -2147483648 ≤ q) (hs1 : q ≤ 2147483647) :
    Calls Tryz.prog 150 #[.int .u32 lo, .int .i32 hi, .int .i32 n, .func (.func 156) #[] #[.pointer (some ⟨b, 0, none⟩)]] w fun e w' => e = .returned (.tuple #[.int .i32 (r), .int .i32 (q), .int .i32 0]) ∧ Keeps [] w w' := by
  have e1 : IntKind.i64.wrap (hi % 4294967296 * 4294967296 + lo) = D := by rw [IntKind.wrap_i64]; omega
  have e2 : wrap64 (hi % 4294967296 * 4294967296 + lo) = D := by unfold wrap64; omega
  have hn0 : (n == 0) = false := by simpa using n0
  have hq0 : -9223372036854775808 ≤ q ∧ q < 9223372036854775808 := by rw [← hq]; unfold wrap64; omega
  obtain ⟨hq0, hq1⟩ := hq0
  have hr2 : -2147483648 ≤ r := by omega
  have hr3 : r < 2147483648 := by omega
  have HL := Lib.hid hl
  clear hl
  clear hD hr1
  have h00 : 0 ≤ hi % 4294967296 := by omega
  have h01 : hi % 4294967296 < 4294967296 := by omega
  go_enter Tryz.func150, Tryz.ntmps150
  go_wp2_with (go_at_call 148; refine (cDouble_any _ _ _ l0 l1 h00 h01).mono ?_; rintro e w' ⟨rfl, rfl⟩)
  go_quiet (fail)
  go_wp2_with (go_at_call 156; refine (cFlo1_any _ b r n (by exact hc)).mono ?_; rw [HL.out]; rintro e w' ⟨rfl, rfl⟩)
  all_goals exact bodyPost_ret (v := .tuple #[.int .i32 (r), .int .i32 (q), .int .i32 0]) (by simp [results, Tryz.results150, go_sem]) rfl ⟨rfl, Keeps.drewN _ _ _⟩

set_option maxHeartbeats 1000000 in
theorem cDivided_les_small (w : World) (b : Nat) (lo hi n D r q : Int) (l0 : 0 ≤ lo) (l1 : lo < 4294967296) (h0 : -2147483648 ≤ hi) (h1 : hi < 2147483648) (n0 : n ≠ 0) (n1 : -2147483648 ≤ n) (n2 : n < 2147483648)
    (hD : D = hi * 4294967296 + lo) (hr : D.tmod n = r) (hq : wrap64 (D.tdiv n) = q) (hr1 : r.natAbs < n.natAbs) (hc : w.cell? ⟨b, 0, none⟩ = some (.int .i32 n)) (hl : Cell.lessB r n = true) (hq2 : -9223372036854775807 ≤ q) (hs0 : -2147483648 ≤ q - 1) (hs1 : q - 1 ≤ 2147483647) :
    Calls Tryz.prog 150 #[.int .u32 lo, .int .i32 hi, .int .i32 n, .func (.func 156) #[] #[.pointer (some ⟨b, 0, none⟩)]] w fun e w' => e = .returned (.tuple #[.int .i32 (r + n), .int .i32 (q - 1), .int .i32 0]) ∧ Keeps [] w w' := by
  have e1 : IntKind.i64.wrap (hi % 4294967296 * 4294967296 + lo) = D := by rw [IntKind.wrap_i64]; omega
  have e2 : wrap64 (hi % 4294967296 * 4294967296 + lo) = D := by unfold wrap64; omega
  have hn0 : (n == 0) = false := by simpa using n0
  have hq0 : -9223372036854775808 ≤ q ∧ q < 9223372036854775808 := by rw [← hq]; unfold wrap64; omega
  obtain ⟨hq0, hq1⟩ := hq0
  have hr2 : -2147483648 ≤ r := by omega
  have hr3 : r < 2147483648 := by omega
  have HL := Lib.hid hl
  clear hl
  have hb0 : -2147483648 ≤ r + n := by have := Cell.less_bound HL.out hr1; omega
  have hb1 : r + n < 2147483648 := by have := Cell.less_bound HL.out hr1; omega
  clear hD hr1
  have h00 : 0 ≤ hi % 4294967296 := by omega
  have h01 : hi % 4294967296 < 4294967296 := by omega
  go_enter Tryz.func150, Tryz.ntmps150
  go_wp2_with (go_at_call 148; refine (cDouble_any _ _ _ l0 l1 h00 h01).mono ?_; rintro e w' ⟨rfl, rfl⟩)
  go_quiet (fail)
  go_wp2_with (go_at_call 156; refine (cFlo1_any _ b r n (by exact hc)).mono ?_; rw [HL.out]; rintro e w' ⟨rfl, rfl⟩)
  all_goals exact bodyPost_ret (v := .tuple #[.int .i32 (r + n), .int .i32 (q - 1), .int .i32 0]) (by simp [results, Tryz.results150, go_sem]) rfl ⟨rfl, Keeps.drewN _ _ _⟩

set_option maxHeartbeats 1000000 in
theorem cDivided_sym_big (w : World) (lo hi n D r q : Int) (l0 : 0 ≤ lo) (l1 : lo < 4294967296) (h0 : -2147483648 ≤ hi) (h1 : hi < 2147483648) (n0 : n ≠ 0) (n1 : -2147483648 ≤ n) (n2 : n < 2147483648)
    (hD : D = hi * 4294967296 + lo) (hr : D.tmod n = r) (hq : wrap64 (D.tdiv n) = q) (hr1 : r.natAbs < n.natAbs) (hs : q < -2147483648 ∨ 2147483647 < q) :
    Calls Tryz.prog 150 #[.int .u32 lo, .int .i32 hi, .int .i32 n, .func (.func 149) #[] #[]] w fun e w' => e = .returned (.tuple #[.int .i32 0, .int .i32 0, .int .i32 (-11)]) ∧ Keeps [] w w' := by
  have e1 : IntKind.i64.wrap (hi % 4294967296 * 4294967296 + lo) = D := by rw [IntKind.wrap_i64]; omega
  have e2 : wrap64 (hi % 4294967296 * 4294967296 + lo) = D := by unfold wrap64; omega
  have hn0 : (n == 0) = false := by simpa using n0
  have hq0 : -9223372036854775808 ≤ q ∧ q < 9223372036854775808 := by rw [← hq]; unfold wrap64; omega
  obtain ⟨hq0, hq1⟩ := hq0
  have hr2 : -2147483648 ≤ r := by omega
  have hr3 : r < 2147483648 := by omega
  clear hD hr1
  have h00 : 0 ≤ hi % 4294967296 := by omega
  have h01 : hi % 4294967296 < 4294967296 := by omega
  go_enter Tryz.func150, Tryz.ntmps150
  go_wp2_with (go_at_call 148; refine (cDouble_any _ _ _ l0 l1 h00 h01).mono ?_; rintro e w' ⟨rfl, rfl⟩)
  go_quiet (fail)
  go_wp2_with (go_at_call 149; refine (cSym1_any _ r).mono ?_; rintro e w' ⟨rfl, rfl⟩)
  all_goals exact bodyPost_ret (v := .tuple #[.int .i32 0, .int .i32 0, .int .i32 (-11)]) (by simp [results, Tryz.results150, go_sem]) rfl ⟨rfl, Keeps.drewN _ _ _⟩

set_option maxHeartbeats 1000000 in
theorem cDivided_flo_big (w : World) (b : Nat) (lo hi n D r q : Int) (l0 : 0 ≤ lo) (l1 : lo < 4294967296) (h0 : -2147483648 ≤ hi) (h1 : hi < 2147483648) (n0 : n ≠ 0) (n1 : -2147483648 ≤ n) (n2 : n < 2147483648)
    (hD : D = hi * 4294967296 + lo) (hr : D.tmod n = r) (hq : wrap64 (D.tdiv n) = q) (hr1 : r.natAbs < n.natAbs) (hc : w.cell? ⟨b, 0, none⟩ = some (.int .i32 n)) (hl : Cell.lessB r n = false) (hs : q < -2147483648 ∨ 2147483647 < q) :
    Calls Tryz.prog 150 #[.int .u32 lo, .int .i32 hi, .int .i32 n, .func (.func 156) #[] #[.pointer (some ⟨b, 0, none⟩)]] w fun e w' => e = .returned (.tuple #[.int .i32 0, .int .i32 0, .int .i32 (-11)]) ∧ Keeps [] w w' := by
  have e1 : IntKind.i64.wrap (hi % 4294967296 * 4294967296 + lo) = D := by rw [IntKind.wrap_i64]; omega
  have e2 : wrap64 (hi % 4294967296 * 4294967296 + lo) = D := by unfold wrap64; omega
  have hn0 : (n == 0) = false := by simpa using n0
  have hq0 : -9223372036854775808 ≤ q ∧ q < 9223372036854775808 := by rw [← hq]; unfold wrap64; omega
  obtain ⟨hq0, hq1⟩ := hq0
  have hr2 : -2147483648 ≤ r := by omega
  have hr3 : r < 2147483648 := by omega
  have HL := Lib.hid hl
  clear hl
  clear hD hr1
  have h00 : 0 ≤ hi % 4294967296 := by omega
  have h01 : hi % 4294967296 < 4294967296 := by omega
  go_enter Tryz.func150, Tryz.ntmps150
  go_wp2_with (go_at_call 148; refine (cDouble_any _ _ _ l0 l1 h00 h01).mono ?_; rintro e w' ⟨rfl, rfl⟩)
  go_quiet (fail)
  go_wp2_with (go_at_call 156; refine (cFlo1_any _ b r n (by exact hc)).mono ?_; rw [HL.out]; rintro e w' ⟨rfl, rfl⟩)
  all_goals exact bodyPost_ret (v := .tuple #[.int .i32 0, .int .i32 0, .int .i32 (-11)]) (by simp [results, Tryz.results150, go_sem]) rfl ⟨rfl, Keeps.drewN _ _ _⟩

set_option maxHeartbeats 1000000 in
theorem cDivided_les_big (w : World) (b : Nat) (lo hi n D r q : Int) (l0 : 0 ≤ lo) (l1 : lo < 4294967296) (h0 : -2147483648 ≤ hi) (h1 : hi < 2147483648) (n0 : n ≠ 0) (n1 : -2147483648 ≤ n) (n2 : n < 2147483648)
    (hD : D = hi * 4294967296 + lo) (hr : D.tmod n = r) (hq : wrap64 (D.tdiv n) = q) (hr1 : r.natAbs < n.natAbs) (hc : w.cell? ⟨b, 0, none⟩ = some (.int .i32 n)) (hl : Cell.lessB r n = true) (hq2 : -9223372036854775807 ≤ q) (hs : q - 1 < -2147483648 ∨ 2147483647 < q - 1) :
    Calls Tryz.prog 150 #[.int .u32 lo, .int .i32 hi, .int .i32 n, .func (.func 156) #[] #[.pointer (some ⟨b, 0, none⟩)]] w fun e w' => e = .returned (.tuple #[.int .i32 0, .int .i32 0, .int .i32 (-11)]) ∧ Keeps [] w w' := by
  have e1 : IntKind.i64.wrap (hi % 4294967296 * 4294967296 + lo) = D := by rw [IntKind.wrap_i64]; omega
  have e2 : wrap64 (hi % 4294967296 * 4294967296 + lo) = D := by unfold wrap64; omega
  have hn0 : (n == 0) = false := by simpa using n0
  have hq0 : -9223372036854775808 ≤ q ∧ q < 9223372036854775808 := by rw [← hq]; unfold wrap64; omega
  obtain ⟨hq0, hq1⟩ := hq0
  have hr2 : -2147483648 ≤ r := by omega
  have hr3 : r < 2147483648 := by omega
  have HL := Lib.hid hl
  clear hl
  have hb0 : -2147483648 ≤ r + n := by have := Cell.less_bound HL.out hr1; omega
  have hb1 : r + n < 2147483648 := by have := Cell.less_bound HL.out hr1; omega
  clear hD hr1
  have h00 : 0 ≤ hi % 4294967296 := by omega
  have h01 : hi % 4294967296 < 4294967296 := by omega
  go_enter Tryz.func150, Tryz.ntmps150
  go_wp2_with (go_at_call 148; refine (cDouble_any _ _ _ l0 l1 h00 h01).mono ?_; rintro e w' ⟨rfl, rfl⟩)
  go_quiet (fail)
  go_wp2_with (go_at_call 156; refine (cFlo1_any _ b r n (by exact hc)).mono ?_; rw [HL.out]; rintro e w' ⟨rfl, rfl⟩)
  all_goals exact bodyPost_ret (v := .tuple #[.int .i32 0, .int .i32 0, .int .i32 (-11)]) (by simp [results, Tryz.results150, go_sem]) rfl ⟨rfl, Keeps.drewN _ _ _⟩
end Go.Proofs.YtfnjjanknfmibaaGreat
