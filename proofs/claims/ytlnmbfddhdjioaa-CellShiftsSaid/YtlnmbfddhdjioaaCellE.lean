/-
  The document's signed division.
-/
import Derived.Test.YtlnmbfddhdjioaaCellD
namespace Go.Proofs.Ytlnmbfddhdjioaa
set_option linter.unusedVariables false
open Go.RowKit

theorem r7Both_zero (w : World) (fl : Bool) (lo hi : Int) :
    Calls Try.prog 18 #[.int .u32 lo, .int .i32 hi, .int .i32 0, .bool fl] w fun e w' => e = .returned (.tuple #[.int .i32 0, .int .i32 0, .int .i32 (-10)]) ∧ w = w' := by
  go_enter Try.func18, Try.ntmps18
  go_wp2
  exact bodyPost_ret (v := .tuple #[.int .i32 0, .int .i32 0, .int .i32 (-10)]) (by simp [results, Try.results18, go_sem]) rfl ⟨rfl, rfl⟩

/-- What the division with remainder says of the numbers without their signs. -/
structure Two (X m q r : Int) : Prop where
  hq : X / m = q
  hr : X % m = r
  x0 : 0 ≤ X
  x1 : X ≤ 9223372036854775808
  m0 : 0 < m
  m1 : m ≤ 2147483648
  r0 : 0 ≤ r
  r1 : r < m
  q0 : 0 ≤ q
  q1 : q ≤ X

set_option maxHeartbeats 1000000 in
theorem r7Both_nn_false_any_tells (w : World) (lo hi n X m q r : Int) (l0 : 0 ≤ lo) (l1 : lo < 4294967296) (h0 : -2147483648 ≤ hi) (h1 : hi < 2147483648) (n1 : -2147483648 ≤ n) (n2 : n < 2147483648)
    (c1 : hi < 0) (c2 : n < 0) (hX : X = -(hi * 4294967296 + lo)) (hm : m = -n) (two : Two X m q r) (hl : q ≤ 2147483647) :
    Calls Try.prog 18 #[.int .u32 lo, .int .i32 hi, .int .i32 n, .bool false] w fun e w' => e = .returned (.tuple #[.int .i32 (-r), .int .i32 (q), .int .i32 0]) ∧ w = w' := by
  obtain ⟨tq, tr, x0, x1, m0, m1, r0, r1, q0, q1⟩ := two
  have hu : hi % 4294967296 = hi + 4294967296 := by omega
  have hx2 : IntKind.u64.wrap (-(lo + (hi + 4294967296) * 4294967296)) = X := by rw [IntKind.wrap_u64]; omega
  have hx3 : lo + (hi + 4294967296) * 4294967296 < 18446744073709551616 ∧ 0 ≤ lo + (hi + 4294967296) * 4294967296 := by omega
  have u0 : 0 ≤ hi + 4294967296 := by omega
  have u1 : hi + 4294967296 < 4294967296 := by omega
  have hn2 : IntKind.u64.wrap n = n + 18446744073709551616 := by rw [IntKind.wrap_u64]; omega
  have hn3 : n % 18446744073709551616 = n + 18446744073709551616 := by omega
  have hm2 : IntKind.u64.wrap (-(n + 18446744073709551616)) = m := by rw [IntKind.wrap_u64]; omega
  have hn0 : (n == 0) = false := by simp; omega
  have TQ := Lib.hid tq
  have TR := Lib.hid tr
  clear tq tr hX hm
  have d1 : decide (hi < 0) = true := by simp; omega
  have d2 : decide (n < 0) = true := by simp; omega
  go_enter Try.func18, Try.ntmps18
  go_wp2_with (first | (go_at_call 10; refine (r7Double_any _ lo (hi + 4294967296) l0 l1 u0 u1).mono ?_; rintro e w' ⟨rfl, rfl⟩) | (go_at_call 25; refine (r7Long_any _ X m (by omega) (by omega) (by omega) (by omega)).mono ?_; rw [TQ.out, TR.out]; rintro e w' ⟨rfl, rfl⟩))
  exact bodyPost_ret (v := .tuple #[.int .i32 (-r), .int .i32 (q), .int .i32 0]) (by simp [results, Try.results18, go_sem]) rfl ⟨rfl, rfl⟩

set_option maxHeartbeats 1000000 in
theorem r7Both_nn_false_any_throws (w : World) (lo hi n X m q r : Int) (l0 : 0 ≤ lo) (l1 : lo < 4294967296) (h0 : -2147483648 ≤ hi) (h1 : hi < 2147483648) (n1 : -2147483648 ≤ n) (n2 : n < 2147483648)
    (c1 : hi < 0) (c2 : n < 0) (hX : X = -(hi * 4294967296 + lo)) (hm : m = -n) (two : Two X m q r) (hl : 2147483647 < q) :
    Calls Try.prog 18 #[.int .u32 lo, .int .i32 hi, .int .i32 n, .bool false] w fun e w' => e = .returned (.tuple #[.int .i32 0, .int .i32 0, .int .i32 (-11)]) ∧ w = w' := by
  obtain ⟨tq, tr, x0, x1, m0, m1, r0, r1, q0, q1⟩ := two
  have hu : hi % 4294967296 = hi + 4294967296 := by omega
  have hx2 : IntKind.u64.wrap (-(lo + (hi + 4294967296) * 4294967296)) = X := by rw [IntKind.wrap_u64]; omega
  have hx3 : lo + (hi + 4294967296) * 4294967296 < 18446744073709551616 ∧ 0 ≤ lo + (hi + 4294967296) * 4294967296 := by omega
  have u0 : 0 ≤ hi + 4294967296 := by omega
  have u1 : hi + 4294967296 < 4294967296 := by omega
  have hn2 : IntKind.u64.wrap n = n + 18446744073709551616 := by rw [IntKind.wrap_u64]; omega
  have hn3 : n % 18446744073709551616 = n + 18446744073709551616 := by omega
  have hm2 : IntKind.u64.wrap (-(n + 18446744073709551616)) = m := by rw [IntKind.wrap_u64]; omega
  have hn0 : (n == 0) = false := by simp; omega
  have TQ := Lib.hid tq
  have TR := Lib.hid tr
  clear tq tr hX hm
  have d1 : decide (hi < 0) = true := by simp; omega
  have d2 : decide (n < 0) = true := by simp; omega
  go_enter Try.func18, Try.ntmps18
  go_wp2_with (first | (go_at_call 10; refine (r7Double_any _ lo (hi + 4294967296) l0 l1 u0 u1).mono ?_; rintro e w' ⟨rfl, rfl⟩) | (go_at_call 25; refine (r7Long_any _ X m (by omega) (by omega) (by omega) (by omega)).mono ?_; rw [TQ.out, TR.out]; rintro e w' ⟨rfl, rfl⟩))
  exact bodyPost_ret (v := .tuple #[.int .i32 0, .int .i32 0, .int .i32 (-11)]) (by simp [results, Try.results18, go_sem]) rfl ⟨rfl, rfl⟩

set_option maxHeartbeats 1000000 in
theorem r7Both_nn_true_any_tells (w : World) (lo hi n X m q r : Int) (l0 : 0 ≤ lo) (l1 : lo < 4294967296) (h0 : -2147483648 ≤ hi) (h1 : hi < 2147483648) (n1 : -2147483648 ≤ n) (n2 : n < 2147483648)
    (c1 : hi < 0) (c2 : n < 0) (hX : X = -(hi * 4294967296 + lo)) (hm : m = -n) (two : Two X m q r) (hl : q ≤ 2147483647) :
    Calls Try.prog 18 #[.int .u32 lo, .int .i32 hi, .int .i32 n, .bool true] w fun e w' => e = .returned (.tuple #[.int .i32 (-r), .int .i32 (q), .int .i32 0]) ∧ w = w' := by
  obtain ⟨tq, tr, x0, x1, m0, m1, r0, r1, q0, q1⟩ := two
  have hu : hi % 4294967296 = hi + 4294967296 := by omega
  have hx2 : IntKind.u64.wrap (-(lo + (hi + 4294967296) * 4294967296)) = X := by rw [IntKind.wrap_u64]; omega
  have hx3 : lo + (hi + 4294967296) * 4294967296 < 18446744073709551616 ∧ 0 ≤ lo + (hi + 4294967296) * 4294967296 := by omega
  have u0 : 0 ≤ hi + 4294967296 := by omega
  have u1 : hi + 4294967296 < 4294967296 := by omega
  have hn2 : IntKind.u64.wrap n = n + 18446744073709551616 := by rw [IntKind.wrap_u64]; omega
  have hn3 : n % 18446744073709551616 = n + 18446744073709551616 := by omega
  have hm2 : IntKind.u64.wrap (-(n + 18446744073709551616)) = m := by rw [IntKind.wrap_u64]; omega
  have hn0 : (n == 0) = false := by simp; omega
  have TQ := Lib.hid tq
  have TR := Lib.hid tr
  clear tq tr hX hm
  have d1 : decide (hi < 0) = true := by simp; omega
  have d2 : decide (n < 0) = true := by simp; omega
  go_enter Try.func18, Try.ntmps18
  go_wp2_with (first | (go_at_call 10; refine (r7Double_any _ lo (hi + 4294967296) l0 l1 u0 u1).mono ?_; rintro e w' ⟨rfl, rfl⟩) | (go_at_call 25; refine (r7Long_any _ X m (by omega) (by omega) (by omega) (by omega)).mono ?_; rw [TQ.out, TR.out]; rintro e w' ⟨rfl, rfl⟩))
  exact bodyPost_ret (v := .tuple #[.int .i32 (-r), .int .i32 (q), .int .i32 0]) (by simp [results, Try.results18, go_sem]) rfl ⟨rfl, rfl⟩

set_option maxHeartbeats 1000000 in
theorem r7Both_nn_true_any_throws (w : World) (lo hi n X m q r : Int) (l0 : 0 ≤ lo) (l1 : lo < 4294967296) (h0 : -2147483648 ≤ hi) (h1 : hi < 2147483648) (n1 : -2147483648 ≤ n) (n2 : n < 2147483648)
    (c1 : hi < 0) (c2 : n < 0) (hX : X = -(hi * 4294967296 + lo)) (hm : m = -n) (two : Two X m q r) (hl : 2147483647 < q) :
    Calls Try.prog 18 #[.int .u32 lo, .int .i32 hi, .int .i32 n, .bool true] w fun e w' => e = .returned (.tuple #[.int .i32 0, .int .i32 0, .int .i32 (-11)]) ∧ w = w' := by
  obtain ⟨tq, tr, x0, x1, m0, m1, r0, r1, q0, q1⟩ := two
  have hu : hi % 4294967296 = hi + 4294967296 := by omega
  have hx2 : IntKind.u64.wrap (-(lo + (hi + 4294967296) * 4294967296)) = X := by rw [IntKind.wrap_u64]; omega
  have hx3 : lo + (hi + 4294967296) * 4294967296 < 18446744073709551616 ∧ 0 ≤ lo + (hi + 4294967296) * 4294967296 := by omega
  have u0 : 0 ≤ hi + 4294967296 := by omega
  have u1 : hi + 4294967296 < 4294967296 := by omega
  have hn2 : IntKind.u64.wrap n = n + 18446744073709551616 := by rw [IntKind.wrap_u64]; omega
  have hn3 : n % 18446744073709551616 = n + 18446744073709551616 := by omega
  have hm2 : IntKind.u64.wrap (-(n + 18446744073709551616)) = m := by rw [IntKind.wrap_u64]; omega
  have hn0 : (n == 0) = false := by simp; omega
  have TQ := Lib.hid tq
  have TR := Lib.hid tr
  clear tq tr hX hm
  have d1 : decide (hi < 0) = true := by simp; omega
  have d2 : decide (n < 0) = true := by simp; omega
  go_enter Try.func18, Try.ntmps18
  go_wp2_with (first | (go_at_call 10; refine (r7Double_any _ lo (hi + 4294967296) l0 l1 u0 u1).mono ?_; rintro e w' ⟨rfl, rfl⟩) | (go_at_call 25; refine (r7Long_any _ X m (by omega) (by omega) (by omega) (by omega)).mono ?_; rw [TQ.out, TR.out]; rintro e w' ⟨rfl, rfl⟩))
  exact bodyPost_ret (v := .tuple #[.int .i32 0, .int .i32 0, .int .i32 (-11)]) (by simp [results, Try.results18, go_sem]) rfl ⟨rfl, rfl⟩

set_option maxHeartbeats 1000000 in
theorem r7Both_np_false_any_tells (w : World) (lo hi n X q r : Int) (l0 : 0 ≤ lo) (l1 : lo < 4294967296) (h0 : -2147483648 ≤ hi) (h1 : hi < 2147483648) (n1 : -2147483648 ≤ n) (n2 : n < 2147483648)
    (c1 : hi < 0) (c2 : 0 < n) (hX : X = -(hi * 4294967296 + lo)) (two : Two X n q r) (hl : q ≤ 2147483648) :
    Calls Try.prog 18 #[.int .u32 lo, .int .i32 hi, .int .i32 n, .bool false] w fun e w' => e = .returned (.tuple #[.int .i32 (-r), .int .i32 (-q), .int .i32 0]) ∧ w = w' := by
  obtain ⟨tq, tr, x0, x1, m0, m1, r0, r1, q0, q1⟩ := two
  have hu : hi % 4294967296 = hi + 4294967296 := by omega
  have hx2 : IntKind.u64.wrap (-(lo + (hi + 4294967296) * 4294967296)) = X := by rw [IntKind.wrap_u64]; omega
  have hx3 : lo + (hi + 4294967296) * 4294967296 < 18446744073709551616 ∧ 0 ≤ lo + (hi + 4294967296) * 4294967296 := by omega
  have u0 : 0 ≤ hi + 4294967296 := by omega
  have u1 : hi + 4294967296 < 4294967296 := by omega
  have hn0 : (n == 0) = false := by simp; omega
  have TQ := Lib.hid tq
  have TR := Lib.hid tr
  clear tq tr hX
  have d1 : decide (hi < 0) = true := by simp; omega
  have d2 : decide (n < 0) = false := by simp; omega
  go_enter Try.func18, Try.ntmps18
  go_wp2_with (first | (go_at_call 10; refine (r7Double_any _ lo (hi + 4294967296) l0 l1 u0 u1).mono ?_; rintro e w' ⟨rfl, rfl⟩) | (go_at_call 25; refine (r7Long_any _ X n (by omega) (by omega) (by omega) (by omega)).mono ?_; rw [TQ.out, TR.out]; rintro e w' ⟨rfl, rfl⟩))
  exact bodyPost_ret (v := .tuple #[.int .i32 (-r), .int .i32 (-q), .int .i32 0]) (by simp [results, Try.results18, go_sem]) rfl ⟨rfl, rfl⟩

set_option maxHeartbeats 1000000 in
theorem r7Both_np_false_any_throws (w : World) (lo hi n X q r : Int) (l0 : 0 ≤ lo) (l1 : lo < 4294967296) (h0 : -2147483648 ≤ hi) (h1 : hi < 2147483648) (n1 : -2147483648 ≤ n) (n2 : n < 2147483648)
    (c1 : hi < 0) (c2 : 0 < n) (hX : X = -(hi * 4294967296 + lo)) (two : Two X n q r) (hl : 2147483648 < q) :
    Calls Try.prog 18 #[.int .u32 lo, .int .i32 hi, .int .i32 n, .bool false] w fun e w' => e = .returned (.tuple #[.int .i32 0, .int .i32 0, .int .i32 (-11)]) ∧ w = w' := by
  obtain ⟨tq, tr, x0, x1, m0, m1, r0, r1, q0, q1⟩ := two
  have hu : hi % 4294967296 = hi + 4294967296 := by omega
  have hx2 : IntKind.u64.wrap (-(lo + (hi + 4294967296) * 4294967296)) = X := by rw [IntKind.wrap_u64]; omega
  have hx3 : lo + (hi + 4294967296) * 4294967296 < 18446744073709551616 ∧ 0 ≤ lo + (hi + 4294967296) * 4294967296 := by omega
  have u0 : 0 ≤ hi + 4294967296 := by omega
  have u1 : hi + 4294967296 < 4294967296 := by omega
  have hn0 : (n == 0) = false := by simp; omega
  have TQ := Lib.hid tq
  have TR := Lib.hid tr
  clear tq tr hX
  have d1 : decide (hi < 0) = true := by simp; omega
  have d2 : decide (n < 0) = false := by simp; omega
  go_enter Try.func18, Try.ntmps18
  go_wp2_with (first | (go_at_call 10; refine (r7Double_any _ lo (hi + 4294967296) l0 l1 u0 u1).mono ?_; rintro e w' ⟨rfl, rfl⟩) | (go_at_call 25; refine (r7Long_any _ X n (by omega) (by omega) (by omega) (by omega)).mono ?_; rw [TQ.out, TR.out]; rintro e w' ⟨rfl, rfl⟩))
  exact bodyPost_ret (v := .tuple #[.int .i32 0, .int .i32 0, .int .i32 (-11)]) (by simp [results, Try.results18, go_sem]) rfl ⟨rfl, rfl⟩

set_option maxHeartbeats 1000000 in
theorem r7Both_np_true_pos_tells (w : World) (lo hi n X q r : Int) (l0 : 0 ≤ lo) (l1 : lo < 4294967296) (h0 : -2147483648 ≤ hi) (h1 : hi < 2147483648) (n1 : -2147483648 ≤ n) (n2 : n < 2147483648)
    (c1 : hi < 0) (c2 : 0 < n) (hX : X = -(hi * 4294967296 + lo)) (two : Two X n q r) (hr : 0 < r) (hl : (q + 1) ≤ 2147483648) :
    Calls Try.prog 18 #[.int .u32 lo, .int .i32 hi, .int .i32 n, .bool true] w fun e w' => e = .returned (.tuple #[.int .i32 ((n - r)), .int .i32 (-(q + 1)), .int .i32 0]) ∧ w = w' := by
  obtain ⟨tq, tr, x0, x1, m0, m1, r0, r1, q0, q1⟩ := two
  have hu : hi % 4294967296 = hi + 4294967296 := by omega
  have hx2 : IntKind.u64.wrap (-(lo + (hi + 4294967296) * 4294967296)) = X := by rw [IntKind.wrap_u64]; omega
  have hx3 : lo + (hi + 4294967296) * 4294967296 < 18446744073709551616 ∧ 0 ≤ lo + (hi + 4294967296) * 4294967296 := by omega
  have u0 : 0 ≤ hi + 4294967296 := by omega
  have u1 : hi + 4294967296 < 4294967296 := by omega
  have hn0 : (n == 0) = false := by simp; omega
  have TQ := Lib.hid tq
  have TR := Lib.hid tr
  clear tq tr hX
  have d1 : decide (hi < 0) = true := by simp; omega
  have d2 : decide (n < 0) = false := by simp; omega
  go_enter Try.func18, Try.ntmps18
  go_wp2_with (first | (go_at_call 10; refine (r7Double_any _ lo (hi + 4294967296) l0 l1 u0 u1).mono ?_; rintro e w' ⟨rfl, rfl⟩) | (go_at_call 25; refine (r7Long_any _ X n (by omega) (by omega) (by omega) (by omega)).mono ?_; rw [TQ.out, TR.out]; rintro e w' ⟨rfl, rfl⟩))
  exact bodyPost_ret (v := .tuple #[.int .i32 ((n - r)), .int .i32 (-(q + 1)), .int .i32 0]) (by simp [results, Try.results18, go_sem]) rfl ⟨rfl, rfl⟩

set_option maxHeartbeats 1000000 in
theorem r7Both_np_true_pos_throws (w : World) (lo hi n X q r : Int) (l0 : 0 ≤ lo) (l1 : lo < 4294967296) (h0 : -2147483648 ≤ hi) (h1 : hi < 2147483648) (n1 : -2147483648 ≤ n) (n2 : n < 2147483648)
    (c1 : hi < 0) (c2 : 0 < n) (hX : X = -(hi * 4294967296 + lo)) (two : Two X n q r) (hr : 0 < r) (hl : 2147483648 < (q + 1)) :
    Calls Try.prog 18 #[.int .u32 lo, .int .i32 hi, .int .i32 n, .bool true] w fun e w' => e = .returned (.tuple #[.int .i32 0, .int .i32 0, .int .i32 (-11)]) ∧ w = w' := by
  obtain ⟨tq, tr, x0, x1, m0, m1, r0, r1, q0, q1⟩ := two
  have hu : hi % 4294967296 = hi + 4294967296 := by omega
  have hx2 : IntKind.u64.wrap (-(lo + (hi + 4294967296) * 4294967296)) = X := by rw [IntKind.wrap_u64]; omega
  have hx3 : lo + (hi + 4294967296) * 4294967296 < 18446744073709551616 ∧ 0 ≤ lo + (hi + 4294967296) * 4294967296 := by omega
  have u0 : 0 ≤ hi + 4294967296 := by omega
  have u1 : hi + 4294967296 < 4294967296 := by omega
  have hn0 : (n == 0) = false := by simp; omega
  have TQ := Lib.hid tq
  have TR := Lib.hid tr
  clear tq tr hX
  have d1 : decide (hi < 0) = true := by simp; omega
  have d2 : decide (n < 0) = false := by simp; omega
  go_enter Try.func18, Try.ntmps18
  go_wp2_with (first | (go_at_call 10; refine (r7Double_any _ lo (hi + 4294967296) l0 l1 u0 u1).mono ?_; rintro e w' ⟨rfl, rfl⟩) | (go_at_call 25; refine (r7Long_any _ X n (by omega) (by omega) (by omega) (by omega)).mono ?_; rw [TQ.out, TR.out]; rintro e w' ⟨rfl, rfl⟩))
  exact bodyPost_ret (v := .tuple #[.int .i32 0, .int .i32 0, .int .i32 (-11)]) (by simp [results, Try.results18, go_sem]) rfl ⟨rfl, rfl⟩

set_option maxHeartbeats 1000000 in
theorem r7Both_np_true_zero_tells (w : World) (lo hi n X q r : Int) (l0 : 0 ≤ lo) (l1 : lo < 4294967296) (h0 : -2147483648 ≤ hi) (h1 : hi < 2147483648) (n1 : -2147483648 ≤ n) (n2 : n < 2147483648)
    (c1 : hi < 0) (c2 : 0 < n) (hX : X = -(hi * 4294967296 + lo)) (two : Two X n q r) (hr : r = 0) (hl : q ≤ 2147483648) :
    Calls Try.prog 18 #[.int .u32 lo, .int .i32 hi, .int .i32 n, .bool true] w fun e w' => e = .returned (.tuple #[.int .i32 (0), .int .i32 (-q), .int .i32 0]) ∧ w = w' := by
  obtain ⟨tq, tr, x0, x1, m0, m1, r0, r1, q0, q1⟩ := two
  have hu : hi % 4294967296 = hi + 4294967296 := by omega
  have hx2 : IntKind.u64.wrap (-(lo + (hi + 4294967296) * 4294967296)) = X := by rw [IntKind.wrap_u64]; omega
  have hx3 : lo + (hi + 4294967296) * 4294967296 < 18446744073709551616 ∧ 0 ≤ lo + (hi + 4294967296) * 4294967296 := by omega
  have u0 : 0 ≤ hi + 4294967296 := by omega
  have u1 : hi + 4294967296 < 4294967296 := by omega
  have hn0 : (n == 0) = false := by simp; omega
  subst hr
  have TQ := Lib.hid tq
  have TR := Lib.hid tr
  clear tq tr hX
  have d1 : decide (hi < 0) = true := by simp; omega
  have d2 : decide (n < 0) = false := by simp; omega
  go_enter Try.func18, Try.ntmps18
  go_wp2_with (first | (go_at_call 10; refine (r7Double_any _ lo (hi + 4294967296) l0 l1 u0 u1).mono ?_; rintro e w' ⟨rfl, rfl⟩) | (go_at_call 25; refine (r7Long_any _ X n (by omega) (by omega) (by omega) (by omega)).mono ?_; rw [TQ.out, TR.out]; rintro e w' ⟨rfl, rfl⟩))
  exact bodyPost_ret (v := .tuple #[.int .i32 (0), .int .i32 (-q), .int .i32 0]) (by simp [results, Try.results18, go_sem]) rfl ⟨rfl, rfl⟩

set_option maxHeartbeats 1000000 in
theorem r7Both_np_true_zero_throws (w : World) (lo hi n X q r : Int) (l0 : 0 ≤ lo) (l1 : lo < 4294967296) (h0 : -2147483648 ≤ hi) (h1 : hi < 2147483648) (n1 : -2147483648 ≤ n) (n2 : n < 2147483648)
    (c1 : hi < 0) (c2 : 0 < n) (hX : X = -(hi * 4294967296 + lo)) (two : Two X n q r) (hr : r = 0) (hl : 2147483648 < q) :
    Calls Try.prog 18 #[.int .u32 lo, .int .i32 hi, .int .i32 n, .bool true] w fun e w' => e = .returned (.tuple #[.int .i32 0, .int .i32 0, .int .i32 (-11)]) ∧ w = w' := by
  obtain ⟨tq, tr, x0, x1, m0, m1, r0, r1, q0, q1⟩ := two
  have hu : hi % 4294967296 = hi + 4294967296 := by omega
  have hx2 : IntKind.u64.wrap (-(lo + (hi + 4294967296) * 4294967296)) = X := by rw [IntKind.wrap_u64]; omega
  have hx3 : lo + (hi + 4294967296) * 4294967296 < 18446744073709551616 ∧ 0 ≤ lo + (hi + 4294967296) * 4294967296 := by omega
  have u0 : 0 ≤ hi + 4294967296 := by omega
  have u1 : hi + 4294967296 < 4294967296 := by omega
  have hn0 : (n == 0) = false := by simp; omega
  subst hr
  have TQ := Lib.hid tq
  have TR := Lib.hid tr
  clear tq tr hX
  have d1 : decide (hi < 0) = true := by simp; omega
  have d2 : decide (n < 0) = false := by simp; omega
  go_enter Try.func18, Try.ntmps18
  go_wp2_with (first | (go_at_call 10; refine (r7Double_any _ lo (hi + 4294967296) l0 l1 u0 u1).mono ?_; rintro e w' ⟨rfl, rfl⟩) | (go_at_call 25; refine (r7Long_any _ X n (by omega) (by omega) (by omega) (by omega)).mono ?_; rw [TQ.out, TR.out]; rintro e w' ⟨rfl, rfl⟩))
  exact bodyPost_ret (v := .tuple #[.int .i32 0, .int .i32 0, .int .i32 (-11)]) (by simp [results, Try.results18, go_sem]) rfl ⟨rfl, rfl⟩

set_option maxHeartbeats 1000000 in
theorem r7Both_pn_false_any_tells (w : World) (lo hi n X m q r : Int) (l0 : 0 ≤ lo) (l1 : lo < 4294967296) (h0 : -2147483648 ≤ hi) (h1 : hi < 2147483648) (n1 : -2147483648 ≤ n) (n2 : n < 2147483648)
    (c1 : 0 ≤ hi) (c2 : n < 0) (hX : X = hi * 4294967296 + lo) (hm : m = -n) (two : Two X m q r) (hl : q ≤ 2147483648) :
    Calls Try.prog 18 #[.int .u32 lo, .int .i32 hi, .int .i32 n, .bool false] w fun e w' => e = .returned (.tuple #[.int .i32 (r), .int .i32 (-q), .int .i32 0]) ∧ w = w' := by
  obtain ⟨tq, tr, x0, x1, m0, m1, r0, r1, q0, q1⟩ := two
  have hu : hi % 4294967296 = hi := by omega
  have hx2 : lo + hi * 4294967296 = X := by omega
  have u0 : 0 ≤ hi := by omega
  have u1 : hi < 4294967296 := by omega
  have hn2 : IntKind.u64.wrap n = n + 18446744073709551616 := by rw [IntKind.wrap_u64]; omega
  have hn3 : n % 18446744073709551616 = n + 18446744073709551616 := by omega
  have hm2 : IntKind.u64.wrap (-(n + 18446744073709551616)) = m := by rw [IntKind.wrap_u64]; omega
  have hn0 : (n == 0) = false := by simp; omega
  have TQ := Lib.hid tq
  have TR := Lib.hid tr
  clear tq tr hX hm
  have d1 : decide (hi < 0) = false := by simp; omega
  have d2 : decide (n < 0) = true := by simp; omega
  go_enter Try.func18, Try.ntmps18
  go_wp2_with (first | (go_at_call 10; refine (r7Double_any _ lo hi l0 l1 u0 u1).mono ?_; rintro e w' ⟨rfl, rfl⟩) | (go_at_call 25; refine (r7Long_any _ X m (by omega) (by omega) (by omega) (by omega)).mono ?_; rw [TQ.out, TR.out]; rintro e w' ⟨rfl, rfl⟩))
  exact bodyPost_ret (v := .tuple #[.int .i32 (r), .int .i32 (-q), .int .i32 0]) (by simp [results, Try.results18, go_sem]) rfl ⟨rfl, rfl⟩

set_option maxHeartbeats 1000000 in
theorem r7Both_pn_false_any_throws (w : World) (lo hi n X m q r : Int) (l0 : 0 ≤ lo) (l1 : lo < 4294967296) (h0 : -2147483648 ≤ hi) (h1 : hi < 2147483648) (n1 : -2147483648 ≤ n) (n2 : n < 2147483648)
    (c1 : 0 ≤ hi) (c2 : n < 0) (hX : X = hi * 4294967296 + lo) (hm : m = -n) (two : Two X m q r) (hl : 2147483648 < q) :
    Calls Try.prog 18 #[.int .u32 lo, .int .i32 hi, .int .i32 n, .bool false] w fun e w' => e = .returned (.tuple #[.int .i32 0, .int .i32 0, .int .i32 (-11)]) ∧ w = w' := by
  obtain ⟨tq, tr, x0, x1, m0, m1, r0, r1, q0, q1⟩ := two
  have hu : hi % 4294967296 = hi := by omega
  have hx2 : lo + hi * 4294967296 = X := by omega
  have u0 : 0 ≤ hi := by omega
  have u1 : hi < 4294967296 := by omega
  have hn2 : IntKind.u64.wrap n = n + 18446744073709551616 := by rw [IntKind.wrap_u64]; omega
  have hn3 : n % 18446744073709551616 = n + 18446744073709551616 := by omega
  have hm2 : IntKind.u64.wrap (-(n + 18446744073709551616)) = m := by rw [IntKind.wrap_u64]; omega
  have hn0 : (n == 0) = false := by simp; omega
  have TQ := Lib.hid tq
  have TR := Lib.hid tr
  clear tq tr hX hm
  have d1 : decide (hi < 0) = false := by simp; omega
  have d2 : decide (n < 0) = true := by simp; omega
  go_enter Try.func18, Try.ntmps18
  go_wp2_with (first | (go_at_call 10; refine (r7Double_any _ lo hi l0 l1 u0 u1).mono ?_; rintro e w' ⟨rfl, rfl⟩) | (go_at_call 25; refine (r7Long_any _ X m (by omega) (by omega) (by omega) (by omega)).mono ?_; rw [TQ.out, TR.out]; rintro e w' ⟨rfl, rfl⟩))
  exact bodyPost_ret (v := .tuple #[.int .i32 0, .int .i32 0, .int .i32 (-11)]) (by simp [results, Try.results18, go_sem]) rfl ⟨rfl, rfl⟩

set_option maxHeartbeats 1000000 in
theorem r7Both_pn_true_pos_tells (w : World) (lo hi n X m q r : Int) (l0 : 0 ≤ lo) (l1 : lo < 4294967296) (h0 : -2147483648 ≤ hi) (h1 : hi < 2147483648) (n1 : -2147483648 ≤ n) (n2 : n < 2147483648)
    (c1 : 0 ≤ hi) (c2 : n < 0) (hX : X = hi * 4294967296 + lo) (hm : m = -n) (two : Two X m q r) (hr : 0 < r) (hl : (q + 1) ≤ 2147483648) :
    Calls Try.prog 18 #[.int .u32 lo, .int .i32 hi, .int .i32 n, .bool true] w fun e w' => e = .returned (.tuple #[.int .i32 (-(m - r)), .int .i32 (-(q + 1)), .int .i32 0]) ∧ w = w' := by
  obtain ⟨tq, tr, x0, x1, m0, m1, r0, r1, q0, q1⟩ := two
  have hu : hi % 4294967296 = hi := by omega
  have hx2 : lo + hi * 4294967296 = X := by omega
  have u0 : 0 ≤ hi := by omega
  have u1 : hi < 4294967296 := by omega
  have hn2 : IntKind.u64.wrap n = n + 18446744073709551616 := by rw [IntKind.wrap_u64]; omega
  have hn3 : n % 18446744073709551616 = n + 18446744073709551616 := by omega
  have hm2 : IntKind.u64.wrap (-(n + 18446744073709551616)) = m := by rw [IntKind.wrap_u64]; omega
  have hn0 : (n == 0) = false := by simp; omega
  have TQ := Lib.hid tq
  have TR := Lib.hid tr
  clear tq tr hX hm
  have d1 : decide (hi < 0) = false := by simp; omega
  have d2 : decide (n < 0) = true := by simp; omega
  go_enter Try.func18, Try.ntmps18
  go_wp2_with (first | (go_at_call 10; refine (r7Double_any _ lo hi l0 l1 u0 u1).mono ?_; rintro e w' ⟨rfl, rfl⟩) | (go_at_call 25; refine (r7Long_any _ X m (by omega) (by omega) (by omega) (by omega)).mono ?_; rw [TQ.out, TR.out]; rintro e w' ⟨rfl, rfl⟩))
  exact bodyPost_ret (v := .tuple #[.int .i32 (-(m - r)), .int .i32 (-(q + 1)), .int .i32 0]) (by simp [results, Try.results18, go_sem]) rfl ⟨rfl, rfl⟩

set_option maxHeartbeats 1000000 in
theorem r7Both_pn_true_pos_throws (w : World) (lo hi n X m q r : Int) (l0 : 0 ≤ lo) (l1 : lo < 4294967296) (h0 : -2147483648 ≤ hi) (h1 : hi < 2147483648) (n1 : -2147483648 ≤ n) (n2 : n < 2147483648)
    (c1 : 0 ≤ hi) (c2 : n < 0) (hX : X = hi * 4294967296 + lo) (hm : m = -n) (two : Two X m q r) (hr : 0 < r) (hl : 2147483648 < (q + 1)) :
    Calls Try.prog 18 #[.int .u32 lo, .int .i32 hi, .int .i32 n, .bool true] w fun e w' => e = .returned (.tuple #[.int .i32 0, .int .i32 0, .int .i32 (-11)]) ∧ w = w' := by
  obtain ⟨tq, tr, x0, x1, m0, m1, r0, r1, q0, q1⟩ := two
  have hu : hi % 4294967296 = hi := by omega
  have hx2 : lo + hi * 4294967296 = X := by omega
  have u0 : 0 ≤ hi := by omega
  have u1 : hi < 4294967296 := by omega
  have hn2 : IntKind.u64.wrap n = n + 18446744073709551616 := by rw [IntKind.wrap_u64]; omega
  have hn3 : n % 18446744073709551616 = n + 18446744073709551616 := by omega
  have hm2 : IntKind.u64.wrap (-(n + 18446744073709551616)) = m := by rw [IntKind.wrap_u64]; omega
  have hn0 : (n == 0) = false := by simp; omega
  have TQ := Lib.hid tq
  have TR := Lib.hid tr
  clear tq tr hX hm
  have d1 : decide (hi < 0) = false := by simp; omega
  have d2 : decide (n < 0) = true := by simp; omega
  go_enter Try.func18, Try.ntmps18
  go_wp2_with (first | (go_at_call 10; refine (r7Double_any _ lo hi l0 l1 u0 u1).mono ?_; rintro e w' ⟨rfl, rfl⟩) | (go_at_call 25; refine (r7Long_any _ X m (by omega) (by omega) (by omega) (by omega)).mono ?_; rw [TQ.out, TR.out]; rintro e w' ⟨rfl, rfl⟩))
  exact bodyPost_ret (v := .tuple #[.int .i32 0, .int .i32 0, .int .i32 (-11)]) (by simp [results, Try.results18, go_sem]) rfl ⟨rfl, rfl⟩

set_option maxHeartbeats 1000000 in
theorem r7Both_pn_true_zero_tells (w : World) (lo hi n X m q r : Int) (l0 : 0 ≤ lo) (l1 : lo < 4294967296) (h0 : -2147483648 ≤ hi) (h1 : hi < 2147483648) (n1 : -2147483648 ≤ n) (n2 : n < 2147483648)
    (c1 : 0 ≤ hi) (c2 : n < 0) (hX : X = hi * 4294967296 + lo) (hm : m = -n) (two : Two X m q r) (hr : r = 0) (hl : q ≤ 2147483648) :
    Calls Try.prog 18 #[.int .u32 lo, .int .i32 hi, .int .i32 n, .bool true] w fun e w' => e = .returned (.tuple #[.int .i32 (0), .int .i32 (-q), .int .i32 0]) ∧ w = w' := by
  obtain ⟨tq, tr, x0, x1, m0, m1, r0, r1, q0, q1⟩ := two
  have hu : hi % 4294967296 = hi := by omega
  have hx2 : lo + hi * 4294967296 = X := by omega
  have u0 : 0 ≤ hi := by omega
  have u1 : hi < 4294967296 := by omega
  have hn2 : IntKind.u64.wrap n = n + 18446744073709551616 := by rw [IntKind.wrap_u64]; omega
  have hn3 : n % 18446744073709551616 = n + 18446744073709551616 := by omega
  have hm2 : IntKind.u64.wrap (-(n + 18446744073709551616)) = m := by rw [IntKind.wrap_u64]; omega
  have hn0 : (n == 0) = false := by simp; omega
  subst hr
  have TQ := Lib.hid tq
  have TR := Lib.hid tr
  clear tq tr hX hm
  have d1 : decide (hi < 0) = false := by simp; omega
  have d2 : decide (n < 0) = true := by simp; omega
  go_enter Try.func18, Try.ntmps18
  go_wp2_with (first | (go_at_call 10; refine (r7Double_any _ lo hi l0 l1 u0 u1).mono ?_; rintro e w' ⟨rfl, rfl⟩) | (go_at_call 25; refine (r7Long_any _ X m (by omega) (by omega) (by omega) (by omega)).mono ?_; rw [TQ.out, TR.out]; rintro e w' ⟨rfl, rfl⟩))
  exact bodyPost_ret (v := .tuple #[.int .i32 (0), .int .i32 (-q), .int .i32 0]) (by simp [results, Try.results18, go_sem]) rfl ⟨rfl, rfl⟩

set_option maxHeartbeats 1000000 in
theorem r7Both_pn_true_zero_throws (w : World) (lo hi n X m q r : Int) (l0 : 0 ≤ lo) (l1 : lo < 4294967296) (h0 : -2147483648 ≤ hi) (h1 : hi < 2147483648) (n1 : -2147483648 ≤ n) (n2 : n < 2147483648)
    (c1 : 0 ≤ hi) (c2 : n < 0) (hX : X = hi * 4294967296 + lo) (hm : m = -n) (two : Two X m q r) (hr : r = 0) (hl : 2147483648 < q) :
    Calls Try.prog 18 #[.int .u32 lo, .int .i32 hi, .int .i32 n, .bool true] w fun e w' => e = .returned (.tuple #[.int .i32 0, .int .i32 0, .int .i32 (-11)]) ∧ w = w' := by
  obtain ⟨tq, tr, x0, x1, m0, m1, r0, r1, q0, q1⟩ := two
  have hu : hi % 4294967296 = hi := by omega
  have hx2 : lo + hi * 4294967296 = X := by omega
  have u0 : 0 ≤ hi := by omega
  have u1 : hi < 4294967296 := by omega
  have hn2 : IntKind.u64.wrap n = n + 18446744073709551616 := by rw [IntKind.wrap_u64]; omega
  have hn3 : n % 18446744073709551616 = n + 18446744073709551616 := by omega
  have hm2 : IntKind.u64.wrap (-(n + 18446744073709551616)) = m := by rw [IntKind.wrap_u64]; omega
  have hn0 : (n == 0) = false := by simp; omega
  subst hr
  have TQ := Lib.hid tq
  have TR := Lib.hid tr
  clear tq tr hX hm
  have d1 : decide (hi < 0) = false := by simp; omega
  have d2 : decide (n < 0) = true := by simp; omega
  go_enter Try.func18, Try.ntmps18
  go_wp2_with (first | (go_at_call 10; refine (r7Double_any _ lo hi l0 l1 u0 u1).mono ?_; rintro e w' ⟨rfl, rfl⟩) | (go_at_call 25; refine (r7Long_any _ X m (by omega) (by omega) (by omega) (by omega)).mono ?_; rw [TQ.out, TR.out]; rintro e w' ⟨rfl, rfl⟩))
  exact bodyPost_ret (v := .tuple #[.int .i32 0, .int .i32 0, .int .i32 (-11)]) (by simp [results, Try.results18, go_sem]) rfl ⟨rfl, rfl⟩

set_option maxHeartbeats 1000000 in
theorem r7Both_pp_false_any_tells (w : World) (lo hi n X q r : Int) (l0 : 0 ≤ lo) (l1 : lo < 4294967296) (h0 : -2147483648 ≤ hi) (h1 : hi < 2147483648) (n1 : -2147483648 ≤ n) (n2 : n < 2147483648)
    (c1 : 0 ≤ hi) (c2 : 0 < n) (hX : X = hi * 4294967296 + lo) (two : Two X n q r) (hl : q ≤ 2147483647) :
    Calls Try.prog 18 #[.int .u32 lo, .int .i32 hi, .int .i32 n, .bool false] w fun e w' => e = .returned (.tuple #[.int .i32 (r), .int .i32 (q), .int .i32 0]) ∧ w = w' := by
  obtain ⟨tq, tr, x0, x1, m0, m1, r0, r1, q0, q1⟩ := two
  have hu : hi % 4294967296 = hi := by omega
  have hx2 : lo + hi * 4294967296 = X := by omega
  have u0 : 0 ≤ hi := by omega
  have u1 : hi < 4294967296 := by omega
  have hn0 : (n == 0) = false := by simp; omega
  have TQ := Lib.hid tq
  have TR := Lib.hid tr
  clear tq tr hX
  have d1 : decide (hi < 0) = false := by simp; omega
  have d2 : decide (n < 0) = false := by simp; omega
  go_enter Try.func18, Try.ntmps18
  go_wp2_with (first | (go_at_call 10; refine (r7Double_any _ lo hi l0 l1 u0 u1).mono ?_; rintro e w' ⟨rfl, rfl⟩) | (go_at_call 25; refine (r7Long_any _ X n (by omega) (by omega) (by omega) (by omega)).mono ?_; rw [TQ.out, TR.out]; rintro e w' ⟨rfl, rfl⟩))
  exact bodyPost_ret (v := .tuple #[.int .i32 (r), .int .i32 (q), .int .i32 0]) (by simp [results, Try.results18, go_sem]) rfl ⟨rfl, rfl⟩

set_option maxHeartbeats 1000000 in
theorem r7Both_pp_false_any_throws (w : World) (lo hi n X q r : Int) (l0 : 0 ≤ lo) (l1 : lo < 4294967296) (h0 : -2147483648 ≤ hi) (h1 : hi < 2147483648) (n1 : -2147483648 ≤ n) (n2 : n < 2147483648)
    (c1 : 0 ≤ hi) (c2 : 0 < n) (hX : X = hi * 4294967296 + lo) (two : Two X n q r) (hl : 2147483647 < q) :
    Calls Try.prog 18 #[.int .u32 lo, .int .i32 hi, .int .i32 n, .bool false] w fun e w' => e = .returned (.tuple #[.int .i32 0, .int .i32 0, .int .i32 (-11)]) ∧ w = w' := by
  obtain ⟨tq, tr, x0, x1, m0, m1, r0, r1, q0, q1⟩ := two
  have hu : hi % 4294967296 = hi := by omega
  have hx2 : lo + hi * 4294967296 = X := by omega
  have u0 : 0 ≤ hi := by omega
  have u1 : hi < 4294967296 := by omega
  have hn0 : (n == 0) = false := by simp; omega
  have TQ := Lib.hid tq
  have TR := Lib.hid tr
  clear tq tr hX
  have d1 : decide (hi < 0) = false := by simp; omega
  have d2 : decide (n < 0) = false := by simp; omega
  go_enter Try.func18, Try.ntmps18
  go_wp2_with (first | (go_at_call 10; refine (r7Double_any _ lo hi l0 l1 u0 u1).mono ?_; rintro e w' ⟨rfl, rfl⟩) | (go_at_call 25; refine (r7Long_any _ X n (by omega) (by omega) (by omega) (by omega)).mono ?_; rw [TQ.out, TR.out]; rintro e w' ⟨rfl, rfl⟩))
  exact bodyPost_ret (v := .tuple #[.int .i32 0, .int .i32 0, .int .i32 (-11)]) (by simp [results, Try.results18, go_sem]) rfl ⟨rfl, rfl⟩

set_option maxHeartbeats 1000000 in
theorem r7Both_pp_true_any_tells (w : World) (lo hi n X q r : Int) (l0 : 0 ≤ lo) (l1 : lo < 4294967296) (h0 : -2147483648 ≤ hi) (h1 : hi < 2147483648) (n1 : -2147483648 ≤ n) (n2 : n < 2147483648)
    (c1 : 0 ≤ hi) (c2 : 0 < n) (hX : X = hi * 4294967296 + lo) (two : Two X n q r) (hl : q ≤ 2147483647) :
    Calls Try.prog 18 #[.int .u32 lo, .int .i32 hi, .int .i32 n, .bool true] w fun e w' => e = .returned (.tuple #[.int .i32 (r), .int .i32 (q), .int .i32 0]) ∧ w = w' := by
  obtain ⟨tq, tr, x0, x1, m0, m1, r0, r1, q0, q1⟩ := two
  have hu : hi % 4294967296 = hi := by omega
  have hx2 : lo + hi * 4294967296 = X := by omega
  have u0 : 0 ≤ hi := by omega
  have u1 : hi < 4294967296 := by omega
  have hn0 : (n == 0) = false := by simp; omega
  have TQ := Lib.hid tq
  have TR := Lib.hid tr
  clear tq tr hX
  have d1 : decide (hi < 0) = false := by simp; omega
  have d2 : decide (n < 0) = false := by simp; omega
  go_enter Try.func18, Try.ntmps18
  go_wp2_with (first | (go_at_call 10; refine (r7Double_any _ lo hi l0 l1 u0 u1).mono ?_; rintro e w' ⟨rfl, rfl⟩) | (go_at_call 25; refine (r7Long_any _ X n (by omega) (by omega) (by omega) (by omega)).mono ?_; rw [TQ.out, TR.out]; rintro e w' ⟨rfl, rfl⟩))
  exact bodyPost_ret (v := .tuple #[.int .i32 (r), .int .i32 (q), .int .i32 0]) (by simp [results, Try.results18, go_sem]) rfl ⟨rfl, rfl⟩

set_option maxHeartbeats 1000000 in
theorem r7Both_pp_true_any_throws (w : World) (lo hi n X q r : Int) (l0 : 0 ≤ lo) (l1 : lo < 4294967296) (h0 : -2147483648 ≤ hi) (h1 : hi < 2147483648) (n1 : -2147483648 ≤ n) (n2 : n < 2147483648)
    (c1 : 0 ≤ hi) (c2 : 0 < n) (hX : X = hi * 4294967296 + lo) (two : Two X n q r) (hl : 2147483647 < q) :
    Calls Try.prog 18 #[.int .u32 lo, .int .i32 hi, .int .i32 n, .bool true] w fun e w' => e = .returned (.tuple #[.int .i32 0, .int .i32 0, .int .i32 (-11)]) ∧ w = w' := by
  obtain ⟨tq, tr, x0, x1, m0, m1, r0, r1, q0, q1⟩ := two
  have hu : hi % 4294967296 = hi := by omega
  have hx2 : lo + hi * 4294967296 = X := by omega
  have u0 : 0 ≤ hi := by omega
  have u1 : hi < 4294967296 := by omega
  have hn0 : (n == 0) = false := by simp; omega
  have TQ := Lib.hid tq
  have TR := Lib.hid tr
  clear tq tr hX
  have d1 : decide (hi < 0) = false := by simp; omega
  have d2 : decide (n < 0) = false := by simp; omega
  go_enter Try.func18, Try.ntmps18
  go_wp2_with (first | (go_at_call 10; refine (r7Double_any _ lo hi l0 l1 u0 u1).mono ?_; rintro e w' ⟨rfl, rfl⟩) | (go_at_call 25; refine (r7Long_any _ X n (by omega) (by omega) (by omega) (by omega)).mono ?_; rw [TQ.out, TR.out]; rintro e w' ⟨rfl, rfl⟩))
  exact bodyPost_ret (v := .tuple #[.int .i32 0, .int .i32 0, .int .i32 (-11)]) (by simp [results, Try.results18, go_sem]) rfl ⟨rfl, rfl⟩
end Go.Proofs.Ytlnmbfddhdjioaa
