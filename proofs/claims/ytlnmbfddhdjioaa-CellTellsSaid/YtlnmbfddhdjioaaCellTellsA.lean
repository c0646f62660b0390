/-
  CellTells, walked.
-/
import Derived.Test.YtlnmbfddhdjioaaCellH
namespace Go.Proofs.Ytlnmbfddhdjioaa
set_option linter.unusedVariables false
open Go.RowKit

theorem r7Double_to (w : World) (lo hi X : Int) (l0 : 0 ≤ lo) (l1 : lo < 4294967296) (h0 : 0 ≤ hi) (h1 : hi < 4294967296) (h : lo + hi * 4294967296 = X) :
    Calls Try.prog 10 #[.int .u32 lo, .int .u32 hi] w fun e w' => e = .returned (.int .u64 X) ∧ w = w' := by
  rw [← h]; exact r7Double_any w lo hi l0 l1 h0 h1
theorem r7Product_to (w : World) (a b P : Int) (a0 : 0 ≤ a) (a1 : a < 4294967296) (b0 : 0 ≤ b) (b1 : b < 4294967296) (h : a * b = P) :
    Calls Try.prog 11 #[.int .u32 a, .int .u32 b] w fun e w' => e = .returned (.int .u64 P) ∧ w = w' := by
  rw [← h]; exact r7Product_any w a b a0 a1 b0 b1

/-- All calls that CellTells makes, with what they answer. -/
structure Told (a b c d sa sb sc P ml mh xl xh xu W V1 V2 R Q E R1 Q1 E1 R2 Q2 E2 sl sh S nl nh N D1 D2 : Int) : Prop where
  product : ∀ v, Calls Try.prog 8 #[.int .u32 a, .int .u32 b] v fun e w' => e = .returned (.tuple #[.int .u32 ml, .int .u32 mh]) ∧ v = w'
  doubleP : ∀ v, Calls Try.prog 10 #[.int .u32 ml, .int .u32 mh] v fun e w' => e = .returned (.int .u64 P) ∧ v = w'
  productR : ∀ v, Calls Try.prog 11 #[.int .u32 a, .int .u32 b] v fun e w' => e = .returned (.int .u64 P) ∧ v = w'
  signed : ∀ v, Calls Try.prog 9 #[.int .i32 sa, .int .i32 sb] v fun e w' => e = .returned (.tuple #[.int .u32 xl, .int .i32 xh]) ∧ v = w'
  doubleX : ∀ v, Calls Try.prog 10 #[.int .u32 xl, .int .u32 xu] v fun e w' => e = .returned (.int .u64 W) ∧ v = w'
  left : ∀ v, Calls Try.prog 12 #[.int .u32 a, .int .u32 b, .bool true] v fun e w' => e = .returned (.int .u32 V1) ∧ v = w'
  leftR : ∀ v, Calls Try.prog 13 #[.int .u32 a, .int .u32 b, .bool true] v fun e w' => e = .returned (.int .u32 V1) ∧ v = w'
  right : ∀ v, Calls Try.prog 12 #[.int .u32 a, .int .u32 b, .bool false] v fun e w' => e = .returned (.int .u32 V2) ∧ v = w'
  rightR : ∀ v, Calls Try.prog 13 #[.int .u32 a, .int .u32 b, .bool false] v fun e w' => e = .returned (.int .u32 V2) ∧ v = w'
  divide : ∀ v, Calls Try.prog 14 #[.int .u32 a, .int .u32 b, .int .u32 c] v fun e w' => e = .returned (.tuple #[.int .u32 R, .int .u32 Q, .int .i32 E]) ∧ Keeps [] v w'
  divideR : ∀ v, Calls Try.prog 15 #[.int .u32 a, .int .u32 b, .int .u32 c] v fun e w' => e = .returned (.tuple #[.int .u32 R, .int .u32 Q, .int .i32 E]) ∧ v = w'
  symmetric : ∀ v, Calls Try.prog 16 #[.int .u32 a, .int .i32 sb, .int .i32 sc] v fun e w' => e = .returned (.tuple #[.int .i32 R1, .int .i32 Q1, .int .i32 E1]) ∧ Keeps [] v w'
  symmetricR : ∀ v, Calls Try.prog 18 #[.int .u32 a, .int .i32 sb, .int .i32 sc, .bool false] v fun e w' => e = .returned (.tuple #[.int .i32 R1, .int .i32 Q1, .int .i32 E1]) ∧ v = w'
  floored : ∀ v, Calls Try.prog 17 #[.int .u32 a, .int .i32 sb, .int .i32 sc] v fun e w' => e = .returned (.tuple #[.int .i32 R2, .int .i32 Q2, .int .i32 E2]) ∧ Keeps [] v w'
  flooredR : ∀ v, Calls Try.prog 18 #[.int .u32 a, .int .i32 sb, .int .i32 sc, .bool true] v fun e w' => e = .returned (.tuple #[.int .i32 R2, .int .i32 Q2, .int .i32 E2]) ∧ v = w'
  sum : ∀ v, Calls Try.prog 19 #[.int .u32 a, .int .u32 b, .int .u32 c, .int .u32 d] v fun e w' => e = .returned (.tuple #[.int .u32 sl, .int .u32 sh]) ∧ v = w'
  negative : ∀ v, Calls Try.prog 20 #[.int .u32 a, .int .u32 b] v fun e w' => e = .returned (.tuple #[.int .u32 nl, .int .u32 nh]) ∧ v = w'
  doubleS : ∀ v, Calls Try.prog 10 #[.int .u32 sl, .int .u32 sh] v fun e w' => e = .returned (.int .u64 S) ∧ v = w'
  doubleN : ∀ v, Calls Try.prog 10 #[.int .u32 nl, .int .u32 nh] v fun e w' => e = .returned (.int .u64 N) ∧ v = w'
  double1 : ∀ v, Calls Try.prog 10 #[.int .u32 a, .int .u32 b] v fun e w' => e = .returned (.int .u64 D1) ∧ v = w'
  double2 : ∀ v, Calls Try.prog 10 #[.int .u32 c, .int .u32 d] v fun e w' => e = .returned (.int .u64 D2) ∧ v = w'
  conv : xh % 4294967296 = xu
  p0 : 0 ≤ P
  p1 : P < 18446744073709551616
  w0 : W = (sa * sb) % 18446744073709551616
  s0 : IntKind.u64.wrap (D1 + D2) = S
  n0 : IntKind.u64.wrap (-D1) = N
  d0 : 0 ≤ D1
  d1 : D1 < 18446744073709551616
  d2 : 0 ≤ D2
  d3 : D2 < 18446744073709551616
  r10 : -2147483648 ≤ R1
  pw : P = a * b

theorem told (a b c d sa sb sc : Int) (a0 : 0 ≤ a) (a1 : a < 4294967296) (b0 : 0 ≤ b) (b1 : b < 4294967296) (c0 : 0 ≤ c) (c1 : c < 4294967296) (d0 : 0 ≤ d) (d1 : d < 4294967296)
    (sa0 : -2147483648 ≤ sa) (sa1 : sa < 2147483648) (sb0 : -2147483648 ≤ sb) (sb1 : sb < 2147483648) (sc0 : -2147483648 ≤ sc) (sc1 : sc < 2147483648) :
    ∃ P ml mh xl xh xu W V1 V2 R Q E R1 Q1 E1 R2 Q2 E2 sl sh S nl nh N D1 D2, Told a b c d sa sb sc P ml mh xl xh xu W V1 V2 R Q E R1 Q1 E1 R2 Q2 E2 sl sh S nl nh N D1 D2 := by
  have hp := mul_lt a b a0 a1 b0 b1
  obtain ⟨ml, mh, hml, m0, m1, m2, m3⟩ := halves (a * b) hp.1 hp.2
  obtain ⟨sl, sh, hsl, s0, s1, s2, s3⟩ := halves ((b * 4294967296 + a + (d * 4294967296 + c)) % 18446744073709551616) (by omega) (by omega)
  obtain ⟨nl, nh, hnl, n0, n1, n2, n3⟩ := halves ((-(b * 4294967296 + a)) % 18446744073709551616) (by omega) (by omega)
  obtain ⟨R, Q, E, I0⟩ := Cell.isDivU_some (b * 4294967296 + a) c c0
  obtain ⟨R1, Q1, E1, I1⟩ := Cell.isDiv_some false (sb * 4294967296 + a) sc
  obtain ⟨R2, Q2, E2, I2⟩ := Cell.isDiv_some true (sb * 4294967296 + a) sc
  have hb1 := Cell.isDiv_bounds _ _ sc R1 Q1 E1 sc0 sc1 I1
  have ea : ((a.toNat : Nat) : Int) = a := Int.toNat_of_nonneg a0
  have eb : ((b.toNat : Nat) : Int) = b := Int.toNat_of_nonneg b0
  refine ⟨a * b, ml, mh, sa * sb % 4294967296, wrap32 (sa * sb % 18446744073709551616 / 4294967296), sa * sb % 18446744073709551616 / 4294967296, sa * sb % 18446744073709551616, a * 2 ^ min b.toNat 32 % 4294967296, a / 2 ^ min b.toNat 32, R, Q, E, R1, Q1, E1, R2, Q2, E2, sl, sh, (b * 4294967296 + a + (d * 4294967296 + c)) % 18446744073709551616, nl, nh, (-(b * 4294967296 + a)) % 18446744073709551616, a + b * 4294967296, c + d * 4294967296, ?_⟩
  exact {
    product := fun v => cProduct_to v a b ml mh a0 a1 b0 b1 m0 m1 hml
    doubleP := fun v => r7Double_to v ml mh _ m0 m1 m2 m3 (by omega)
    productR := fun v => r7Product_to v a b _ a0 a1 b0 b1 rfl
    signed := fun v => cSigned_any v sa sb sa0 sa1 sb0 sb1
    doubleX := fun v => r7Double_to v _ _ _ (by omega) (by omega) (by omega) (by omega) (by omega)
    left := fun v => cShiftL_any v a b b0
    leftR := fun v => by
      have := r7ShiftL_any v a.toNat b.toNat (by omega) (by omega)
      rw [ea, eb] at this; exact this
    right := fun v => cShiftR_any v a b b0
    rightR := fun v => by
      have := r7ShiftR_any v a.toNat b.toNat (by omega) (by omega)
      rw [ea, eb] at this; exact this
    divide := fun v => cDivide_is v a b c R Q E a0 a1 b0 b1 c1 I0
    divideR := fun v => r7Divide_is v a b c R Q E a0 a1 b0 b1 c1 I0
    symmetric := fun v => cSymmetric_is v a sb sc R1 Q1 E1 a0 a1 sb0 sb1 sc0 sc1 I1
    symmetricR := fun v => r7Both_is v false a sb sc R1 Q1 E1 a0 a1 sb0 sb1 sc0 sc1 I1
    floored := fun v => cFloored_is v a sb sc R2 Q2 E2 a0 a1 sb0 sb1 sc0 sc1 I2
    flooredR := fun v => r7Both_is v true a sb sc R2 Q2 E2 a0 a1 sb0 sb1 sc0 sc1 I2
    sum := fun v => cSum_to v a b c d sl sh a0 a1 b0 b1 c0 c1 d0 d1 s0 s1 hsl
    negative := fun v => cNegative_to v a b nl nh a0 a1 b0 b1 n0 n1 hnl
    doubleS := fun v => r7Double_to v sl sh _ s0 s1 s2 s3 (by omega)
    doubleN := fun v => r7Double_to v nl nh _ n0 n1 n2 n3 (by omega)
    double1 := fun v => r7Double_any v a b a0 a1 b0 b1
    double2 := fun v => r7Double_any v c d c0 c1 d0 d1
    conv := by unfold wrap32; omega
    p0 := hp.1
    p1 := hp.2
    w0 := rfl
    s0 := by rw [IntKind.wrap_u64]; omega
    n0 := by rw [IntKind.wrap_u64]; omega
    d0 := by omega
    d1 := by omega
    d2 := by omega
    d3 := by omega
    r10 := hb1.1
    pw := rfl }

set_option maxRecDepth 100000 in
set_option maxHeartbeats 4000000 in
theorem CellTells_pp (w : World) (a b c d : Int) (a0 : 0 ≤ a) (a1 : a < 4294967296) (b0 : 0 ≤ b) (b1 : b < 4294967296) (c0 : 0 ≤ c) (c1 : c < 4294967296) (d0 : 0 ≤ d) (d1 : d < 4294967296) (ha : a < 2147483648) (hb : b < 2147483648) :
    Calls Try.prog 3 #[.int .u32 a, .int .u32 b, .int .u32 c, .int .u32 d] w fun e w' => e = .returned (.bool true) ∧ Keeps [] w w' := by
  have wc : -2147483648 ≤ wrap32 c ∧ wrap32 c < 2147483648 := by unfold wrap32; omega
  obtain ⟨sa, hsa⟩ : ∃ sa : Int, sa = a := ⟨_, rfl⟩
  obtain ⟨sb, hsb⟩ : ∃ sb : Int, sb = b := ⟨_, rfl⟩
  obtain ⟨sc, hsc⟩ : ∃ sc : Int, wrap32 c = sc := ⟨_, rfl⟩
  rw [hsc] at wc
  obtain ⟨P, ml, mh, xl, xh, xu, W, V1, V2, R, Q, E, R1, Q1, E1, R2, Q2, E2, sl, sh, S, nl, nh, N, D1, D2, T⟩ := told a b c d sa sb sc a0 a1 b0 b1 c0 c1 d0 d1 (by omega) (by omega) (by omega) (by omega) wc.1 wc.2
  have wa : wrap32 a = sa := by unfold wrap32; omega
  have wb : wrap32 b = sb := by unfold wrap32; omega
  have wa' : IntKind.i32.wrap a = sa := by rw [IntKind.wrap_i32]; unfold wrap32 at wa; omega
  have wb' : IntKind.i32.wrap b = sb := by rw [IntKind.wrap_i32]; unfold wrap32 at wb; omega
  have wc' : IntKind.i32.wrap c = sc := by rw [IntKind.wrap_i32]; unfold wrap32 at hsc; omega
  have da : decide (sa < 0) = false := by simp; omega
  have db : decide (sb < 0) = false := by simp; omega
  obtain rfl : P = W := by
    have h0 := T.p0
    have h1 := T.p1
    have h2 := T.w0
    rw [hsa, hsb, ← T.pw] at h2
    omega
  have H_product := Lib.hid T.product
  have H_doubleP := Lib.hid T.doubleP
  have H_productR := Lib.hid T.productR
  have H_signed := Lib.hid T.signed
  have H_doubleX := Lib.hid T.doubleX
  have H_left := Lib.hid T.left
  have H_leftR := Lib.hid T.leftR
  have H_right := Lib.hid T.right
  have H_rightR := Lib.hid T.rightR
  have H_divide := Lib.hid T.divide
  have H_divideR := Lib.hid T.divideR
  have H_symmetric := Lib.hid T.symmetric
  have H_symmetricR := Lib.hid T.symmetricR
  have H_floored := Lib.hid T.floored
  have H_flooredR := Lib.hid T.flooredR
  have H_sum := Lib.hid T.sum
  have H_negative := Lib.hid T.negative
  have H_doubleS := Lib.hid T.doubleS
  have H_doubleN := Lib.hid T.doubleN
  have H_double1 := Lib.hid T.double1
  have H_double2 := Lib.hid T.double2
  have hconv := T.conv
  have t0 := T.p0
  have t1 := T.p1
  have t2 := T.d0
  have t3 := T.d1
  have t4 := T.d2
  have t5 := T.d3
  have t6 := T.s0
  have t7 := T.n0
  have t6' : (D1 + D2) % 18446744073709551616 = S := by rw [← IntKind.wrap_u64]; exact t6
  have t7' : (-D1) % 18446744073709551616 = N := by rw [← IntKind.wrap_u64]; exact t7
  clear T
  clear hsa hsb
  have KR := Keeps.refl [] w
  go_enter Try.func3, Try.ntmps3
  go_wp2_with (first | ((with_reducible refine (H_product.out _).mono ?_); rintro e w' ⟨rfl, rfl⟩) | ((with_reducible refine (H_doubleP.out _).mono ?_); rintro e w' ⟨rfl, rfl⟩) | ((with_reducible refine (H_productR.out _).mono ?_); rintro e w' ⟨rfl, rfl⟩) | ((with_reducible refine (H_signed.out _).mono ?_); rintro e w' ⟨rfl, rfl⟩) | ((with_reducible refine (H_doubleX.out _).mono ?_); rintro e w' ⟨rfl, rfl⟩) | ((with_reducible refine (H_left.out _).mono ?_); rintro e w' ⟨rfl, rfl⟩) | ((with_reducible refine (H_leftR.out _).mono ?_); rintro e w' ⟨rfl, rfl⟩) | ((with_reducible refine (H_right.out _).mono ?_); rintro e w' ⟨rfl, rfl⟩) | ((with_reducible refine (H_rightR.out _).mono ?_); rintro e w' ⟨rfl, rfl⟩) | ((with_reducible refine (H_divide.out _).mono ?_); rintro e w' ⟨rfl, K⟩; replace KR := KR.trans K; clear K) | ((with_reducible refine (H_divideR.out _).mono ?_); rintro e w' ⟨rfl, rfl⟩))
  have KP1 := KR.trans (Keeps.alloc [] w' (.cells #[.bool false, .bool true] 4))
  have c00 := cell_alloc_new w' #[.bool false, .bool true] 4 0
  have c01 := cell_alloc_new w' #[.bool false, .bool true] 4 1
  generalize w'.alloc (.cells #[.bool false, .bool true] 4) = wa at *
  generalize w'.heap.size = B at *
  clear KR
  go_loopw [125] (fun i wr => (i = .int .i64 0 ∨ i = .int .i64 1 ∨ i = .int .i64 2) ∧ wr.cell? ⟨B, 0, none⟩ = some (.bool false) ∧ wr.cell? ⟨B, 1, none⟩ = some (.bool true) ∧ Keeps [] w wr) (fun i _ => 2 - (intOf i).toNat)
  case atStart => exact ⟨.inl rfl, c00, c01, KP1⟩
  case round =>
    obtain ⟨hk, c0, c1, KP⟩ := hrel
    have KR := Keeps.refl [] wr
    rcases hk with rfl | rfl | rfl
    · go_wp2_with (first | ((with_reducible refine (H_symmetric.out _).mono ?_); rintro e w' ⟨rfl, K⟩; replace KR := KR.trans K; clear K) | ((with_reducible refine (H_symmetricR.out _).mono ?_); rintro e w' ⟨rfl, rfl⟩))
      go_roundw
      case rel => exact ⟨.inr (.inl rfl), KR.cell c0 (by simp), KR.cell c1 (by simp), KP.trans KR⟩
      case measure => simp [intOf]
    · go_wp2_with (first | ((with_reducible refine (H_symmetric.out _).mono ?_); rintro e w' ⟨rfl, K⟩; replace KR := KR.trans K; clear K) | ((with_reducible refine (H_floored.out _).mono ?_); rintro e w' ⟨rfl, K⟩; replace KR := KR.trans K; clear K) | ((with_reducible refine (H_flooredR.out _).mono ?_); rintro e w' ⟨rfl, rfl⟩))
      go_roundw
      case rel => exact ⟨.inr (.inr rfl), KR.cell c0 (by simp), KR.cell c1 (by simp), KP.trans KR⟩
      case measure => simp [intOf]
    · go_wp2_with (first | ((with_reducible refine (H_sum.out _).mono ?_); rintro e w' ⟨rfl, rfl⟩) | ((with_reducible refine (H_negative.out _).mono ?_); rintro e w' ⟨rfl, rfl⟩) | ((with_reducible refine (H_doubleS.out _).mono ?_); rintro e w' ⟨rfl, rfl⟩) | ((with_reducible refine (H_doubleN.out _).mono ?_); rintro e w' ⟨rfl, rfl⟩) | ((with_reducible refine (H_double1.out _).mono ?_); rintro e w' ⟨rfl, rfl⟩) | ((with_reducible refine (H_double2.out _).mono ?_); rintro e w' ⟨rfl, rfl⟩) | (go_at_call 21; refine (awake7_any _).mono ?_; rintro e w' ⟨rfl, K⟩; replace KR := KR.trans K; clear K))
      go_ret
      exact ⟨rfl, KP.trans KR⟩

set_option maxRecDepth 100000 in
set_option maxHeartbeats 4000000 in
theorem CellTells_pn (w : World) (a b c d : Int) (a0 : 0 ≤ a) (a1 : a < 4294967296) (b0 : 0 ≤ b) (b1 : b < 4294967296) (c0 : 0 ≤ c) (c1 : c < 4294967296) (d0 : 0 ≤ d) (d1 : d < 4294967296) (ha : a < 2147483648) (hb : 2147483648 ≤ b) :
    Calls Try.prog 3 #[.int .u32 a, .int .u32 b, .int .u32 c, .int .u32 d] w fun e w' => e = .returned (.bool true) ∧ Keeps [] w w' := by
  have wc : -2147483648 ≤ wrap32 c ∧ wrap32 c < 2147483648 := by unfold wrap32; omega
  obtain ⟨sa, hsa⟩ : ∃ sa : Int, sa = a := ⟨_, rfl⟩
  obtain ⟨sb, hsb⟩ : ∃ sb : Int, sb = (b - 4294967296) := ⟨_, rfl⟩
  obtain ⟨sc, hsc⟩ : ∃ sc : Int, wrap32 c = sc := ⟨_, rfl⟩
  rw [hsc] at wc
  obtain ⟨P, ml, mh, xl, xh, xu, W, V1, V2, R, Q, E, R1, Q1, E1, R2, Q2, E2, sl, sh, S, nl, nh, N, D1, D2, T⟩ := told a b c d sa sb sc a0 a1 b0 b1 c0 c1 d0 d1 (by omega) (by omega) (by omega) (by omega) wc.1 wc.2
  have wa : wrap32 a = sa := by unfold wrap32; omega
  have wb : wrap32 b = sb := by unfold wrap32; omega
  have wa' : IntKind.i32.wrap a = sa := by rw [IntKind.wrap_i32]; unfold wrap32 at wa; omega
  have wb' : IntKind.i32.wrap b = sb := by rw [IntKind.wrap_i32]; unfold wrap32 at wb; omega
  have wc' : IntKind.i32.wrap c = sc := by rw [IntKind.wrap_i32]; unfold wrap32 at hsc; omega
  have da : decide (sa < 0) = false := by simp; omega
  have db : decide (sb < 0) = true := by simp; omega
  have e1 : IntKind.u64.wrap (P - a * 4294967296) = W := by
    rw [IntKind.wrap_u64, T.w0, T.pw, hsa, hsb, Int.mul_sub]
  have H_product := Lib.hid T.product
  have H_doubleP := Lib.hid T.doubleP
  have H_productR := Lib.hid T.productR
  have H_signed := Lib.hid T.signed
  have H_doubleX := Lib.hid T.doubleX
  have H_left := Lib.hid T.left
  have H_leftR := Lib.hid T.leftR
  have H_right := Lib.hid T.right
  have H_rightR := Lib.hid T.rightR
  have H_divide := Lib.hid T.divide
  have H_divideR := Lib.hid T.divideR
  have H_symmetric := Lib.hid T.symmetric
  have H_symmetricR := Lib.hid T.symmetricR
  have H_floored := Lib.hid T.floored
  have H_flooredR := Lib.hid T.flooredR
  have H_sum := Lib.hid T.sum
  have H_negative := Lib.hid T.negative
  have H_doubleS := Lib.hid T.doubleS
  have H_doubleN := Lib.hid T.doubleN
  have H_double1 := Lib.hid T.double1
  have H_double2 := Lib.hid T.double2
  have hconv := T.conv
  have t0 := T.p0
  have t1 := T.p1
  have t2 := T.d0
  have t3 := T.d1
  have t4 := T.d2
  have t5 := T.d3
  have t6 := T.s0
  have t7 := T.n0
  have t6' : (D1 + D2) % 18446744073709551616 = S := by rw [← IntKind.wrap_u64]; exact t6
  have t7' : (-D1) % 18446744073709551616 = N := by rw [← IntKind.wrap_u64]; exact t7
  clear T
  clear hsa hsb
  have KR := Keeps.refl [] w
  go_enter Try.func3, Try.ntmps3
  go_wp2_with (first | ((with_reducible refine (H_product.out _).mono ?_); rintro e w' ⟨rfl, rfl⟩) | ((with_reducible refine (H_doubleP.out _).mono ?_); rintro e w' ⟨rfl, rfl⟩) | ((with_reducible refine (H_productR.out _).mono ?_); rintro e w' ⟨rfl, rfl⟩) | ((with_reducible refine (H_signed.out _).mono ?_); rintro e w' ⟨rfl, rfl⟩) | ((with_reducible refine (H_doubleX.out _).mono ?_); rintro e w' ⟨rfl, rfl⟩) | ((with_reducible refine (H_left.out _).mono ?_); rintro e w' ⟨rfl, rfl⟩) | ((with_reducible refine (H_leftR.out _).mono ?_); rintro e w' ⟨rfl, rfl⟩) | ((with_reducible refine (H_right.out _).mono ?_); rintro e w' ⟨rfl, rfl⟩) | ((with_reducible refine (H_rightR.out _).mono ?_); rintro e w' ⟨rfl, rfl⟩) | ((with_reducible refine (H_divide.out _).mono ?_); rintro e w' ⟨rfl, K⟩; replace KR := KR.trans K; clear K) | ((with_reducible refine (H_divideR.out _).mono ?_); rintro e w' ⟨rfl, rfl⟩))
  have KP1 := KR.trans (Keeps.alloc [] w' (.cells #[.bool false, .bool true] 4))
  have c00 := cell_alloc_new w' #[.bool false, .bool true] 4 0
  have c01 := cell_alloc_new w' #[.bool false, .bool true] 4 1
  generalize w'.alloc (.cells #[.bool false, .bool true] 4) = wa at *
  generalize w'.heap.size = B at *
  clear KR
  go_loopw [125] (fun i wr => (i = .int .i64 0 ∨ i = .int .i64 1 ∨ i = .int .i64 2) ∧ wr.cell? ⟨B, 0, none⟩ = some (.bool false) ∧ wr.cell? ⟨B, 1, none⟩ = some (.bool true) ∧ Keeps [] w wr) (fun i _ => 2 - (intOf i).toNat)
  case atStart => exact ⟨.inl rfl, c00, c01, KP1⟩
  case round =>
    obtain ⟨hk, c0, c1, KP⟩ := hrel
    have KR := Keeps.refl [] wr
    rcases hk with rfl | rfl | rfl
    · go_wp2_with (first | ((with_reducible refine (H_symmetric.out _).mono ?_); rintro e w' ⟨rfl, K⟩; replace KR := KR.trans K; clear K) | ((with_reducible refine (H_symmetricR.out _).mono ?_); rintro e w' ⟨rfl, rfl⟩))
      go_roundw
      case rel => exact ⟨.inr (.inl rfl), KR.cell c0 (by simp), KR.cell c1 (by simp), KP.trans KR⟩
      case measure => simp [intOf]
    · go_wp2_with (first | ((with_reducible refine (H_symmetric.out _).mono ?_); rintro e w' ⟨rfl, K⟩; replace KR := KR.trans K; clear K) | ((with_reducible refine (H_floored.out _).mono ?_); rintro e w' ⟨rfl, K⟩; replace KR := KR.trans K; clear K) | ((with_reducible refine (H_flooredR.out _).mono ?_); rintro e w' ⟨rfl, rfl⟩))
      go_roundw
      case rel => exact ⟨.inr (.inr rfl), KR.cell c0 (by simp), KR.cell c1 (by simp), KP.trans KR⟩
      case measure => simp [intOf]
    · go_wp2_with (first | ((with_reducible refine (H_sum.out _).mono ?_); rintro e w' ⟨rfl, rfl⟩) | ((with_reducible refine (H_negative.out _).mono ?_); rintro e w' ⟨rfl, rfl⟩) | ((with_reducible refine (H_doubleS.out _).mono ?_); rintro e w' ⟨rfl, rfl⟩) | ((with_reducible refine (H_doubleN.out _).mono ?_); rintro e w' ⟨rfl, rfl⟩) | ((with_reducible refine (H_double1.out _).mono ?_); rintro e w' ⟨rfl, rfl⟩) | ((with_reducible refine (H_double2.out _).mono ?_); rintro e w' ⟨rfl, rfl⟩) | (go_at_call 21; refine (awake7_any _).mono ?_; rintro e w' ⟨rfl, K⟩; replace KR := KR.trans K; clear K))
      go_ret
      exact ⟨rfl, KP.trans KR⟩

set_option maxRecDepth 100000 in
set_option maxHeartbeats 4000000 in
theorem CellTells_np (w : World) (a b c d : Int) (a0 : 0 ≤ a) (a1 : a < 4294967296) (b0 : 0 ≤ b) (b1 : b < 4294967296) (c0 : 0 ≤ c) (c1 : c < 4294967296) (d0 : 0 ≤ d) (d1 : d < 4294967296) (ha : 2147483648 ≤ a) (hb : b < 2147483648) :
    Calls Try.prog 3 #[.int .u32 a, .int .u32 b, .int .u32 c, .int .u32 d] w fun e w' => e = .returned (.bool true) ∧ Keeps [] w w' := by
  have wc : -2147483648 ≤ wrap32 c ∧ wrap32 c < 2147483648 := by unfold wrap32; omega
  obtain ⟨sa, hsa⟩ : ∃ sa : Int, sa = (a - 4294967296) := ⟨_, rfl⟩
  obtain ⟨sb, hsb⟩ : ∃ sb : Int, sb = b := ⟨_, rfl⟩
  obtain ⟨sc, hsc⟩ : ∃ sc : Int, wrap32 c = sc := ⟨_, rfl⟩
  rw [hsc] at wc
  obtain ⟨P, ml, mh, xl, xh, xu, W, V1, V2, R, Q, E, R1, Q1, E1, R2, Q2, E2, sl, sh, S, nl, nh, N, D1, D2, T⟩ := told a b c d sa sb sc a0 a1 b0 b1 c0 c1 d0 d1 (by omega) (by omega) (by omega) (by omega) wc.1 wc.2
  have wa : wrap32 a = sa := by unfold wrap32; omega
  have wb : wrap32 b = sb := by unfold wrap32; omega
  have wa' : IntKind.i32.wrap a = sa := by rw [IntKind.wrap_i32]; unfold wrap32 at wa; omega
  have wb' : IntKind.i32.wrap b = sb := by rw [IntKind.wrap_i32]; unfold wrap32 at wb; omega
  have wc' : IntKind.i32.wrap c = sc := by rw [IntKind.wrap_i32]; unfold wrap32 at hsc; omega
  have da : decide (sa < 0) = true := by simp; omega
  have db : decide (sb < 0) = false := by simp; omega
  have e1 : IntKind.u64.wrap (P - b * 4294967296) = W := by
    rw [IntKind.wrap_u64, T.w0, T.pw, hsa, hsb, Int.sub_mul]; omega
  have H_product := Lib.hid T.product
  have H_doubleP := Lib.hid T.doubleP
  have H_productR := Lib.hid T.productR
  have H_signed := Lib.hid T.signed
  have H_doubleX := Lib.hid T.doubleX
  have H_left := Lib.hid T.left
  have H_leftR := Lib.hid T.leftR
  have H_right := Lib.hid T.right
  have H_rightR := Lib.hid T.rightR
  have H_divide := Lib.hid T.divide
  have H_divideR := Lib.hid T.divideR
  have H_symmetric := Lib.hid T.symmetric
  have H_symmetricR := Lib.hid T.symmetricR
  have H_floored := Lib.hid T.floored
  have H_flooredR := Lib.hid T.flooredR
  have H_sum := Lib.hid T.sum
  have H_negative := Lib.hid T.negative
  have H_doubleS := Lib.hid T.doubleS
  have H_doubleN := Lib.hid T.doubleN
  have H_double1 := Lib.hid T.double1
  have H_double2 := Lib.hid T.double2
  have hconv := T.conv
  have t0 := T.p0
  have t1 := T.p1
  have t2 := T.d0
  have t3 := T.d1
  have t4 := T.d2
  have t5 := T.d3
  have t6 := T.s0
  have t7 := T.n0
  have t6' : (D1 + D2) % 18446744073709551616 = S := by rw [← IntKind.wrap_u64]; exact t6
  have t7' : (-D1) % 18446744073709551616 = N := by rw [← IntKind.wrap_u64]; exact t7
  clear T
  clear hsa hsb
  have KR := Keeps.refl [] w
  go_enter Try.func3, Try.ntmps3
  go_wp2_with (first | ((with_reducible refine (H_product.out _).mono ?_); rintro e w' ⟨rfl, rfl⟩) | ((with_reducible refine (H_doubleP.out _).mono ?_); rintro e w' ⟨rfl, rfl⟩) | ((with_reducible refine (H_productR.out _).mono ?_); rintro e w' ⟨rfl, rfl⟩) | ((with_reducible refine (H_signed.out _).mono ?_); rintro e w' ⟨rfl, rfl⟩) | ((with_reducible refine (H_doubleX.out _).mono ?_); rintro e w' ⟨rfl, rfl⟩) | ((with_reducible refine (H_left.out _).mono ?_); rintro e w' ⟨rfl, rfl⟩) | ((with_reducible refine (H_leftR.out _).mono ?_); rintro e w' ⟨rfl, rfl⟩) | ((with_reducible refine (H_right.out _).mono ?_); rintro e w' ⟨rfl, rfl⟩) | ((with_reducible refine (H_rightR.out _).mono ?_); rintro e w' ⟨rfl, rfl⟩) | ((with_reducible refine (H_divide.out _).mono ?_); rintro e w' ⟨rfl, K⟩; replace KR := KR.trans K; clear K) | ((with_reducible refine (H_divideR.out _).mono ?_); rintro e w' ⟨rfl, rfl⟩))
  have KP1 := KR.trans (Keeps.alloc [] w' (.cells #[.bool false, .bool true] 4))
  have c00 := cell_alloc_new w' #[.bool false, .bool true] 4 0
  have c01 := cell_alloc_new w' #[.bool false, .bool true] 4 1
  generalize w'.alloc (.cells #[.bool false, .bool true] 4) = wa at *
  generalize w'.heap.size = B at *
  clear KR
  go_loopw [125] (fun i wr => (i = .int .i64 0 ∨ i = .int .i64 1 ∨ i = .int .i64 2) ∧ wr.cell? ⟨B, 0, none⟩ = some (.bool false) ∧ wr.cell? ⟨B, 1, none⟩ = some (.bool true) ∧ Keeps [] w wr) (fun i _ => 2 - (intOf i).toNat)
  case atStart => exact ⟨.inl rfl, c00, c01, KP1⟩
  case round =>
    obtain ⟨hk, c0, c1, KP⟩ := hrel
    have KR := Keeps.refl [] wr
    rcases hk with rfl | rfl | rfl
    · go_wp2_with (first | ((with_reducible refine (H_symmetric.out _).mono ?_); rintro e w' ⟨rfl, K⟩; replace KR := KR.trans K; clear K) | ((with_reducible refine (H_symmetricR.out _).mono ?_); rintro e w' ⟨rfl, rfl⟩))
      go_roundw
      case rel => exact ⟨.inr (.inl rfl), KR.cell c0 (by simp), KR.cell c1 (by simp), KP.trans KR⟩
      case measure => simp [intOf]
    · go_wp2_with (first | ((with_reducible refine (H_symmetric.out _).mono ?_); rintro e w' ⟨rfl, K⟩; replace KR := KR.trans K; clear K) | ((with_reducible refine (H_floored.out _).mono ?_); rintro e w' ⟨rfl, K⟩; replace KR := KR.trans K; clear K) | ((with_reducible refine (H_flooredR.out _).mono ?_); rintro e w' ⟨rfl, rfl⟩))
      go_roundw
      case rel => exact ⟨.inr (.inr rfl), KR.cell c0 (by simp), KR.cell c1 (by simp), KP.trans KR⟩
      case measure => simp [intOf]
    · go_wp2_with (first | ((with_reducible refine (H_sum.out _).mono ?_); rintro e w' ⟨rfl, rfl⟩) | ((with_reducible refine (H_negative.out _).mono ?_); rintro e w' ⟨rfl, rfl⟩) | ((with_reducible refine (H_doubleS.out _).mono ?_); rintro e w' ⟨rfl, rfl⟩) | ((with_reducible refine (H_doubleN.out _).mono ?_); rintro e w' ⟨rfl, rfl⟩) | ((with_reducible refine (H_double1.out _).mono ?_); rintro e w' ⟨rfl, rfl⟩) | ((with_reducible refine (H_double2.out _).mono ?_); rintro e w' ⟨rfl, rfl⟩) | (go_at_call 21; refine (awake7_any _).mono ?_; rintro e w' ⟨rfl, K⟩; replace KR := KR.trans K; clear K))
      go_ret
      exact ⟨rfl, KP.trans KR⟩

set_option maxRecDepth 100000 in
set_option maxHeartbeats 4000000 in
theorem CellTells_nn (w : World) (a b c d : Int) (a0 : 0 ≤ a) (a1 : a < 4294967296) (b0 : 0 ≤ b) (b1 : b < 4294967296) (c0 : 0 ≤ c) (c1 : c < 4294967296) (d0 : 0 ≤ d) (d1 : d < 4294967296) (ha : 2147483648 ≤ a) (hb : 2147483648 ≤ b) :
    Calls Try.prog 3 #[.int .u32 a, .int .u32 b, .int .u32 c, .int .u32 d] w fun e w' => e = .returned (.bool true) ∧ Keeps [] w w' := by
  have wc : -2147483648 ≤ wrap32 c ∧ wrap32 c < 2147483648 := by unfold wrap32; omega
  obtain ⟨sa, hsa⟩ : ∃ sa : Int, sa = (a - 4294967296) := ⟨_, rfl⟩
  obtain ⟨sb, hsb⟩ : ∃ sb : Int, sb = (b - 4294967296) := ⟨_, rfl⟩
  obtain ⟨sc, hsc⟩ : ∃ sc : Int, wrap32 c = sc := ⟨_, rfl⟩
  rw [hsc] at wc
  obtain ⟨P, ml, mh, xl, xh, xu, W, V1, V2, R, Q, E, R1, Q1, E1, R2, Q2, E2, sl, sh, S, nl, nh, N, D1, D2, T⟩ := told a b c d sa sb sc a0 a1 b0 b1 c0 c1 d0 d1 (by omega) (by omega) (by omega) (by omega) wc.1 wc.2
  have wa : wrap32 a = sa := by unfold wrap32; omega
  have wb : wrap32 b = sb := by unfold wrap32; omega
  have wa' : IntKind.i32.wrap a = sa := by rw [IntKind.wrap_i32]; unfold wrap32 at wa; omega
  have wb' : IntKind.i32.wrap b = sb := by rw [IntKind.wrap_i32]; unfold wrap32 at wb; omega
  have wc' : IntKind.i32.wrap c = sc := by rw [IntKind.wrap_i32]; unfold wrap32 at hsc; omega
  have da : decide (sa < 0) = true := by simp; omega
  have db : decide (sb < 0) = true := by simp; omega
  have hw : (P - b * 4294967296 - a * 4294967296) % 18446744073709551616 = W := by
    rw [T.w0, T.pw, hsa, hsb, Int.sub_mul, Int.mul_sub, Int.mul_sub]; omega
  have hw1 : (P - b * 4294967296) % 18446744073709551616 < 18446744073709551616 ∧ 0 ≤ (P - b * 4294967296) % 18446744073709551616 := by omega
  obtain ⟨W1, hW1⟩ : ∃ W1 : Int, (P - b * 4294967296) % 18446744073709551616 = W1 := ⟨_, rfl⟩
  have e1 : IntKind.u64.wrap (P - b * 4294967296) = W1 := by rw [IntKind.wrap_u64]; exact hW1
  have e2 : IntKind.u64.wrap (W1 - a * 4294967296) = W := by rw [IntKind.wrap_u64]; omega
  rw [hW1] at hw1
  clear hW1 hw
  have H_product := Lib.hid T.product
  have H_doubleP := Lib.hid T.doubleP
  have H_productR := Lib.hid T.productR
  have H_signed := Lib.hid T.signed
  have H_doubleX := Lib.hid T.doubleX
  have H_left := Lib.hid T.left
  have H_leftR := Lib.hid T.leftR
  have H_right := Lib.hid T.right
  have H_rightR := Lib.hid T.rightR
  have H_divide := Lib.hid T.divide
  have H_divideR := Lib.hid T.divideR
  have H_symmetric := Lib.hid T.symmetric
  have H_symmetricR := Lib.hid T.symmetricR
  have H_floored := Lib.hid T.floored
  have H_flooredR := Lib.hid T.flooredR
  have H_sum := Lib.hid T.sum
  have H_negative := Lib.hid T.negative
  have H_doubleS := Lib.hid T.doubleS
  have H_doubleN := Lib.hid T.doubleN
  have H_double1 := Lib.hid T.double1
  have H_double2 := Lib.hid T.double2
  have hconv := T.conv
  have t0 := T.p0
  have t1 := T.p1
  have t2 := T.d0
  have t3 := T.d1
  have t4 := T.d2
  have t5 := T.d3
  have t6 := T.s0
  have t7 := T.n0
  have t6' : (D1 + D2) % 18446744073709551616 = S := by rw [← IntKind.wrap_u64]; exact t6
  have t7' : (-D1) % 18446744073709551616 = N := by rw [← IntKind.wrap_u64]; exact t7
  clear T
  clear hsa hsb
  have KR := Keeps.refl [] w
  go_enter Try.func3, Try.ntmps3
  go_wp2_with (first | ((with_reducible refine (H_product.out _).mono ?_); rintro e w' ⟨rfl, rfl⟩) | ((with_reducible refine (H_doubleP.out _).mono ?_); rintro e w' ⟨rfl, rfl⟩) | ((with_reducible refine (H_productR.out _).mono ?_); rintro e w' ⟨rfl, rfl⟩) | ((with_reducible refine (H_signed.out _).mono ?_); rintro e w' ⟨rfl, rfl⟩) | ((with_reducible refine (H_doubleX.out _).mono ?_); rintro e w' ⟨rfl, rfl⟩) | ((with_reducible refine (H_left.out _).mono ?_); rintro e w' ⟨rfl, rfl⟩) | ((with_reducible refine (H_leftR.out _).mono ?_); rintro e w' ⟨rfl, rfl⟩) | ((with_reducible refine (H_right.out _).mono ?_); rintro e w' ⟨rfl, rfl⟩) | ((with_reducible refine (H_rightR.out _).mono ?_); rintro e w' ⟨rfl, rfl⟩) | ((with_reducible refine (H_divide.out _).mono ?_); rintro e w' ⟨rfl, K⟩; replace KR := KR.trans K; clear K) | ((with_reducible refine (H_divideR.out _).mono ?_); rintro e w' ⟨rfl, rfl⟩))
  have KP1 := KR.trans (Keeps.alloc [] w' (.cells #[.bool false, .bool true] 4))
  have c00 := cell_alloc_new w' #[.bool false, .bool true] 4 0
  have c01 := cell_alloc_new w' #[.bool false, .bool true] 4 1
  generalize w'.alloc (.cells #[.bool false, .bool true] 4) = wa at *
  generalize w'.heap.size = B at *
  clear KR
  go_loopw [125] (fun i wr => (i = .int .i64 0 ∨ i = .int .i64 1 ∨ i = .int .i64 2) ∧ wr.cell? ⟨B, 0, none⟩ = some (.bool false) ∧ wr.cell? ⟨B, 1, none⟩ = some (.bool true) ∧ Keeps [] w wr) (fun i _ => 2 - (intOf i).toNat)
  case atStart => exact ⟨.inl rfl, c00, c01, KP1⟩
  case round =>
    obtain ⟨hk, c0, c1, KP⟩ := hrel
    have KR := Keeps.refl [] wr
    rcases hk with rfl | rfl | rfl
    · go_wp2_with (first | ((with_reducible refine (H_symmetric.out _).mono ?_); rintro e w' ⟨rfl, K⟩; replace KR := KR.trans K; clear K) | ((with_reducible refine (H_symmetricR.out _).mono ?_); rintro e w' ⟨rfl, rfl⟩))
      go_roundw
      case rel => exact ⟨.inr (.inl rfl), KR.cell c0 (by simp), KR.cell c1 (by simp), KP.trans KR⟩
      case measure => simp [intOf]
    · go_wp2_with (first | ((with_reducible refine (H_symmetric.out _).mono ?_); rintro e w' ⟨rfl, K⟩; replace KR := KR.trans K; clear K) | ((with_reducible refine (H_floored.out _).mono ?_); rintro e w' ⟨rfl, K⟩; replace KR := KR.trans K; clear K) | ((with_reducible refine (H_flooredR.out _).mono ?_); rintro e w' ⟨rfl, rfl⟩))
      go_roundw
      case rel => exact ⟨.inr (.inr rfl), KR.cell c0 (by simp), KR.cell c1 (by simp), KP.trans KR⟩
      case measure => simp [intOf]
    · go_wp2_with (first | ((with_reducible refine (H_sum.out _).mono ?_); rintro e w' ⟨rfl, rfl⟩) | ((with_reducible refine (H_negative.out _).mono ?_); rintro e w' ⟨rfl, rfl⟩) | ((with_reducible refine (H_doubleS.out _).mono ?_); rintro e w' ⟨rfl, rfl⟩) | ((with_reducible refine (H_doubleN.out _).mono ?_); rintro e w' ⟨rfl, rfl⟩) | ((with_reducible refine (H_double1.out _).mono ?_); rintro e w' ⟨rfl, rfl⟩) | ((with_reducible refine (H_double2.out _).mono ?_); rintro e w' ⟨rfl, rfl⟩) | (go_at_call 21; refine (awake7_any _).mono ?_; rintro e w' ⟨rfl, K⟩; replace KR := KR.trans K; clear K))
      go_ret
      exact ⟨rfl, KP.trans KR⟩

theorem CellTells_any (w : World) (a b c d : Int) (a0 : 0 ≤ a) (a1 : a ≤ 4294967295) (b0 : 0 ≤ b) (b1 : b ≤ 4294967295) (c0 : 0 ≤ c) (c1 : c ≤ 4294967295) (d0 : 0 ≤ d) (d1 : d ≤ 4294967295) :
    Calls Try.prog 3 #[.int .u32 a, .int .u32 b, .int .u32 c, .int .u32 d] w fun e w' => e = .returned (.bool true) ∧ Keeps [] w w' := by
  by_cases ha : a < 2147483648 <;> by_cases hb : b < 2147483648
  · exact CellTells_pp w a b c d a0 (by omega) b0 (by omega) c0 (by omega) d0 (by omega) ha hb
  · exact CellTells_pn w a b c d a0 (by omega) b0 (by omega) c0 (by omega) d0 (by omega) ha (by omega)
  · exact CellTells_np w a b c d a0 (by omega) b0 (by omega) c0 (by omega) d0 (by omega) (by omega) hb
  · exact CellTells_nn w a b c d a0 (by omega) b0 (by omega) c0 (by omega) d0 (by omega) (by omega) (by omega)
end Go.Proofs.Ytlnmbfddhdjioaa
