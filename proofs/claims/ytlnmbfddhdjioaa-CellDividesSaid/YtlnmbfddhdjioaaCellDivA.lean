/-
  CellDivides, walked.
-/
import Derived.Test.YtlnmbfddhdjioaaCellH
namespace Go.Proofs.Ytlnmbfddhdjioaa
set_option linter.unusedVariables false
open Go.RowKit

theorem cSigned_to (w : World) (a b lo hi : Int) (a0 : -2147483648 ≤ a) (a1 : a < 2147483648) (b0 : -2147483648 ≤ b) (b1 : b < 2147483648)
    (l : a * b % 4294967296 = lo) (h : wrap32 (a * b % 18446744073709551616 / 4294967296) = hi) :
    Calls Try.prog 9 #[.int .i32 a, .int .i32 b] w fun e w' => e = .returned (.tuple #[.int .u32 lo, .int .i32 hi]) ∧ w = w' := by
  rw [← l, ← h]; exact cSigned_any w a b a0 a1 b0 b1

/-- What the statement asks of a division that answers a quotient: the calls by which it is multiplied back. -/
structure Backs (lo hi n R Q pl ph phu ru rs : Int) : Prop where
  signed : ∀ v, Calls Try.prog 9 #[.int .i32 Q, .int .i32 n] v fun e w' => e = .returned (.tuple #[.int .u32 pl, .int .i32 ph]) ∧ v = w'
  conv : ph % 4294967296 = phu
  sum : ∀ v, Calls Try.prog 19 #[.int .u32 pl, .int .u32 phu, .int .u32 ru, .int .u32 rs] v fun e w' => e = .returned (.tuple #[.int .u32 lo, .int .u32 (hi % 4294967296)]) ∧ v = w'
  less : ∀ v, Calls Try.prog 22 #[.int .i32 n, .int .i32 R] v fun e w' => e = .returned (.bool false) ∧ v = w'

theorem backs (fl : Bool) (lo hi n : Int) (l0 : 0 ≤ lo) (l1 : lo < 4294967296) (h0 : -2147483648 ≤ hi) (h1 : hi < 2147483648) (n1 : -2147483648 ≤ n) (n2 : n < 2147483648) (n0 : n ≠ 0)
    (q0 : -2147483648 ≤ Cell.quoOf fl (hi * 4294967296 + lo) n) (q1 : Cell.quoOf fl (hi * 4294967296 + lo) n ≤ 2147483647) :
    ∃ pl ph phu, Backs lo hi n (Cell.remOf fl (hi * 4294967296 + lo) n) (Cell.quoOf fl (hi * 4294967296 + lo) n) pl ph phu (Cell.remOf fl (hi * 4294967296 + lo) n % 4294967296) (Cell.remOf fl (hi * 4294967296 + lo) n / 2147483648 % 4294967296) := by
  have hs := Cell.split fl (hi * 4294967296 + lo) n
  have hb := Cell.rem_bound fl (hi * 4294967296 + lo) n n0 n1 n2
  have hl := Cell.rem_lt fl (hi * 4294967296 + lo) n n0
  generalize Cell.quoOf fl (hi * 4294967296 + lo) n = Q at *
  generalize Cell.remOf fl (hi * 4294967296 + lo) n = R at *
  refine ⟨Q * n % 4294967296, wrap32 (Q * n % 18446744073709551616 / 4294967296), Q * n % 18446744073709551616 / 4294967296, ?_, ?_, ?_, ?_⟩
  · exact fun v => cSigned_to v Q n _ _ q0 (by omega) n1 n2 rfl rfl
  · unfold wrap32; omega
  · exact fun v => cSum_to v _ _ _ _ lo (hi % 4294967296) (by omega) (by omega) (by omega) (by omega) (by omega) (by omega) (by omega) (by omega) l0 l1 (by omega)
  · exact fun v => less7_any v n R n1 n2 hb.1 hb.2 hl

/-- What a division by a number answers, as the statement asks it. -/
inductive Kind (fl : Bool) (lo hi n R Q E : Int) : Prop where
  | big (r : R = 0) (q : Q = 0) (e : E = -11)
  | none (pl ph phu : Int) (b : Backs lo hi n 0 Q pl ph phu 0 0) (r : R = 0) (e : E = 0)
  | minus (pl ph phu : Int) (b : Backs lo hi n R Q pl ph phu (R + 4294967296) 4294967295) (r : R < 0) (s : (fl = true ∧ n < 0) ∨ (fl = false ∧ hi < 0)) (e : E = 0)
  | plus (pl ph phu : Int) (b : Backs lo hi n R Q pl ph phu R 0) (r : 0 < R) (s : (fl = true ∧ ¬ n < 0) ∨ (fl = false ∧ ¬ hi < 0)) (e : E = 0)

theorem kind_of (fl : Bool) (lo hi n R Q E : Int) (l0 : 0 ≤ lo) (l1 : lo < 4294967296) (h0 : -2147483648 ≤ hi) (h1 : hi < 2147483648) (n1 : -2147483648 ≤ n) (n2 : n < 2147483648) (n0 : n ≠ 0) (h : Cell.IsDiv fl (hi * 4294967296 + lo) n R Q E) : Kind fl lo hi n R Q E := by
  rcases h with ⟨g0, g1, g2, g3⟩ | ⟨g0, _, g1, g2, g3⟩ | ⟨g0, g1, g2, rfl, rfl, rfl⟩
  · exact absurd g0 n0
  · exact .big g1 g2 g3
  · obtain ⟨pl, ph, phu, hb⟩ := backs fl lo hi n l0 l1 h0 h1 n1 n2 g0 g1 g2
    have hs := Cell.rem_sign fl (hi * 4294967296 + lo) n g0
    have hbd := Cell.rem_bound fl (hi * 4294967296 + lo) n n0 n1 n2
    rcases Int.lt_trichotomy (Cell.remOf fl (hi * 4294967296 + lo) n) 0 with g | g | g
    · refine .minus pl ph phu (by rw [show Cell.remOf fl (hi * 4294967296 + lo) n + 4294967296 = Cell.remOf fl (hi * 4294967296 + lo) n % 4294967296 by omega, show (4294967295 : Int) = Cell.remOf fl (hi * 4294967296 + lo) n / 2147483648 % 4294967296 by omega]; exact hb) g ?_ rfl
      have := (hs (by omega)).1 g
      rcases this with h | h
      · exact .inl h
      · exact .inr ⟨h.1, by omega⟩
    · exact .none pl ph phu (by rw [g] at hb; exact hb) g rfl
    · refine .plus pl ph phu (by rw [show Cell.remOf fl (hi * 4294967296 + lo) n % 4294967296 = Cell.remOf fl (hi * 4294967296 + lo) n by omega, show Cell.remOf fl (hi * 4294967296 + lo) n / 2147483648 % 4294967296 = 0 by omega] at hb; exact hb) g ?_ rfl
      have := mt (hs (by omega)).2 (by omega)
      cases fl
      · right; refine ⟨rfl, fun k => this (.inr ⟨rfl, by omega⟩)⟩
      · left; refine ⟨rfl, fun k => this (.inl ⟨rfl, k⟩)⟩

set_option maxRecDepth 100000 in
set_option maxHeartbeats 4000000 in
theorem CellDivides_zero (w : World) (lo hi n : Int) (l0 : 0 ≤ lo) (l1 : lo ≤ 4294967295) (h0 : -2147483648 ≤ hi) (h1 : hi ≤ 2147483647) (n1 : -2147483648 ≤ n) (n2 : n ≤ 2147483647) (n0 : n = 0) :
    Calls Try.prog 4 #[.int .u32 lo, .int .i32 hi, .int .i32 n] w fun e w' => e = .returned (.bool true) ∧ Keeps [] w w' := by
  obtain ⟨R, Q, E, I0⟩ := Cell.isDivU_some (hi % 4294967296 * 4294967296 + lo) (n % 4294967296) (by omega)
  obtain ⟨R1, Q1, E1, I1⟩ := Cell.isDiv_some false (hi * 4294967296 + lo) n
  obtain ⟨R2, Q2, E2, I2⟩ := Cell.isDiv_some true (hi * 4294967296 + lo) n
  obtain ⟨r10, r11, q10, q11⟩ := Cell.isDiv_bounds _ _ n R1 Q1 E1 n1 (by omega) I1
  obtain ⟨r20, r21, q20, q21⟩ := Cell.isDiv_bounds _ _ n R2 Q2 E2 n1 (by omega) I2
  have A0 := Lib.hid fun v => cDivide_is v lo (hi % 4294967296) (n % 4294967296) R Q E l0 (by omega) (by omega) (by omega) (by omega) I0
  have A1 := Lib.hid fun v => cSymmetric_is v lo hi n R1 Q1 E1 l0 (by omega) h0 (by omega) n1 (by omega) I1
  have A2 := Lib.hid fun v => cFloored_is v lo hi n R2 Q2 E2 l0 (by omega) h0 (by omega) n1 (by omega) I2
  have hn : (n == 0) = true := by simpa using n0
  have Z0 : R = 0 ∧ Q = 0 ∧ E = -10 := by rcases I0 with h | h | h <;> first | exact h.2 | omega
  have Z1 : R1 = 0 ∧ Q1 = 0 ∧ E1 = -10 := by rcases I1 with h | h | h <;> first | exact h.2 | exact absurd n0 h.1
  have Z2 : R2 = 0 ∧ Q2 = 0 ∧ E2 = -10 := by rcases I2 with h | h | h <;> first | exact h.2 | exact absurd n0 h.1
  obtain ⟨rfl, rfl, rfl⟩ := Z0
  obtain ⟨rfl, rfl, rfl⟩ := Z1
  obtain ⟨rfl, rfl, rfl⟩ := Z2
  clear I0 I1 I2
  have hhi : 0 ≤ hi % 4294967296 ∧ hi % 4294967296 < 4294967296 := by omega
  have hni : 0 ≤ n % 4294967296 ∧ n % 4294967296 < 4294967296 := by omega
  obtain ⟨hi0, hi1⟩ := hhi
  obtain ⟨ni0, ni1⟩ := hni
  have KP := Keeps.refl [] w
  have A3 := A0
  have A4 := A0
  clear n0
  go_enter Try.func4, Try.ntmps4
  go_wp2_with (first
    | ((with_reducible refine (A0.out _).mono ?_); rintro e w' ⟨rfl, K⟩; replace KP := KP.trans K; clear K)
    | ((with_reducible refine (A3.out _).mono ?_); rintro e w' ⟨rfl, rfl⟩)
    | ((with_reducible refine (A4.out _).mono ?_); rintro e w' ⟨rfl, rfl⟩))
  have KP1 := KP.trans (Keeps.alloc [] w' (.cells #[.bool false, .bool true] 4))
  have c00 := cell_alloc_new w' #[.bool false, .bool true] 4 0
  have c01 := cell_alloc_new w' #[.bool false, .bool true] 4 1
  have hz : w'.heap.size < (w'.alloc (.cells #[.bool false, .bool true] 4)).heap.size := by simp
  generalize w'.alloc (.cells #[.bool false, .bool true] 4) = wa at *
  generalize w'.heap.size = B at *
  clear KP
  go_loopw [90] (fun i wr => (i = .int .i64 0 ∨ i = .int .i64 1 ∨ i = .int .i64 2) ∧ wr.cell? ⟨B, 0, none⟩ = some (.bool false) ∧ wr.cell? ⟨B, 1, none⟩ = some (.bool true) ∧ Keeps [] w wr) (fun i _ => 2 - (intOf i).toNat)
  case atStart => exact ⟨.inl rfl, c00, c01, KP1⟩
  case round =>
    obtain ⟨hk, c0, c1, KP⟩ := hrel
    have KR := Keeps.refl [] wr
    rcases hk with rfl | rfl | rfl
    · go_wp2_with (first | (go_at_call 16; refine (A1.out _).mono ?_; rintro e w' ⟨rfl, K⟩; replace KR := KR.trans K; clear K))
      go_roundw
      case rel => first | exact ⟨.inr (.inl rfl), KR.cell c0 (by simp), KR.cell c1 (by simp), KP.trans KR⟩ | ((repeat apply Exists.intro); exact ⟨⟨.inr (.inl rfl), KR.cell c0 (by simp), KR.cell c1 (by simp), KP.trans KR⟩, rfl⟩)
      case measure => simp [intOf]
    · go_wp2_with (first | (go_at_call 16; refine (A1.out _).mono ?_; rintro e w' ⟨rfl, K⟩; replace KR := KR.trans K; clear K) | (go_at_call 17; refine (A2.out _).mono ?_; rintro e w' ⟨rfl, K⟩; replace KR := KR.trans K; clear K))
      go_roundw
      case rel => first | exact ⟨.inr (.inr rfl), KR.cell c0 (by simp), KR.cell c1 (by simp), KP.trans KR⟩ | ((repeat apply Exists.intro); exact ⟨⟨.inr (.inr rfl), KR.cell c0 (by simp), KR.cell c1 (by simp), KP.trans KR⟩, rfl⟩)
      case measure => simp [intOf]
    · go_wp2_with (go_at_call 21; refine (awake7_any _).mono ?_; rintro e w' ⟨rfl, K⟩; replace KR := KR.trans K; clear K)
      go_ret
      exact ⟨rfl, KP.trans KR⟩

set_option maxRecDepth 100000 in
set_option maxHeartbeats 4000000 in
theorem CellDivides_big (w : World) (lo hi n : Int) (l0 : 0 ≤ lo) (l1 : lo ≤ 4294967295) (h0 : -2147483648 ≤ hi) (h1 : hi ≤ 2147483647) (n1 : -2147483648 ≤ n) (n2 : n ≤ 2147483647) (n0 : n ≠ 0) (g1 : 4294967296 ≤ (hi % 4294967296 * 4294967296 + lo) / (n % 4294967296)) :
    Calls Try.prog 4 #[.int .u32 lo, .int .i32 hi, .int .i32 n] w fun e w' => e = .returned (.bool true) ∧ Keeps [] w w' := by
  obtain ⟨R, Q, E, I0⟩ := Cell.isDivU_some (hi % 4294967296 * 4294967296 + lo) (n % 4294967296) (by omega)
  obtain ⟨R1, Q1, E1, I1⟩ := Cell.isDiv_some false (hi * 4294967296 + lo) n
  obtain ⟨R2, Q2, E2, I2⟩ := Cell.isDiv_some true (hi * 4294967296 + lo) n
  obtain ⟨r10, r11, q10, q11⟩ := Cell.isDiv_bounds _ _ n R1 Q1 E1 n1 (by omega) I1
  obtain ⟨r20, r21, q20, q21⟩ := Cell.isDiv_bounds _ _ n R2 Q2 E2 n1 (by omega) I2
  have A0 := Lib.hid fun v => cDivide_is v lo (hi % 4294967296) (n % 4294967296) R Q E l0 (by omega) (by omega) (by omega) (by omega) I0
  have A1 := Lib.hid fun v => cSymmetric_is v lo hi n R1 Q1 E1 l0 (by omega) h0 (by omega) n1 (by omega) I1
  have A2 := Lib.hid fun v => cFloored_is v lo hi n R2 Q2 E2 l0 (by omega) h0 (by omega) n1 (by omega) I2
  have K1 := kind_of false lo hi n R1 Q1 E1 l0 (by omega) h0 (by omega) n1 (by omega) n0 I1
  have K2 := kind_of true lo hi n R2 Q2 E2 l0 (by omega) h0 (by omega) n1 (by omega) n0 I2
  have hn : (n == 0) = false := by simpa using n0
  clear I1 I2
  have hhi : 0 ≤ hi % 4294967296 ∧ hi % 4294967296 < 4294967296 := by omega
  have hni : 0 ≤ n % 4294967296 ∧ n % 4294967296 < 4294967296 := by omega
  obtain ⟨hi0, hi1⟩ := hhi
  obtain ⟨ni0, ni1⟩ := hni
  have KP := Keeps.refl [] w
  have g0 : 0 < n % 4294967296 := by omega
  have Z0 : R = 0 ∧ Q = 0 ∧ E = -11 := by rcases I0 with h | h | h <;> first | exact h.2.2 | omega
  obtain ⟨rfl, rfl, rfl⟩ := Z0
  have hlt : decide (hi % 4294967296 < n % 4294967296) = false := by
    simp only [decide_eq_false_iff_not]
    intro h
    have : (hi % 4294967296 * 4294967296 + lo) / (n % 4294967296) < 4294967296 := by
      rw [Int.ediv_lt_iff_lt_mul g0]
      omega
    omega
  have A3 := A0
  have A4 := A0
  clear g0 g1 I0 n0
  go_enter Try.func4, Try.ntmps4
  go_wp2_with (first
    | ((with_reducible refine (A0.out _).mono ?_); rintro e w' ⟨rfl, K⟩; replace KP := KP.trans K; clear K)
    | ((with_reducible refine (A3.out _).mono ?_); rintro e w' ⟨rfl, rfl⟩)
    | ((with_reducible refine (A4.out _).mono ?_); rintro e w' ⟨rfl, rfl⟩))
  have KP1 := KP.trans (Keeps.alloc [] w' (.cells #[.bool false, .bool true] 4))
  have c00 := cell_alloc_new w' #[.bool false, .bool true] 4 0
  have c01 := cell_alloc_new w' #[.bool false, .bool true] 4 1
  have hz : w'.heap.size < (w'.alloc (.cells #[.bool false, .bool true] 4)).heap.size := by simp
  generalize w'.alloc (.cells #[.bool false, .bool true] 4) = wa at *
  generalize w'.heap.size = B at *
  clear KP
  go_loopw [90] (fun i wr => (i = .int .i64 0 ∨ i = .int .i64 1 ∨ i = .int .i64 2) ∧ wr.cell? ⟨B, 0, none⟩ = some (.bool false) ∧ wr.cell? ⟨B, 1, none⟩ = some (.bool true) ∧ Keeps [] w wr) (fun i _ => 2 - (intOf i).toNat)
  case atStart => exact ⟨.inl rfl, c00, c01, KP1⟩
  case round =>
    obtain ⟨hk, c0, c1, KP⟩ := hrel
    have KR := Keeps.refl [] wr
    rcases hk with rfl | rfl | rfl
    · obtain ⟨hr, hq, he⟩ | ⟨pl, ph, phu, b, hr, he⟩ | ⟨pl, ph, phu, b, hr, hs, he⟩ | ⟨pl, ph, phu, b, hr, hs, he⟩ := K1
      · subst hr hq he
        go_wp2_with (first | (go_at_call 16; refine (A1.out _).mono ?_; rintro e w' ⟨rfl, K⟩; replace KR := KR.trans K; clear K))
        go_roundw
        case rel => first | exact ⟨.inr (.inl rfl), KR.cell c0 (by simp), KR.cell c1 (by simp), KP.trans KR⟩ | ((repeat apply Exists.intro); exact ⟨⟨.inr (.inl rfl), KR.cell c0 (by simp), KR.cell c1 (by simp), KP.trans KR⟩, rfl⟩)
        case measure => simp [intOf]
      · subst hr he
        have BG := Lib.hid b.signed
        have BS := Lib.hid b.sum
        have BL := Lib.hid b.less
        have hcv := b.conv
        clear b
        go_wp2_with (first | (go_at_call 16; refine (A1.out _).mono ?_; rintro e w' ⟨rfl, K⟩; replace KR := KR.trans K; clear K) | (go_at_call 9; refine (BG.out _).mono ?_; rintro e w' ⟨rfl, rfl⟩) | (go_at_call 19; refine (BS.out _).mono ?_; rintro e w' ⟨rfl, rfl⟩) | (go_at_call 22; refine (BL.out _).mono ?_; rintro e w' ⟨rfl, rfl⟩))
        go_roundw
        case rel => first | exact ⟨.inr (.inl rfl), KR.cell c0 (by simp), KR.cell c1 (by simp), KP.trans KR⟩ | ((repeat apply Exists.intro); exact ⟨⟨.inr (.inl rfl), KR.cell c0 (by simp), KR.cell c1 (by simp), KP.trans KR⟩, rfl⟩)
        case measure => simp [intOf]
      · subst he
        have hs2 : hi < 0 := by rcases hs with ⟨g, _⟩ | ⟨_, g⟩; exact absurd g (by decide); exact g
        have hd : decide (hi < 0) = true := by simpa using hs2
        have hd2 : decide (R1 < 0) = true := by simp; omega
        have hd3 : (R1 != 0) = true := by simp; omega
        clear hs hs2
        have hc1 : R1 % 4294967296 = R1 + 4294967296 := by omega
        have hc2 : R1 / 2147483648 = -1 := by omega
        have BG := Lib.hid b.signed
        have BS := Lib.hid b.sum
        have BL := Lib.hid b.less
        have hcv := b.conv
        clear b
        go_wp2_with (first | (go_at_call 16; refine (A1.out _).mono ?_; rintro e w' ⟨rfl, K⟩; replace KR := KR.trans K; clear K) | (go_at_call 9; refine (BG.out _).mono ?_; rintro e w' ⟨rfl, rfl⟩) | (go_at_call 19; refine (BS.out _).mono ?_; rintro e w' ⟨rfl, rfl⟩) | (go_at_call 22; refine (BL.out _).mono ?_; rintro e w' ⟨rfl, rfl⟩))
        go_roundw
        case rel => first | exact ⟨.inr (.inl rfl), KR.cell c0 (by simp), KR.cell c1 (by simp), KP.trans KR⟩ | ((repeat apply Exists.intro); exact ⟨⟨.inr (.inl rfl), KR.cell c0 (by simp), KR.cell c1 (by simp), KP.trans KR⟩, rfl⟩)
        case measure => simp [intOf]
      · subst he
        have hs2 : ¬ hi < 0 := by rcases hs with ⟨g, _⟩ | ⟨_, g⟩; exact absurd g (by decide); exact g
        have hd : decide (hi < 0) = false := by simpa using hs2
        have hd2 : decide (R1 < 0) = false := by simp; omega
        have hd3 : (R1 != 0) = true := by simp; omega
        clear hs hs2
        have hc1 : R1 % 4294967296 = R1 := by omega
        have hc2 : R1 / 2147483648 = 0 := by omega
        have BG := Lib.hid b.signed
        have BS := Lib.hid b.sum
        have BL := Lib.hid b.less
        have hcv := b.conv
        clear b
        go_wp2_with (first | (go_at_call 16; refine (A1.out _).mono ?_; rintro e w' ⟨rfl, K⟩; replace KR := KR.trans K; clear K) | (go_at_call 9; refine (BG.out _).mono ?_; rintro e w' ⟨rfl, rfl⟩) | (go_at_call 19; refine (BS.out _).mono ?_; rintro e w' ⟨rfl, rfl⟩) | (go_at_call 22; refine (BL.out _).mono ?_; rintro e w' ⟨rfl, rfl⟩))
        go_roundw
        case rel => first | exact ⟨.inr (.inl rfl), KR.cell c0 (by simp), KR.cell c1 (by simp), KP.trans KR⟩ | ((repeat apply Exists.intro); exact ⟨⟨.inr (.inl rfl), KR.cell c0 (by simp), KR.cell c1 (by simp), KP.trans KR⟩, rfl⟩)
        case measure => simp [intOf]
    · obtain ⟨hr, hq, he⟩ | ⟨pl, ph, phu, b, hr, he⟩ | ⟨pl, ph, phu, b, hr, hs, he⟩ | ⟨pl, ph, phu, b, hr, hs, he⟩ := K2
      · subst hr hq he
        go_wp2_with (first | (go_at_call 16; refine (A1.out _).mono ?_; rintro e w' ⟨rfl, K⟩; replace KR := KR.trans K; clear K) | (go_at_call 17; refine (A2.out _).mono ?_; rintro e w' ⟨rfl, K⟩; replace KR := KR.trans K; clear K))
        go_roundw
        case rel => first | exact ⟨.inr (.inr rfl), KR.cell c0 (by simp), KR.cell c1 (by simp), KP.trans KR⟩ | ((repeat apply Exists.intro); exact ⟨⟨.inr (.inr rfl), KR.cell c0 (by simp), KR.cell c1 (by simp), KP.trans KR⟩, rfl⟩)
        case measure => simp [intOf]
      · subst hr he
        have BG := Lib.hid b.signed
        have BS := Lib.hid b.sum
        have BL := Lib.hid b.less
        have hcv := b.conv
        clear b
        go_wp2_with (first | (go_at_call 16; refine (A1.out _).mono ?_; rintro e w' ⟨rfl, K⟩; replace KR := KR.trans K; clear K) | (go_at_call 17; refine (A2.out _).mono ?_; rintro e w' ⟨rfl, K⟩; replace KR := KR.trans K; clear K) | (go_at_call 9; refine (BG.out _).mono ?_; rintro e w' ⟨rfl, rfl⟩) | (go_at_call 19; refine (BS.out _).mono ?_; rintro e w' ⟨rfl, rfl⟩) | (go_at_call 22; refine (BL.out _).mono ?_; rintro e w' ⟨rfl, rfl⟩))
        go_roundw
        case rel => first | exact ⟨.inr (.inr rfl), KR.cell c0 (by simp), KR.cell c1 (by simp), KP.trans KR⟩ | ((repeat apply Exists.intro); exact ⟨⟨.inr (.inr rfl), KR.cell c0 (by simp), KR.cell c1 (by simp), KP.trans KR⟩, rfl⟩)
        case measure => simp [intOf]
      · subst he
        have hs2 : n < 0 := by rcases hs with ⟨_, g⟩ | ⟨g, _⟩; exact g; exact absurd g (by decide)
        have hd : decide (n < 0) = true := by simpa using hs2
        have hd2 : decide (R2 < 0) = true := by simp; omega
        have hd3 : (R2 != 0) = true := by simp; omega
        clear hs hs2
        have hc1 : R2 % 4294967296 = R2 + 4294967296 := by omega
        have hc2 : R2 / 2147483648 = -1 := by omega
        have BG := Lib.hid b.signed
        have BS := Lib.hid b.sum
        have BL := Lib.hid b.less
        have hcv := b.conv
        clear b
        go_wp2_with (first | (go_at_call 16; refine (A1.out _).mono ?_; rintro e w' ⟨rfl, K⟩; replace KR := KR.trans K; clear K) | (go_at_call 17; refine (A2.out _).mono ?_; rintro e w' ⟨rfl, K⟩; replace KR := KR.trans K; clear K) | (go_at_call 9; refine (BG.out _).mono ?_; rintro e w' ⟨rfl, rfl⟩) | (go_at_call 19; refine (BS.out _).mono ?_; rintro e w' ⟨rfl, rfl⟩) | (go_at_call 22; refine (BL.out _).mono ?_; rintro e w' ⟨rfl, rfl⟩))
        go_roundw
        case rel => first | exact ⟨.inr (.inr rfl), KR.cell c0 (by simp), KR.cell c1 (by simp), KP.trans KR⟩ | ((repeat apply Exists.intro); exact ⟨⟨.inr (.inr rfl), KR.cell c0 (by simp), KR.cell c1 (by simp), KP.trans KR⟩, rfl⟩)
        case measure => simp [intOf]
      · subst he
        have hs2 : ¬ n < 0 := by rcases hs with ⟨_, g⟩ | ⟨g, _⟩; exact g; exact absurd g (by decide)
        have hd : decide (n < 0) = false := by simpa using hs2
        have hd2 : decide (R2 < 0) = false := by simp; omega
        have hd3 : (R2 != 0) = true := by simp; omega
        clear hs hs2
        have hc1 : R2 % 4294967296 = R2 := by omega
        have hc2 : R2 / 2147483648 = 0 := by omega
        have BG := Lib.hid b.signed
        have BS := Lib.hid b.sum
        have BL := Lib.hid b.less
        have hcv := b.conv
        clear b
        go_wp2_with (first | (go_at_call 16; refine (A1.out _).mono ?_; rintro e w' ⟨rfl, K⟩; replace KR := KR.trans K; clear K) | (go_at_call 17; refine (A2.out _).mono ?_; rintro e w' ⟨rfl, K⟩; replace KR := KR.trans K; clear K) | (go_at_call 9; refine (BG.out _).mono ?_; rintro e w' ⟨rfl, rfl⟩) | (go_at_call 19; refine (BS.out _).mono ?_; rintro e w' ⟨rfl, rfl⟩) | (go_at_call 22; refine (BL.out _).mono ?_; rintro e w' ⟨rfl, rfl⟩))
        go_roundw
        case rel => first | exact ⟨.inr (.inr rfl), KR.cell c0 (by simp), KR.cell c1 (by simp), KP.trans KR⟩ | ((repeat apply Exists.intro); exact ⟨⟨.inr (.inr rfl), KR.cell c0 (by simp), KR.cell c1 (by simp), KP.trans KR⟩, rfl⟩)
        case measure => simp [intOf]
    · go_wp2_with (go_at_call 21; refine (awake7_any _).mono ?_; rintro e w' ⟨rfl, K⟩; replace KR := KR.trans K; clear K)
      go_ret
      exact ⟨rfl, KP.trans KR⟩

set_option maxRecDepth 100000 in
set_option maxHeartbeats 4000000 in
theorem CellDivides_tells (w : World) (lo hi n : Int) (l0 : 0 ≤ lo) (l1 : lo ≤ 4294967295) (h0 : -2147483648 ≤ hi) (h1 : hi ≤ 2147483647) (n1 : -2147483648 ≤ n) (n2 : n ≤ 2147483647) (n0 : n ≠ 0) (g1 : (hi % 4294967296 * 4294967296 + lo) / (n % 4294967296) < 4294967296) :
    Calls Try.prog 4 #[.int .u32 lo, .int .i32 hi, .int .i32 n] w fun e w' => e = .returned (.bool true) ∧ Keeps [] w w' := by
  obtain ⟨R, Q, E, I0⟩ := Cell.isDivU_some (hi % 4294967296 * 4294967296 + lo) (n % 4294967296) (by omega)
  obtain ⟨R1, Q1, E1, I1⟩ := Cell.isDiv_some false (hi * 4294967296 + lo) n
  obtain ⟨R2, Q2, E2, I2⟩ := Cell.isDiv_some true (hi * 4294967296 + lo) n
  obtain ⟨r10, r11, q10, q11⟩ := Cell.isDiv_bounds _ _ n R1 Q1 E1 n1 (by omega) I1
  obtain ⟨r20, r21, q20, q21⟩ := Cell.isDiv_bounds _ _ n R2 Q2 E2 n1 (by omega) I2
  have A0 := Lib.hid fun v => cDivide_is v lo (hi % 4294967296) (n % 4294967296) R Q E l0 (by omega) (by omega) (by omega) (by omega) I0
  have A1 := Lib.hid fun v => cSymmetric_is v lo hi n R1 Q1 E1 l0 (by omega) h0 (by omega) n1 (by omega) I1
  have A2 := Lib.hid fun v => cFloored_is v lo hi n R2 Q2 E2 l0 (by omega) h0 (by omega) n1 (by omega) I2
  have K1 := kind_of false lo hi n R1 Q1 E1 l0 (by omega) h0 (by omega) n1 (by omega) n0 I1
  have K2 := kind_of true lo hi n R2 Q2 E2 l0 (by omega) h0 (by omega) n1 (by omega) n0 I2
  have hn : (n == 0) = false := by simpa using n0
  clear I1 I2
  have hhi : 0 ≤ hi % 4294967296 ∧ hi % 4294967296 < 4294967296 := by omega
  have hni : 0 ≤ n % 4294967296 ∧ n % 4294967296 < 4294967296 := by omega
  obtain ⟨hi0, hi1⟩ := hhi
  obtain ⟨ni0, ni1⟩ := hni
  have KP := Keeps.refl [] w
  have g0 : 0 < n % 4294967296 := by omega
  have Z0 : R = (hi % 4294967296 * 4294967296 + lo) % (n % 4294967296) ∧ Q = (hi % 4294967296 * 4294967296 + lo) / (n % 4294967296) ∧ E = 0 := by rcases I0 with h | h | h <;> first | exact h.2.2 | omega
  obtain ⟨hR, hQ, rfl⟩ := Z0
  have hr := Int.emod_lt_of_pos (hi % 4294967296 * 4294967296 + lo) g0
  have hr0 := Int.emod_nonneg (hi % 4294967296 * 4294967296 + lo) (show n % 4294967296 ≠ 0 by omega)
  have hq0 : 0 ≤ (hi % 4294967296 * 4294967296 + lo) / (n % 4294967296) := Int.ediv_nonneg (by omega) (by omega)
  have hm := Int.ediv_mul_add_emod (hi % 4294967296 * 4294967296 + lo) (n % 4294967296)
  rw [← hR] at hr hr0 hm
  rw [← hQ] at hq0 hm g1
  have hmm := mul_lt Q (n % 4294967296) hq0 g1 (by omega) (by omega)
  obtain ⟨ml, mh, hml, ml0, ml1, mh0, mh1⟩ := halves (Q * (n % 4294967296)) hmm.1 hmm.2
  have A3 := Lib.hid fun v => cProduct_to v Q (n % 4294967296) ml mh hq0 g1 (by omega) (by omega) ml0 ml1 hml
  have A4 := Lib.hid fun v => cSum_to v ml mh R 0 lo (hi % 4294967296) ml0 ml1 mh0 mh1 hr0 (by omega) (by decide) (by decide) l0 (by omega) (by omega)
  have hge : decide (n % 4294967296 ≤ R) = false := by simp; omega
  clear g0 g1 hm hmm hml hr hR hQ I0 n0
  go_enter Try.func4, Try.ntmps4
  go_wp2_with (first
    | ((with_reducible refine (A0.out _).mono ?_); rintro e w' ⟨rfl, K⟩; replace KP := KP.trans K; clear K)
    | ((with_reducible refine (A3.out _).mono ?_); rintro e w' ⟨rfl, rfl⟩)
    | ((with_reducible refine (A4.out _).mono ?_); rintro e w' ⟨rfl, rfl⟩))
  have KP1 := KP.trans (Keeps.alloc [] w' (.cells #[.bool false, .bool true] 4))
  have c00 := cell_alloc_new w' #[.bool false, .bool true] 4 0
  have c01 := cell_alloc_new w' #[.bool false, .bool true] 4 1
  have hz : w'.heap.size < (w'.alloc (.cells #[.bool false, .bool true] 4)).heap.size := by simp
  generalize w'.alloc (.cells #[.bool false, .bool true] 4) = wa at *
  generalize w'.heap.size = B at *
  clear KP
  go_loopw [90] (fun i wr => (i = .int .i64 0 ∨ i = .int .i64 1 ∨ i = .int .i64 2) ∧ wr.cell? ⟨B, 0, none⟩ = some (.bool false) ∧ wr.cell? ⟨B, 1, none⟩ = some (.bool true) ∧ Keeps [] w wr) (fun i _ => 2 - (intOf i).toNat)
  case atStart => exact ⟨.inl rfl, c00, c01, KP1⟩
  case round =>
    obtain ⟨hk, c0, c1, KP⟩ := hrel
    have KR := Keeps.refl [] wr
    rcases hk with rfl | rfl | rfl
    · obtain ⟨hr, hq, he⟩ | ⟨pl, ph, phu, b, hr, he⟩ | ⟨pl, ph, phu, b, hr, hs, he⟩ | ⟨pl, ph, phu, b, hr, hs, he⟩ := K1
      · subst hr hq he
        go_wp2_with (first | (go_at_call 16; refine (A1.out _).mono ?_; rintro e w' ⟨rfl, K⟩; replace KR := KR.trans K; clear K))
        go_roundw
        case rel => first | exact ⟨.inr (.inl rfl), KR.cell c0 (by simp), KR.cell c1 (by simp), KP.trans KR⟩ | ((repeat apply Exists.intro); exact ⟨⟨.inr (.inl rfl), KR.cell c0 (by simp), KR.cell c1 (by simp), KP.trans KR⟩, rfl⟩)
        case measure => simp [intOf]
      · subst hr he
        have BG := Lib.hid b.signed
        have BS := Lib.hid b.sum
        have BL := Lib.hid b.less
        have hcv := b.conv
        clear b
        go_wp2_with (first | (go_at_call 16; refine (A1.out _).mono ?_; rintro e w' ⟨rfl, K⟩; replace KR := KR.trans K; clear K) | (go_at_call 9; refine (BG.out _).mono ?_; rintro e w' ⟨rfl, rfl⟩) | (go_at_call 19; refine (BS.out _).mono ?_; rintro e w' ⟨rfl, rfl⟩) | (go_at_call 22; refine (BL.out _).mono ?_; rintro e w' ⟨rfl, rfl⟩))
        go_roundw
        case rel => first | exact ⟨.inr (.inl rfl), KR.cell c0 (by simp), KR.cell c1 (by simp), KP.trans KR⟩ | ((repeat apply Exists.intro); exact ⟨⟨.inr (.inl rfl), KR.cell c0 (by simp), KR.cell c1 (by simp), KP.trans KR⟩, rfl⟩)
        case measure => simp [intOf]
      · subst he
        have hs2 : hi < 0 := by rcases hs with ⟨g, _⟩ | ⟨_, g⟩; exact absurd g (by decide); exact g
        have hd : decide (hi < 0) = true := by simpa using hs2
        have hd2 : decide (R1 < 0) = true := by simp; omega
        have hd3 : (R1 != 0) = true := by simp; omega
        clear hs hs2
        have hc1 : R1 % 4294967296 = R1 + 4294967296 := by omega
        have hc2 : R1 / 2147483648 = -1 := by omega
        have BG := Lib.hid b.signed
        have BS := Lib.hid b.sum
        have BL := Lib.hid b.less
        have hcv := b.conv
        clear b
        go_wp2_with (first | (go_at_call 16; refine (A1.out _).mono ?_; rintro e w' ⟨rfl, K⟩; replace KR := KR.trans K; clear K) | (go_at_call 9; refine (BG.out _).mono ?_; rintro e w' ⟨rfl, rfl⟩) | (go_at_call 19; refine (BS.out _).mono ?_; rintro e w' ⟨rfl, rfl⟩) | (go_at_call 22; refine (BL.out _).mono ?_; rintro e w' ⟨rfl, rfl⟩))
        go_roundw
        case rel => first | exact ⟨.inr (.inl rfl), KR.cell c0 (by simp), KR.cell c1 (by simp), KP.trans KR⟩ | ((repeat apply Exists.intro); exact ⟨⟨.inr (.inl rfl), KR.cell c0 (by simp), KR.cell c1 (by simp), KP.trans KR⟩, rfl⟩)
        case measure => simp [intOf]
      · subst he
        have hs2 : ¬ hi < 0 := by rcases hs with ⟨g, _⟩ | ⟨_, g⟩; exact absurd g (by decide); exact g
        have hd : decide (hi < 0) = false := by simpa using hs2
        have hd2 : decide (R1 < 0) = false := by simp; omega
        have hd3 : (R1 != 0) = true := by simp; omega
        clear hs hs2
        have hc1 : R1 % 4294967296 = R1 := by omega
        have hc2 : R1 / 2147483648 = 0 := by omega
        have BG := Lib.hid b.signed
        have BS := Lib.hid b.sum
        have BL := Lib.hid b.less
        have hcv := b.conv
        clear b
        go_wp2_with (first | (go_at_call 16; refine (A1.out _).mono ?_; rintro e w' ⟨rfl, K⟩; replace KR := KR.trans K; clear K) | (go_at_call 9; refine (BG.out _).mono ?_; rintro e w' ⟨rfl, rfl⟩) | (go_at_call 19; refine (BS.out _).mono ?_; rintro e w' ⟨rfl, rfl⟩) | (go_at_call 22; refine (BL.out _).mono ?_; rintro e w' ⟨rfl, rfl⟩))
        go_roundw
        case rel => first | exact ⟨.inr (.inl rfl), KR.cell c0 (by simp), KR.cell c1 (by simp), KP.trans KR⟩ | ((repeat apply Exists.intro); exact ⟨⟨.inr (.inl rfl), KR.cell c0 (by simp), KR.cell c1 (by simp), KP.trans KR⟩, rfl⟩)
        case measure => simp [intOf]
    · obtain ⟨hr, hq, he⟩ | ⟨pl, ph, phu, b, hr, he⟩ | ⟨pl, ph, phu, b, hr, hs, he⟩ | ⟨pl, ph, phu, b, hr, hs, he⟩ := K2
      · subst hr hq he
        go_wp2_with (first | (go_at_call 16; refine (A1.out _).mono ?_; rintro e w' ⟨rfl, K⟩; replace KR := KR.trans K; clear K) | (go_at_call 17; refine (A2.out _).mono ?_; rintro e w' ⟨rfl, K⟩; replace KR := KR.trans K; clear K))
        go_roundw
        case rel => first | exact ⟨.inr (.inr rfl), KR.cell c0 (by simp), KR.cell c1 (by simp), KP.trans KR⟩ | ((repeat apply Exists.intro); exact ⟨⟨.inr (.inr rfl), KR.cell c0 (by simp), KR.cell c1 (by simp), KP.trans KR⟩, rfl⟩)
        case measure => simp [intOf]
      · subst hr he
        have BG := Lib.hid b.signed
        have BS := Lib.hid b.sum
        have BL := Lib.hid b.less
        have hcv := b.conv
        clear b
        go_wp2_with (first | (go_at_call 16; refine (A1.out _).mono ?_; rintro e w' ⟨rfl, K⟩; replace KR := KR.trans K; clear K) | (go_at_call 17; refine (A2.out _).mono ?_; rintro e w' ⟨rfl, K⟩; replace KR := KR.trans K; clear K) | (go_at_call 9; refine (BG.out _).mono ?_; rintro e w' ⟨rfl, rfl⟩) | (go_at_call 19; refine (BS.out _).mono ?_; rintro e w' ⟨rfl, rfl⟩) | (go_at_call 22; refine (BL.out _).mono ?_; rintro e w' ⟨rfl, rfl⟩))
        go_roundw
        case rel => first | exact ⟨.inr (.inr rfl), KR.cell c0 (by simp), KR.cell c1 (by simp), KP.trans KR⟩ | ((repeat apply Exists.intro); exact ⟨⟨.inr (.inr rfl), KR.cell c0 (by simp), KR.cell c1 (by simp), KP.trans KR⟩, rfl⟩)
        case measure => simp [intOf]
      · subst he
        have hs2 : n < 0 := by rcases hs with ⟨_, g⟩ | ⟨g, _⟩; exact g; exact absurd g (by decide)
        have hd : decide (n < 0) = true := by simpa using hs2
        have hd2 : decide (R2 < 0) = true := by simp; omega
        have hd3 : (R2 != 0) = true := by simp; omega
        clear hs hs2
        have hc1 : R2 % 4294967296 = R2 + 4294967296 := by omega
        have hc2 : R2 / 2147483648 = -1 := by omega
        have BG := Lib.hid b.signed
        have BS := Lib.hid b.sum
        have BL := Lib.hid b.less
        have hcv := b.conv
        clear b
        go_wp2_with (first | (go_at_call 16; refine (A1.out _).mono ?_; rintro e w' ⟨rfl, K⟩; replace KR := KR.trans K; clear K) | (go_at_call 17; refine (A2.out _).mono ?_; rintro e w' ⟨rfl, K⟩; replace KR := KR.trans K; clear K) | (go_at_call 9; refine (BG.out _).mono ?_; rintro e w' ⟨rfl, rfl⟩) | (go_at_call 19; refine (BS.out _).mono ?_; rintro e w' ⟨rfl, rfl⟩) | (go_at_call 22; refine (BL.out _).mono ?_; rintro e w' ⟨rfl, rfl⟩))
        go_roundw
        case rel => first | exact ⟨.inr (.inr rfl), KR.cell c0 (by simp), KR.cell c1 (by simp), KP.trans KR⟩ | ((repeat apply Exists.intro); exact ⟨⟨.inr (.inr rfl), KR.cell c0 (by simp), KR.cell c1 (by simp), KP.trans KR⟩, rfl⟩)
        case measure => simp [intOf]
      · subst he
        have hs2 : ¬ n < 0 := by rcases hs with ⟨_, g⟩ | ⟨g, _⟩; exact g; exact absurd g (by decide)
        have hd : decide (n < 0) = false := by simpa using hs2
        have hd2 : decide (R2 < 0) = false := by simp; omega
        have hd3 : (R2 != 0) = true := by simp; omega
        clear hs hs2
        have hc1 : R2 % 4294967296 = R2 := by omega
        have hc2 : R2 / 2147483648 = 0 := by omega
        have BG := Lib.hid b.signed
        have BS := Lib.hid b.sum
        have BL := Lib.hid b.less
        have hcv := b.conv
        clear b
        go_wp2_with (first | (go_at_call 16; refine (A1.out _).mono ?_; rintro e w' ⟨rfl, K⟩; replace KR := KR.trans K; clear K) | (go_at_call 17; refine (A2.out _).mono ?_; rintro e w' ⟨rfl, K⟩; replace KR := KR.trans K; clear K) | (go_at_call 9; refine (BG.out _).mono ?_; rintro e w' ⟨rfl, rfl⟩) | (go_at_call 19; refine (BS.out _).mono ?_; rintro e w' ⟨rfl, rfl⟩) | (go_at_call 22; refine (BL.out _).mono ?_; rintro e w' ⟨rfl, rfl⟩))
        go_roundw
        case rel => first | exact ⟨.inr (.inr rfl), KR.cell c0 (by simp), KR.cell c1 (by simp), KP.trans KR⟩ | ((repeat apply Exists.intro); exact ⟨⟨.inr (.inr rfl), KR.cell c0 (by simp), KR.cell c1 (by simp), KP.trans KR⟩, rfl⟩)
        case measure => simp [intOf]
    · go_wp2_with (go_at_call 21; refine (awake7_any _).mono ?_; rintro e w' ⟨rfl, K⟩; replace KR := KR.trans K; clear K)
      go_ret
      exact ⟨rfl, KP.trans KR⟩

theorem CellDivides_any (w : World) (lo hi n : Int) (l0 : 0 ≤ lo) (l1 : lo ≤ 4294967295) (h0 : -2147483648 ≤ hi) (h1 : hi ≤ 2147483647) (n1 : -2147483648 ≤ n) (n2 : n ≤ 2147483647) :
    Calls Try.prog 4 #[.int .u32 lo, .int .i32 hi, .int .i32 n] w fun e w' => e = .returned (.bool true) ∧ Keeps [] w w' := by
  by_cases n0 : n = 0
  · exact CellDivides_zero w lo hi n l0 l1 h0 h1 n1 n2 n0
  · by_cases g : 4294967296 ≤ (hi % 4294967296 * 4294967296 + lo) / (n % 4294967296)
    · exact CellDivides_big w lo hi n l0 l1 h0 h1 n1 n2 n0 g
    · exact CellDivides_tells w lo hi n l0 l1 h0 h1 n1 n2 n0 (by omega)
end Go.Proofs.Ytlnmbfddhdjioaa
