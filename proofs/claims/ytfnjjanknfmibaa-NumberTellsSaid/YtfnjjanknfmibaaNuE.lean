/-
  Package number: Read; Step.
-/
import Derived.Test.YtfnjjanknfmibaaNuD
import Derived.Deep.QuietTactic
import Derived.BigQuiet
namespace Go.Proofs.Ytfnjjanknfmibaa
open Go.RowKit Go.Deep
set_option linter.unusedVariables false

theorem uns_len : ∀ (l : List UInt8) (f : Bool) (b : Nat) (m : Bool), (unsG f b m l).1.length ≤ l.length := by
  intro l
  induction l with
  | nil => intro f b m; simp [unsG]
  | cons c u ih =>
    intro f b m
    unfold unsG
    split
    · have := ih false 10 m; simp; omega
    · split
      · have := ih false 16 m; simp; omega
      · split
        · have := ih false 2 m; simp; omega
        · split
          · have := ih false b true; simp; omega
          · simp
theorem cut_len (l : List UInt8) : (cutP l).1.length ≤ l.length := by
  unfold cutP
  split <;> simp

theorem neg_or (n : Nat) (hn : n < 18446744073709551616) : (negN n + n = 18446744073709551616 ∧ negN n < 18446744073709551616) ∨ (negN n = 0 ∧ n = 0) := by
  by_cases h : n = 0
  · subst h
    exact .inr ⟨by decide, rfl⟩
  · left
    have e : negN n = 18446744073709551616 - n := Nat.mod_eq_of_lt (by omega)
    rw [e]
    omega
theorem cNeg_to (w : World) (n : Nat) (hn : n < 18446744073709551616) (lo hi : Nat) (hlo : lo = n % 4294967296) (hhi : hi = n / 4294967296) (p q : Nat) (hp : p = negN n % 4294967296) (hq : q = negN n / 4294967296) :
    Calls Try.prog 50 #[.int .u32 (lo : Int), .int .u32 (hi : Int)] w fun e w' => e = .returned (.tuple #[.int .u32 (p : Int), .int .u32 (q : Int)]) ∧ w = w' := by
  have k := cNegative_any w (lo : Int) (hi : Int) (by omega) (by omega) (by omega) (by omega)
  obtain ⟨m, hm⟩ : ∃ m, m = negN n := ⟨_, rfl⟩
  have hm2 := neg_or n hn
  rw [← hm] at hp hq hm2
  have e0 : (hi : Int) * 4294967296 + (lo : Int) = (n : Int) := by omega
  have e1 : (-(n : Int)) % 18446744073709551616 = (m : Int) := by omega
  have e2 : (-(n : Int)) % 4294967296 = (p : Int) := by omega
  have e3 : (m : Int) / 4294967296 = (q : Int) := by omega
  rw [e0, e1, e2, e3] at k
  exact k

theorem val_lt {b : Nat} {l : List UInt8} {n : Nat} (h : valN b l = some n) : n < 18446744073709551616 := by
  unfold valN at h
  split at h
  · cases h
  · exact fold_lt b l _ n (fun m h => by injection h with h; omega) h

theorem readV_big (mi : Bool) (n : Nat) (h : 4294967296 ≤ n) : readV false mi (some n) = ⟨0, 0, false, false⟩ := by
  show (if false = false ∧ 4294967296 ≤ n then (⟨0, 0, false, false⟩ : RdN) else _) = _
  rw [if_pos ⟨rfl, h⟩]
theorem readV_dbl (n : Nat) : readV true false (some n) = ⟨n % 4294967296, n / 4294967296, true, true⟩ ∧ readV true true (some n) = ⟨negN n % 4294967296, negN n / 4294967296, true, true⟩ := by
  constructor
  · show (if true = false ∧ 4294967296 ≤ n then (⟨0, 0, false, false⟩ : RdN) else _) = _
    simp only [Bool.false_eq_true, Bool.true_eq_false, false_and, if_false, if_true]
  · show (if true = false ∧ 4294967296 ≤ n then (⟨0, 0, false, false⟩ : RdN) else _) = _
    simp only [Bool.true_eq_false, false_and, if_false, if_true]
theorem readV_one (n : Nat) (h : n < 4294967296) : readV false false (some n) = ⟨n % 4294967296, 0, false, true⟩ ∧ readV false true (some n) = ⟨negN n % 4294967296, 0, false, true⟩ := by
  constructor
  · show (if false = false ∧ 4294967296 ≤ n then (⟨0, 0, false, false⟩ : RdN) else _) = _
    rw [if_neg (fun h => by omega)]
    simp only [Bool.false_eq_true, if_false]
  · show (if false = false ∧ 4294967296 ≤ n then (⟨0, 0, false, false⟩ : RdN) else _) = _
    rw [if_neg (fun h => by omega)]
    simp only [Bool.false_eq_true, if_false, if_true]

set_option maxRecDepth 100000 in
set_option maxHeartbeats 1000000 in
theorem nRead_any (w : World) (l : List UInt8) (b : Nat) (hl : l.length ≤ maxLen) : Calls Try.prog 26 #[str l, .int .u32 (b : Int)] w fun e w' =>
    e = .returned (.tuple #[.int .u32 ((readN l b).low : Int), .int .u32 ((readN l b).high : Int), .bool (readN l b).dbl, .bool (readN l b).ok]) ∧ Keeps [] w w' := by
  have HQ := Lib.hid (nQuoted_any w l)
  have HU := Lib.hid (nUnsigned_any w l b)
  have h1 := uns_len l true b false
  have h2 := cut_len (unsG true b false l).1
  have HC := Lib.hid (fun W => nCut_any W (unsG true b false l).1 (by omega))
  have HV := Lib.hid (fun W => nValueIn_any W (cutP (unsG true b false l).1).1 (unsG true b false l).2.1 (by omega))
  unfold readN
  cases hq : quoN l with
  | some c =>
    rw [hq] at HQ
    simp only [Option.getD_some, Option.isSome_some] at HQ
    clear hq h1 h2 HU HC HV
    unfold str at *
    generalize ByteArray.mk l.toArray = S at *
    go_enter Try.func26, Try.ntmps26
    go_wp2_with (go_at_call 46; refine HQ.out.mono ?_; rintro e w' ⟨rfl, rfl⟩)
    exact bodyPost_ret (v := .tuple #[.int .u32 (c : Int), .int .u32 0, .bool false, .bool true]) (by simp [results, Try.results26, go_sem]) rfl ⟨rfl, Keeps.refl _ _⟩
  | none =>
    rw [hq] at HQ
    simp only [Option.getD_none, Option.isSome_none] at HQ
    have hvl : ∀ n, valN (unsG true b false l).2.1 (cutP (unsG true b false l).1).1 = some n → n < 18446744073709551616 := fun n h => val_lt h
    clear hq h1 h2 hl
    generalize valN (unsG true b false l).2.1 (cutP (unsG true b false l).1).1 = V at *
    unfold str at *
    generalize ByteArray.mk l.toArray = S at *
    generalize ByteArray.mk (cutP (unsG true b false l).1).1.toArray = S3 at *
    generalize (cutP (unsG true b false l).1).2 = dbl at *
    generalize (unsG true b false l).2.2 = mi at *
    generalize (unsG true b false l).2.1 = bb at *
    generalize ByteArray.mk (unsG true b false l).1.toArray = S2 at *
    cases V with
    | none =>
      have e : readV dbl mi none = ⟨0, 0, false, false⟩ := rfl
      rw [e]
      have z1 : lowO none = 0 := by decide
      have z2 : highO none = 0 := by decide
      rw [z1, z2] at HV
      simp only [Option.isSome_none] at HV
      clear e z1 z2 hvl
      go_enter Try.func26, Try.ntmps26
      go_wp2_with (first
        | (go_at_call 46; refine HQ.out.mono ?_; rintro e w' ⟨rfl, rfl⟩)
        | (go_at_call 47; refine HU.out.mono ?_; rintro e w2 ⟨rfl, hk⟩; have HK := Lib.hid hk; clear hk)
        | (go_at_call 48; refine (HC.out _).mono ?_; rintro e w' ⟨rfl, rfl⟩)
        | (go_at_call 49; refine (HV.out _).mono ?_; rintro e w' ⟨rfl, rfl⟩))
      exact bodyPost_ret (v := .tuple #[.int .u32 0, .int .u32 0, .bool false, .bool false]) (by simp [results, Try.results26, go_sem]) rfl ⟨rfl, HK.out⟩
    | some n =>
      have hn := hvl n rfl
      obtain ⟨lo, hlo⟩ : ∃ lo, lo = n % 4294967296 := ⟨_, rfl⟩
      obtain ⟨hi, hhi⟩ : ∃ hi, hi = n / 4294967296 := ⟨_, rfl⟩
      have e1 : lowO (some n) = lo := by unfold lowO; rw [Option.getD_some, ← hlo]
      have e2 : highO (some n) = hi := by unfold highO; rw [Option.getD_some, ← hhi]
      rw [e1, e2] at HV
      simp only [Option.isSome_some] at HV
      obtain ⟨p, hp⟩ : ∃ p, p = negN n % 4294967296 := ⟨_, rfl⟩
      obtain ⟨q, hq⟩ : ∃ q, q = negN n / 4294967296 := ⟨_, rfl⟩
      have HNG := Lib.hid (fun W => cNeg_to W n hn lo hi hlo hhi p q hp hq)
      have HLO := Lib.hid (And.intro hlo hhi)
      have HPQ := Lib.hid (And.intro hp hq)
      have HI0 := Lib.hid (show hi = 0 ↔ n < 4294967296 by omega)
      have HN := Lib.hid hn
      clear e1 e2 hlo hhi hp hq hn hvl
      have ways : (dbl = false ∧ hi ≠ 0) ∨ (dbl = true ∧ hi = 0) ∨ (dbl = true ∧ hi ≠ 0) ∨ (dbl = false ∧ hi = 0) := by cases dbl <;> simp <;> omega
      rcases ways with ⟨rfl, hz⟩ | ⟨rfl, hz⟩ | ⟨rfl, hz⟩ | ⟨rfl, hz⟩
      · have e : readV false mi (some n) = ⟨0, 0, false, false⟩ := readV_big mi n (by have := HI0.out; omega)
        rw [e]
        have z1 : ((hi : Int) == 0) = false := by simp; omega
        have z2 : ((hi : Int) != 0) = true := by simp; omega
        clear e hz
        go_enter Try.func26, Try.ntmps26
        go_wp2_with (first
          | (go_at_call 46; refine HQ.out.mono ?_; rintro e w' ⟨rfl, rfl⟩)
          | (go_at_call 47; refine HU.out.mono ?_; rintro e w2 ⟨rfl, hk⟩; have HK := Lib.hid hk; clear hk)
          | (go_at_call 48; refine (HC.out _).mono ?_; rintro e w' ⟨rfl, rfl⟩)
          | (go_at_call 49; refine (HV.out _).mono ?_; rintro e w' ⟨rfl, rfl⟩))
        exact bodyPost_ret (v := .tuple #[.int .u32 0, .int .u32 0, .bool false, .bool false]) (by simp [results, Try.results26, go_sem]) rfl ⟨rfl, HK.out⟩
      · -- double, no high cell
        have HZ := Lib.hid hz
        subst hz
        cases mi
        · have e : readV true false (some n) = ⟨lo, 0, true, true⟩ := by rw [(readV_dbl n).1, ← HLO.out.1, ← HLO.out.2]
          rw [e]
          clear e
          go_enter Try.func26, Try.ntmps26
          go_wp2_with (first
            | (go_at_call 46; refine HQ.out.mono ?_; rintro e w' ⟨rfl, rfl⟩)
            | (go_at_call 47; refine HU.out.mono ?_; rintro e w2 ⟨rfl, hk⟩; have HK := Lib.hid hk; clear hk)
            | (go_at_call 48; refine (HC.out _).mono ?_; rintro e w' ⟨rfl, rfl⟩)
            | (go_at_call 49; refine (HV.out _).mono ?_; rintro e w' ⟨rfl, rfl⟩))
          exact bodyPost_ret (v := .tuple #[.int .u32 (lo : Int), .int .u32 0, .bool true, .bool true]) (by simp [results, Try.results26, go_sem]) rfl ⟨rfl, HK.out⟩
        · have e : readV true true (some n) = ⟨p, q, true, true⟩ := by rw [(readV_dbl n).2, ← HPQ.out.1, ← HPQ.out.2]
          rw [e]
          clear e
          go_enter Try.func26, Try.ntmps26
          go_wp2_with (first
            | (go_at_call 46; refine HQ.out.mono ?_; rintro e w' ⟨rfl, rfl⟩)
            | (go_at_call 47; refine HU.out.mono ?_; rintro e w2 ⟨rfl, hk⟩; have HK := Lib.hid hk; clear hk)
            | (go_at_call 48; refine (HC.out _).mono ?_; rintro e w' ⟨rfl, rfl⟩)
            | (go_at_call 49; refine (HV.out _).mono ?_; rintro e w' ⟨rfl, rfl⟩)
            | (go_at_call 50; refine (HNG.out _).mono ?_; rintro e w' ⟨rfl, rfl⟩))
          exact bodyPost_ret (v := .tuple #[.int .u32 (p : Int), .int .u32 (q : Int), .bool true, .bool true]) (by simp [results, Try.results26, go_sem]) rfl ⟨rfl, HK.out⟩
      · -- double, a high cell
        have z1 : ((hi : Int) == 0) = false := by simp; omega
        have z2 : ((hi : Int) != 0) = true := by simp; omega
        clear hz
        cases mi
        · have e : readV true false (some n) = ⟨lo, hi, true, true⟩ := by rw [(readV_dbl n).1, ← HLO.out.1, ← HLO.out.2]
          rw [e]
          clear e
          go_enter Try.func26, Try.ntmps26
          go_wp2_with (first
            | (go_at_call 46; refine HQ.out.mono ?_; rintro e w' ⟨rfl, rfl⟩)
            | (go_at_call 47; refine HU.out.mono ?_; rintro e w2 ⟨rfl, hk⟩; have HK := Lib.hid hk; clear hk)
            | (go_at_call 48; refine (HC.out _).mono ?_; rintro e w' ⟨rfl, rfl⟩)
            | (go_at_call 49; refine (HV.out _).mono ?_; rintro e w' ⟨rfl, rfl⟩))
          exact bodyPost_ret (v := .tuple #[.int .u32 (lo : Int), .int .u32 (hi : Int), .bool true, .bool true]) (by simp [results, Try.results26, go_sem]) rfl ⟨rfl, HK.out⟩
        · have e : readV true true (some n) = ⟨p, q, true, true⟩ := by rw [(readV_dbl n).2, ← HPQ.out.1, ← HPQ.out.2]
          rw [e]
          clear e
          go_enter Try.func26, Try.ntmps26
          go_wp2_with (first
            | (go_at_call 46; refine HQ.out.mono ?_; rintro e w' ⟨rfl, rfl⟩)
            | (go_at_call 47; refine HU.out.mono ?_; rintro e w2 ⟨rfl, hk⟩; have HK := Lib.hid hk; clear hk)
            | (go_at_call 48; refine (HC.out _).mono ?_; rintro e w' ⟨rfl, rfl⟩)
            | (go_at_call 49; refine (HV.out _).mono ?_; rintro e w' ⟨rfl, rfl⟩)
            | (go_at_call 50; refine (HNG.out _).mono ?_; rintro e w' ⟨rfl, rfl⟩))
          exact bodyPost_ret (v := .tuple #[.int .u32 (p : Int), .int .u32 (q : Int), .bool true, .bool true]) (by simp [results, Try.results26, go_sem]) rfl ⟨rfl, HK.out⟩
      · -- one cell
        have hn4 : n < 4294967296 := HI0.out.1 hz
        subst hz
        cases mi
        · have e : readV false false (some n) = ⟨lo, 0, false, true⟩ := by rw [(readV_one n hn4).1, ← HLO.out.1]
          rw [e]
          clear e hn4
          go_enter Try.func26, Try.ntmps26
          go_wp2_with (first
            | (go_at_call 46; refine HQ.out.mono ?_; rintro e w' ⟨rfl, rfl⟩)
            | (go_at_call 47; refine HU.out.mono ?_; rintro e w2 ⟨rfl, hk⟩; have HK := Lib.hid hk; clear hk)
            | (go_at_call 48; refine (HC.out _).mono ?_; rintro e w' ⟨rfl, rfl⟩)
            | (go_at_call 49; refine (HV.out _).mono ?_; rintro e w' ⟨rfl, rfl⟩))
          exact bodyPost_ret (v := .tuple #[.int .u32 (lo : Int), .int .u32 0, .bool false, .bool true]) (by simp [results, Try.results26, go_sem]) rfl ⟨rfl, HK.out⟩
        · have e : readV false true (some n) = ⟨p, 0, false, true⟩ := by rw [(readV_one n hn4).2, ← HPQ.out.1]
          rw [e]
          clear e hn4
          go_enter Try.func26, Try.ntmps26
          go_wp2_with (first
            | (go_at_call 46; refine HQ.out.mono ?_; rintro e w' ⟨rfl, rfl⟩)
            | (go_at_call 47; refine HU.out.mono ?_; rintro e w2 ⟨rfl, hk⟩; have HK := Lib.hid hk; clear hk)
            | (go_at_call 48; refine (HC.out _).mono ?_; rintro e w' ⟨rfl, rfl⟩)
            | (go_at_call 49; refine (HV.out _).mono ?_; rintro e w' ⟨rfl, rfl⟩)
            | (go_at_call 50; refine (HNG.out _).mono ?_; rintro e w' ⟨rfl, rfl⟩))
          exact bodyPost_ret (v := .tuple #[.int .u32 (p : Int), .int .u32 0, .bool false, .bool true]) (by simp [results, Try.results26, go_sem]) rfl ⟨rfl, HK.out⟩

/-- The text of all digits. -/
def allD : List UInt8 := [48, 49, 50, 51, 52, 53, 54, 55, 56, 57, 65, 66, 67, 68, 69, 70, 71, 72, 73, 74, 75, 76, 77, 78, 79, 80, 81, 82, 83, 84, 85, 86, 87, 88, 89, 90]
theorem allD_at (v : Nat) (h : v < 36) : allD[v]? = some (letN v) := by
  have h0 : (List.range 36).all (fun v => decide (allD[v]? = some (letN v))) = true := by decide +kernel
  exact of_decide_eq_true (List.all_eq_true.1 h0 v (List.mem_range.2 h))
theorem run_str_atK (w : World) (ki : IntKind) (l : List UInt8) (k : Nat) (c : UInt8) (h : l[k]? = some c) : (Instr.index 9 (.string ⟨l.toArray⟩) (.int ki k)).run Try.prog w = .ok (bv c) w := by
  have hk := (List.getElem?_eq_some_iff.1 h).1
  have hv := (List.getElem?_eq_some_iff.1 h).2
  rw [run_index_string w 9 _ ki _ Try.underlying9, dif_pos ⟨by omega, by rw [str_size]; omega⟩]
  have : ((ByteArray.mk l.toArray)[((k : Int)).toNat]'(by rw [str_size]; omega)) = c := by
    rw [← hv]; rfl
  rw [this]; rfl

theorem step_div (hi lo b : Nat) (hb : 2 ≤ b) (hb2 : b ≤ 36) (hlo : lo < 4294967296) (hhi : hi < 4294967296) :
    (hi * 4294967296 + lo) / b = hi / b * 4294967296 + (hi % b * 4294967296 + lo) / b ∧ (hi * 4294967296 + lo) % b = (hi % b * 4294967296 + lo) % b ∧ (hi % b * 4294967296 + lo) / b < 4294967296 := by
  have e : hi * 4294967296 + lo = (hi % b * 4294967296 + lo) + b * (hi / b * 4294967296) := by
    have := Nat.div_add_mod hi b
    have h2 : b * (hi / b * 4294967296) = b * (hi / b) * 4294967296 := (Nat.mul_assoc _ _ _).symm
    rw [h2]
    omega
  refine ⟨?_, ?_, ?_⟩
  · rw [e, Nat.add_mul_div_left _ _ (by omega)]; omega
  · rw [e, Nat.add_mul_mod_self_left]
  · have := Nat.mod_lt hi (show 0 < b by omega)
    refine Nat.div_lt_of_lt_mul ?_
    have h3 : hi % b * 4294967296 + lo < (hi % b + 1) * 4294967296 := by omega
    exact Nat.lt_of_lt_of_le h3 (Nat.mul_le_mul_right _ this)

set_option maxRecDepth 100000 in
set_option maxHeartbeats 1000000 in
theorem nStep_ok (w : World) (lo hi b : Nat) (hb : 2 ≤ b ∧ b ≤ 36) (hlo : lo < 4294967296) (hhi : hi < 4294967296) (n : Nat) (hn : n = hi * 4294967296 + lo) (l1 h1 : Nat) (hl1 : l1 = n / b % 4294967296) (hh1 : h1 = n / b / 4294967296) (c : UInt8) (hc : c = letN (n % b)) :
    Calls Try.prog 28 #[.int .u32 (lo : Int), .int .u32 (hi : Int), .int .u32 (b : Int)] w fun e w' => e = .returned (.tuple #[.int .u32 (l1 : Int), .int .u32 (h1 : Int), bv c, .bool true]) ∧ Keeps [] w w' := by
  obtain ⟨s1, s2, s3⟩ := step_div hi lo b hb.1 hb.2 hlo hhi
  rw [← hn] at s1 s2
  obtain ⟨L, hL⟩ : ∃ L, L = hi % b := ⟨_, rfl⟩
  rw [← hL] at s1 s2 s3
  obtain ⟨R, hR⟩ : ∃ R, R = (L * 4294967296 + lo) % b := ⟨_, rfl⟩
  obtain ⟨Q, hQ⟩ : ∃ Q, Q = (L * 4294967296 + lo) / b := ⟨_, rfl⟩
  have hRb : R < b := by rw [hR]; exact Nat.mod_lt _ (by omega)
  have hLb : L < b := by rw [hL]; exact Nat.mod_lt _ (by omega)
  have hdv : hi / b < 4294967296 := Nat.lt_of_le_of_lt (Nat.div_le_self _ _) hhi
  rw [← hQ] at s1 s3
  rw [← hR] at s2
  have q1 : l1 = Q := by rw [hl1, s1]; omega
  have q2 : h1 = hi / b := by rw [hh1, s1]; omega
  rw [s2] at hc
  have HB := Lib.hid (nIsBase_any w b)
  rw [decide_eq_true hb] at HB
  have HD1 := Lib.hid (show Calls Try.prog 54 #[.int .u32 (hi : Int), .int .u32 0, .int .u32 (b : Int)] w fun e w' => e = .returned (.tuple #[.int .u32 (L : Int), .int .u32 (h1 : Int), .int .i32 0]) ∧ Keeps [] w w' by
    have k := cDivide_small w (hi : Int) 0 (b : Int) (by omega) (by omega) (by decide) (by decide) (by omega) (by omega) (by rw [Int.zero_mul, Int.zero_add]; omega)
    rw [Int.zero_mul, Int.zero_add, ← Int.natCast_emod, ← Int.natCast_ediv, ← hL, ← q2] at k
    exact k)
  have HD2 := Lib.hid (fun W => show Calls Try.prog 54 #[.int .u32 (lo : Int), .int .u32 (L : Int), .int .u32 (b : Int)] W fun e w' => e = .returned (.tuple #[.int .u32 (R : Int), .int .u32 (l1 : Int), .int .i32 0]) ∧ Keeps [] W w' by
    have eq : ((L : Int) * 4294967296 + (lo : Int)) = ((L * 4294967296 + lo : Nat) : Int) := by omega
    have k := cDivide_small W (lo : Int) (L : Int) (b : Int) (by omega) (by omega) (by omega) (by omega) (by omega) (by omega) (by rw [eq, ← Int.natCast_ediv, ← hQ]; omega)
    rw [eq, ← Int.natCast_ediv, ← Int.natCast_emod, ← hQ, ← hR, ← q1] at k
    exact k)
  have hix : ∀ W, (Instr.index 9 (.string ⟨#[48, 49, 50, 51, 52, 53, 54, 55, 56, 57, 65, 66, 67, 68, 69, 70, 71, 72, 73, 74, 75, 76, 77, 78, 79, 80, 81, 82, 83, 84, 85, 86, 87, 88, 89, 90]⟩) (.int .u32 (R : Int))).run Try.prog W = .ok (bv c) W := fun W => run_str_atK W .u32 allD R c (by rw [hc]; exact allD_at R (by omega))
  clear s1 s2 s3 hL hR hQ hRb hLb hdv q1 q2 hl1 hh1 hc hn
  unfold bv at hix ⊢
  generalize c.toNat = cn at *
  go_enter Try.func28, Try.ntmps28
  go_upto_region 3 with (go_at_call 45; refine HB.out.mono ?_; rintro e w' ⟨rfl, rfl⟩)
  go_upto_region 4 with (go_at_call 54; refine HD1.out.mono ?_; rintro e w1 ⟨rfl, hk1⟩; have HK1 := Lib.hid hk1; clear hk1)
  go_upto_region 5 with (go_at_call 54; refine (HD2.out _).mono ?_; rintro e w2 ⟨rfl, hk2⟩; have HK2 := Lib.hid hk2; clear hk2)
  go_quiet (fail)
  go_wp2
  exact bodyPost_ret (v := .tuple #[.int .u32 (l1 : Int), .int .u32 (h1 : Int), .int .u8 (cn : Int), .bool true]) (by simp [results, Try.results28, go_sem]) rfl ⟨rfl, (HK1.out.trans HK2.out).trans (Keeps.drewN _ _ _)⟩
end Go.Proofs.Ytfnjjanknfmibaa
