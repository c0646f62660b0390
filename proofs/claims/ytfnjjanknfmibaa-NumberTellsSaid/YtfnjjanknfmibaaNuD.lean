/-
  Package number: the value of digits; Read.
-/
import Derived.Test.YtfnjjanknfmibaaNuC
import Derived.Deep.Cut
namespace Go.Proofs.Ytfnjjanknfmibaa
open Go.RowKit Go.Deep
set_option linter.unusedVariables false

theorem cProduct_to (w : World) (a b p q : Int) (a0 : 0 ≤ a) (a1 : a < 4294967296) (b0 : 0 ≤ b) (b1 : b < 4294967296) (h : a * b = q * 4294967296 + p) (p0 : 0 ≤ p) (p1 : p < 4294967296) :
    Calls Try.prog 82 #[.int .u32 a, .int .u32 b] w fun e w' => e = .returned (.tuple #[.int .u32 p, .int .u32 q]) ∧ w = w' := by
  have k := cProduct_any w a b a0 a1 b0 b1
  rw [h, show (q * 4294967296 + p) % 4294967296 = p by omega, show (q * 4294967296 + p) / 4294967296 = q by omega] at k
  exact k
theorem cSumD_to (w : World) (a b c p q : Int) (a0 : 0 ≤ a) (a1 : a < 4294967296) (b0 : 0 ≤ b) (b1 : b < 4294967296) (c0 : 0 ≤ c) (c1 : c < 4294967296) (h : b * 4294967296 + a + c = q * 4294967296 + p) (p0 : 0 ≤ p) (p1 : p < 4294967296) (q1 : q < 4294967296) :
    Calls Try.prog 83 #[.int .u32 a, .int .u32 b, .int .u32 c, .int .u32 0] w fun e w' => e = .returned (.tuple #[.int .u32 p, .int .u32 q]) ∧ w = w' := by
  have k := cSum_any w a b c 0 a0 a1 b0 b1 c0 c1 (by decide) (by decide)
  rw [show b * 4294967296 + a + (0 * 4294967296 + c) = q * 4294967296 + p by omega, show (q * 4294967296 + p) % 4294967296 = p by omega, show (q * 4294967296 + p) % 18446744073709551616 / 4294967296 = q by omega] at k
  exact k

theorem nBehind_int (w : World) (lo hi b d p q l1 c1 p2 q2 h1 o : Int) (lo0 : 0 ≤ lo) (lo1 : lo < 4294967296) (hi0 : 0 ≤ hi) (hi1 : hi < 4294967296) (b0 : 0 ≤ b) (b1 : b < 4294967296) (d0 : 0 ≤ d) (d1 : d < 4294967296)
    (e1 : lo * b = q * 4294967296 + p) (p0 : 0 ≤ p) (p1 : p < 4294967296) (q0 : 0 ≤ q) (q1 : q < 4294967296) (e2 : q * 4294967296 + p + d = c1 * 4294967296 + l1) (l10 : 0 ≤ l1) (l11 : l1 < 4294967296) (c10 : 0 ≤ c1) (c11 : c1 < 4294967296)
    (e3 : hi * b = q2 * 4294967296 + p2) (p20 : 0 ≤ p2) (p21 : p2 < 4294967296) (q20 : 0 ≤ q2) (q21 : q2 < 4294967296) (e4 : q2 * 4294967296 + p2 + c1 = o * 4294967296 + h1) (h10 : 0 ≤ h1) (h11 : h1 < 4294967296) (o0 : 0 ≤ o) (o1 : o < 4294967296) :
    Calls Try.prog 72 #[.int .u32 lo, .int .u32 hi, .int .u32 b, .int .u32 d] w fun e w' => e = .returned (if o = 0 then .tuple #[.int .u32 l1, .int .u32 h1, .bool true] else .tuple #[.int .u32 0, .int .u32 0, .bool false]) ∧ w = w' := by
  have H1 := Lib.hid (cProduct_to w lo b p q lo0 lo1 b0 b1 e1 p0 p1)
  have H2 := Lib.hid (cSumD_to w p q d l1 c1 p0 p1 q0 q1 d0 d1 e2 l10 l11 c11)
  have H3 := Lib.hid (cProduct_to w hi b p2 q2 hi0 hi1 b0 b1 e3 p20 p21)
  have H4 := Lib.hid (cSumD_to w p2 q2 c1 h1 o p20 p21 q20 q21 c10 c11 e4 h10 h11 o1)
  clear e1 e2 e3 e4 p0 p1 q0 q1 l10 l11 c10 c11 p20 p21 q20 q21 h10 h11 lo0 lo1 hi0 hi1 b0 b1 d0 d1
  by_cases ho : o = 0
  · rw [if_pos ho]
    subst ho
    go_enter Try.func72, Try.ntmps72
    go_upto_region 2 with (go_at_call 82; refine H1.out.mono ?_; rintro e w' ⟨rfl, rfl⟩)
    go_upto_region 3 with (go_at_call 83; refine H2.out.mono ?_; rintro e w' ⟨rfl, rfl⟩)
    go_upto_region 4 with (go_at_call 82; refine H3.out.mono ?_; rintro e w' ⟨rfl, rfl⟩)
    go_wp2_with (go_at_call 83; refine H4.out.mono ?_; rintro e w' ⟨rfl, rfl⟩)
    exact bodyPost_ret (v := .tuple #[.int .u32 l1, .int .u32 h1, .bool true]) (by simp [results, Try.results72, go_sem]) rfl ⟨rfl, rfl⟩
  · rw [if_neg ho]
    have h1' : (o == 0) = false := by simpa using ho
    have h2' : (o != 0) = true := by simpa using ho
    clear ho
    go_enter Try.func72, Try.ntmps72
    go_upto_region 2 with (go_at_call 82; refine H1.out.mono ?_; rintro e w' ⟨rfl, rfl⟩)
    go_upto_region 3 with (go_at_call 83; refine H2.out.mono ?_; rintro e w' ⟨rfl, rfl⟩)
    go_upto_region 4 with (go_at_call 82; refine H3.out.mono ?_; rintro e w' ⟨rfl, rfl⟩)
    go_wp2_with (go_at_call 83; refine H4.out.mono ?_; rintro e w' ⟨rfl, rfl⟩)
    exact bodyPost_ret (v := .tuple #[.int .u32 0, .int .u32 0, .bool false]) (by simp [results, Try.results72, go_sem]) rfl ⟨rfl, rfl⟩

/-- One digit more behind a value. -/
theorem nBehind_any (w : World) (v b d : Nat) (hv : v < 18446744073709551616) (hb : b ≤ 36) (hd : d < 36) (lo hi : Nat) (hlo : lo = v % 4294967296) (hhi : hi = v / 4294967296) :
    Calls Try.prog 72 #[.int .u32 (lo : Int), .int .u32 (hi : Int), .int .u32 (b : Int), .int .u32 (d : Int)] w fun e w' =>
      e = .returned (if v * b + d < 18446744073709551616 then .tuple #[.int .u32 (((v * b + d) % 4294967296 : Nat) : Int), .int .u32 (((v * b + d) / 4294967296 : Nat) : Int), .bool true] else .tuple #[.int .u32 0, .int .u32 0, .bool false]) ∧ w = w' := by
  obtain ⟨X, hX⟩ : ∃ X, X = lo * b := ⟨_, rfl⟩
  obtain ⟨Z, hZ⟩ : ∃ Z, Z = hi * b := ⟨_, rfl⟩
  have bX : X ≤ 4294967295 * 36 := by rw [hX]; exact Nat.mul_le_mul (by omega) hb
  have bZ : Z ≤ 4294967295 * 36 := by rw [hZ]; exact Nat.mul_le_mul (by omega) hb
  have hvb : v * b = Z * 4294967296 + X := by
    have e : v = hi * 4294967296 + lo := by omega
    rw [e, Nat.add_mul, hX, hZ, Nat.mul_right_comm]
  obtain ⟨x, hx⟩ : ∃ x, x = X + d := ⟨_, rfl⟩
  obtain ⟨y, hy⟩ : ∃ y, y = Z + x / 4294967296 := ⟨_, rfl⟩
  have k := nBehind_int w (lo : Int) (hi : Int) (b : Int) (d : Int) ((X % 4294967296 : Nat) : Int) ((X / 4294967296 : Nat) : Int) ((x % 4294967296 : Nat) : Int) ((x / 4294967296 : Nat) : Int) ((Z % 4294967296 : Nat) : Int) ((Z / 4294967296 : Nat) : Int) ((y % 4294967296 : Nat) : Int) ((y / 4294967296 : Nat) : Int)
    (by omega) (by omega) (by omega) (by omega) (by omega) (by omega) (by omega) (by omega)
    (by rw [← Int.natCast_mul, ← hX]; omega) (by omega) (by omega) (by omega) (by omega) (by omega) (by omega) (by omega) (by omega) (by omega)
    (by rw [← Int.natCast_mul, ← hZ]; omega) (by omega) (by omega) (by omega) (by omega) (by omega) (by omega) (by omega) (by omega) (by omega)
  refine k.mono ?_
  rintro e w' ⟨rfl, rfl⟩
  refine ⟨?_, rfl⟩
  rw [hvb]
  by_cases h : Z * 4294967296 + X + d < 18446744073709551616
  · rw [if_pos h, if_pos (by omega)]
    rw [show (Z * 4294967296 + X + d) % 4294967296 = x % 4294967296 by omega, show (Z * 4294967296 + X + d) / 4294967296 = y % 4294967296 by omega]
  · rw [if_neg h, if_neg (by omega)]

theorem digN_some {b c d : Nat} (h : digN b c = some d) : 2 ≤ b ∧ b ≤ 36 ∧ d < b := by
  unfold digN at h
  cases hw : worthN c with
  | none => rw [hw] at h; simp at h
  | some v =>
    rw [hw] at h
    simp only [Option.bind] at h
    split at h
    · next hh => injection h with h; omega
    · cases h

/-- What digits come to, as cells. -/
def lowO (v : Option Nat) : Nat := v.getD 0 % 4294967296
def highO (v : Option Nat) : Nat := v.getD 0 / 4294967296

theorem fold_lt (b : Nat) : ∀ (l : List UInt8) (v : Option Nat) (n : Nat), (∀ m, v = some m → m < 18446744073709551616) → l.foldl (moreN b) v = some n → n < 18446744073709551616 := by
  intro l
  induction l with
  | nil => intro v n h0 h; exact h0 n h
  | cons c l ih =>
    intro v n h0 h
    refine ih _ n (fun m hm => ?_) h
    unfold moreN at hm
    cases v with
    | none => cases hm
    | some v =>
      simp only [Option.bind] at hm
      cases hd : digN b c.toNat with
      | none => rw [hd] at hm; cases hm
      | some d =>
        rw [hd] at hm
        simp only [] at hm
        split at hm
        · next hh => injection hm with hm; omega
        · cases hm

set_option maxRecDepth 100000 in
set_option maxHeartbeats 2000000 in
theorem nValueIn_any (w : World) (l : List UInt8) (b : Nat) (hl : l.length ≤ maxLen) : Calls Try.prog 49 #[str l, .int .u32 (b : Int)] w fun e w' =>
    e = .returned (.tuple #[.int .u32 (lowO (valN b l) : Int), .int .u32 (highO (valN b l) : Int), .bool (valN b l).isSome]) ∧ w = w' := by
  have hml : maxLen = 9223372036854775807 := rfl
  have hsz := str_size l
  have HI := Lib.hid (fun (W : World) (k : Nat) (c : UInt8) (h : l[k]? = some c) => run_str_at W l k c h)
  have HT := Lib.hid (str_toList l)
  have HE := Lib.hid (show l = [] ↔ l.length = 0 from by cases l <;> simp)
  obtain ⟨m, hm⟩ : ∃ m, m = l.length := ⟨_, rfl⟩
  rw [← hm] at hsz hl
  have HM := Lib.hid hm
  clear hm
  unfold str
  generalize ByteArray.mk l.toArray = S at *
  go_enter Try.func49, Try.ntmps49
  go_wp2
  go_loopw [4, 5, 12] (fun lv hv i wr => ∃ (j v lo hi : Nat), j ≤ m ∧ wr = w ∧ i = .int .i64 (j : Int) ∧ lv = .int .u32 (lo : Int) ∧ hv = .int .u32 (hi : Int) ∧ Hid (lo = v % 4294967296 ∧ hi = v / 4294967296 ∧ (l.take j).foldl (moreN b) (some 0) = some v)) (fun _ _ i _ => m - (intOf i).toNat)
  case atStart => exact ⟨0, 0, 0, 0, by omega, rfl, rfl, rfl, rfl, ⟨rfl, rfl, rfl⟩⟩
  case round =>
    obtain ⟨j, v, lo, hi, hj, rfl, rfl, rfl, rfl, HV⟩ := hrel
    by_cases hlt : j < m
    · obtain ⟨c, hc⟩ : ∃ c, l[j]? = some c := ⟨_, List.getElem?_eq_getElem (by rw [← HM.out]; exact hlt)⟩
      have hix := fun W => HI.out W j c hc
      have HC := Lib.hid (show l.take (j + 1) = l.take j ++ [c] by rw [List.take_add_one, hc]; rfl)
      have hv64 := fold_lt b (l.take j) (some 0) v (fun m h => by injection h with h; omega) HV.out.2.2
      have HDG := Lib.hid (nDigit_any wr c.toNat b c.toNat_lt)
      unfold bv at hix
      generalize hcn : c.toNat = cn at *
      have HCN := Lib.hid hcn
      clear hcn hc
      cases hd : digN b cn with
      | none =>
        rw [hd] at HDG
        have HN := Lib.hid (show valN b l = none by
          unfold valN
          rw [if_neg (fun e => by have := HE.out.1 e; rw [← HM.out] at this; omega), ← List.take_append_drop (j + 1) l, HC.out, List.foldl_append, List.foldl_append, HV.out.2.2]
          have : moreN b (some v) c = none := by unfold moreN; simp only [Option.bind]; rw [HCN.out, hd]
          simp only [List.foldl_cons, List.foldl_nil]
          rw [this, more_none])
        clear hd
        go_wp2_with (go_at_call 24; refine HDG.out.mono ?_; rintro e w' ⟨rfl, rfl⟩)
        rw [HN.out]
        exact bodyPost_ret (v := .tuple #[.int .u32 0, .int .u32 0, .bool false]) (by simp [results, Try.results49, go_sem]) rfl ⟨rfl, rfl⟩
      | some d =>
        rw [hd] at HDG
        obtain ⟨hb2, hb36, hdb⟩ := digN_some hd
        have HBH := Lib.hid (nBehind_any wr v b d hv64 hb36 (by omega) lo hi HV.out.1 HV.out.2.1)
        by_cases hfit : v * b + d < 18446744073709551616
        · rw [if_pos hfit] at HBH
          have HS := Lib.hid (show (l.take (j + 1)).foldl (moreN b) (some 0) = some (v * b + d) by
            rw [HC.out, List.foldl_append, HV.out.2.2]
            exact more_some (by rw [HCN.out]; exact hd) hfit)
          generalize v * b + d = x at *
          obtain ⟨x1, hx1⟩ : ∃ x1, x1 = x % 4294967296 := ⟨_, rfl⟩
          obtain ⟨x2, hx2⟩ : ∃ x2, x2 = x / 4294967296 := ⟨_, rfl⟩
          rw [← hx1, ← hx2] at HBH
          have HX := Lib.hid (show x1 = x % 4294967296 ∧ x2 = x / 4294967296 ∧ (l.take (j + 1)).foldl (moreN b) (some 0) = some x from ⟨hx1, hx2, HS.out⟩)
          clear hd hb2 hb36 hdb hfit hv64 hx1 hx2
          go_wp2_with (first
            | (go_at_call 24; refine HDG.out.mono ?_; rintro e w' ⟨rfl, rfl⟩)
            | (go_at_call 72; refine HBH.out.mono ?_; rintro e w' ⟨rfl, rfl⟩))
          go_roundw
          case rel => exact ⟨j + 1, x, x1, x2, by omega, by first | rfl | trivial, by go_num, rfl, rfl, HX⟩
          case measure => simp [intOf]; omega
        · rw [if_neg hfit] at HBH
          have HN := Lib.hid (show valN b l = none by
            unfold valN
            rw [if_neg (fun e => by have := HE.out.1 e; rw [← HM.out] at this; omega), ← List.take_append_drop (j + 1) l, HC.out, List.foldl_append, List.foldl_append, HV.out.2.2]
            have : moreN b (some v) c = none := by unfold moreN; simp only [Option.bind]; rw [HCN.out, hd]; exact if_neg hfit
            simp only [List.foldl_cons, List.foldl_nil]
            rw [this, more_none])
          clear hd hb2 hb36 hdb hfit hv64
          go_wp2_with (first
            | (go_at_call 24; refine HDG.out.mono ?_; rintro e w' ⟨rfl, rfl⟩)
            | (go_at_call 72; refine HBH.out.mono ?_; rintro e w' ⟨rfl, rfl⟩))
          rw [HN.out]
          exact bodyPost_ret (v := .tuple #[.int .u32 0, .int .u32 0, .bool false]) (by simp [results, Try.results49, go_sem]) rfl ⟨rfl, rfl⟩
    · obtain rfl : j = m := by omega
      have HW := Lib.hid (show l.foldl (moreN b) (some 0) = some v by
        have := HV.out.2.2
        rwa [List.take_of_length_le (by rw [← HM.out]; exact Nat.le_refl _)] at this)
      have HLH := Lib.hid (And.intro HV.out.1 HV.out.2.1)
      by_cases h0 : l = []
      · have he : S.toList = [] := by rw [HT.out]; exact h0
        have he2 : (!S.toList.isEmpty) = false := by rw [he]; rfl
        have HZ := Lib.hid (show valN b l = none ∧ lo = 0 ∧ hi = 0 by
          have h1 := HW.out
          rw [h0] at h1
          injection h1 with h1
          refine ⟨by unfold valN; rw [if_pos h0], ?_, ?_⟩
          · rw [HLH.out.1, ← h1]
          · rw [HLH.out.2, ← h1])
        clear h0
        go_wp2
        rw [HZ.out.1, HZ.out.2.1, HZ.out.2.2]
        exact bodyPost_ret (v := .tuple #[.int .u32 0, .int .u32 0, .bool false]) (by simp [results, Try.results49, go_sem]) rfl ⟨rfl, rfl⟩
      · have he : (S.toList == []) = false := by rw [HT.out]; simpa using h0
        have he2 : (!S.toList.isEmpty) = true := by rw [HT.out]; simpa using h0
        have he3 : S.toList.isEmpty = false := by rw [HT.out]; simpa using h0
        have HZ := Lib.hid (show valN b l = some v by unfold valN; rw [if_neg h0]; exact HW.out)
        clear h0
        go_wp2
        rw [HZ.out]
        exact bodyPost_ret (v := .tuple #[.int .u32 (lo : Int), .int .u32 (hi : Int), .bool true]) (by simp [results, Try.results49, go_sem]) rfl ⟨by rw [HLH.out.1, HLH.out.2]; rfl, rfl⟩
end Go.Proofs.Ytfnjjanknfmibaa
