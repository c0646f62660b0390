/-
  Divisions, products and shifts of whole numbers, as the cells of 32 and of 64 bits have them. No function of the program is named here.
-/
namespace Go.Proofs.Ytfnjjanknfmibaa.Cell
/-- A double cell, its high cell signed or not. -/
def dbl (lo hi : Int) : Int := hi * 4294967296 + lo

/-- What both signed divisions say: the remainder, the quotient. -/
def remOf (fl : Bool) (D n : Int) : Int := if fl = true ∧ D.tmod n ≠ 0 ∧ ((D.tmod n < 0) ≠ (n < 0)) then D.tmod n + n else D.tmod n
def quoOf (fl : Bool) (D n : Int) : Int := if fl = true ∧ D.tmod n ≠ 0 ∧ ((D.tmod n < 0) ≠ (n < 0)) then D.tdiv n - 1 else D.tdiv n

theorem split (fl : Bool) (D n : Int) : quoOf fl D n * n + remOf fl D n = D := by
  unfold quoOf remOf
  have h := Int.tdiv_mul_add_tmod D n
  split
  · have : (D.tdiv n - 1) * n = D.tdiv n * n - n := by rw [Int.sub_mul, Int.one_mul]
    omega
  · exact h

/-- By the numbers without their signs. -/
theorem parts (D n : Int) : ∃ E m q r : Int, E = D.natAbs ∧ m = n.natAbs ∧ q = E / m ∧ r = E % m ∧
    D.tdiv n = (if (D < 0) ≠ (n < 0) then -q else q) ∧ D.tmod n = (if D < 0 then -r else r) := by
  refine ⟨_, _, _, _, rfl, rfl, rfl, rfl, ?_, ?_⟩
  · by_cases hD : D < 0 <;> by_cases hn : n < 0
    · have e1 : (D.natAbs : Int) = -D := by omega
      have e2 : (n.natAbs : Int) = -n := by omega
      rw [e1, e2, if_neg (by simp [hD, hn])]
      rw [← Int.tdiv_eq_ediv_of_nonneg (by omega), Int.neg_tdiv, Int.tdiv_neg, Int.neg_neg]
    · have e1 : (D.natAbs : Int) = -D := by omega
      have e2 : (n.natAbs : Int) = n := by omega
      rw [e1, e2, if_pos (by simp [hD, hn])]
      rw [← Int.tdiv_eq_ediv_of_nonneg (by omega), Int.neg_tdiv, Int.neg_neg]
    · have e1 : (D.natAbs : Int) = D := by omega
      have e2 : (n.natAbs : Int) = -n := by omega
      rw [e1, e2, if_pos (by simp [hD, hn])]
      rw [← Int.tdiv_eq_ediv_of_nonneg (by omega), Int.tdiv_neg, Int.neg_neg]
    · have e1 : (D.natAbs : Int) = D := by omega
      have e2 : (n.natAbs : Int) = n := by omega
      rw [e1, e2, if_neg (by simp [hD, hn])]
      rw [← Int.tdiv_eq_ediv_of_nonneg (by omega)]
  · have hm : ∀ x : Int, x % (n.natAbs : Int) = x % n := by
      intro x
      rcases Int.natAbs_eq n with h | h
      · rw [← h]
      · conv => rhs; rw [h]
        rw [Int.emod_neg]
    rw [hm]
    by_cases hD : D < 0
    · have e1 : (D.natAbs : Int) = -D := by omega
      rw [e1, if_pos hD, ← Int.tmod_eq_emod_of_nonneg (by omega), Int.neg_tmod, Int.neg_neg]
    · have e1 : (D.natAbs : Int) = D := by omega
      rw [e1, if_neg hD, ← Int.tmod_eq_emod_of_nonneg (by omega)]

theorem facts (D n : Int) (hn : n ≠ 0) : ∃ E m q r : Int, E = D.natAbs ∧ m = n.natAbs ∧ q = E / m ∧ r = E % m ∧ 0 ≤ r ∧ r < m ∧ 0 ≤ q ∧ q ≤ E ∧
    D.tdiv n = (if (D < 0) ≠ (n < 0) then -q else q) ∧ D.tmod n = (if D < 0 then -r else r) := by
  obtain ⟨E, m, q, r, hE, hm, hq, hr, h1, h2⟩ := parts D n
  have hm0 : 0 < m := by omega
  have hE0 : 0 ≤ E := by omega
  refine ⟨E, m, q, r, hE, hm, hq, hr, ?_, ?_, ?_, ?_, h1, h2⟩
  · rw [hr]; exact Int.emod_nonneg _ (by omega)
  · rw [hr]; exact Int.emod_lt_of_pos _ hm0
  · rw [hq]; exact Int.ediv_nonneg hE0 (by omega)
  · rw [hq]; exact Int.ediv_le_self _ hE0

/-- The remainder is less than the divisor, without their signs; and has a sign. -/
theorem rem_lt (fl : Bool) (D n : Int) (hn : n ≠ 0) : (remOf fl D n).natAbs < n.natAbs := by
  obtain ⟨E, m, q, r, hE, hm, hq, hr, h0, h1, _, _, h2, h3⟩ := facts D n hn
  unfold remOf
  rw [h3]
  split <;> split <;> rename_i h <;> simp_all <;> omega

theorem rem_sign (fl : Bool) (D n : Int) (hn : n ≠ 0) (h : remOf fl D n ≠ 0) : (remOf fl D n < 0) ↔ (fl = true ∧ n < 0 ∨ fl = false ∧ D < 0) := by
  obtain ⟨E, m, q, r, hE, hm, hq, hr, h0, h1, _, _, h2, h3⟩ := facts D n hn
  unfold remOf at h ⊢
  rw [h3] at h ⊢
  cases fl
  · simp at h ⊢
    split <;> rename_i g <;> simp [g] at h ⊢ <;> omega
  · by_cases hD : D < 0 <;> by_cases hn0 : n < 0 <;> by_cases hr0 : r = 0 <;> simp [hD, hn0, hr0] at h ⊢ <;> (try (split <;> omega)) <;> omega
theorem rem_bound (fl : Bool) (D n : Int) (hn : n ≠ 0) (h1 : -2147483648 ≤ n) (h2 : n < 2147483648) : -2147483648 ≤ remOf fl D n ∧ remOf fl D n < 2147483648 := by
  have := rem_lt fl D n hn; omega

theorem quo_bound (fl : Bool) (D n : Int) (hn : n ≠ 0) (h1 : -9223372036854775808 ≤ D) (h2 : D < 9223372036854775808) : -9223372036854775809 ≤ quoOf fl D n ∧ quoOf fl D n ≤ 9223372036854775808 := by
  obtain ⟨E, m, q, r, hE, hm, hq, hr, h0, h1, h4, h5, h2, h3⟩ := facts D n hn
  unfold quoOf
  rw [h2]
  split <;> split <;> omega
theorem half_pow (x j : Nat) : x / 2 ^ (j + 1) = x / 2 ^ j / 2 := by rw [Nat.pow_succ, Nat.div_div_eq_div_mul]

theorem long_step (y m : Nat) (hm : 0 < m) : y % m = (if m ≤ 2 * (y / 2 % m) + y % 2 then 2 * (y / 2 % m) + y % 2 - m else 2 * (y / 2 % m) + y % 2) ∧
    y / m = 2 * (y / 2 / m) + (if m ≤ 2 * (y / 2 % m) + y % 2 then 1 else 0) := by
  have h1 := Nat.div_add_mod (y / 2) m
  have h2 := Nat.mod_lt (y / 2) hm
  have h3 := Nat.div_add_mod y 2
  have h4 := Nat.mod_lt y (show 2 > 0 by decide)
  generalize y / 2 / m = q at *
  generalize y / 2 % m = r at *
  generalize y % 2 = b at *
  have e : y = m * (2 * q) + (2 * r + b) := by rw [Nat.mul_left_comm]; omega
  rw [e]
  by_cases h : m ≤ 2 * r + b
  · rw [if_pos h, if_pos h]
    have e2 : m * (2 * q) + (2 * r + b) = (2 * r + b - m) + m * (2 * q + 1) := by rw [Nat.mul_add]; omega
    rw [e2, Nat.add_mul_mod_self_left, Nat.add_mul_div_left _ _ hm, Nat.mod_eq_of_lt (by omega), Nat.div_eq_of_lt (by omega)]
    exact ⟨rfl, by omega⟩
  · rw [if_neg h, if_neg h]
    rw [Nat.add_comm, Nat.add_mul_mod_self_left, Nat.add_mul_div_left _ _ hm, Nat.mod_eq_of_lt (by omega), Nat.div_eq_of_lt (by omega)]
    exact ⟨rfl, by omega⟩

theorem prod_step (a b k : Nat) : a * (b % 2 ^ (k + 1)) = a * (b % 2 ^ k) + (b / 2 ^ k % 2) * (a * 2 ^ k) := by
  rw [Nat.mod_pow_succ, Nat.mul_add]
  congr 1
  rw [Nat.mul_comm (2 ^ k), ← Nat.mul_assoc, Nat.mul_comm a, Nat.mul_assoc]

theorem prod_done (a b k : Nat) (h : b / 2 ^ k = 0) : a * (b % 2 ^ k) = a * b := by
  rcases (Nat.div_eq_zero_iff).1 h with h | h
  · have := Nat.two_pow_pos k; omega
  · rw [Nat.mod_eq_of_lt h]

theorem prod_lt (a b : Nat) (ha : a < 4294967296) (hb : b < 4294967296) : a * b ≤ 18446744065119617025 :=
  Nat.mul_le_mul (show a ≤ 4294967295 by omega) (show b ≤ 4294967295 by omega)

theorem pow_of_pos (b k : Nat) (hb : b < 4294967296) (h : 0 < b / 2 ^ k) : k < 32 ∧ 2 ^ k ≤ 2147483648 := by
  have : 2 ^ k ≤ b := by
    rcases Nat.lt_or_ge b (2 ^ k) with g | g
    · rw [Nat.div_eq_of_lt g] at h; omega
    · exact g
  have hk : k < 32 := (Nat.pow_lt_pow_iff_right (a := 2) (by decide)).1 (Nat.lt_of_le_of_lt this (by omega))
  exact ⟨hk, by have := Nat.pow_le_pow_right (n := 2) (by decide) (show k ≤ 31 by omega); omega⟩

theorem and_mask (x k : Nat) : x &&& (2 ^ k - 1) = x % 2 ^ k := Nat.and_two_pow_sub_one_eq_mod x k

/-- Has a remainder another sign than the divisor? -/
def lessB (r n : Int) : Bool := decide (r ≠ 0) && (decide (r < 0) != decide (n < 0))
/-- What a signed division answers: the remainder, the quotient, what is thrown. -/
def IsDiv (fl : Bool) (D n R Q E : Int) : Prop :=
  (n = 0 ∧ R = 0 ∧ Q = 0 ∧ E = -10) ∨ (n ≠ 0 ∧ (quoOf fl D n < -2147483648 ∨ 2147483647 < quoOf fl D n) ∧ R = 0 ∧ Q = 0 ∧ E = -11) ∨
  (n ≠ 0 ∧ -2147483648 ≤ quoOf fl D n ∧ quoOf fl D n ≤ 2147483647 ∧ R = remOf fl D n ∧ Q = quoOf fl D n ∧ E = 0)

theorem isDiv_some (fl : Bool) (D n : Int) : ∃ R Q E, IsDiv fl D n R Q E := by
  by_cases h : n = 0
  · exact ⟨_, _, _, .inl ⟨h, rfl, rfl, rfl⟩⟩
  · by_cases g : quoOf fl D n < -2147483648 ∨ 2147483647 < quoOf fl D n
    · exact ⟨_, _, _, .inr (.inl ⟨h, g, rfl, rfl, rfl⟩)⟩
    · exact ⟨_, _, _, .inr (.inr ⟨h, by omega, by omega, rfl, rfl, rfl⟩)⟩

/-- What a division of cells without signs answers. -/
def IsDivU (D n R Q E : Int) : Prop :=
  (n = 0 ∧ R = 0 ∧ Q = 0 ∧ E = -10) ∨ (0 < n ∧ 4294967296 ≤ D / n ∧ R = 0 ∧ Q = 0 ∧ E = -11) ∨ (0 < n ∧ D / n < 4294967296 ∧ R = D % n ∧ Q = D / n ∧ E = 0)

theorem isDivU_some (D n : Int) (hn : 0 ≤ n) : ∃ R Q E, IsDivU D n R Q E := by
  by_cases h : n = 0
  · exact ⟨_, _, _, .inl ⟨h, rfl, rfl, rfl⟩⟩
  · by_cases g : 4294967296 ≤ D / n
    · exact ⟨_, _, _, .inr (.inl ⟨by omega, g, rfl, rfl, rfl⟩)⟩
    · exact ⟨_, _, _, .inr (.inr ⟨by omega, by omega, rfl, rfl, rfl⟩)⟩

/-- The remainder towards 0 and the quotient, as the program has them, with 64 bits. -/
theorem tdiv_cases (D n : Int) (hn : n ≠ 0) (h0 : -9223372036854775808 ≤ D) (h1 : D < 9223372036854775808) :
    (-9223372036854775808 ≤ D.tdiv n ∧ D.tdiv n < 9223372036854775808 ∧ (D.tmod n ≠ 0 → -9223372036854775807 ≤ D.tdiv n)) ∨ (D.tdiv n = 9223372036854775808 ∧ D.tmod n = 0) := by
  obtain ⟨E, m, q, r, hE, hm, hq, hr, k0, k1, k2, k3, h2, h3⟩ := facts D n hn
  have hs : q * m + r = E := by rw [hq, hr]; exact Int.ediv_mul_add_emod E m
  rw [h2, h3]
  have hmul : m = 1 ∨ q * m ≥ q * 2 := by
    by_cases g : m = 1
    · exact .inl g
    · exact .inr (Int.mul_le_mul_of_nonneg_left (by omega) k2)
  rcases hmul with g | g
  · subst g; split <;> split <;> omega
  · split <;> split <;> omega

theorem quo_false (D n : Int) : quoOf false D n = D.tdiv n := by unfold quoOf; simp
theorem rem_false (D n : Int) : remOf false D n = D.tmod n := by unfold remOf; simp
theorem quo_true (D n : Int) : quoOf true D n = if lessB (D.tmod n) n then D.tdiv n - 1 else D.tdiv n := by
  unfold quoOf lessB
  by_cases h : D.tmod n = 0 <;> by_cases g : D.tmod n < 0 <;> by_cases k : n < 0 <;> simp [h, g, k]
theorem rem_true (D n : Int) : remOf true D n = if lessB (D.tmod n) n then D.tmod n + n else D.tmod n := by
  unfold remOf lessB
  by_cases h : D.tmod n = 0 <;> by_cases g : D.tmod n < 0 <;> by_cases k : n < 0 <;> simp [h, g, k]
theorem tmod_lt (D n : Int) (hn : n ≠ 0) : (D.tmod n).natAbs < n.natAbs := by have := rem_lt false D n hn; rwa [rem_false] at this
theorem less_bound {r n : Int} (h : lessB r n = true) (h1 : r.natAbs < n.natAbs) : (r < 0 ∧ 0 < n ∧ 0 < r + n ∧ r + n < n) ∨ (0 < r ∧ n < 0 ∧ r + n < 0 ∧ n < r + n) := by
  unfold lessB at h
  by_cases h0 : r = 0 <;> by_cases h2 : r < 0 <;> by_cases h3 : n < 0 <;> simp [h0, h2, h3] at h <;> omega

/-- Both signed divisions, beside one another. -/
theorem both_cases (D n R Q E S T F : Int) (n1 : -2147483648 ≤ n) (n2 : n < 2147483648) (h : IsDiv false D n R Q E) (g : IsDiv true D n S T F) :
    (E = -10 ∧ F = -10) ∨ (E = -11 ∧ F = -11) ∨ (E = -11 ∧ F = 0) ∨ (E = 0 ∧ F = -11 ∧ Q = -2147483648 ∧ R ≠ 0) ∨
    (E = 0 ∧ F = 0 ∧ S = R ∧ T = Q ∧ (R = 0 ∨ (D < 0 ↔ n < 0))) ∨ (E = 0 ∧ F = 0 ∧ R ≠ 0 ∧ ¬ (D < 0 ↔ n < 0) ∧ T = Q - 1 ∧ S = R + n ∧ -2147483648 ≤ Q - 1 ∧ Q - 1 ≤ 2147483647 ∧ -2147483648 ≤ R + n ∧ R + n ≤ 2147483647) := by
  rcases h with ⟨h0, _, _, h1⟩ | ⟨h0, h1, _, _, h2⟩ | ⟨h0, h1, h2, h3, h4, h5⟩ <;> rcases g with ⟨g0, _, _, g1⟩ | ⟨g0, g1, _, _, g2⟩ | ⟨g0, g1, g2, g3, g4, g5⟩
  · exact .inl ⟨h1, g1⟩
  · exact absurd h0 g0
  · exact absurd h0 g0
  · exact absurd g0 h0
  · exact .inr (.inl ⟨h2, g2⟩)
  · exact .inr (.inr (.inl ⟨h2, g5⟩))
  · exact absurd g0 h0
  · rw [quo_false] at h1 h2 h4
    rw [quo_true] at g1
    cases hl : lessB (D.tmod n) n
    · rw [hl] at g1; simp at g1; omega
    · rw [hl] at g1; simp at g1
      refine .inr (.inr (.inr (.inl ⟨h5, g2, by omega, ?_⟩)))
      rw [h3, rem_false]
      intro e; rw [e] at hl; cases hl
  · have hb := rem_bound true D n h0 n1 n2
    have hd : D.tmod n ≠ 0 → (D.tmod n < 0 ↔ D < 0) := fun e => by
      have := rem_sign false D n h0 (by rw [rem_false]; exact e)
      rw [rem_false] at this; simpa using this
    rw [quo_false] at h1 h2 h4
    rw [rem_false] at h3
    rw [quo_true] at g1 g2 g4
    rw [rem_true] at g3 hb
    cases hl : lessB (D.tmod n) n
    · rw [hl] at g1 g2 g3 g4
      simp at g1 g2 g3 g4
      refine .inr (.inr (.inr (.inr (.inl ⟨h5, g5, by omega, by omega, ?_⟩))))
      by_cases e : D.tmod n = 0
      · left; omega
      · right
        have := hd e
        unfold lessB at hl
        rw [decide_eq_true e] at hl
        simp at hl
        rw [← this, hl]
    · rw [hl] at g1 g2 g3 g4 hb
      simp at g1 g2 g3 g4 hb
      have e : D.tmod n ≠ 0 := by intro e; rw [e] at hl; cases hl
      have := hd e
      refine .inr (.inr (.inr (.inr (.inr ⟨h5, g5, by omega, ?_, by omega, by omega, by omega, by omega, by omega, by omega⟩))))
      unfold lessB at hl
      rw [decide_eq_true e] at hl
      simp at hl
      rw [← this]; exact hl

theorem isDiv_bounds (fl : Bool) (D n R Q E : Int) (n1 : -2147483648 ≤ n) (n2 : n < 2147483648) (h : IsDiv fl D n R Q E) : -2147483648 ≤ R ∧ R ≤ 2147483647 ∧ -2147483648 ≤ Q ∧ Q ≤ 2147483647 := by
  rcases h with ⟨h0, h1, h2, _⟩ | ⟨h0, h1, h2, h3, _⟩ | ⟨h0, h1, h2, h3, h4, h5⟩
  · omega
  · omega
  · have := rem_bound fl D n h0 n1 n2
    omega
end Go.Proofs.Ytfnjjanknfmibaa.Cell
