/-
  Long numbers by digits of 16 bits. Plain mathematics.
-/
import Derived.Lib.Hide
namespace Go.Proofs.YtlnmbfddhdjioaaDoor

/-- Digit j of a number. -/
def dig (x j : Nat) : Nat := x / 65536 ^ j % 65536

theorem dig_lt (x j : Nat) : dig x j < 65536 := Nat.mod_lt _ (by decide)

def digs (n x : Nat) : List Nat := (List.range n).map (dig x)

theorem digs_length (n x : Nat) : (digs n x).length = n := by simp [digs]

theorem digs_get (n x j : Nat) (h : j < n) : (digs n x)[j]? = some (dig x j) := by simp [digs, h]

theorem dig_high (x n j : Nat) (hx : x < 65536 ^ n) (h : n ≤ j) : dig x j = 0 := by
  unfold dig
  rw [Nat.div_eq_of_lt (Nat.lt_of_lt_of_le hx (Nat.pow_le_pow_right (by decide) h))]

/-- Two numbers that are alike above a digit, and differ in it. -/
theorem dig_above (x y i : Nat) (h : x / 65536 ^ (i + 1) = y / 65536 ^ (i + 1)) : (dig x i = dig y i → x / 65536 ^ i = y / 65536 ^ i) ∧ (dig y i < dig x i ↔ y / 65536 ^ i < x / 65536 ^ i) := by
  unfold dig
  rw [Nat.pow_succ, ← Nat.div_div_eq_div_mul, ← Nat.div_div_eq_div_mul] at h
  omega

theorem lt_of_div (x y i : Nat) (h : y / 65536 ^ i < x / 65536 ^ i) : y < x := by
  rcases Nat.lt_or_ge y x with h' | h'
  · exact h'
  · exact absurd (Nat.div_le_div_right (c := 65536 ^ i) h') (by omega)

theorem not_lt_of_div (x y i : Nat) (h : x / 65536 ^ i < y / 65536 ^ i) : ¬ y < x := by
  intro h'
  exact absurd (Nat.div_le_div_right (c := 65536 ^ i) (Nat.le_of_lt h')) (by omega)

/-- The value of digits. -/
def val : List Nat → Nat
  | [] => 0
  | d :: r => d + 65536 * val r

theorem val_set (l : List Nat) (j x d : Nat) (hd : l[j]? = some d) : val (l.set j x) + d * 65536 ^ j = val l + x * 65536 ^ j := by
  induction l generalizing j with
  | nil => simp at hd
  | cons a r ih =>
    cases j with
    | zero => simp at hd; subst hd; simp [val]; omega
    | succ j =>
      simp at hd
      have := ih j hd
      simp only [List.set_cons_succ, val, Nat.pow_succ]
      have e1 : d * (65536 ^ j * 65536) = 65536 * (d * 65536 ^ j) := by rw [← Nat.mul_assoc, Nat.mul_comm]
      have e2 : x * (65536 ^ j * 65536) = 65536 * (x * 65536 ^ j) := by rw [← Nat.mul_assoc, Nat.mul_comm]
      rw [e1, e2]
      omega

theorem val_zeros (n : Nat) : val (List.replicate n 0) = 0 := by
  induction n with
  | zero => rfl
  | succ n ih => simp [List.replicate_succ, val, ih]

/-- Digits that are small are those of their value. -/
theorem val_digs (l : List Nat) (h : ∀ d ∈ l, d < 65536) : l = digs l.length (val l) := by
  induction l with
  | nil => rfl
  | cons a r ih =>
    have ha := h a (by simp)
    have hr := ih (fun d hd => h d (by simp [hd]))
    unfold digs
    rw [List.length_cons, List.range_succ_eq_map, List.map_cons, List.map_map]
    have e0 : dig (val (a :: r)) 0 = a := by unfold dig; simp [val]; omega
    have e1 : dig (val (a :: r)) ∘ Nat.succ = dig (val r) := by
      funext j
      show dig (a + 65536 * val r) (j + 1) = dig (val r) j
      unfold dig
      rw [Nat.pow_succ, Nat.mul_comm (65536 ^ j), ← Nat.div_div_eq_div_mul]
      congr 2
      omega
    rw [e0, e1]
    congr 1

/-- The low digits of a number. -/
theorem low_succ (x k : Nat) : x % 65536 ^ (k + 1) = x % 65536 ^ k + dig x k * 65536 ^ k := by
  unfold dig
  rw [Nat.pow_succ, Nat.mod_mul, Nat.mul_comm (x / 65536 ^ k % 65536)]

/-- A step of a product. -/
theorem mul_step (o o' c T d a b x P : Nat) (h1 : o + c * P = T) (h2 : o' + d * P = o + x % 65536 * P) (hx : x = a * b + d + c) : o' + x / 65536 * (P * 65536) = T + a * b * P := by
  have e : x % 65536 * P + x / 65536 * (P * 65536) = x * P := by
    rw [Nat.mul_comm P 65536, ← Nat.mul_assoc, ← Nat.add_mul]
    congr 1
    have := Nat.mod_add_div x 65536
    omega
  have e2 : x * P = a * b * P + d * P + c * P := by rw [hx, Nat.add_mul, Nat.add_mul]
  omega

theorem digs_val (n x : Nat) (h : x < 65536 ^ n) : val (digs n x) = x := by
  induction n generalizing x with
  | zero => simp at h; subst h; rfl
  | succ n ih =>
    unfold digs
    rw [List.range_succ_eq_map, List.map_cons, List.map_map]
    have e1 : dig x ∘ Nat.succ = dig (x / 65536) := by
      funext j
      show dig x (j + 1) = dig (x / 65536) j
      unfold dig
      rw [Nat.pow_succ, Nat.mul_comm (65536 ^ j), ← Nat.div_div_eq_div_mul]
    rw [e1]
    show dig x 0 + 65536 * val (digs n (x / 65536)) = x
    rw [ih _ (by rw [Nat.div_lt_iff_lt_mul (by decide)]; rw [Nat.pow_succ] at h; exact h)]
    unfold dig
    simp
    omega
end Go.Proofs.YtlnmbfddhdjioaaDoor
