/-
  Numbers as texts: what digits are worth, what a text is read as, what a number is told as.
-/
import Derived.Test.YtfnjjanknfmibaaRows
namespace Go.Proofs.Ytfnjjanknfmibaa

/-- What a byte is worth as a digit. -/
def worthN (c : Nat) : Option Nat :=
  if 48 ≤ c ∧ c ≤ 57 then some (c - 48) else if 65 ≤ c ∧ c ≤ 90 then some (c - 55) else if 97 ≤ c ∧ c ≤ 122 then some (c - 87) else none
/-- .. in a base. -/
def digN (b c : Nat) : Option Nat := (worthN c).bind fun v => if 2 ≤ b ∧ b ≤ 36 ∧ v < b then some v else none
/-- One digit more behind a value. -/
def moreN (b : Nat) (v : Option Nat) (c : UInt8) : Option Nat :=
  v.bind fun v => (digN b c.toNat).bind fun d => if v * b + d < 18446744073709551616 then some (v * b + d) else none
def valN (b : Nat) (l : List UInt8) : Option Nat := if l = [] then none else l.foldl (moreN b) (some 0)
/-- What stands behind the signs, the base, and whether there is a minus. -/
def unsG : Bool → Nat → Bool → List UInt8 → List UInt8 × Nat × Bool
  | _, b, m, [] => ([], b, m)
  | first, b, m, c :: u =>
    if first = true ∧ c.toNat = 35 then unsG false 10 m u
    else if first = true ∧ c.toNat = 36 then unsG false 16 m u
    else if first = true ∧ c.toNat = 37 then unsG false 2 m u
    else if c.toNat = 45 ∧ m = false then unsG false b true u
    else (c :: u, b, m)
/-- A letter between two quotes. -/
def quoN (l : List UInt8) : Option Nat :=
  match l with
  | [a, c, z] => if a.toNat = 39 ∧ z.toNat = 39 ∧ 32 ≤ c.toNat ∧ c.toNat ≤ 126 then some c.toNat else none
  | _ => none
def negN (n : Nat) : Nat := (18446744073709551616 - n) % 18446744073709551616
def cutP (l : List UInt8) : List UInt8 × Bool := if l.getLast? = some 46 then (l.dropLast, true) else (l, false)
structure RdN where
  low : Nat
  high : Nat
  dbl : Bool
  ok : Bool
def readV (dbl minus : Bool) : Option Nat → RdN
  | none => ⟨0, 0, false, false⟩
  | some n => if dbl = false ∧ 4294967296 ≤ n then ⟨0, 0, false, false⟩
    else ⟨(if minus then negN n else n) % 4294967296, if dbl then (if minus then negN n else n) / 4294967296 else 0, dbl, true⟩
def readN (l : List UInt8) (b : Nat) : RdN :=
  match quoN l with
  | some c => ⟨c, 0, false, true⟩
  | none => readV (cutP (unsG true b false l).1).2 (unsG true b false l).2.2 (valN (unsG true b false l).2.1 (cutP (unsG true b false l).1).1)

/-- The digit of a worth. -/
def letN (v : Nat) : UInt8 := UInt8.ofNat (if v < 10 then 48 + v else 55 + v)
/-- A number's digits, the last one first. -/
def digsF (b : Nat) : Nat → Nat → List UInt8
  | 0, _ => []
  | k + 1, n => letN (n % b) :: if n / b = 0 then [] else digsF b k (n / b)
def digs (b n : Nat) : List UInt8 := digsF b 64 n
def textN (b n : Nat) (minus : Bool) : List UInt8 := (if minus then [45] else []) ++ (digs b n).reverse

theorem let_worth (v : Nat) (h : v < 36) : worthN (letN v).toNat = some v ∧ (letN v).toNat < 128 ∧ (letN v).toNat ≠ 45 ∧ (letN v).toNat ≠ 46 ∧ (letN v).toNat ≠ 39 ∧ (letN v).toNat ≠ 35 ∧ (letN v).toNat ≠ 36 ∧ (letN v).toNat ≠ 37 := by
  have h0 : (List.range 36).all (fun v => decide (worthN (letN v).toNat = some v ∧ (letN v).toNat < 128 ∧ (letN v).toNat ≠ 45 ∧ (letN v).toNat ≠ 46 ∧ (letN v).toNat ≠ 39 ∧ (letN v).toNat ≠ 35 ∧ (letN v).toNat ≠ 36 ∧ (letN v).toNat ≠ 37)) = true := by decide +kernel
  exact of_decide_eq_true (List.all_eq_true.1 h0 v (List.mem_range.2 h))
theorem let_dig {b v : Nat} (hb : 2 ≤ b ∧ b ≤ 36) (h : v < b) : digN b (letN v).toNat = some v := by
  unfold digN
  rw [(let_worth v (by omega)).1]
  simp only [Option.bind]
  rw [if_pos ⟨hb.1, hb.2, h⟩]
theorem more_none (b : Nat) (l : List UInt8) : l.foldl (moreN b) none = none := by
  induction l with
  | nil => rfl
  | cons c l ih => exact ih
theorem more_some {b v d : Nat} {c : UInt8} (hd : digN b c.toNat = some d) (h : v * b + d < 18446744073709551616) : moreN b (some v) c = some (v * b + d) := by
  unfold moreN
  rw [hd]
  simp only [Option.bind]
  rw [if_pos h]

theorem digsF_some (b : Nat) (hb : 2 ≤ b ∧ b ≤ 36) : ∀ (k n : Nat), 1 ≤ k → n < 2 ^ k → n < 18446744073709551616 → (digsF b k n).reverse.foldl (moreN b) (some 0) = some n := by
  intro k
  induction k with
  | zero => intro n h; omega
  | succ k ih =>
    intro n _ hn h64
    have hlt : n / b < 2 ^ k := Nat.div_lt_of_lt_mul (by
      have : 2 * 2 ^ k ≤ b * 2 ^ k := Nat.mul_le_mul_right _ hb.1
      have e : 2 ^ (k + 1) = 2 * 2 ^ k := by rw [Nat.pow_succ]; omega
      omega)
    have hrest : ((if n / b = 0 then [] else digsF b k (n / b)) : List UInt8).reverse.foldl (moreN b) (some 0) = some (n / b) := by
      split
      · next h => rw [h]; rfl
      · next h =>
        refine ih (n / b) ?_ hlt (Nat.lt_of_le_of_lt (Nat.div_le_self _ _) h64)
        cases k with
        | zero =>
          have h2 : n < 2 := by simpa using hn
          exact absurd (Nat.div_eq_of_lt (show n < b by omega)) h
        | succ k => omega
    unfold digsF
    rw [List.reverse_cons, List.foldl_append, hrest]
    have hm := Nat.mod_lt n (show 0 < b by omega)
    have hd := Nat.div_add_mod n b
    have e : n / b * b + n % b = n := by rw [Nat.mul_comm]; exact hd
    show moreN b (some (n / b)) (letN (n % b)) = some n
    rw [more_some (let_dig hb hm) (by omega), e]
theorem digs_ne (b n : Nat) : digs b n ≠ [] := by unfold digs digsF; simp
theorem digs_val (b n : Nat) (hb : 2 ≤ b ∧ b ≤ 36) (h : n < 18446744073709551616) : valN b (digs b n).reverse = some n := by
  unfold valN
  rw [if_neg (by simpa using digs_ne b n)]
  exact digsF_some b hb 64 n (by decide) (by simpa using h) h
theorem digsF_len (b : Nat) : ∀ (k n : Nat), (digsF b k n).length ≤ k := by
  intro k
  induction k with
  | zero => intro n; simp [digsF]
  | succ k ih =>
    intro n
    unfold digsF
    split
    · simp
    · have := ih (n / b); simp; omega
theorem digsF_mem (b : Nat) (hb : 2 ≤ b ∧ b ≤ 36) : ∀ (k n : Nat) (c : UInt8), c ∈ digsF b k n → ∃ v, v < b ∧ c = letN v := by
  intro k
  induction k with
  | zero => intro n c h; simp [digsF] at h
  | succ k ih =>
    intro n c h
    unfold digsF at h
    rcases List.mem_cons.1 h with rfl | h
    · exact ⟨n % b, Nat.mod_lt n (by omega), rfl⟩
    · split at h
      · simp at h
      · exact ih _ _ h

/-- Small letters. -/
def lowC (c : UInt8) : UInt8 := if 65 ≤ c.toNat ∧ c.toNat ≤ 90 then c + 32 else c
theorem low_dig (b : Nat) (c : UInt8) : digN b (lowC c).toNat = digN b c.toNat := by
  have h0 : (List.range 256).all (fun c => decide (worthN (lowC (UInt8.ofNat c)).toNat = worthN (UInt8.ofNat c).toNat)) = true := by decide +kernel
  have h1 := of_decide_eq_true (List.all_eq_true.1 h0 c.toNat (List.mem_range.2 c.toNat_lt))
  rw [UInt8.ofNat_toNat] at h1
  unfold digN
  rw [h1]
theorem low_more (b : Nat) : ∀ (l : List UInt8) (v : Option Nat), (l.map lowC).foldl (moreN b) v = l.foldl (moreN b) v := by
  intro l
  induction l with
  | nil => intro v; rfl
  | cons c l ih =>
    intro v
    simp only [List.map_cons, List.foldl_cons]
    rw [ih]
    unfold moreN
    rw [low_dig]
theorem low_val (b : Nat) (l : List UInt8) : valN b (l.map lowC) = valN b l := by
  unfold valN
  rw [low_more]
  cases l <;> simp
end Go.Proofs.Ytfnjjanknfmibaa
