/-
  The document's root, bit by bit. Plain mathematics.
-/
import Derived.Test.YtlnmbfddhdjioaaDoorShaLongM
namespace Go.Proofs.YtlnmbfddhdjioaaDoor

/-- The root behind j steps: bits 40 down to 41 - j are chosen. -/
def rootK (k p : Nat) : Nat → Nat
  | 0 => 0
  | j + 1 => if p * 65536 ^ (2 * k) < (rootK k p j + 2 ^ (40 - j)) ^ k then rootK k p j else rootK k p j + 2 ^ (40 - j)

theorem bit_cases (bit : Nat) (h : bit ≤ 40) {P : Nat → Prop} (hP : ∀ r q, r < 16 → q < 3 → 16 * q + r ≤ 40 → P (16 * q + r)) : P bit := by
  have := hP (bit % 16) (bit / 16) (by omega) (by omega) (by omega)
  rwa [show 16 * (bit / 16) + bit % 16 = bit by omega] at this

theorem rootK_room (k p j : Nat) (hj : j ≤ 41) : rootK k p j % 2 ^ (41 - j) = 0 ∧ rootK k p j + 2 ^ (41 - j) ≤ 2 ^ 41 := by
  induction j with
  | zero => exact ⟨by simp [rootK], by simp [rootK]⟩
  | succ j ih =>
    obtain ⟨h1, h2⟩ := ih (by omega)
    have e : 41 - (j + 1) = 40 - j := by omega
    have e2 : 41 - j = 40 - j + 1 := by omega
    rw [e2, Nat.pow_succ] at h1 h2
    rw [e]
    have hd : rootK k p j % 2 ^ (40 - j) = 0 := Nat.mod_eq_zero_of_dvd (Nat.dvd_trans (Nat.dvd_mul_right _ 2) (Nat.dvd_of_mod_eq_zero h1))
    unfold rootK
    split
    · exact ⟨hd, by omega⟩
    · exact ⟨by rw [Nat.add_mod_right]; exact hd, by omega⟩

/-- A bit that is free is set in its digit. -/
theorem bit_set (v bit : Nat) (h : bit ≤ 40) (h1 : v % 2 ^ (bit + 1) = 0) (h2 : v + 2 ^ (bit + 1) ≤ 2 ^ 41) :
    dig v (bit / 16) + 2 ^ (bit % 16) < 65536 ∧ (digs 3 v).set (bit / 16) (dig v (bit / 16) + 2 ^ (bit % 16)) = digs 3 (v + 2 ^ bit) := by
  have hb : dig v (bit / 16) + 2 ^ (bit % 16) < 65536 ∧ 2 ^ (bit % 16) * 65536 ^ (bit / 16) = 2 ^ bit := by
    have hc : bit = 0 ∨ bit = 1 ∨ bit = 2 ∨ bit = 3 ∨ bit = 4 ∨ bit = 5 ∨ bit = 6 ∨ bit = 7 ∨ bit = 8 ∨ bit = 9 ∨ bit = 10 ∨ bit = 11 ∨ bit = 12 ∨ bit = 13 ∨ bit = 14 ∨ bit = 15 ∨ bit = 16 ∨ bit = 17 ∨ bit = 18 ∨ bit = 19 ∨ bit = 20 ∨ bit = 21 ∨ bit = 22 ∨ bit = 23 ∨ bit = 24 ∨ bit = 25 ∨ bit = 26 ∨ bit = 27 ∨ bit = 28 ∨ bit = 29 ∨ bit = 30 ∨ bit = 31 ∨ bit = 32 ∨ bit = 33 ∨ bit = 34 ∨ bit = 35 ∨ bit = 36 ∨ bit = 37 ∨ bit = 38 ∨ bit = 39 ∨ bit = 40 := by omega
    unfold dig
    rcases hc with rfl | rfl | rfl | rfl | rfl | rfl | rfl | rfl | rfl | rfl | rfl | rfl | rfl | rfl | rfl | rfl | rfl | rfl | rfl | rfl | rfl | rfl | rfl | rfl | rfl | rfl | rfl | rfl | rfl | rfl | rfl | rfl | rfl | rfl | rfl | rfl | rfl | rfl | rfl | rfl | rfl
    all_goals
      refine ⟨?_, by decide⟩
      clear h h2
      simp only [Nat.reduceDiv, Nat.reduceMod, Nat.reducePow, Nat.reduceAdd] at h1 ⊢
      omega
  refine ⟨hb.1, ?_⟩
  have hg := digs_get 3 v (bit / 16) (by omega)
  have hs := val_set (digs 3 v) (bit / 16) (dig v (bit / 16) + 2 ^ (bit % 16)) _ hg
  have hv : v < 65536 ^ 3 := by
    have : 0 < 2 ^ (bit + 1) := Nat.pow_pos (by decide)
    have e : (2 : Nat) ^ 41 ≤ 65536 ^ 3 := by decide
    omega
  rw [digs_val 3 v hv, Nat.add_mul, hb.2] at hs
  have hval : val ((digs 3 v).set (bit / 16) (dig v (bit / 16) + 2 ^ (bit % 16))) = v + 2 ^ bit := by omega
  have := val_digs ((digs 3 v).set (bit / 16) (dig v (bit / 16) + 2 ^ (bit % 16))) (by
    intro d hd
    rcases List.mem_or_eq_of_mem_set hd with h' | rfl
    · obtain ⟨j, _, rfl⟩ := List.mem_map.1 h'
      exact dig_lt _ _
    · exact hb.1)
  rw [hval, List.length_set, digs_length] at this
  exact this

/-- And taken back. -/
theorem bit_back (v q x : Nat) (hq : q < 3) : ((digs 3 v).set q x).set q (dig v q) = digs 3 v := by
  rw [List.set_set]
  apply List.ext_getElem?
  intro i
  rw [List.getElem?_set]
  split
  · subst_vars
    rw [if_pos (by rw [digs_length]; exact hq), digs_get 3 v _ hq]
  · rfl

theorem pow_room (v k : Nat) (h : v < 65536 ^ 3) (hk : 0 < k) : v ^ k < 65536 ^ (3 * k) := by
  rw [Nat.pow_mul]
  exact Nat.pow_lt_pow_left h (by omega)

/-- A small number with zeros below. -/
theorem digs_shift (n p : Nat) (hp : p < 65536) : List.replicate n 0 ++ [p] = digs (n + 1) (p * 65536 ^ n) := by
  have hv : ∀ n, val (List.replicate n 0 ++ [p]) = p * 65536 ^ n := by
    intro n
    induction n with
    | zero => simp [val]
    | succ n ih => rw [List.replicate_succ, List.cons_append, val, ih, Nat.pow_succ, Nat.zero_add]; generalize 65536 ^ n = P; ac_rfl
  have := val_digs (List.replicate n 0 ++ [p]) (by
    intro d hd
    rcases List.mem_append.1 hd with h | h
    · rw [(List.mem_replicate.1 h).2]; decide
    · simp at h; omega)
  rw [hv] at this
  simpa using this

theorem low_root (v : Nat) : dig v 1 * 65536 + dig v 0 = v % 4294967296 := by
  unfold dig
  simp
  omega
end Go.Proofs.YtlnmbfddhdjioaaDoor
