/-
  The document's CRC: a step of its division. Plain mathematics.
-/
import Derived.Test.YtdcfcljgennipaaCrcO
namespace Go.Proofs.Ytdcfcljgennipaa

def powersN : List Nat := [26, 23, 22, 16, 12, 11, 10, 8, 7, 5, 4, 2, 1, 0]

def flip1 (L : List Bool) (q : Nat) : List Bool := L.set q (!L.getD q false)

def flipsAt (i : Nat) (ps : List Nat) (L : List Bool) : List Bool := ps.foldl (fun L p => flip1 L (i + 32 - p)) L

theorem flipsAt_snoc (i : Nat) (ps : List Nat) (p : Nat) (L : List Bool) : flipsAt i (ps ++ [p]) L = flip1 (flipsAt i ps L) (i + 32 - p) := by
  unfold flipsAt; rw [List.foldl_append]; rfl

theorem flip1_length (L : List Bool) (q : Nat) : (flip1 L q).length = L.length := by simp [flip1]

theorem flipsAt_length (i : Nat) (ps : List Nat) : ∀ L : List Bool, (flipsAt i ps L).length = L.length := by
  induction ps with
  | nil => intro L; rfl
  | cons p ps ih => intro L; unfold flipsAt at *; rw [List.foldl_cons, ih, flip1_length]

theorem flip1_get (L : List Bool) (q j : Nat) : (flip1 L q)[j]? = (L[j]?).map fun x => x ^^ decide (q = j) := by
  unfold flip1
  rw [List.getElem?_set]
  by_cases h : q = j
  · subst h
    rw [if_pos rfl]
    by_cases hl : q < L.length
    · rw [if_pos hl, List.getElem?_eq_getElem hl, List.getD_eq_getElem?_getD, List.getElem?_eq_getElem hl]; simp
    · rw [if_neg hl, List.getElem?_eq_none (by omega)]; rfl
  · rw [if_neg h, decide_eq_false h]; simp

def flag (i : Nat) (ps : List Nat) (j : Nat) : Bool := ps.foldr (fun p b => b ^^ decide (i + 32 - p = j)) false

theorem flipsAt_get (i : Nat) (ps : List Nat) (j : Nat) : ∀ L : List Bool, (flipsAt i ps L)[j]? = (L[j]?).map fun x => x ^^ flag i ps j := by
  induction ps with
  | nil => intro L; simp [flipsAt, flag]
  | cons p ps ih =>
    intro L
    have e : flipsAt i (p :: ps) L = flipsAt i ps (flip1 L (i + 32 - p)) := rfl
    rw [e, ih, flip1_get, Option.map_map]
    congr 1
    funext x
    have e2 : flag i (p :: ps) j = (flag i ps j ^^ decide (i + 32 - p = j)) := rfl
    simp only [Function.comp_apply, e2]
    cases x <;> cases flag i ps j <;> cases decide (i + 32 - p = j) <;> rfl

def gbit (t : Nat) : Bool := powersN.foldr (fun p b => b ^^ decide (31 - p = t)) false

theorem gbit_poly (t : Nat) : gbit t = poly.getLsbD t := by
  by_cases h : t < 32
  · have : ∀ t : Fin 32, gbit t.val = poly.getLsbD t.val := by decide
    exact this ⟨t, h⟩
  · rw [BitVec.getLsbD_of_ge _ _ (by omega)]
    have hp : ∀ p, decide (31 - p = t) = false := fun p => decide_eq_false (by omega)
    unfold gbit
    simp only [hp]
    rfl

theorem flag_low (i j : Nat) (h : j ≤ i) : flag i powersN j = false := by
  have hp : ∀ p ∈ powersN, decide (i + 32 - p = j) = false := by
    intro p hp
    apply decide_eq_false
    have : p ≤ 26 := by revert hp; revert p; decide
    omega
  unfold flag
  have : ∀ ps : List Nat, (∀ p ∈ ps, decide (i + 32 - p = j) = false) → ps.foldr (fun p b => b ^^ decide (i + 32 - p = j)) false = false := by
    intro ps
    induction ps with
    | nil => intro _; rfl
    | cons p ps ih => intro h; rw [List.foldr_cons, ih (fun q hq => h q (by simp [hq])), h p (by simp)]; rfl
  exact this _ hp

theorem flag_high (i t : Nat) : flag i powersN (i + 1 + t) = poly.getLsbD t := by
  rw [← gbit_poly]
  unfold flag gbit
  have : ∀ ps : List Nat, (∀ p ∈ ps, p ≤ 26) → ps.foldr (fun p b => b ^^ decide (i + 32 - p = i + 1 + t)) false = ps.foldr (fun p b => b ^^ decide (31 - p = t)) false := by
    intro ps
    induction ps with
    | nil => intro _; rfl
    | cons p ps ih =>
      intro h
      have hp := h p (by simp)
      rw [List.foldr_cons, List.foldr_cons, ih (fun q hq => h q (by simp [hq]))]
      congr 1
      apply decide_eq_decide.2
      omega
  exact this _ (by decide)

theorem left_skip (m : List Bool) (i : Nat) (h : i < m.length) (ht : (m[i] ^^ (feed ones32 (m.take i)).getLsbD 0) = false) : left m (i + 1) = left m i := by
  apply List.ext_getElem?
  intro j
  rw [left_step m i h j, ht]
  by_cases e : j = i
  · subst e; rw [if_pos rfl, left_here m j h, ht]
  · rw [if_neg e]; simp

theorem left_flip (m : List Bool) (i : Nat) (h : i < m.length) (ht : (m[i] ^^ (feed ones32 (m.take i)).getLsbD 0) = true) : flipsAt i powersN ((left m i).set i false) = left m (i + 1) := by
  apply List.ext_getElem?
  intro j
  rw [flipsAt_get, left_step m i h j, ht, List.getElem?_set, left_length m i (Nat.le_of_lt h)]
  by_cases e : j = i
  · subst e
    rw [if_pos rfl, if_pos rfl, if_pos (by omega), flag_low j j (Nat.le_refl _)]; rfl
  · rw [if_neg e, if_neg (fun h => e h.symm)]
    congr 1
    funext x
    by_cases l : j < i
    · rw [flag_low i j (by omega), decide_eq_false (by omega : ¬ i < j)]; simp
    · rw [show j = i + 1 + (j - (i + 1)) by omega, flag_high, decide_eq_true (by omega : i < i + 1 + (j - (i + 1)))]
      simp

theorem half_step (n j : Nat) : n / 2 ^ j = 2 * (n / 2 ^ (j + 1)) + (if n.testBit j then 1 else 0) := by
  have e : n / 2 ^ (j + 1) = n / 2 ^ j / 2 := by rw [Nat.pow_succ, Nat.div_div_eq_div_mul]
  rw [e, Nat.testBit_eq_decide_div_mod_eq]
  generalize n / 2 ^ j = y
  by_cases h : y % 2 = 1
  · simp [h]; omega
  · simp [h]; omega
end Go.Proofs.Ytdcfcljgennipaa
