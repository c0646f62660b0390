/-
  Code: mathematics. How long the instruction is with which code begins, where instructions start, which words are right in a list. No function of the program is named here.
-/
import Derived.Test.YtfnjjanknfmibaaPmFind
namespace Go.Proofs.Ytfnjjanknfmibaa
set_option linter.unusedVariables false

def longX (x : BitVec 32) (r : List (BitVec 32)) : Nat :=
    if 256 ≤ x.toNat then 1
    else match getP x.toNat with
      | none => 0
      | some p =>
        if r.length + 1 < 1 + p.ops then 0
        else if p.text then
          (if 1000 < (r.getD 0 0).toNat then 0 else if r.length + 1 < 1 + p.ops + ((r.getD 0 0).toNat + 3) / 4 then 0 else 1 + p.ops + ((r.getD 0 0).toNat + 3) / 4)
        else 1 + p.ops

def longC : List (BitVec 32) → Nat
  | [] => 0
  | x :: r => longX x r
theorem longC_cons (x : BitVec 32) (r : List (BitVec 32)) : longC (x :: r) = longX x r := rfl

set_option maxRecDepth 100000 in
theorem prim_text (i : Nat) (h : i < 113) : (primI i).ops ≤ 2 ∧ ((primI i).text = true → (primI i).ops = 1 ∧ (primI i).jump = false) ∧ ((primI i).jump = true → (primI i).ops = 1) ∧ ((primI i).num = 139 ↔ (primI i).name = [40, 71, 79, 41]) ∧ ((primI i).num = 139 → (primI i).ops = 2 ∧ (primI i).jump = false) := by
  have h0 : (List.range 113).all (fun i => decide ((primI i).ops ≤ 2) && (!(primI i).text || (decide ((primI i).ops = 1) && !(primI i).jump)) && (!(primI i).jump || decide ((primI i).ops = 1)) &&
    (decide ((primI i).num = 139) == ((primI i).name == [40, 71, 79, 41])) && (!decide ((primI i).num = 139) || (decide ((primI i).ops = 2) && !(primI i).jump))) = true := by kernel_rfl
  have := List.all_eq_true.1 h0 i (List.mem_range.2 h)
  simp only [Bool.and_eq_true, Bool.or_eq_true, Bool.not_eq_true', decide_eq_true_eq, decide_eq_false_iff_not, beq_iff_eq] at this
  obtain ⟨⟨⟨⟨h1, h2⟩, h3⟩, h4⟩, h5⟩ := this
  refine ⟨h1, fun ht => ?_, fun hj => ?_, ?_, fun hn => ?_⟩
  · rcases h2 with h2 | h2
    · rw [ht] at h2; cases h2
    · exact h2
  · rcases h3 with h3 | h3
    · rw [hj] at h3; cases h3
    · exact h3
  · rw [Bool.eq_iff_iff, decide_eq_true_eq, beq_iff_eq] at h4; exact h4
  · rcases h5 with h5 | h5
    · exact absurd hn h5
    · exact h5

theorem getP_text {n : Nat} {p : Pm} (h : getP n = some p) : p.ops ≤ 2 ∧ (p.text = true → p.ops = 1 ∧ p.jump = false) ∧ (p.jump = true → p.ops = 1) ∧ (p.num = 139 ↔ p.name = [40, 71, 79, 41]) ∧ (p.num = 139 → p.ops = 2 ∧ p.jump = false) := by
  obtain ⟨i, hi, rfl, hn⟩ := getP_some h
  exact prim_text i hi
theorem getP_num {n : Nat} {p : Pm} (h : getP n = some p) : p.num = n := by
  obtain ⟨i, hi, rfl, hn⟩ := getP_some h
  exact hn

theorem longC_le : ∀ c, longC c ≤ c.length
  | [] => Nat.le_refl _
  | x :: r => by
    rw [longC_cons, List.length_cons]
    unfold longX
    by_cases hx : 256 ≤ x.toNat
    · rw [if_pos hx]; omega
    · rw [if_neg hx]
      cases hp : getP x.toNat with
      | none => exact Nat.zero_le _
      | some p =>
        dsimp only
        by_cases ha : r.length + 1 < 1 + p.ops
        · rw [if_pos ha]; omega
        · rw [if_neg ha]
          by_cases ht : p.text = true
          · rw [if_pos ht]
            by_cases hb : 1000 < (r.getD 0 0).toNat
            · rw [if_pos hb]; omega
            · rw [if_neg hb]
              by_cases hd : r.length + 1 < 1 + p.ops + ((r.getD 0 0).toNat + 3) / 4
              · rw [if_pos hd]; omega
              · rw [if_neg hd]; omega
          · rw [if_neg ht]; omega

theorem longC_take (c : List (BitVec 32)) (m : Nat) (h : longC c ≠ 0) (hm : longC c ≤ m) : longC (c.take m) = longC c := by
  cases c with
  | nil => simp
  | cons x r =>
    obtain ⟨m', rfl⟩ : ∃ m', m = m' + 1 := ⟨m - 1, by omega⟩
    rw [List.take_succ_cons]
    rw [longC_cons] at h hm
    rw [longC_cons, longC_cons]
    unfold longX at h hm ⊢
    by_cases hx : 256 ≤ x.toNat
    · rw [if_pos hx, if_pos hx]
    · rw [if_neg hx] at h hm ⊢
      rw [if_neg hx]
      cases hp : getP x.toNat with
      | none => rfl
      | some p =>
        rw [hp] at h hm
        dsimp only at h hm ⊢
        obtain ⟨h1, h2, _⟩ := getP_text hp
        by_cases ha : r.length + 1 < 1 + p.ops
        · rw [if_pos ha] at h; exact absurd rfl h
        · rw [if_neg ha] at h hm ⊢
          by_cases ht : p.text = true
          · have ho := (h2 ht).1
            rw [if_pos ht] at h hm ⊢
            by_cases hb : 1000 < (r.getD 0 0).toNat
            · rw [if_pos hb] at h; exact absurd rfl h
            · rw [if_neg hb] at h hm ⊢
              by_cases hd : r.length + 1 < 1 + p.ops + ((r.getD 0 0).toNat + 3) / 4
              · rw [if_pos hd] at h; exact absurd rfl h
              · rw [if_neg hd] at hm ⊢
                have hg : (r.take m').getD 0 0 = r.getD 0 0 := by
                  rw [List.getD_eq_getElem?_getD, List.getD_eq_getElem?_getD, List.getElem?_take, if_pos (by omega)]
                have hl : (r.take m').length = min m' r.length := List.length_take
                rw [if_neg (by rw [hl]; omega), if_pos ht, hg, if_neg hb, if_neg (by rw [hl]; omega)]
          · rw [if_neg ht] at hm ⊢
            have hl : (r.take m').length = min m' r.length := List.length_take
            rw [if_neg (by rw [hl]; omega), if_neg ht]

theorem longC_append (c t : List (BitVec 32)) (h : longC c ≠ 0) : longC (c ++ t) = longC c := by
  cases c with
  | nil => exact absurd rfl h
  | cons x r =>
    rw [longC_cons] at h
    rw [List.cons_append, longC_cons, longC_cons]
    unfold longX at h ⊢
    by_cases hx : 256 ≤ x.toNat
    · rw [if_pos hx, if_pos hx]
    · rw [if_neg hx] at h ⊢
      rw [if_neg hx]
      cases hp : getP x.toNat with
      | none => rfl
      | some p =>
        rw [hp] at h
        dsimp only at h ⊢
        obtain ⟨h1, h2, _⟩ := getP_text hp
        have hl : (r ++ t).length = r.length + t.length := List.length_append
        by_cases ha : r.length + 1 < 1 + p.ops
        · rw [if_pos ha] at h; exact absurd rfl h
        · rw [if_neg ha] at h ⊢
          rw [if_neg (by rw [hl]; omega)]
          by_cases ht : p.text = true
          · have ho := (h2 ht).1
            rw [if_pos ht] at h ⊢
            rw [if_pos ht]
            have hg : (r ++ t).getD 0 0 = r.getD 0 0 := by
              rw [List.getD_eq_getElem?_getD, List.getD_eq_getElem?_getD, List.getElem?_append_left (by omega)]
            rw [hg]
            by_cases hb : 1000 < (r.getD 0 0).toNat
            · rw [if_pos hb] at h; exact absurd rfl h
            · rw [if_neg hb] at h ⊢
              rw [if_neg hb]
              by_cases hd : r.length + 1 < 1 + p.ops + ((r.getD 0 0).toNat + 3) / 4
              · rw [if_pos hd] at h; exact absurd rfl h
              · rw [if_neg hd, if_neg (by rw [hl]; omega)]
          · rw [if_neg ht, if_neg ht]

theorem longC_short (c : List (BitVec 32)) (m : Nat) (h : longC c ≠ 0) (hm : m < longC c) : longC (c.take m) = 0 := by
  apply Classical.byContradiction
  intro h0
  have h1 := longC_append (c.take m) (c.drop m) h0
  rw [List.take_append_drop] at h1
  have h2 := longC_le (c.take m)
  rw [List.length_take] at h2
  omega

/-! ### where instructions start -/
inductive Went (c : List (BitVec 32)) : Nat → List Nat → Prop
  | zero : Went c 0 []
  | step {k : Nat} {l : List Nat} : Went c k l → longC (c.drop k) ≠ 0 → Went c (k + longC (c.drop k)) (l ++ [k])

def startsF : Nat → List (BitVec 32) → Nat → Option (List Nat)
  | 0, _, _ => some []
  | f + 1, c, k => if c = [] then some [] else if longC c = 0 then none else (startsF f (c.drop (longC c)) (k + longC c)).map (k :: ·)
def startsC (c : List (BitVec 32)) : Option (List Nat) := startsF c.length c 0

theorem went_le {c : List (BitVec 32)} {k : Nat} {l : List Nat} (h : Went c k l) : k ≤ c.length := by
  induction h with
  | zero => omega
  | @step k l h hn ih => have := longC_le (c.drop k); rw [List.length_drop] at this; omega

theorem startsF_fuel : ∀ (f g : Nat) (c : List (BitVec 32)) (k : Nat), c.length ≤ f → c.length ≤ g → startsF f c k = startsF g c k
  | 0, 0, _, _, _, _ => rfl
  | 0, g + 1, c, k, h, _ => by
    obtain rfl : c = [] := List.eq_nil_of_length_eq_zero (by omega)
    simp [startsF]
  | f + 1, 0, c, k, _, h => by
    obtain rfl : c = [] := List.eq_nil_of_length_eq_zero (by omega)
    simp [startsF]
  | f + 1, g + 1, c, k, h1, h2 => by
    unfold startsF
    split
    · rfl
    · split
      · rfl
      · rw [startsF_fuel f g _ _ (by rw [List.length_drop]; omega) (by rw [List.length_drop]; omega)]

theorem went_starts {c : List (BitVec 32)} {k : Nat} {l : List Nat} (h : Went c k l) : startsC c = (startsF (c.length - k) (c.drop k) k).map (l ++ ·) := by
  induction h with
  | zero => simp [startsC]
  | @step k l h hn ih =>
    have hle := longC_le (c.drop k)
    rw [List.length_drop] at hle
    rw [ih]
    obtain ⟨f, hf⟩ : ∃ f, c.length - k = f + 1 := ⟨c.length - k - 1, by omega⟩
    rw [hf, startsF, if_neg (by intro e; rw [e] at hn; exact hn rfl), if_neg hn, List.drop_drop]
    rw [startsF_fuel f (c.length - (k + longC (c.drop k))) _ _ (by rw [List.length_drop]; omega) (by rw [List.length_drop]; omega)]
    rw [Option.map_map]
    congr 1
    funext s
    simp

theorem went_done {c : List (BitVec 32)} {l : List Nat} (h : Went c c.length l) : startsC c = some l := by
  rw [went_starts h, Nat.sub_self]
  simp [startsF]
theorem went_stuck {c : List (BitVec 32)} {k : Nat} {l : List Nat} (h : Went c k l) (hk : k < c.length) (h0 : longC (c.drop k) = 0) : startsC c = none := by
  rw [went_starts h]
  obtain ⟨f, hf⟩ : ∃ f, c.length - k = f + 1 := ⟨c.length - k - 1, by omega⟩
  rw [hf, startsF, if_neg (by intro e; have := congrArg List.length e; rw [List.length_drop] at this; simp at this; omega), if_pos h0]
  rfl

theorem went_total_from : ∀ (n : Nat) {c : List (BitVec 32)} {k : Nat} {l : List Nat}, Went c k l → c.length - k ≤ n → (∃ l, Went c c.length l) ∨ ∃ k l, Went c k l ∧ k < c.length ∧ longC (c.drop k) = 0
  | 0, c, k, l, h, hn => by
    have := went_le h
    obtain rfl : k = c.length := by omega
    exact .inl ⟨l, h⟩
  | n + 1, c, k, l, h, hn => by
    have := went_le h
    by_cases hk : k = c.length
    · subst hk; exact .inl ⟨l, h⟩
    · by_cases h0 : longC (c.drop k) = 0
      · exact .inr ⟨k, l, h, by omega, h0⟩
      · exact went_total_from n (.step h h0) (by omega)
theorem went_total (c : List (BitVec 32)) : (∃ l, Went c c.length l) ∨ ∃ k l, Went c k l ∧ k < c.length ∧ longC (c.drop k) = 0 := went_total_from c.length .zero (by omega)

theorem starts_went {c : List (BitVec 32)} {l : List Nat} (h : startsC c = some l) : Went c c.length l := by
  rcases went_total c with ⟨l', h'⟩ | ⟨k, l', h', hk, h0⟩
  · rw [went_done h'] at h; injection h with h; subst h; exact h'
  · rw [went_stuck h' hk h0] at h; cases h
theorem starts_none {c : List (BitVec 32)} (h : startsC c = none) : ∃ k l, Went c k l ∧ k < c.length ∧ longC (c.drop k) = 0 := by
  rcases went_total c with ⟨l', h'⟩ | h'
  · rw [went_done h'] at h; cases h
  · exact h'

theorem went_lt {c : List (BitVec 32)} {n : Nat} {l : List Nat} (h : Went c n l) : ∀ k ∈ l, k < n ∧ k < c.length := by
  induction h with
  | zero => intro k hk; cases hk
  | @step p l h hn ih =>
    intro k hk
    have hle := longC_le (c.drop p)
    rw [List.length_drop] at hle
    rcases List.mem_append.1 hk with hk | hk
    · have := ih k hk; omega
    · simp at hk; omega

theorem went_length {c : List (BitVec 32)} {n : Nat} {l : List Nat} (h : Went c n l) : l.length ≤ n := by
  induction h with
  | zero => simp
  | @step p l h hn ih => simp; omega

/-- Of the i-th start. -/
theorem went_at {c : List (BitVec 32)} {n : Nat} {l : List Nat} (h : Went c n l) : ∀ i k, l[i]? = some k → Went c k (l.take i) ∧ longC (c.drop k) ≠ 0 ∧ ((i + 1 < l.length → l[i + 1]? = some (k + longC (c.drop k))) ∧ (i + 1 = l.length → n = k + longC (c.drop k))) := by
  induction h with
  | zero => intro i k hk; simp at hk
  | @step p l h hn ih =>
    intro i k hk
    by_cases hi : i < l.length
    · rw [List.getElem?_append_left hi] at hk
      obtain ⟨h1, h2, h3, h4⟩ := ih i k hk
      refine ⟨by rw [List.take_append_of_le_length (by omega)]; exact h1, h2, fun hlt => ?_, fun heq => ?_⟩
      · by_cases hj : i + 1 < l.length
        · rw [List.getElem?_append_left hj]; exact h3 hj
        · rw [List.getElem?_append_right (by omega), show i + 1 - l.length = 0 by omega]
          rw [← h4 (by omega)]; rfl
      · simp at heq; omega
    · have hl : i = l.length := by
        have := (List.getElem?_eq_some_iff.1 hk).1
        simp at this; omega
      subst hl
      simp at hk
      subst hk
      refine ⟨by simpa using h, hn, fun hlt => ?_, fun _ => rfl⟩
      simp at hlt

theorem went_take {c : List (BitVec 32)} {n m : Nat} {l : List Nat} (h : Went c n l) (hm : n ≤ m) : Went (c.take m) n l := by
  induction h with
  | zero => exact .zero
  | @step k l h hn ih =>
    have e : longC ((c.take m).drop k) = longC (c.drop k) := by
      rw [List.drop_take]; exact longC_take _ _ hn (by omega)
    have := Went.step (ih (by omega)) (by rw [e]; exact hn)
    rwa [e] at this

theorem went_cut {c : List (BitVec 32)} {n k : Nat} {l : List Nat} (h : Went c n l) : k ≤ n → (k ∈ l ∨ k = n) ∨ (k ∉ l ∧ k ≠ n ∧ startsC (c.take k) = none) := by
  induction h with
  | zero => intro hk; exact .inl (.inr (by omega))
  | @step p l h hn ih =>
    intro hk
    have hlt := went_lt h
    by_cases hp : k ≤ p
    · rcases ih hp with (h1 | h1) | ⟨h1, h2, h3⟩
      · exact .inl (.inl (List.mem_append_left _ h1))
      · exact .inl (.inl (List.mem_append_right _ (by simp [h1])))
      · refine .inr ⟨?_, by omega, h3⟩
        intro hm
        rcases List.mem_append.1 hm with hm | hm
        · exact h1 hm
        · simp at hm; exact h2 hm
    · by_cases he : k = p + longC (c.drop p)
      · exact .inl (.inr he)
      · refine .inr ⟨?_, he, ?_⟩
        · intro hm
          rcases List.mem_append.1 hm with hm | hm
          · have := hlt k hm; omega
          · simp at hm; omega
        · have hle := longC_le (c.drop p)
          rw [List.length_drop] at hle
          refine went_stuck (went_take (m := k) h (by omega)) (by rw [List.length_take]; omega) ?_
          rw [List.drop_take]
          exact longC_short _ _ hn (by omega)

theorem went_append {a : List (BitVec 32)} {n : Nat} {l : List Nat} (b : List (BitVec 32)) (h : Went a n l) : Went (a ++ b) n l := by
  induction h with
  | zero => exact .zero
  | @step k l h hn ih =>
    have hk := went_le h
    have e : longC ((a ++ b).drop k) = longC (a.drop k) := by
      rw [List.drop_append_of_le_length hk]; exact longC_append _ _ hn
    have := Went.step ih (by rw [e]; exact hn)
    rwa [e] at this

theorem went_join {a b : List (BitVec 32)} {x y : List Nat} {m : Nat} (ha : Went a a.length x) (hb : Went b m y) : Went (a ++ b) (a.length + m) (x ++ y.map (· + a.length)) := by
  induction hb with
  | zero => simpa using went_append b ha
  | @step k l h hn ih =>
    have e : (a ++ b).drop (a.length + k) = b.drop k := by
      rw [List.drop_append]; simp
    have := Went.step ih (by rw [e]; exact hn)
    rw [e] at this
    rw [List.map_append, ← List.append_assoc]
    rw [Nat.add_assoc] at this
    simpa [Nat.add_comm] using this

theorem starts_join {a b : List (BitVec 32)} {x : List Nat} (ha : startsC a = some x) : startsC (a ++ b) = (startsC b).map fun y => x ++ y.map (· + a.length) := by
  have hx := starts_went ha
  cases hb : startsC b with
  | some y =>
    have h := went_join hx (starts_went hb)
    rw [← List.length_append] at h
    rw [went_done h]; rfl
  | none =>
    obtain ⟨k, l, hw, hk, h0⟩ := starts_none hb
    rw [went_stuck (went_join hx hw) (by rw [List.length_append]; omega) (by rw [show (a ++ b).drop (a.length + k) = b.drop k by rw [List.drop_append]; simp]; exact h0)]
    rfl

/-! ### which words are right -/
def wordI (l : List Wd) (i : Nat) : Wd := l.getD i ⟨[], 0, []⟩
theorem wordI_at {l : List Wd} {i : Nat} {x : Wd} (h : l[i]? = some x) : wordI l i = x := by unfold wordI; rw [List.getD_eq_getElem?_getD, h]; rfl
theorem wordI_get {l : List Wd} {i : Nat} (h : i < l.length) : l[i]? = some (wordI l i) := by unfold wordI; rw [List.getD_eq_getElem?_getD, List.getElem?_eq_getElem h]; rfl

def startsD (c : List (BitVec 32)) : List Nat := (startsC c).getD []
def cellN (c : List (BitVec 32)) (i : Nat) : Nat := (c.getD i 0).toNat

/-- May the instruction with which c begins stand in the i-th word, whose starts are mine? -/
def mayC (l : List Wd) (i : Nat) (c : List (BitVec 32)) (mine : List Nat) : Bool :=
  if 256 ≤ cellN c 0 then decide (cellN c 0 - 256 ≤ i)
  else if cellN c 0 = 139 then decide (cellN c 1 < i) && (startsD (wordI l (cellN c 1)).code).contains (cellN c 2)
  else !(pOf (getP (cellN c 0))).jump || mine.contains (cellN c 1)

def wholeC (c : List (BitVec 32)) : Bool := match startsC c with
  | none => false
  | some s => !s.isEmpty && decide (cellN c (s.getLastD 0) = 101)

def rightAt (l : List Wd) (i : Nat) : Bool := rightW (wordI l i) && (wholeC (wordI l i).code && (startsD (wordI l i).code).all fun k => mayC l i ((wordI l i).code.drop k) (startsD (wordI l i).code))

def firstBad (f : Nat → Bool) : Nat → Int
  | 0 => -1
  | n + 1 => if firstBad f n = -1 then (if f n = true then -1 else n) else firstBad f n
def checkL (l : List Wd) : Int := firstBad (rightAt l) l.length

theorem firstBad_all {f : Nat → Bool} : ∀ {n : Nat}, (∀ j, j < n → f j = true) → firstBad f n = -1
  | 0, _ => rfl
  | n + 1, h => by rw [firstBad, firstBad_all (fun j hj => h j (by omega)), if_pos rfl, if_pos (h n (by omega))]
theorem firstBad_at {f : Nat → Bool} {i : Nat} (hi : ∀ j, j < i → f j = true) (h : f i = false) : ∀ {n : Nat}, i < n → firstBad f n = i
  | 0, hn => absurd hn (by omega)
  | n + 1, hn => by
    by_cases he : i = n
    · subst he
      rw [firstBad, firstBad_all hi, if_pos rfl, if_neg (by rw [h]; decide)]
    · have := firstBad_at hi h (n := n) (by omega)
      rw [firstBad, this, if_neg (by omega)]
theorem firstBad_cases (f : Nat → Bool) : ∀ n, (firstBad f n = -1 ∧ ∀ j, j < n → f j = true) ∨ ∃ i, i < n ∧ firstBad f n = (i : Int) ∧ f i = false ∧ ∀ j, j < i → f j = true
  | 0 => .inl ⟨rfl, fun j hj => by omega⟩
  | n + 1 => by
    rcases firstBad_cases f n with ⟨h1, h2⟩ | ⟨i, hi, h1, h2, h3⟩
    · by_cases hn : f n = true
      · exact .inl ⟨by rw [firstBad, h1, if_pos rfl, if_pos hn], fun j hj => by
          by_cases he : j = n
          · subst he; exact hn
          · exact h2 j (by omega)⟩
      · exact .inr ⟨n, by omega, by rw [firstBad, h1, if_pos rfl, if_neg hn], by simpa using hn, h2⟩
    · exact .inr ⟨i, by omega, firstBad_at h3 h2 (by omega), h2, h3⟩

theorem mayC_congr {l l' : List Wd} {i : Nat} (h : ∀ j, j < i → wordI l j = wordI l' j) (c : List (BitVec 32)) (mine : List Nat) : mayC l i c mine = mayC l' i c mine := by
  unfold mayC
  split
  · rfl
  · split
    · by_cases hj : cellN c 1 < i
      · rw [h _ hj]
      · simp [hj]
    · rfl

theorem rightAt_congr {l l' : List Wd} {i : Nat} (h : ∀ j, j ≤ i → wordI l j = wordI l' j) : rightAt l i = rightAt l' i := by
  unfold rightAt
  rw [h i (Nat.le_refl _)]
  congr 2
  congr 1
  funext k
  exact mayC_congr (fun j hj => h j (by omega)) _ _

theorem firstBad_congr {f g : Nat → Bool} : ∀ {n : Nat}, (∀ j, j < n → f j = g j) → firstBad f n = firstBad g n
  | 0, _ => rfl
  | n + 1, h => by rw [firstBad, firstBad, firstBad_congr (fun j hj => h j (by omega)), h n (by omega)]

theorem check_cases (l : List Wd) : (checkL l = -1 ∧ ∀ j, j < l.length → rightAt l j = true) ∨ ∃ i, i < l.length ∧ checkL l = (i : Int) ∧ rightAt l i = false ∧ ∀ j, j < i → rightAt l j = true := firstBad_cases _ _

theorem check_take (l : List Wd) (k : Nat) (hk : k ≤ l.length) : checkL (l.take k) = firstBad (rightAt l) k := by
  unfold checkL
  rw [List.length_take, Nat.min_eq_left hk]
  apply firstBad_congr
  intro j hj
  apply rightAt_congr
  intro i hi
  unfold wordI
  rw [List.getD_eq_getElem?_getD, List.getD_eq_getElem?_getD, List.getElem?_take, if_pos (by omega)]

theorem check_prefix (l : List Wd) (k : Nat) (hk : k ≤ l.length) : checkL (l.take k) = if checkL l < 0 ∨ (k : Int) ≤ checkL l then -1 else checkL l := by
  rw [check_take l k hk]
  rcases check_cases l with ⟨h1, h2⟩ | ⟨i, hi, h1, h2, h3⟩
  · rw [if_pos (by omega), firstBad_all (fun j hj => h2 j (by omega))]
  · by_cases hki : k ≤ i
    · rw [if_pos (by omega), firstBad_all (fun j hj => h3 j (by omega))]
    · rw [if_neg (by omega), firstBad_at h3 h2 (by omega), h1]

theorem check_more (l : List Wd) (w : Wd) : (0 ≤ checkL l → checkL (l ++ [w]) = checkL l) ∧ (checkL l = -1 → checkL (l ++ [w]) = -1 ∨ checkL (l ++ [w]) = l.length) := by
  have h := check_prefix (l ++ [w]) l.length (by simp)
  rw [List.take_left' rfl] at h
  rcases check_cases (l ++ [w]) with ⟨h1, h2⟩ | ⟨i, hi, h1, h2, h3⟩
  · rw [h1] at h ⊢
    simp at h
    exact ⟨fun h' => by omega, fun _ => .inl rfl⟩
  · rw [h1] at h ⊢
    simp at hi
    by_cases hl : (l.length : Int) ≤ (i : Int)
    · rw [if_pos (.inr hl)] at h
      exact ⟨fun h' => by omega, fun _ => .inr (by omega)⟩
    · rw [if_neg (by omega)] at h
      exact ⟨fun _ => h.symm, fun h' => by omega⟩
end Go.Proofs.Ytfnjjanknfmibaa
