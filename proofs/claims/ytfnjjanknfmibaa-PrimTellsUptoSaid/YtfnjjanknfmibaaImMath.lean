/-
  Words as bytes: mathematics. What a right word is, its bytes, what bytes say; names that are alike, and where one is found. No function of the program is named here.
-/
import Derived.Test.YtfnjjanknfmibaaGround
namespace Go.Proofs.Ytfnjjanknfmibaa
set_option linter.unusedVariables false

structure Wd where
  name : List UInt8
  flags : UInt8
  code : List (BitVec 32)

def okC (c : UInt8) : Bool := decide (33 ≤ c.toNat) && decide (c.toNat ≤ 126)
def rightN (l : List UInt8) : Bool := decide (1 ≤ l.length) && decide (l.length ≤ 31) && l.all okC
def rightW (x : Wd) : Bool := rightN x.name && decide (x.flags.toNat ≤ 3) && decide (x.code.length ≤ 1000)
def rightL (l : List Wd) : Bool := l.all rightW
def sizeW (x : Wd) : Nat := 4 + x.name.length + 4 * x.code.length
def sizeR (x : Wd) : Nat := if rightW x = true then sizeW x else 0

def le4 (x : BitVec 32) : List UInt8 := [UInt8.ofNat x.toNat, UInt8.ofNat (x.toNat / 256), UInt8.ofNat (x.toNat / 65536), UInt8.ofNat (x.toNat / 16777216)]
def of4 (a b c d : UInt8) : BitVec 32 := BitVec.ofNat 32 (a.toNat + 256 * b.toNat + 65536 * c.toNat + 16777216 * d.toNat)

def headW (x : Wd) : List UInt8 := [UInt8.ofNat x.name.length, x.flags, UInt8.ofNat x.code.length, UInt8.ofNat (x.code.length / 256)]
def codeB (l : List (BitVec 32)) : List UInt8 := l.flatMap le4
def bytesW (x : Wd) : List UInt8 := headW x ++ (x.name ++ codeB x.code)
def encL (l : List Wd) : List UInt8 := l.flatMap bytesW

def codeOfL (n : Nat) (b : List UInt8) : List (BitVec 32) := (List.range n).map fun i => of4 (b.getD (4 * i) 0) (b.getD (4 * i + 1) 0) (b.getD (4 * i + 2) 0) (b.getD (4 * i + 3) 0)

def headN (b : List UInt8) : Nat := (b.getD 0 0).toNat
def headC (b : List UInt8) : Nat := (b.getD 2 0).toNat + 256 * (b.getD 3 0).toNat
def wordOfB (b : List UInt8) : Wd := ⟨(b.drop 4).take (headN b), b.getD 1 0, codeOfL (headC b) (b.drop (4 + headN b))⟩

def firstW (b : List UInt8) : Option Wd :=
  if b.length < 4 then none else if b.length < 4 + headN b + 4 * headC b then none else if rightW (wordOfB b) = true then some (wordOfB b) else none

def decF : Nat → List UInt8 → Option (List Wd)
  | 0, b => if b = [] then some [] else none
  | n + 1, b => if b = [] then some [] else match firstW b with
    | none => none
    | some x => (decF n (b.drop (sizeW x))).map (x :: ·)

def decL (b : List UInt8) : Option (List Wd) := decF b.length b

theorem codeB_length (l : List (BitVec 32)) : (codeB l).length = 4 * l.length := by
  unfold codeB
  induction l with
  | nil => rfl
  | cons x l ih => rw [List.flatMap_cons, List.length_append, ih]; simp [le4]; omega

theorem bytesW_length (x : Wd) : (bytesW x).length = sizeW x := by
  unfold bytesW sizeW
  rw [List.length_append, List.length_append, codeB_length]; simp [headW]; omega

theorem of4_le4 (x : BitVec 32) : of4 (UInt8.ofNat x.toNat) (UInt8.ofNat (x.toNat / 256)) (UInt8.ofNat (x.toNat / 65536)) (UInt8.ofNat (x.toNat / 16777216)) = x := by
  have h := x.isLt
  unfold of4
  apply BitVec.eq_of_toNat_eq
  rw [BitVec.toNat_ofNat]
  simp only [UInt8.toNat_ofNat']
  have : 2 ^ 32 = 4294967296 := by decide
  have : 2 ^ 8 = 256 := by decide
  simp only [*] at *
  omega

theorem codeOfL_succ (n : Nat) (b : List UInt8) : codeOfL (n + 1) b = of4 (b.getD 0 0) (b.getD 1 0) (b.getD 2 0) (b.getD 3 0) :: codeOfL n (b.drop 4) := by
  unfold codeOfL
  rw [List.range_succ_eq_map, List.map_cons, List.map_map]
  congr 1
  apply List.map_congr_left
  intro i _
  simp only [Function.comp, List.getD_eq_getElem?_getD, List.getElem?_drop]
  rw [show 4 * (i + 1) = 4 + 4 * i by omega, show 4 + 4 * i + 1 = 4 + (4 * i + 1) by omega, show 4 + 4 * i + 2 = 4 + (4 * i + 2) by omega, show 4 + 4 * i + 3 = 4 + (4 * i + 3) by omega]

theorem codeOfL_length (n : Nat) (b : List UInt8) : (codeOfL n b).length = n := by simp [codeOfL]

theorem codeOfL_codeB (l : List (BitVec 32)) (t : List UInt8) : codeOfL l.length (codeB l ++ t) = l := by
  induction l with
  | nil => rfl
  | cons x l ih =>
    rw [List.length_cons, codeOfL_succ]
    unfold codeB at *
    rw [List.flatMap_cons, List.append_assoc]
    congr 1
    exact of4_le4 x

theorem ofNat_of_lt {n : Nat} (h : n < 256) : (UInt8.ofNat n).toNat = n := by
  rw [UInt8.toNat_ofNat']; omega

theorem right_bounds {x : Wd} (h : rightW x = true) : 1 ≤ x.name.length ∧ x.name.length ≤ 31 ∧ x.flags.toNat ≤ 3 ∧ x.code.length ≤ 1000 := by
  unfold rightW rightN at h
  simp only [Bool.and_eq_true, decide_eq_true_eq] at h
  omega

theorem sizeW_pos (x : Wd) : 4 ≤ sizeW x := by unfold sizeW; omega
theorem sizeW_le {x : Wd} (h : rightW x = true) : sizeW x ≤ 4035 := by have := right_bounds h; unfold sizeW; omega

theorem head_of (x : Wd) (h : rightW x = true) (t : List UInt8) : headN (bytesW x ++ t) = x.name.length ∧ headC (bytesW x ++ t) = x.code.length := by
  obtain ⟨h1, h2, h3, h4⟩ := right_bounds h
  constructor
  · show (UInt8.ofNat x.name.length).toNat = _
    exact ofNat_of_lt (by omega)
  · show (UInt8.ofNat x.code.length).toNat + 256 * (UInt8.ofNat (x.code.length / 256)).toNat = _
    rw [UInt8.toNat_ofNat', ofNat_of_lt (by omega)]; omega

theorem wordOf_bytes (x : Wd) (h : rightW x = true) (t : List UInt8) : wordOfB (bytesW x ++ t) = x := by
  obtain ⟨e1, e2⟩ := head_of x h t
  unfold wordOfB
  rw [e1, e2]
  have d4 : (bytesW x ++ t).drop 4 = x.name ++ (codeB x.code ++ t) := by
    unfold bytesW headW; simp
  have d5 : (bytesW x ++ t).drop (4 + x.name.length) = codeB x.code ++ t := by
    rw [← List.drop_drop, d4, List.drop_left']; rfl
  rw [d4, d5, List.take_left' rfl, codeOfL_codeB]
  rfl

theorem first_bytes (x : Wd) (h : rightW x = true) (t : List UInt8) : firstW (bytesW x ++ t) = some x := by
  obtain ⟨e1, e2⟩ := head_of x h t
  have hl : (bytesW x ++ t).length = sizeW x + t.length := by rw [List.length_append, bytesW_length]
  have := sizeW_pos x
  have hz : sizeW x = 4 + x.name.length + 4 * x.code.length := rfl
  unfold firstW
  rw [e1, e2, hl, if_neg (by omega), if_neg (by omega), wordOf_bytes x h t, if_pos h]

theorem byte_of_div (c : UInt8) (n : Nat) (h : n % 256 = c.toNat) : UInt8.ofNat n = c := by
  apply UInt8.toNat_inj.1
  rw [UInt8.toNat_ofNat']; omega

theorem le4_of4 (a b c d : UInt8) : le4 (of4 a b c d) = [a, b, c, d] := by
  have h1 := a.toNat_lt; have h2 := b.toNat_lt; have h3 := c.toNat_lt; have h4 := d.toNat_lt
  have e : (of4 a b c d).toNat = a.toNat + 256 * b.toNat + 65536 * c.toNat + 16777216 * d.toNat := by
    unfold of4
    rw [BitVec.toNat_ofNat, Nat.mod_eq_of_lt (by omega)]
  unfold le4
  rw [e, byte_of_div a _ (by omega), byte_of_div b _ (by omega), byte_of_div c _ (by omega), byte_of_div d _ (by omega)]

theorem codeB_codeOfL : ∀ (n : Nat) (b : List UInt8), 4 * n ≤ b.length → codeB (codeOfL n b) = b.take (4 * n)
  | 0, b, _ => by simp [codeOfL, codeB]
  | n + 1, a :: b :: c :: d :: r, h => by
    rw [codeOfL_succ]
    have ih := codeB_codeOfL n r (by simp at h; omega)
    unfold codeB at *
    rw [List.flatMap_cons, show List.drop 4 (a :: b :: c :: d :: r) = r from rfl, ih]
    rw [show of4 ((a :: b :: c :: d :: r).getD 0 0) ((a :: b :: c :: d :: r).getD 1 0) ((a :: b :: c :: d :: r).getD 2 0) ((a :: b :: c :: d :: r).getD 3 0) = of4 a b c d from rfl, le4_of4]
    rw [show 4 * (n + 1) = 4 * n + 1 + 1 + 1 + 1 by omega]
    rfl
  | n + 1, [], h => by simp at h
  | n + 1, [_], h => by simp at h; omega
  | n + 1, [_, _], h => by simp at h; omega
  | n + 1, [_, _, _], h => by simp at h; omega

theorem first_some {b : List UInt8} {x : Wd} (h : firstW b = some x) : rightW x = true ∧ b = bytesW x ++ b.drop (sizeW x) ∧ sizeW x ≤ b.length := by
  unfold firstW at h
  by_cases h4 : b.length < 4
  · rw [if_pos h4] at h; cases h
  rw [if_neg h4] at h
  by_cases h5 : b.length < 4 + headN b + 4 * headC b
  · rw [if_pos h5] at h; cases h
  rw [if_neg h5] at h
  by_cases hr : ¬ rightW (wordOfB b) = true
  · rw [if_neg hr] at h; cases h
  have hr : rightW (wordOfB b) = true := Classical.not_not.1 hr
  rw [if_pos hr] at h
  injection h with h
  subst h
  have hn : (wordOfB b).name.length = headN b := by
    show ((b.drop 4).take (headN b)).length = _
    rw [List.length_take, List.length_drop]; omega
  have hc : (wordOfB b).code.length = headC b := codeOfL_length _ _
  have hz : sizeW (wordOfB b) = 4 + headN b + 4 * headC b := by unfold sizeW; rw [hn, hc]
  refine ⟨hr, ?_, by omega⟩
  have main : bytesW (wordOfB b) = b.take (4 + headN b + 4 * headC b) := by
    match b, h4 with
    | a :: f :: c :: d :: r, _ =>
      have e1 : headW (wordOfB (a :: f :: c :: d :: r)) = [a, f, c, d] := by
        unfold headW
        rw [hn, hc]
        have ha := a.toNat_lt; have hc' := c.toNat_lt; have hd := d.toNat_lt
        rw [byte_of_div a (headN _) (by show a.toNat % 256 = _; omega), byte_of_div c (headC _) (by show (c.toNat + 256 * d.toNat) % 256 = _; omega), byte_of_div d (headC _ / 256) (by show (c.toNat + 256 * d.toNat) / 256 % 256 = _; omega)]
        rfl
      unfold bytesW
      rw [e1]
      have e2 : codeB (wordOfB (a :: f :: c :: d :: r)).code = (r.drop (headN (a :: f :: c :: d :: r))).take (4 * headC (a :: f :: c :: d :: r)) := by
        show codeB (codeOfL _ _) = _
        rw [codeB_codeOfL _ _ (by rw [List.length_drop]; omega)]
        rw [show 4 + headN (a :: f :: c :: d :: r) = headN (a :: f :: c :: d :: r) + 1 + 1 + 1 + 1 by omega]
        rfl
      rw [e2]
      show [a, f, c, d] ++ (r.take (headN _) ++ _) = _
      rw [show 4 + headN (a :: f :: c :: d :: r) + 4 * headC (a :: f :: c :: d :: r) = (headN (a :: f :: c :: d :: r) + 4 * headC (a :: f :: c :: d :: r)) + 1 + 1 + 1 + 1 by omega]
      simp only [List.take_succ_cons, List.cons_append, List.nil_append]
      rw [List.take_add]
    | [], h4 => simp at h4
    | [_], h4 => simp at h4
    | [_, _], h4 => simp at h4
    | [_, _, _], h4 => simp at h4
  rw [main, hz, List.take_append_drop]

theorem bytesW_ne (x : Wd) : bytesW x ≠ [] := by unfold bytesW headW; simp

theorem decF_more : ∀ (n m : Nat) (b : List UInt8), b.length ≤ n → b.length ≤ m → decF n b = decF m b
  | 0, 0, b, _, _ => rfl
  | 0, m + 1, b, h, _ => by
    have : b = [] := List.eq_nil_of_length_eq_zero (by omega)
    subst this; simp [decF]
  | n + 1, 0, b, _, h => by
    have : b = [] := List.eq_nil_of_length_eq_zero (by omega)
    subst this; simp [decF]
  | n + 1, m + 1, b, h1, h2 => by
    unfold decF
    by_cases hb : b = []
    · rw [if_pos hb, if_pos hb]
    · rw [if_neg hb, if_neg hb]
      cases hf : firstW b with
      | none => rfl
      | some x =>
        have := sizeW_pos x
        have h0 : 0 < b.length := List.length_pos_iff.2 hb
        dsimp only
        rw [decF_more n m (b.drop (sizeW x)) (by rw [List.length_drop]; omega) (by rw [List.length_drop]; omega)]

theorem dec_nil : decL [] = some [] := by simp [decL, decF]

theorem dec_step (b : List UInt8) (h : b ≠ []) : decL b = match firstW b with
    | none => none
    | some x => (decL (b.drop (sizeW x))).map (x :: ·) := by
  have h0 : 0 < b.length := List.length_pos_iff.2 h
  unfold decL
  obtain ⟨n, hn⟩ : ∃ n, b.length = n + 1 := ⟨b.length - 1, by omega⟩
  rw [hn]
  have e : decF (n + 1) b = match firstW b with
    | none => none
    | some x => (decF n (b.drop (sizeW x))).map (x :: ·) := by
    rw [decF, if_neg h]
  rw [e]
  cases hf : firstW b with
  | none => rfl
  | some x =>
    dsimp only
    have := sizeW_pos x
    rw [decF_more n _ (b.drop (sizeW x)) (by rw [List.length_drop]; omega) (Nat.le_refl _)]

theorem dec_enc (l : List Wd) (h : rightL l = true) (t : List UInt8) : decL (encL l ++ t) = (decL t).map (l ++ ·) := by
  induction l with
  | nil => simp [encL]
  | cons x l ih =>
    unfold rightL at *
    rw [List.all_cons, Bool.and_eq_true] at h
    unfold encL at *
    rw [List.flatMap_cons, List.append_assoc, dec_step _ (by simp [bytesW_ne]), first_bytes x h.1]
    dsimp only
    rw [List.drop_left' (bytesW_length x), ih h.2]
    simp [Option.map_map, Function.comp_def]

theorem dec_some : ∀ (n : Nat) {b : List UInt8} {l : List Wd}, b.length ≤ n → decL b = some l → rightL l = true ∧ b = encL l
  | n, b, l, hn, h => by
    by_cases hb : b = []
    · subst hb
      rw [dec_nil] at h
      injection h with h
      subst h
      exact ⟨rfl, rfl⟩
    · rw [dec_step b hb] at h
      cases hf : firstW b with
      | none => rw [hf] at h; cases h
      | some x =>
        rw [hf] at h
        dsimp only at h
        obtain ⟨l', hl', rfl⟩ := Option.map_eq_some_iff.1 h
        obtain ⟨hr, hbb, hle⟩ := first_some hf
        have := sizeW_pos x
        match n, hn with
        | 0, hn => omega
        | n + 1, hn =>
          obtain ⟨h1, h2⟩ := dec_some n (b := b.drop (sizeW x)) (by rw [List.length_drop]; omega) hl'
          refine ⟨by unfold rightL at *; rw [List.all_cons, hr, h1]; rfl, ?_⟩
          unfold encL at *
          rw [List.flatMap_cons, ← h2]
          exact hbb

theorem dec_back {b : List UInt8} {l : List Wd} (h : decL b = some l) : rightL l = true ∧ b = encL l := dec_some b.length (Nat.le_refl _) h

theorem dec_right (l : List Wd) (h : rightL l = true) : decL (encL l) = some l := by
  have := dec_enc l h []
  rw [List.append_nil, dec_nil] at this
  simpa using this

theorem enc_inj {l m : List Wd} (hl : rightL l = true) (hm : rightL m = true) (h : encL l = encL m) : l = m := by
  have h1 := dec_right l hl
  rw [h, dec_right m hm] at h1
  injection h1 with h1
  exact h1.symm

theorem encL_append (l m : List Wd) : encL (l ++ m) = encL l ++ encL m := by unfold encL; rw [List.flatMap_append]

def sizeL (l : List Wd) : Nat := (encL l).length
theorem sizeL_cons (x : Wd) (l : List Wd) : sizeL (x :: l) = sizeW x + sizeL l := by unfold sizeL encL; rw [List.flatMap_cons, List.length_append, bytesW_length]
theorem sizeL_append (l m : List Wd) : sizeL (l ++ m) = sizeL l + sizeL m := by unfold sizeL; rw [encL_append, List.length_append]
theorem sizeL_le {l : List Wd} (h : rightL l = true) : sizeL l ≤ 4035 * l.length := by
  induction l with
  | nil => simp [sizeL, encL]
  | cons x l ih =>
    unfold rightL at *
    rw [List.all_cons, Bool.and_eq_true] at h
    have := ih h.2
    have := sizeW_le h.1
    rw [sizeL_cons, List.length_cons]; omega

/-- A word's bytes, cut off, are none. -/
theorem first_cut (x : Wd) (h : rightW x = true) (k : Nat) (hk : k < sizeW x) : firstW ((bytesW x).take k) = none := by
  cases hf : firstW ((bytesW x).take k) with
  | none => rfl
  | some y =>
    exfalso
    obtain ⟨hr, hb, hle⟩ := first_some hf
    have h1 : bytesW x = bytesW y ++ (((bytesW x).take k).drop (sizeW y) ++ (bytesW x).drop k) := by
      rw [← List.append_assoc, ← hb, List.take_append_drop]
    have h2 := first_bytes x h []
    rw [List.append_nil, h1, first_bytes y hr] at h2
    injection h2 with h2
    subst h2
    rw [List.length_take, bytesW_length] at hle
    omega

/-- Cut off anywhere within a word, bytes are none. -/
theorem dec_cut (l : List Wd) (hl : rightL l = true) (x : Wd) (hx : rightW x = true) (k : Nat) (h0 : 0 < k) (hk : k < sizeW x) : decL (encL l ++ (bytesW x).take k) = none := by
  rw [dec_enc l hl, dec_step _ (by intro e; have := congrArg List.length e; rw [List.length_take, bytesW_length] at this; simp at this; omega), first_cut x hx k hk]
  rfl

/-! ### names -/
def smallC (c : UInt8) : UInt8 := if 65 ≤ c.toNat ∧ c.toNat ≤ 90 then c + 32 else c
def largeC (c : UInt8) : UInt8 := if 97 ≤ c.toNat ∧ c.toNat ≤ 122 then c - 32 else c

theorem small_nat (c : UInt8) : (smallC c).toNat = if 65 ≤ c.toNat ∧ c.toNat ≤ 90 then c.toNat + 32 else c.toNat := by
  unfold smallC
  split
  · rw [UInt8.toNat_add]; show (c.toNat + 32) % 256 = _; omega
  · rfl
theorem large_nat (c : UInt8) : (largeC c).toNat = if 97 ≤ c.toNat ∧ c.toNat ≤ 122 then c.toNat - 32 else c.toNat := by
  unfold largeC
  split
  · rename_i h
    rw [UInt8.toNat_sub_of_le _ _ (by show 32 ≤ c.toNat; omega)]; rfl
  · rfl

theorem small_large (a b : UInt8) : smallC a = smallC b ↔ largeC a = largeC b := by
  constructor
  · intro h
    have h := congrArg UInt8.toNat h
    rw [small_nat, small_nat] at h
    apply UInt8.toNat_inj.1
    rw [large_nat, large_nat]
    split at h <;> split at h <;> split <;> split <;> omega
  · intro h
    have h := congrArg UInt8.toNat h
    rw [large_nat, large_nat] at h
    apply UInt8.toNat_inj.1
    rw [small_nat, small_nat]
    split at h <;> split at h <;> split <;> split <;> omega

theorem small_of_large (c : UInt8) : smallC (largeC c) = smallC c := by
  apply UInt8.toNat_inj.1
  rw [small_nat, small_nat, large_nat]
  split <;> split <;> (try split) <;> omega
theorem small_small (c : UInt8) : smallC (smallC c) = smallC c := by
  apply UInt8.toNat_inj.1
  rw [small_nat, small_nat]
  split
  · rw [if_neg (by omega)]
  · rfl

def alikeB (a b : List UInt8) : Bool := a.map smallC == b.map smallC

theorem alike_refl (a : List UInt8) : alikeB a a = true := by simp [alikeB]
theorem alike_symm (a b : List UInt8) : alikeB a b = alikeB b a := by
  unfold alikeB
  rw [Bool.eq_iff_iff, beq_iff_eq, beq_iff_eq]
  exact ⟨fun h => h.symm, fun h => h.symm⟩
theorem alike_eq {a b : List UInt8} (h : alikeB a b = true) (x : List UInt8) : alikeB x a = alikeB x b := by
  unfold alikeB at *
  rw [eq_of_beq h]
theorem alike_len {a b : List UInt8} (h : a.length ≠ b.length) : alikeB a b = false := by
  unfold alikeB
  rw [beq_eq_false_iff_ne]
  intro e
  have := congrArg List.length e
  simp at this
  exact h this

theorem alike_large_map (a : List UInt8) : alikeB (a.map largeC) a = true := by
  unfold alikeB
  rw [List.map_map, beq_iff_eq]
  exact List.map_congr_left fun c _ => small_of_large c
theorem alike_small_map (a : List UInt8) : alikeB (a.map smallC) a = true := by
  unfold alikeB
  rw [List.map_map, beq_iff_eq]
  exact List.map_congr_left fun c _ => small_small c

/-- The index of the last of the first words whose name is alike. -/
def lastI (l : List Wd) (a : List UInt8) : Nat → Int
  | 0 => -1
  | k + 1 => match l[k]? with
    | some x => if alikeB x.name a = true then (k : Int) else lastI l a k
    | none => lastI l a k
def findI (l : List Wd) (a : List UInt8) : Int := lastI l a l.length

theorem lastI_lt (l : List Wd) (a : List UInt8) : ∀ k, -1 ≤ lastI l a k ∧ lastI l a k < k
  | 0 => by simp [lastI]
  | k + 1 => by
    have ih := lastI_lt l a k
    unfold lastI
    split
    · split <;> omega
    · omega

theorem lastI_alike {a b : List UInt8} (h : alikeB a b = true) (l : List Wd) : ∀ k, lastI l a k = lastI l b k
  | 0 => rfl
  | k + 1 => by
    unfold lastI
    rw [lastI_alike h l k]
    cases l[k]? with
    | none => rfl
    | some x => dsimp only; rw [alike_eq h x.name]

theorem find_alike {a b : List UInt8} (h : alikeB a b = true) (l : List Wd) : findI l a = findI l b := lastI_alike h l _

theorem lastI_hit (l : List Wd) (a : List UInt8) : ∀ (k i : Nat) (x : Wd), l[i]? = some x → i < k → alikeB x.name a = true → (i : Int) ≤ lastI l a k
  | 0, i, x, _, h, _ => by omega
  | k + 1, i, x, hx, h, ha => by
    unfold lastI
    by_cases e : i = k
    · subst e
      rw [hx]; dsimp only; rw [if_pos ha]; exact Int.le_refl _
    · have ih := lastI_hit l a k i x hx (by omega) ha
      split
      · split <;> omega
      · exact ih

theorem lastI_is (l : List Wd) (a : List UInt8) : ∀ (k : Nat), lastI l a k = -1 ∨ ∃ (i : Nat) (x : Wd), lastI l a k = i ∧ l[i]? = some x ∧ i < k ∧ alikeB x.name a = true
  | 0 => .inl rfl
  | k + 1 => by
    unfold lastI
    have ih := lastI_is l a k
    have lift : lastI l a k = -1 ∨ ∃ (i : Nat) (x : Wd), lastI l a k = i ∧ l[i]? = some x ∧ i < k + 1 ∧ alikeB x.name a = true := by
      rcases ih with h | ⟨i, x, h1, h2, h3, h4⟩
      · exact .inl h
      · exact .inr ⟨i, x, h1, h2, by omega, h4⟩
    split
    · rename_i x hx
      split
      · rename_i h
        exact .inr ⟨k, x, rfl, hx, by omega, h⟩
      · exact lift
    · exact lift

/-! ### words compared -/
def sameB (x y : Wd) : Bool := x.name == y.name && x.flags == y.flags && x.code == y.code
def allB (l m : List Wd) : Bool := l.length == m.length && (l.zip m).all fun p => sameB p.1 p.2

theorem same_iff (x y : Wd) : sameB x y = true ↔ x = y := by
  unfold sameB
  simp only [Bool.and_eq_true, beq_iff_eq]
  constructor
  · rintro ⟨⟨h1, h2⟩, h3⟩
    cases x; cases y
    simp at h1 h2 h3
    subst h1 h2 h3; rfl
  · rintro rfl; exact ⟨⟨rfl, rfl⟩, rfl⟩

theorem all_iff : ∀ (l m : List Wd), allB l m = true ↔ l = m
  | [], [] => by simp [allB]
  | [], y :: m => by simp [allB]
  | x :: l, [] => by simp [allB]
  | x :: l, y :: m => by
    have ih := all_iff l m
    unfold allB at *
    simp only [Bool.and_eq_true, List.length_cons, beq_iff_eq, List.zip_cons_cons, List.all_cons, same_iff] at *
    constructor
    · rintro ⟨h1, h2, h3⟩
      rw [h2, ih.1 ⟨by omega, h3⟩]
    · intro h
      injection h with h1 h2
      subst h1 h2
      have := ih.2 rfl
      exact ⟨rfl, rfl, this.2⟩
end Go.Proofs.Ytfnjjanknfmibaa
