/-
  PrimCalls: a word that does nothing but call words, and ends.
-/
import Derived.Test.YtfnjjanknfmibaaPmInts
namespace Go.Proofs.Ytfnjjanknfmibaa
open Go.RowKit Go.Deep
set_option linter.unusedVariables false

/-! ### mathematics -/
def exitW : Wd := ⟨[120], 0, [101#32]⟩
def callC (cs : List UInt8) : List (BitVec 32) := cs.map fun c => BitVec.ofNat 32 (256 + c.toNat % 30)
def callsC (cs : List UInt8) (p : Nat) : List (BitVec 32) := callC cs ++ [104#32, BitVec.ofNat 32 p, 101#32]
def callsW (cs : List UInt8) (p : Nat) : Wd := ⟨[121], 0, callsC cs p⟩

set_option maxRecDepth 100000 in
theorem callC_length (cs : List UInt8) : (callC cs).length = cs.length := by simp [callC]
set_option maxRecDepth 100000 in
theorem callsC_length (cs : List UInt8) (p : Nat) : (callsC cs p).length = cs.length + 3 := by simp [callsC, callC]
set_option maxRecDepth 100000 in
theorem callC_num (c : UInt8) : (BitVec.ofNat 32 (256 + c.toNat % 30)).toNat = 256 + c.toNat % 30 := by
  rw [BitVec.toNat_ofNat]; have := c.toNat_lt; omega

set_option maxRecDepth 100000 in
theorem callsC_call (cs : List UInt8) (p j : Nat) (c : UInt8) (h : cs[j]? = some c) : cellN ((callsC cs p).drop j) 0 = 256 + c.toNat % 30 := by
  have hj := (List.getElem?_eq_some_iff.1 h).1
  unfold cellN callsC
  rw [List.getD_eq_getElem?_getD, List.getElem?_drop, Nat.add_zero, List.getElem?_append_left (by rw [callC_length]; exact hj)]
  unfold callC
  rw [List.getElem?_map, h]
  exact callC_num c

set_option maxRecDepth 100000 in
theorem drop_calls (cs : List UInt8) (p : Nat) : (callsC cs p).drop cs.length = [104#32, BitVec.ofNat 32 p, 101#32] := by
  unfold callsC
  rw [List.drop_left' (callC_length cs)]
set_option maxRecDepth 100000 in
theorem drop_calls2 (cs : List UInt8) (p : Nat) : (callsC cs p).drop (cs.length + 2) = [101#32] := by
  rw [← List.drop_drop, drop_calls]; rfl

set_option maxRecDepth 100000 in
theorem long_call {c : List (BitVec 32)} (h : 256 ≤ cellN c 0) (hne : c ≠ []) : longC c = 1 := by
  rw [longC_nums hne, if_pos h]

set_option maxRecDepth 100000 in
theorem get_104 : getP 104 = some ⟨104, [40, 48, 66, 82, 65, 78, 67, 72, 41], 1, 0, 1, false, true⟩ := by
  have h : (getP 104).map (fun p => (p.num, p.name, p.takes, p.gives, p.ops, p.text, p.jump)) = some (104, [40, 48, 66, 82, 65, 78, 67, 72, 41], 1, 0, 1, false, true) := by kernel_rfl
  cases hg : getP 104 with
  | none => rw [hg] at h; cases h
  | some q =>
    rw [hg] at h
    simp only [Option.map_some, Option.some.injEq, Prod.mk.injEq] at h
    obtain ⟨a, b, c, d, e, f, g⟩ := q
    simp only at h
    obtain ⟨rfl, rfl, rfl, rfl, rfl, rfl, rfl⟩ := h
    rfl
set_option maxRecDepth 100000 in
theorem get_101 : getP 101 = some ⟨101, [69, 88, 73, 84], 0, 0, 0, false, false⟩ := by
  have h : (getP 101).map (fun p => (p.num, p.name, p.takes, p.gives, p.ops, p.text, p.jump)) = some (101, [69, 88, 73, 84], 0, 0, 0, false, false) := by kernel_rfl
  cases hg : getP 101 with
  | none => rw [hg] at h; cases h
  | some q =>
    rw [hg] at h
    simp only [Option.map_some, Option.some.injEq, Prod.mk.injEq] at h
    obtain ⟨a, b, c, d, e, f, g⟩ := q
    simp only at h
    obtain ⟨rfl, rfl, rfl, rfl, rfl, rfl, rfl⟩ := h
    rfl

set_option maxRecDepth 100000 in
theorem long_branch (q : BitVec 32) : longC [104#32, q, 101#32] = 2 := by
  rw [longC_nums (by simp), show cellN [104#32, q, 101#32] 0 = 104 from rfl, if_neg (by decide), get_104]; rfl
set_option maxRecDepth 100000 in
theorem long_exit : longC [101#32] = 1 := by
  rw [longC_nums (by simp), show cellN [101#32] 0 = 101 from rfl, if_neg (by decide), get_101]; rfl

set_option maxRecDepth 100000 in
theorem went_calls (cs : List UInt8) (p : Nat) : ∀ k, k ≤ cs.length → Went (callsC cs p) k (List.range k)
  | 0, _ => .zero
  | k + 1, h => by
    have ih := went_calls cs p k (by omega)
    have hl : longC ((callsC cs p).drop k) = 1 := by
      refine long_call ?_ ?_
      · rw [callsC_call cs p k cs[k] (List.getElem?_eq_getElem (by omega))]; omega
      · intro e; have := congrArg List.length e; rw [List.length_drop, callsC_length] at this; simp at this; omega
    have := Went.step ih (by rw [hl]; decide)
    rw [hl] at this
    rw [List.range_succ]; exact this

set_option maxRecDepth 100000 in
theorem starts_calls (cs : List UInt8) (p : Nat) : startsC (callsC cs p) = some (List.range cs.length ++ [cs.length, cs.length + 2]) := by
  have h0 := went_calls cs p cs.length (Nat.le_refl _)
  have l1 : longC ((callsC cs p).drop cs.length) = 2 := by rw [drop_calls, long_branch]
  have h1 := Went.step h0 (by rw [l1]; decide)
  rw [l1] at h1
  have l2 : longC ((callsC cs p).drop (cs.length + 2)) = 1 := by rw [drop_calls2, long_exit]
  have h2 := Went.step h1 (by rw [l2]; decide)
  rw [l2] at h2
  refine went_done ?_
  rw [callsC_length]
  simpa using h2

set_option maxRecDepth 100000 in
theorem right_exit (l : List Wd) (i : Nat) (h : wordI l i = exitW) : rightAt l i = true := by
  have hs : startsC [101#32] = some [0] := by
    have := Went.step (c := [101#32]) .zero (by rw [List.drop_zero, long_exit]; decide)
    rw [List.drop_zero, long_exit] at this
    exact went_done this
  unfold rightAt
  rw [h]
  have h1 : rightW exitW = true := by decide
  have h2 : wholeC exitW.code = true := by unfold wholeC; rw [show exitW.code = [101#32] from rfl, hs]; rfl
  rw [h1, h2, show startsD exitW.code = [0] by unfold startsD; rw [show exitW.code = [101#32] from rfl, hs]; rfl]
  simp only [Bool.true_and, List.all_cons, List.all_nil, Bool.and_true, List.drop_zero]
  unfold mayC
  rw [show cellN exitW.code 0 = 101 from rfl, if_neg (by decide), if_neg (by decide), get_101]; rfl

def fineC (n : Nat) (cs : List UInt8) (p : Nat) : Bool := (cs.all fun c => decide (c.toNat % 30 ≤ n)) && (decide (p ≤ cs.length) || decide (p = cs.length + 2))

set_option maxRecDepth 100000 in
theorem right_calls (l : List Wd) (i : Nat) (cs : List UInt8) (p : Nat) (h : wordI l i = callsW cs p) (hl : cs.length ≤ 12) (hp : p < 20) : rightAt l i = fineC i cs p := by
  have hs := starts_calls cs p
  have hsd : startsD (callsC cs p) = List.range cs.length ++ [cs.length, cs.length + 2] := by unfold startsD; rw [hs]; rfl
  unfold rightAt
  rw [h, show (callsW cs p).code = callsC cs p from rfl, hsd]
  have h1 : rightW (callsW cs p) = true := by
    unfold rightW
    rw [show (callsW cs p).code.length = cs.length + 3 from callsC_length cs p, show (callsW cs p).name = [121] from rfl, show (callsW cs p).flags = 0 from rfl]
    have : rightN [121] = true := by decide
    rw [this]; simp; omega
  have h2 : wholeC (callsC cs p) = true := by
    unfold wholeC
    rw [hs]
    dsimp only
    have e1 : (List.range cs.length ++ [cs.length, cs.length + 2]).isEmpty = false := by simp
    have e2 : (List.range cs.length ++ [cs.length, cs.length + 2]).getLastD 0 = cs.length + 2 := by rw [List.getLastD_eq_getLast?]; simp
    have e3 : cellN (callsC cs p) (cs.length + 2) = 101 := by
      have := drop_calls2 cs p
      have h4 : ((callsC cs p).drop (cs.length + 2))[0]? = some 101#32 := by rw [this]; rfl
      rw [List.getElem?_drop, Nat.add_zero] at h4
      unfold cellN
      rw [List.getD_eq_getElem?_getD, h4]; rfl
    rw [e1, e2, e3]; rfl
  rw [h1, h2, Bool.true_and, Bool.true_and, List.all_append]
  unfold fineC
  congr 1
  · rw [Bool.eq_iff_iff, List.all_eq_true, List.all_eq_true]
    constructor
    · intro ha c hc
      obtain ⟨j, hj⟩ := List.mem_iff_getElem?.1 hc
      have h5 := ha j (List.mem_range.2 (List.getElem?_eq_some_iff.1 hj).1)
      unfold mayC at h5
      rw [callsC_call cs p j c hj, if_pos (by omega)] at h5
      simp only [decide_eq_true_eq] at h5 ⊢
      omega
    · intro ha j hj
      have hj' := List.mem_range.1 hj
      have hg : cs[j]? = some cs[j] := List.getElem?_eq_getElem hj'
      have h5 := ha cs[j] (List.getElem_mem hj')
      unfold mayC
      rw [callsC_call cs p j _ hg, if_pos (by omega)]
      simp only [decide_eq_true_eq] at h5 ⊢
      omega
  · simp only [List.all_cons, List.all_nil, Bool.and_true]
    rw [drop_calls, drop_calls2]
    have e1 : mayC l i [101#32] (List.range cs.length ++ [cs.length, cs.length + 2]) = true := by
      unfold mayC
      rw [show cellN [101#32] 0 = 101 from rfl, if_neg (by decide), if_neg (by decide), get_101]; rfl
    rw [e1, Bool.and_true]
    unfold mayC
    rw [show cellN [104#32, BitVec.ofNat 32 p, 101#32] 0 = 104 from rfl, if_neg (by decide), if_neg (by decide), get_104, show cellN [104#32, BitVec.ofNat 32 p, 101#32] 1 = p by show (BitVec.ofNat 32 p).toNat = p; rw [BitVec.toNat_ofNat]; omega]
    dsimp only [pOf, Option.getD_some]
    rw [Bool.not_true, Bool.false_or, Bool.eq_iff_iff, Bool.or_eq_true, decide_eq_true_eq, decide_eq_true_eq, List.contains_iff_mem, List.mem_append, List.mem_range]
    simp only [List.mem_cons, List.not_mem_nil, or_false]
    omega

set_option maxRecDepth 100000 in
theorem check_calls (n : Nat) (cs : List UInt8) (p : Nat) (hl : cs.length ≤ 12) (hp : p < 20) : checkL (List.replicate n exitW ++ [callsW cs p]) = if fineC n cs p = true then -1 else (n : Int) := by
  have hw : ∀ j, j < n → wordI (List.replicate n exitW ++ [callsW cs p]) j = exitW := fun j hj => wordI_at (by rw [List.getElem?_append_left (by simpa using hj), List.getElem?_replicate, if_pos hj])
  have hn : wordI (List.replicate n exitW ++ [callsW cs p]) n = callsW cs p := wordI_at (by rw [List.getElem?_append_right (by simp)]; simp)
  have hr := right_calls _ n cs p hn hl hp
  have hlen : (List.replicate n exitW ++ [callsW cs p]).length = n + 1 := by simp
  unfold checkL
  rw [hlen]
  by_cases hf : fineC n cs p = true
  · rw [if_pos hf]
    refine firstBad_all (fun j hj => ?_)
    by_cases he : j = n
    · subst he; rw [hr, hf]
    · exact right_exit _ j (hw j (by omega))
  · rw [if_neg hf]
    exact firstBad_at (fun j hj => right_exit _ j (hw j hj)) (by rw [hr]; simpa using hf) (by omega)
end Go.Proofs.Ytfnjjanknfmibaa
