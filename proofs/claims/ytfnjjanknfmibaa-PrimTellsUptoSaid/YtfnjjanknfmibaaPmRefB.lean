/-
  The document's table, made: All.
-/
import Derived.Test.YtfnjjanknfmibaaPmRefA
import Derived.Test.YtfnjjanknfmibaaPmWordsA
namespace Go.Proofs.Ytfnjjanknfmibaa
open Go.RowKit Go.Deep
set_option linter.unusedVariables false

set_option maxRecDepth 100000 in
theorem infoPrim2 : (Try.prog.info? 27).map (fun i => (i.zero, i.size, i.bytes)) = some (some (pmv ⟨0, [], 0, 0, 0, false, false⟩), 7, 56) := by kernel_rfl

set_option maxRecDepth 100000 in
/-- A row of one's own, of another type than a block that is known whole. -/
theorem own_apart {w : World} {base n M size : Nat} {T U : TypeId} {v : Value} {xs ys : List Value} (h : w.ownsRow base T size v n xs) (hm : Whole w M U ys) (hne : T ≠ U) : M ∉ v.ownBlock.toList := by
  rcases h.2 with ⟨rfl, _⟩ | ⟨g, cap, cur, rfl, _, hg, _⟩
  · simp [Value.ownBlock]
  · simp only [Value.ownBlock]
    intro hx
    simp at hx
    subst hx
    unfold Whole at hm
    rw [hg] at hm
    injection hm with hm
    injection hm with _ ht
    exact absurd ht hne

set_option maxRecDepth 100000 in
theorem one_prim (p : Pm) : ∀ u ∈ p.cells, u.oneCell' = true := by
  intro u hu
  simp [Pm.cells] at hu
  rcases hu with rfl | rfl | rfl | rfl | rfl | rfl | rfl <;> rfl

set_option maxRecDepth 100000 in
theorem run_append_prim {W : World} (t : TypeId) (base : Nat) (v : Value) (n : Nat) (xs : List Value) (hown : W.ownsRow base 27 7 v n xs) (p : Pm) (b : Nat) (hb : Whole W b 27 p.cells) (hn : n ≤ 1000000) (hbase : base ≤ W.heap.size) :
    ∃ v' w', (Builtin.append_ #[36, 36] t #[v, .slice (some ⟨b, 0, none⟩) 1 1]).run Try.prog W = .ok v' w' ∧ w'.ownsRow base 27 7 v' (n + 1) (xs ++ p.cells) ∧ Keeps v.ownBlock.toList W w' := by
  obtain ⟨i0, hi, hz0, hz1, hz2⟩ := info_parts infoPrim2
  obtain ⟨v', w', hr, h2, h3, _, _⟩ := run_append_own_at (P := Try.prog) W base 36 t 27 i0 _ 7 56 Try.underlying36 hi hz0 hz1 hz2 rfl (by decide) v n xs hown ⟨b, 0, none⟩ 1 1 p.cells rfl (fun j u hu => by
    rw [Addr.add_off, Nat.zero_add, hb.cell]; exact hu) (one_prim p) (by unfold maxLen; omega) (by omega) hbase
  exact ⟨v', w', hr, h2, Keeps.grown h3 (fun k hk => .inl (by simp [hk]))⟩

set_option maxRecDepth 100000 in
/-- The append of one primitive, as a step of a region that draws. -/
theorem step_prim {ops : Array Oper} {o : Oper} {a : Act} {W : World} {K : Act → World → Prop} {Q : Exit → Act → World → Prop} {E : Prop} (hgd : o.guard = none) (s x : Operand)
    (ho : o.op = .call { callee := .builtin .append, args := #[s, x], argTypes := #[36, 36] }) (base : Nat) (v : Value) (n : Nat) (xs : List Value) (hs : a.eval s = v) (hown : W.ownsRow base 27 7 v n xs)
    (p : Pm) (b : Nat) (hx : a.eval x = .slice (some ⟨b, 0, none⟩) 1 1) (hb : Whole W b 27 p.cells) (hn : n ≤ 1000000) (hbase : base ≤ W.heap.size)
    (h : ∀ v' w', w'.ownsRow base 27 7 v' (n + 1) (xs ++ p.cells) → Keeps v.ownBlock.toList W w' → K (a.put o.dst v') w') :
    if Region.wanted o (yielded ops a.tmps) = true then Oper.wp Try.prog o a W K Q else E := by
  have hw : Region.wanted o (yielded ops a.tmps) = true := by simp [Region.wanted, hgd]
  rw [if_pos hw]
  obtain ⟨v', w', hr, h2, h3⟩ := run_append_prim (W := W) o.type base v n xs hown p b hb hn hbase
  unfold Oper.wp
  simp only [execOp, ho, resolve, invoke, builtin, Sem.run_bind, Sem.run_pure, Result.andThen_ok, List.map_toArray, List.map_cons, List.map_nil, hs, hx, hr]
  exact h v' w' h2 h3

set_option maxRecDepth 100000 in
/-- The same in a plain region. -/
theorem wpList_append_prim {ops : Array Oper} {rest : List Oper} {o : Oper} {a : Act} {W : World} {Q : Exit → Act → World → Prop} (hgd : o.guard = none) (s x : Operand)
    (ho : o.op = .call { callee := .builtin .append, args := #[s, x], argTypes := #[36, 36] }) (base : Nat) (v : Value) (n : Nat) (xs : List Value) (hs : a.eval s = v) (hown : W.ownsRow base 27 7 v n xs)
    (p : Pm) (b : Nat) (hx : a.eval x = .slice (some ⟨b, 0, none⟩) 1 1) (hb : Whole W b 27 p.cells) (hn : n ≤ 1000000) (hbase : base ≤ W.heap.size)
    (h : ∀ v' w', w'.ownsRow base 27 7 v' (n + 1) (xs ++ p.cells) → Keeps v.ownBlock.toList W w' → wpList Try.prog ops Q rest (a.put o.dst v') w') : wpList Try.prog ops Q (o :: rest) a W := by
  refine wpList_plain hgd fun K hK => ?_
  obtain ⟨v', w', hr, h2, h3⟩ := run_append_prim (W := W) o.type base v n xs hown p b hb hn hbase
  unfold Oper.wp
  simp only [execOp, ho, resolve, invoke, builtin, Sem.run_bind, Sem.run_pure, Result.andThen_ok, List.map_toArray, List.map_cons, List.map_nil, hs, hx, hr]
  exact hK _ _ (h v' w' h2 h3)

set_option maxRecDepth 100000 in
theorem plainL_length : plainL.length = 146 := by kernel_rfl
set_option maxRecDepth 100000 in
theorem controlL_length : controlL.length = 80 := by kernel_rfl

set_option maxRecDepth 100000 in
theorem plain_text {k : Nat} (hk : k < 73) : ∃ c0 c1 : UInt8, plainL[2 * k + 1]? = some [c0, c1] ∧ 48 ≤ c0.toNat ∧ c0.toNat ≤ 57 ∧ 48 ≤ c1.toNat ∧ c1.toNat ≤ 57 := by
  have h := List.all_eq_true.1 plain_texts k (List.mem_range.2 hk)
  have hl : 2 * k + 1 < plainL.length := by rw [plainL_length]; omega
  have hg : plainL.getD (2 * k + 1) [] = plainL[2 * k + 1] := by rw [List.getD_eq_getElem?_getD, List.getElem?_eq_getElem hl]; rfl
  rw [hg] at h
  rw [List.getElem?_eq_getElem hl]
  generalize plainL[2 * k + 1] = s at *
  simp only [Bool.and_eq_true, decide_eq_true_eq, List.all_eq_true] at h
  match s, h with
  | [c0, c1], h =>
    have h0 := h.2 c0 (by simp)
    have h1 := h.2 c1 (by simp)
    exact ⟨c0, c1, rfl, h0.1, h0.2, h1.1, h1.2⟩

set_option maxRecDepth 100000 in
theorem control_text {k : Nat} (hk : k < 40) : ∃ c0 c1 c2 : UInt8, controlL[2 * k + 1]? = some [c0, c1, c2] ∧ 48 ≤ c0.toNat ∧ c0.toNat ≤ 57 ∧ 48 ≤ c1.toNat ∧ c1.toNat ≤ 57 ∧ (c2 = 116 ∨ c2 = 112 ∨ (48 ≤ c2.toNat ∧ c2.toNat ≤ 57)) := by
  have h := List.all_eq_true.1 control_texts k (List.mem_range.2 hk)
  have hl : 2 * k + 1 < controlL.length := by rw [controlL_length]; omega
  have hg : controlL.getD (2 * k + 1) [] = controlL[2 * k + 1] := by rw [List.getD_eq_getElem?_getD, List.getElem?_eq_getElem hl]; rfl
  rw [hg] at h
  rw [List.getElem?_eq_getElem hl]
  generalize controlL[2 * k + 1] = s at *
  simp only [Bool.and_eq_true, decide_eq_true_eq, List.all_eq_true] at h
  match s, h with
  | [c0, c1, c2], h =>
    have h0 := h.1.2 c0 (by simp)
    have h1 := h.1.2 c1 (by simp)
    exact ⟨c0, c1, c2, rfl, h0.1, h0.2, h1.1, h1.2, h.2⟩
end Go.Proofs.Ytfnjjanknfmibaa
