/-
  An int appended to a row of one's own: where the row stands then.
-/
import Derived.Test.YtfnjjanknfmibaaPmAw
namespace Go.Proofs.Ytfnjjanknfmibaa
open Go.RowKit Go.Deep
set_option linter.unusedVariables false

set_option maxRecDepth 100000 in
theorem one_ivs (l : List Nat) : ∀ u ∈ l.map iv, u.oneCell' = true := by
  intro u hu; obtain ⟨c, _, rfl⟩ := List.mem_map.1 hu; rfl

set_option maxRecDepth 100000 in
/-- What is appended to a row of one's own: the row stands where it stood, or is new. -/
theorem run_append_i (w : World) (base : Nat) (ty : TypeId) (v : Value) (l : List Nat) (hown : w.ownsRow base 3 1 v l.length (l.map iv))
    (ad : Addr) (k : Nat) (hk : ∀ j y, [iv k][j]? = some y → w.cell? (ad.add j) = some y) (hlen : l.length ≤ 2000000) (hbase : base ≤ w.heap.size) :
    ∃ v' w', (Builtin.append_ #[33, 33] ty #[v, .slice (some ad) 1 1]).run Try.prog w = .ok v' w' ∧ w'.ownsRow base 3 1 v' (l ++ [k]).length ((l ++ [k]).map iv) ∧ Keeps v.ownBlock.toList w w' ∧
      (v'.ownBlock = v.ownBlock ∨ ∀ k, v'.ownBlock = some k → w.heap.size ≤ k) := by
  obtain ⟨i0, hi, hz0, hz1, hz2⟩ := info_parts infoInt
  have h1 : ∀ u ∈ [iv k], u.oneCell' = true := by intro u hu; simp at hu; subst hu; rfl
  have main := fun b hown hbase => run_append_own (P := Try.prog) w b 33 ty 3 i0 (.int .i64 0) 1 8 Try.underlying33 hi hz0 hz1 hz2 rfl (by decide) v l.length (l.map iv) hown ad 1 1 [iv k] rfl hk h1 (by unfold maxLen; omega) (by omega) hbase
  have hm0 := hown
  obtain ⟨hl, h2⟩ := hm0
  rcases h2 with ⟨rfl, hl0⟩ | ⟨g, cp, cur, rfl, hbg, hg, hnc, hcm, hcs, htk⟩
  · obtain ⟨v', w', hrun, hown', hg, _⟩ := main w.heap.size ⟨hl, .inl ⟨rfl, hl0⟩⟩ (Nat.le_refl _)
    refine ⟨v', w', hrun, ?_, Keeps.grown hg (fun k hk => by cases hk), .inr fun k hk => ?_⟩
    · rw [List.length_append, List.map_append]
      refine ⟨hown'.1, ?_⟩
      rcases hown'.2 with h0 | ⟨g2, c2, cur2, hv2, hb2, r⟩
      · exact .inl h0
      · exact .inr ⟨g2, c2, cur2, hv2, by omega, r⟩
    · exact (hown'.lt k hk).1
  · obtain ⟨v', w', hrun, hown', hgr, _⟩ := main base hown hbase
    refine ⟨v', w', hrun, by rw [List.length_append, List.map_append]; exact hown', Keeps.grown hgr (fun k hk => .inl (by simp [hk])), ?_⟩
    by_cases hroom : l.length + 1 ≤ cp
    · have hfit : l.length * i0.size + [iv k].length ≤ cur.size := by rw [hz1, hcs]; simp; omega
      have hr2 := run_append_room (P := Try.prog) w 33 ty 3 i0 Try.underlying33 hi g l.length cp cur hg ad 1 1 [iv k] (by rw [hz1]; rfl) hk h1 hroom hfit
      rw [hrun] at hr2
      injection hr2 with e1 e2
      exact .inl (by rw [e1]; rfl)
    · have holds : ∀ j u, (l.map iv)[j]? = some u → w.cell? ((⟨g, 0, none⟩ : Addr).add j) = some u := hown.cells (g := g) rfl
      have hr2 := run_append_grow (P := Try.prog) w 33 ty 3 i0 (.int .i64 0) Try.underlying33 hi hz0 ⟨g, 0, none⟩ l.length cp (l.map iv) (by rw [hz1]; simp) holds ad 1 1 [iv k] (by rw [hz1]; rfl) hk (by omega) (by omega) (growslice_fits (by omega) (by rw [hz2]; omega))
      rw [hrun] at hr2
      injection hr2 with e1 e2
      exact .inr fun k hk => by rw [e1] at hk; simp [Value.ownBlock] at hk; omega

set_option maxRecDepth 100000 in
theorem wpList_append_i {ops : Array Oper} {rest : List Oper} {o : Oper} {a : Act} {W : World} {Q : Exit → Act → World → Prop} (hgd : o.guard = none) (s x : Operand)
    (ho : o.op = .call { callee := .builtin .append, args := #[s, x], argTypes := #[33, 33] }) (base : Nat) (v : Value) (l : List Nat) (hs : a.eval s = v) (hown : Ints W base v l)
    (k : Nat) (hx : a.eval x = .slice (some ⟨W.heap.size, 0, none⟩) 1 1) (hn : l.length ≤ 2000000) (hbase : base ≤ W.heap.size)
    (h : ∀ v' w', Ints w' base v' (l ++ [k]) → Keeps v.ownBlock.toList W w' → (v'.ownBlock = v.ownBlock ∨ ∀ k, v'.ownBlock = some k → W.heap.size ≤ k) → wpList Try.prog ops Q rest (a.put o.dst v') w') : wpList Try.prog ops Q (o :: rest) a (W.alloc (.cells #[iv k] 3)) := by
  obtain ⟨v', w', hrun, h1, h2, h3⟩ := run_append_i (W.alloc (.cells #[iv k] 3)) base o.type v l (World.ownsRow.keeps hown (Keeps.alloc [] _ _) (fun _ _ => List.not_mem_nil)) ⟨W.heap.size, 0, none⟩ k (one_new W _ _) hn (by simp; omega)
  refine wpList_plain hgd fun K hK => ?_
  unfold Oper.wp
  simp [execOp, ho, resolve, invoke, builtin, hs, hx, hrun, Result.andThen]
  refine hK _ _ (h v' w' h1 ((Keeps.alloc _ W _).trans h2) ?_)
  rcases h3 with h3 | h3
  · exact .inl h3
  · exact .inr fun k hk => by have := h3 k hk; simp at this; omega

set_option maxRecDepth 100000 in
theorem Ints.lower {w : World} {base base' : Nat} {v : Value} {l : List Nat} (h : Ints w base v l) (hb : base' ≤ base) : Ints w base' v l := by
  refine ⟨h.1, ?_⟩
  rcases h.2 with h0 | ⟨g, cp, cur, hv, hb2, r⟩
  · exact .inl h0
  · exact .inr ⟨g, cp, cur, hv, by omega, r⟩

set_option maxRecDepth 100000 in
theorem went_nil {c : List (BitVec 32)} {k : Nat} {l : List Nat} (h : Went c k l) (hl : l = []) : k = 0 := by
  cases h with
  | zero => rfl
  | step h hn => simp at hl

/-- Where the j-th instruction begins, or the end. -/
def posN (c : List (BitVec 32)) (l : List Nat) (j : Nat) : Nat := (l ++ [c.length]).getD j 0

set_option maxRecDepth 100000 in
theorem posN_at {c : List (BitVec 32)} {l : List Nat} {j k : Nat} (h : l[j]? = some k) : posN c l j = k := by
  unfold posN
  rw [List.getD_eq_getElem?_getD, List.getElem?_append_left (List.getElem?_eq_some_iff.1 h).1, h]; rfl
set_option maxRecDepth 100000 in
theorem posN_end {c : List (BitVec 32)} {l : List Nat} : posN c l l.length = c.length := by
  unfold posN
  rw [List.getD_eq_getElem?_getD, List.getElem?_append_right (Nat.le_refl _), Nat.sub_self]; rfl
set_option maxRecDepth 100000 in
theorem posN_zero {c : List (BitVec 32)} {l : List Nat} (h : Went c c.length l) : posN c l 0 = 0 := by
  cases l with
  | nil => exact went_nil h rfl
  | cons k r =>
    have := went_at h 0 k rfl
    exact went_nil this.1 rfl
set_option maxRecDepth 100000 in
theorem posN_step {c : List (BitVec 32)} {l : List Nat} (h : Went c c.length l) {j k : Nat} (hj : l[j]? = some k) : posN c l (j + 1) = k + longC (c.drop k) := by
  obtain ⟨_, _, h3, h4⟩ := went_at h j k hj
  have hlt := (List.getElem?_eq_some_iff.1 hj).1
  by_cases he : j + 1 = l.length
  · rw [he, posN_end]; exact h4 he
  · exact posN_at (h3 (by omega))
end Go.Proofs.Ytfnjjanknfmibaa
