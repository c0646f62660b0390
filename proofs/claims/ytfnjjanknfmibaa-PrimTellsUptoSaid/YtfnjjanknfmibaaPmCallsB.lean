/-
  PrimCalls: the walk.
-/
import Derived.Test.YtfnjjanknfmibaaPmCallsA
namespace Go.Proofs.Ytfnjjanknfmibaa
open Go.RowKit Go.Deep
set_option linter.unusedVariables false

/-- A word that ends at once, with the value of its code. -/
def ExitAt (w : World) (p : Wd × Value) : Prop := p.1 = exitW ∧ ∃ M, p.2 = .slice (some ⟨M, 0, none⟩) 1 1 ∧ Whole w M 22 [.int .u32 101]

set_option maxRecDepth 100000 in
theorem row_apart {w : World} {base n M : Nat} {v : Value} {xs ys : List Value} (h : w.ownsRow base 59 3 v n xs) (hm : Whole w M 22 ys) : M ∉ v.ownBlock.toList := by
  rcases h.2 with ⟨rfl, _⟩ | ⟨g, cap, cur, rfl, _, hg, _⟩
  · simp [Value.ownBlock]
  · simp only [Value.ownBlock]
    intro hx
    simp at hx
    subst hx
    unfold Whole at hm
    rw [hg] at hm
    injection hm with hm
    injection hm with _ ht
    exact absurd ht (by decide)

set_option maxRecDepth 100000 in
theorem ExitAt.keeps {S : List Nat} {w w' : World} {p : Wd × Value} (h : ExitAt w p) (hk : Keeps S w w') (hS : ∀ M ys, Whole w M 22 ys → M ∉ S) : ExitAt w' p := by
  obtain ⟨h1, M, h2, h3⟩ := h
  exact ⟨h1, M, h2, h3.keeps hk (hS M _ h3)⟩

set_option maxRecDepth 100000 in
theorem ExitAt.stands {w : World} {p : Wd × Value} (h : ExitAt w p) : Stands w (fun _ => True) p := by
  obtain ⟨h1, M, h2, h3⟩ := h
  obtain ⟨x, u⟩ := p
  simp only at h1 h2
  subst h1 h2
  refine ⟨_, _, M, 0, rfl, .inr ⟨_, _, rfl, Nat.le_refl _, fun _ => rfl, fun i c hi => ?_⟩, fun _ => trivial, (show exitW.name.length ≤ maxLen by decide), (show exitW.code.length ≤ maxLen by decide)⟩
  rw [Nat.zero_add, h3.cell]
  match i, hi with
  | 0, hi => (simp [exitW] at hi; subst hi; rfl)
  | i + 1, hi => simp [exitW] at hi

set_option maxRecDepth 100000 in
theorem word_new (W : World) (p : Wd × Value) : ∀ j u, (wcells p)[j]? = some u → (W.alloc (.cells (wcells p).toArray 59)).cell? ((⟨W.heap.size, 0, none⟩ : Addr).add j) = some u := by
  intro j u hj
  rw [Addr.add_off, Nat.zero_add, cell_alloc_new]
  simpa using hj

set_option maxRecDepth 100000 in
/-- A word that has just been laid, appended to a row of one's own. -/
theorem wpList_append_one {ops : Array Oper} {rest : List Oper} {o : Oper} {a : Act} {W : World} {Q : Exit → Act → World → Prop} (hgd : o.guard = none) (s x : Operand)
    (ho : o.op = .call { callee := .builtin .append, args := #[s, x], argTypes := #[24, 24] }) (base : Nat) (v : Value) (L : List (Wd × Value)) (hs : a.eval s = v) (hown : W.ownsRow base 59 3 v L.length (L.flatMap wcells))
    (p : Wd × Value) (hp : ∃ a n c, p.2 = .slice a n c) (b : Nat) (hb : W.heap.size = b) (hx : a.eval x = .slice (some ⟨b, 0, none⟩) 1 1) (hn : L.length ≤ 1000000) (hbase : base ≤ W.heap.size)
    (h : ∀ v' w', w'.ownsRow base 59 3 v' (L ++ [p]).length ((L ++ [p]).flatMap wcells) → Keeps v.ownBlock.toList W w' → wpList Try.prog ops Q rest (a.put o.dst v') w') : wpList Try.prog ops Q (o :: rest) a (W.alloc (.cells (wcells p).toArray 59)) := by
  subst hb
  refine wpList_append_words hgd s x ho base v L.length (L.flatMap wcells) hs (World.ownsRow.keeps hown (Keeps.alloc [] _ _) (fun _ _ => List.not_mem_nil)) ⟨W.heap.size, 0, none⟩ 1 1 (wcells p) hx rfl (word_new W p) (by
    have := one_wcellsL [p] (fun q hq => by simp at hq; subst hq; exact hp)
    simpa using this) (by omega) (by simp; omega) ?_
  intro v' w' h1 h2
  refine h v' w' ?_ ((Keeps.alloc _ W _).trans h2)
  rw [List.length_append, List.flatMap_append]
  simpa using h1

structure CallsRel (k m : Nat) (cs : List UInt8) (B : Nat) (wr : World) (x y : Value) (wq : World) : Prop where
  out : ∃ (j : Nat) (cv : Value), j ≤ m ∧ x = .bool ((cs.take j).all fun c => decide (c.toNat % 30 ≤ k)) ∧ y = .int .i64 (j : Int) ∧ Whole wq B 59 [.string ⟨#[121]⟩, .int .u8 0, cv] ∧ wq.ownsRow (B + 1) 22 1 cv (callC (cs.take j)).length ((callC (cs.take j)).map uv) ∧ Keeps [] wr wq ∧ B + 1 ≤ wq.heap.size

end Go.Proofs.Ytfnjjanknfmibaa
