/-
  PrimWords: a list of words up to any of its words, and with a word more.
-/
import Derived.Test.YtfnjjanknfmibaaPmCallsB
import Derived.Deep.CutRange
import Derived.Deep.CutBlock
namespace Go.Proofs.Ytfnjjanknfmibaa
open Go.RowKit Go.Deep
set_option linter.unusedVariables false

set_option maxRecDepth 100000 in
theorem own_made_at {W : World} {base : Nat} (hb : W.heap.size = base) : (W.alloc (.cells #[] 59)).ownsRow base 59 3 (.slice (some ⟨base, 0, none⟩) 0 0) 0 [] := by
  subst hb
  exact World.ownsRow_made W #[] 0 (Nat.le_refl _) (by decide) (by simp)

set_option maxRecDepth 100000 in
theorem drew_size (w : World) : w.drew.heap.size = w.heap.size := rfl
set_option maxRecDepth 100000 in
theorem whole_cell {W : World} {b : Nat} {T : TypeId} {xs : List Value} (h : Whole W b T xs) {j : Nat} {u : Value} (hu : xs[j]? = some u) : W.cell? ⟨b, j, none⟩ = some u := (h.cell j).trans hu

set_option maxRecDepth 100000 in
theorem run_append_in {W : World} (t : TypeId) (base : Nat) (v : Value) (n : Nat) (xs : List Value) (hown : W.ownsRow base 59 3 v n xs)
    (ao : Option Addr) (m c B off : Nat) (L : List (Wd × Value)) (hl : L.length = m) (hB : m ≠ 0 → ao = some ⟨B, off, none⟩) (hz : ao = none → c = 0) (hc : ∀ j u, (L.flatMap wcells)[j]? = some u → W.cell? ⟨B, off + j, none⟩ = some u) (h1 : ∀ p ∈ L, ∃ a n c, p.2 = .slice a n c) (hlen : n + m ≤ 2000000) (hbase : base ≤ W.heap.size) :
    ∃ v' w', (Builtin.append_ #[24, 24] t #[v, .slice ao m c]).run Try.prog W = .ok v' w' ∧ w'.ownsRow base 59 3 v' (n + m) (xs ++ L.flatMap wcells) ∧ Keeps v.ownBlock.toList W w' := by
  obtain ⟨i0, hi, hz0, hz1, hz2⟩ := info_parts infoWord
  cases ao with
  | none =>
    have hm0 : m = 0 := by
      by_cases e : m = 0
      · exact e
      · have := hB e; cases this
    have hc0 := hz rfl
    subst hm0 hc0
    have : L = [] := List.eq_nil_of_length_eq_zero hl
    subst this
    have hrun := run_append_owned_none (P := Try.prog) (w := W) base 24 t 59 i0 3 Try.underlying24 hi v n xs (by rw [← hz1] at hown ⊢; exact hown)
    exact ⟨v, W, hrun, by simpa using hown, Keeps.refl _ _⟩
  | some ad =>
    obtain ⟨v', w', hr, h2, h3, _, _⟩ := run_append_own_at (P := Try.prog) W base 24 t 59 i0 _ 3 48 Try.underlying24 hi hz0 hz1 hz2 rfl (by decide) v n xs hown ad m c (L.flatMap wcells) (by rw [wcellsL_length, hl]) (fun j u hu => by
      have hm0 : m ≠ 0 := by
        intro e; rw [← hl] at e
        have : L = [] := List.eq_nil_of_length_eq_zero e
        subst this; simp at hu
      have := hB hm0
      injection this with this
      subst this
      rw [Addr.add_off]
      exact hc j u hu) (one_wcellsL L h1) (by unfold maxLen; omega) (by omega) hbase
    exact ⟨v', w', hr, h2, Keeps.grown h3 (fun k hk => .inl (by simp [hk]))⟩

set_option maxRecDepth 100000 in
/-- The first append: onto none, what came in. -/
theorem step_in {ops : Array Oper} {o : Oper} {a : Act} {W : World} {K : Act → World → Prop} {Q : Exit → Act → World → Prop} {E : Prop} (hgd : o.guard = none) (s x : Operand)
    (ho : o.op = .call { callee := .builtin .append, args := #[s, x], argTypes := #[24, 24] }) (base : Nat) (hs : a.eval s = .slice (some ⟨base, 0, none⟩) 0 0)
    (ao : Option Addr) (m c B off : Nat) (L : List (Wd × Value)) (hx : a.eval x = .slice ao m c) (w : World) (hk : Keeps [] w W) (hown : W.ownsRow base 59 3 (.slice (some ⟨base, 0, none⟩) 0 0) 0 []) (hbase : base ≤ W.heap.size)
    (hl : L.length = m) (hB : m ≠ 0 → ao = some ⟨B, off, none⟩) (hz : ao = none → c = 0) (hc : ∀ j u, (L.flatMap wcells)[j]? = some u → w.cell? ⟨B, off + j, none⟩ = some u) (h1 : ∀ p ∈ L, ∃ a n c, p.2 = .slice a n c) (hlen : m ≤ 2000000)
    (h : ∀ bs v' w', bs = base → w'.ownsRow bs 59 3 v' m (L.flatMap wcells) → Keeps [bs] W w' → Keeps [bs] w w' → K (a.put o.dst v') w') :
    if Region.wanted o (yielded ops a.tmps) = true then Oper.wp Try.prog o a W K Q else E := by
  have hw : Region.wanted o (yielded ops a.tmps) = true := by simp [Region.wanted, hgd]
  rw [if_pos hw]
  obtain ⟨v', w', hr, h2, h3⟩ := run_append_in (W := W) o.type base _ 0 [] hown ao m c B off L hl hB hz (fun j u hu => hk.cell (hc j u hu) (by simp)) h1 (by omega) hbase
  unfold Oper.wp
  simp only [execOp, ho, resolve, invoke, builtin, Sem.run_bind, Sem.run_pure, Result.andThen_ok, List.map_toArray, List.map_cons, List.map_nil, hs, hx, hr]
  exact h base v' w' rfl (by simpa using h2) h3 ((hk.mono (by simp)).trans h3)

set_option maxRecDepth 100000 in
/-- The second one: one word. -/
theorem step_one {ops : Array Oper} {o : Oper} {a : Act} {W : World} {K : Act → World → Prop} {Q : Exit → Act → World → Prop} {E : Prop} (hgd : o.guard = none) (s x : Operand)
    (ho : o.op = .call { callee := .builtin .append, args := #[s, x], argTypes := #[24, 24] }) (base : Nat) (v : Value) (n : Nat) (xs : List Value) (hs : a.eval s = v) (hown : W.ownsRow base 59 3 v n xs)
    (p : Wd × Value) (hp : ∃ a n c, p.2 = .slice a n c) (b : Nat) (hx : a.eval x = .slice (some ⟨b, 0, none⟩) 1 1) (hb : ∀ j u, (wcells p)[j]? = some u → W.cell? ⟨b, j, none⟩ = some u) (hn : n ≤ 1000000) (hbase : base ≤ W.heap.size)
    (h : ∀ v' w', w'.ownsRow base 59 3 v' (n + 1) (xs ++ wcells p) → Keeps v.ownBlock.toList W w' → K (a.put o.dst v') w') :
    if Region.wanted o (yielded ops a.tmps) = true then Oper.wp Try.prog o a W K Q else E := by
  have hw : Region.wanted o (yielded ops a.tmps) = true := by simp [Region.wanted, hgd]
  rw [if_pos hw]
  obtain ⟨v', w', hr, h2, h3⟩ := run_append_in (W := W) o.type base v n xs hown (some ⟨b, 0, none⟩) 1 1 b 0 [p] rfl (fun _ => rfl) (fun h => by cases h) (fun j u hu => by rw [Nat.zero_add]; exact hb j u (by simpa using hu)) (fun q hq => by simp at hq; subst hq; exact hp) (by omega) hbase
  unfold Oper.wp
  simp only [execOp, ho, resolve, invoke, builtin, Sem.run_bind, Sem.run_pure, Result.andThen_ok, List.map_toArray, List.map_cons, List.map_nil, hs, hx, hr]
  exact h v' w' (by simpa using h2) h3

section
variable {H : Type} {enc : TypeId × Value → H} {W : World} {b0 : Nat} {spare : Nat → Bool} {held : Bool}
set_option maxRecDepth 100000 in
/-- A list of words that is nil has no room. -/
theorem words11_nil {fuel n c : Nat} {a : Option Addr} {x : DataW H × List MemPlace} (h : DataW.trod enc Try.prog W b0 spare held fuel 24 [.slice a n c] = some x) : a = none → c = 0 := by
  intro ha
  subst ha
  rcases structs_read Try.underlying24 Try.underlying59 (by kernel_rfl) (by kernel_rfl) h with hv | ⟨a, len, cap, hv, _⟩
  · injection hv
  · injection hv with e1 _ _
    cases e1
end
end Go.Proofs.Ytfnjjanknfmibaa
