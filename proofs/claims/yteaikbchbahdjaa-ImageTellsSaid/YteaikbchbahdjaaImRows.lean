/-
  Words as bytes: lists of words that came in, appended to a row of one's own; bytes of one's own read.
-/
import Derived.Test.YteaikbchbahdjaaImAw
namespace Go.Proofs.Yteaikbchbahdjaa
open Go.RowKit Go.Deep
set_option linter.unusedVariables false

theorem owns_reads2 {w : World} {base n : Nat} {v : Value} {l : List UInt8} (h : w.ownsRow base 5 1 v n (l.map bv)) : ∃ M, Reads w v l M ∧ (l ≠ [] → base ≤ M ∧ M < w.heap.size) := by
  have h' := h
  obtain ⟨hl, h2⟩ := h
  rw [List.length_map, Nat.mul_one] at hl
  rcases h2 with ⟨rfl, rfl⟩ | ⟨g, cap, cur, rfl, hb, hg, _⟩
  · obtain rfl : l = [] := List.eq_nil_of_length_eq_zero hl
    exact ⟨0, Reads.nil _ _, fun h => absurd rfl h⟩
  · have hr := (Row.ofOwnsAt h').reads
    rw [hl] at hr
    exact ⟨g, hr, fun _ => ⟨hb, (Array.getElem?_eq_some_iff.1 hg).1⟩⟩

/-- A word with the value of its code, as it stands somewhere. -/
def Stands (w : World) (P : Nat → Prop) (p : Wd × Value) : Prop :=
  ∃ a cap M off, p.2 = .slice a p.1.code.length cap ∧ UReads w p.2 p.1.code M off ∧ (p.1.code ≠ [] → P M) ∧ p.1.name.length ≤ maxLen ∧ p.1.code.length ≤ maxLen

theorem Stands.keeps {S : List Nat} {w w' : World} {P : Nat → Prop} {p : Wd × Value} (h : Stands w P p) (hk : Keeps S w w') (hP : ∀ k, P k → k ∉ S) : Stands w' P p := by
  obtain ⟨a, cap, M, off, h1, h2, h3, h4⟩ := h
  exact ⟨a, cap, M, off, h1, h2.keeps hk (fun hne => hP _ (h3 hne)), h3, h4⟩

/-- The words of a list with the values of their codes. -/
theorem WordsIn.pairs {w : World} {P : Nat → Prop} {v : Value} {l : List Wd} (h : WordsIn w P v l) :
    ∃ (L : List (Wd × Value)) (a : Option Addr) (cap B o : Nat), L.map (·.1) = l ∧ L.length = l.length ∧ v = .slice a l.length cap ∧ (l ≠ [] → a = some ⟨B, o, none⟩ ∧ P B) ∧ (∀ p ∈ L, Stands w P p) ∧
      ∀ j u, (L.flatMap wcells)[j]? = some u → w.cell? ⟨B, o + j, none⟩ = some u := by
  obtain ⟨a, cap, B, o, rfl, hc, hm, hn, hx⟩ := h
  have main : ∀ k, k ≤ l.length → ∃ L : List (Wd × Value), L.map (·.1) = l.take k ∧ L.length = k ∧ (∀ p ∈ L, Stands w P p) ∧ ∀ j u, (L.flatMap wcells)[j]? = some u → w.cell? ⟨B, o + j, none⟩ = some u := by
    intro k
    induction k with
    | zero => exact fun _ => ⟨[], by simp, rfl, fun p hp => by simp at hp, fun j u hu => by simp at hu⟩
    | succ k ih =>
      intro hk
      obtain ⟨L, h1, h2, h3, h4⟩ := ih (by omega)
      obtain ⟨x, hget⟩ : ∃ x, l[k]? = some x := ⟨_, List.getElem?_eq_getElem (by omega)⟩
      obtain ⟨ax, cx, M, off, c0, c1, c2, hr, hP, hn1, hn2⟩ := hx k x hget
      have hfl : (L.flatMap wcells).length = k * 3 := by
        rw [← h2]
        clear h1 h2 h3 h4
        induction L with
        | nil => rfl
        | cons q L ih2 => rw [List.flatMap_cons, List.length_append, ih2]; simp [wcells]; omega
      refine ⟨L ++ [(x, .slice ax x.code.length cx)], by rw [List.map_append, h1, List.take_add_one, hget]; rfl, by simp [h2], ?_, ?_⟩
      · intro p hp
        rcases List.mem_append.1 hp with hp | hp
        · exact h3 p hp
        · simp at hp; subst hp
          exact ⟨ax, cx, M, off, rfl, hr, hP, hn1, hn2⟩
      · intro j u hu
        rw [List.flatMap_append] at hu
        by_cases hj : j < k * 3
        · rw [List.getElem?_append_left (by omega)] at hu
          exact h4 j u hu
        · rw [List.getElem?_append_right (by omega), hfl] at hu
          obtain ⟨i, rfl⟩ : ∃ i, j = k * 3 + i := ⟨j - k * 3, by omega⟩
          rw [Nat.add_sub_cancel_left] at hu
          match i, hu with
          | 0, hu => (simp [wcells] at hu; subst hu; rw [Nat.add_zero]; exact c0)
          | 1, hu => (simp [wcells] at hu; subst hu; rw [← Nat.add_assoc]; exact c1)
          | 2, hu => (simp [wcells] at hu; subst hu; rw [← Nat.add_assoc]; exact c2)
          | i + 3, hu => simp [wcells] at hu
  obtain ⟨L, h1, h2, h3, h4⟩ := main l.length (Nat.le_refl _)
  rw [List.take_length] at h1
  exact ⟨L, a, cap, B, o, h1, h2, rfl, hn, h3, h4⟩

theorem one_wcellsL (L : List (Wd × Value)) (h : ∀ p ∈ L, ∃ a n c, p.2 = .slice a n c) : ∀ u ∈ L.flatMap wcells, u.oneCell' = true := by
  intro u hu
  obtain ⟨p, hp, hu⟩ := List.mem_flatMap.1 hu
  obtain ⟨a, n, c, hv⟩ := h p hp
  unfold wcells at hu
  rw [hv] at hu
  simp at hu
  rcases hu with rfl | rfl | rfl <;> rfl

theorem wcellsL_length (L : List (Wd × Value)) : (L.flatMap wcells).length = L.length * 3 := by
  induction L with
  | nil => rfl
  | cons q L ih2 => rw [List.flatMap_cons, List.length_append, ih2]; simp [wcells]; omega

/-- Words in a row of one's own, their codes anywhere. -/
theorem row_words {w : World} {P : Nat → Prop} {base : Nat} {v : Value} {L : List (Wd × Value)} (h : w.ownsRow base 27 3 v L.length (L.flatMap wcells)) (hm : L.length ≤ maxLen) (hs : ∀ p ∈ L, Stands w P p) : WordsIn w (fun _ => True) v (L.map (·.1)) := by
  rcases h.2 with ⟨rfl, hn⟩ | ⟨g, cap, cur, rfl, hb, hg, hnc, _, hcs, htk⟩
  · have : L = [] := List.eq_nil_of_length_eq_zero hn
    subst this
    exact WordsIn.nil _ _
  · have hcell : ∀ j u, (L.flatMap wcells)[j]? = some u → w.cell? ⟨g, j, none⟩ = some u := by
      intro j u hu
      have := h.cells (g := g) (by rfl) j u hu
      rwa [Addr.add_off, Nat.zero_add] at this
    refine ⟨some ⟨g, 0, none⟩, cap, g, 0, by rw [List.length_map], by rw [List.length_map]; exact hnc, by rw [List.length_map]; exact hm, fun _ => ⟨rfl, trivial⟩, fun i x hx => ?_⟩
    rw [List.getElem?_map] at hx
    obtain ⟨p, hp, rfl⟩ := Option.map_eq_some_iff.1 hx
    obtain ⟨a, cp, M, off, hv, h1, h2, h3⟩ := hs p (List.mem_of_getElem? hp)
    refine ⟨a, cp, M, off, ?_, ?_, ?_, hv ▸ h1, fun _ => trivial, h3⟩
    · rw [Nat.zero_add]
      exact hcell _ _ (by have := wcells_at hp 0 (by decide); rw [Nat.add_zero] at this; rw [this]; rfl)
    · rw [Nat.zero_add]
      exact hcell _ _ (by rw [wcells_at hp 1 (by decide)]; rfl)
    · rw [Nat.zero_add]
      exact hcell _ _ (by rw [wcells_at hp 2 (by decide), ← hv]; rfl)

/-- Words that came in, appended to a row of one's own. -/
theorem wpList_append_in {ops : Array Oper} {rest : List Oper} {o : Oper} {a : Act} {w : World} {Q : Exit → Act → World → Prop} (hgd : o.guard = none) (s x : Operand)
    (ho : o.op = .call { callee := .builtin .append, args := #[s, x], argTypes := #[22, 22] }) (base : Nat) (v : Value) (n : Nat) (xs : List Value) (hs : a.eval s = v) (hown : w.ownsRow base 27 3 v n xs)
    (ao : Option Addr) (m c B off : Nat) (L : List (Wd × Value)) (hx : a.eval x = .slice ao m c) (hl : L.length = m) (hB : m ≠ 0 → ao = some ⟨B, off, none⟩) (hz : ao = none → c = 0) (hc : ∀ j u, (L.flatMap wcells)[j]? = some u → w.cell? ⟨B, off + j, none⟩ = some u) (h1 : ∀ p ∈ L, ∃ a n c, p.2 = .slice a n c) (hlen : n + m ≤ 2000000) (hbase : base ≤ w.heap.size)
    (h : ∀ v' w', w'.ownsRow base 27 3 v' (n + m) (xs ++ L.flatMap wcells) → Keeps v.ownBlock.toList w w' → wpList Try.prog ops Q rest (a.put o.dst v') w') : wpList Try.prog ops Q (o :: rest) a w := by
  obtain ⟨i0, hi, hz0, hz1, hz2⟩ := info_parts infoWord
  cases ao with
  | none =>
    have hm0 : m = 0 := by
      by_cases e : m = 0
      · exact e
      · have := hB e; cases this
    have hc0 := hz rfl
    subst hm0 hc0
    have : L = [] := List.eq_nil_of_length_eq_zero hl
    subst this
    refine wpList_append_own_none hgd s x 22 ho base 27 i0 3 Try.underlying22 hi v n xs hs (by rw [← hz1] at hown ⊢; exact hown) hx ?_
    exact h v w (by simpa using hown) (Keeps.refl _ _)
  | some ad =>
    refine wpList_append_words hgd s x ho base v n xs hs hown ad m c (L.flatMap wcells) hx (by rw [wcellsL_length, hl]) (fun j u hu => ?_) (one_wcellsL L h1) hlen hbase h
    have hm0 : m ≠ 0 := by
      intro e; rw [← hl] at e
      have : L = [] := List.eq_nil_of_length_eq_zero e
      subst this; simp at hu
    have := hB hm0
    injection this with this
    subst this
    rw [Addr.add_off]
    exact hc j u hu
end Go.Proofs.Yteaikbchbahdjaa
