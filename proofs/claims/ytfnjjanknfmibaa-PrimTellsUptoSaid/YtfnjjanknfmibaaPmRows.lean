/-
  Lists of words: such as have just been made, such as came in with their codes, and what is appended to a row of one's own.
-/
import Derived.Test.YtfnjjanknfmibaaImBase
namespace Go.Proofs.Ytfnjjanknfmibaa
open Go.RowKit Go.Deep
set_option linter.unusedVariables false

def wcells (p : Wd × Value) : List Value := [str p.1.name, bv p.1.flags, p.2]

theorem wcells_at {l : List (Wd × Value)} {i : Nat} {p : Wd × Value} (h : l[i]? = some p) (j : Nat) (hj : j < 3) : (l.flatMap wcells)[i * 3 + j]? = (wcells p)[j]? := by
  induction l generalizing i with
  | nil => simp at h
  | cons q l ih =>
    rw [List.flatMap_cons]
    have hq : (wcells q).length = 3 := rfl
    cases i with
    | zero =>
      simp at h; subst h
      rw [List.getElem?_append_left (by omega)]; simp
    | succ i =>
      rw [List.getElem?_append_right (by omega), hq, show (i + 1) * 3 + j - 3 = i * 3 + j by omega]
      exact ih (by simpa using h)

theorem infoWord : (Try.prog.info? 59).map (fun i => (i.zero, i.size, i.bytes)) = some (some (.agg #[.string ⟨#[]⟩, .int .u8 0, .slice none 0 0]), 3, 48) := by kernel_rfl

/-- Words appended to a row of one's own. -/
theorem wpList_append_words {ops : Array Oper} {rest : List Oper} {o : Oper} {a : Act} {w : World} {Q : Exit → Act → World → Prop} (hgd : o.guard = none) (s x : Operand)
    (ho : o.op = .call { callee := .builtin .append, args := #[s, x], argTypes := #[24, 24] }) (base : Nat) (v : Value) (n : Nat) (xs : List Value) (hs : a.eval s = v) (hown : w.ownsRow base 59 3 v n xs)
    (ad : Addr) (m c : Nat) (news : List Value) (hx : a.eval x = .slice (some ad) m c) (hl : news.length = m * 3) (hnews : ∀ j u, news[j]? = some u → w.cell? (ad.add j) = some u) (h1 : ∀ u ∈ news, u.oneCell' = true) (hlen : n + m ≤ 2000000) (hbase : base ≤ w.heap.size)
    (h : ∀ v' w', w'.ownsRow base 59 3 v' (n + m) (xs ++ news) → Keeps v.ownBlock.toList w w' → wpList Try.prog ops Q rest (a.put o.dst v') w') : wpList Try.prog ops Q (o :: rest) a w := by
  obtain ⟨i0, hi, hz0, hz1, hz2⟩ := info_parts infoWord
  refine wpList_append_own w hgd s x 24 ho base 59 i0 _ 3 48 Try.underlying24 hi hz0 hz1 hz2 rfl (by decide) v n xs hs hown ad m c news hx hl hnews h1 (by unfold maxLen; omega) (by omega) hbase ?_
  intro v' w' hown' hg _
  exact h v' w' hown' (Keeps.grown hg (fun k hk => .inl (by simp [hk])))

/-- Words in a block that has just been made. -/
theorem words_lit {w : World} {P : Nat → Prop} {g n : Nat} (l : List (Wd × Value)) (h : Whole w g 59 (l.flatMap wcells)) (hn : n = l.length) (hm : n ≤ 1000) (hP : P g)
    (hc : ∀ p ∈ l, ∃ a cap M off, p.2 = .slice a p.1.code.length cap ∧ UReads w p.2 p.1.code M off ∧ (p.1.code ≠ [] → P M) ∧ p.1.name.length ≤ maxLen ∧ p.1.code.length ≤ maxLen) : WordsIn w P (.slice (some ⟨g, 0, none⟩) n n) (l.map (·.1)) := by
  subst hn
  refine ⟨some ⟨g, 0, none⟩, l.length, g, 0, by rw [List.length_map], by rw [List.length_map]; exact Nat.le_refl _, by rw [List.length_map]; unfold maxLen; omega, fun _ => ⟨rfl, hP⟩, fun i x hx => ?_⟩
  rw [List.getElem?_map] at hx
  obtain ⟨p, hp, rfl⟩ := Option.map_eq_some_iff.1 hx
  obtain ⟨a, cp, M, off, hv, h1, h2, h3, h4⟩ := hc p (List.mem_of_getElem? hp)
  refine ⟨a, cp, M, off, ?_, ?_, ?_, hv ▸ h1, h2, h3, h4⟩
  · rw [Nat.zero_add, h.cell]
    have := wcells_at hp 0 (by decide)
    rw [Nat.add_zero] at this
    rw [this]; rfl
  · rw [Nat.zero_add, h.cell, wcells_at hp 1 (by decide)]; rfl
  · rw [Nat.zero_add, h.cell, wcells_at hp 2 (by decide), ← hv]; rfl

/-- A word with the value of its code, as it stands somewhere. -/
def Stands (w : World) (P : Nat → Prop) (p : Wd × Value) : Prop :=
  ∃ a cap M off, p.2 = .slice a p.1.code.length cap ∧ UReads w p.2 p.1.code M off ∧ (p.1.code ≠ [] → P M) ∧ p.1.name.length ≤ maxLen ∧ p.1.code.length ≤ maxLen

theorem Stands.keeps {S : List Nat} {w w' : World} {P : Nat → Prop} {p : Wd × Value} (h : Stands w P p) (hk : Keeps S w w') (hP : ∀ k, P k → k ∉ S) : Stands w' P p := by
  obtain ⟨a, cap, M, off, h1, h2, h3, h4⟩ := h
  exact ⟨a, cap, M, off, h1, h2.keeps hk (fun hne => hP _ (h3 hne)), h3, h4⟩

/-- The words of a list with the values of their codes. -/
theorem WordsIn.pairs {w : World} {P : Nat → Prop} {v : Value} {l : List Wd} (h : WordsIn w P v l) :
    ∃ (L : List (Wd × Value)) (a : Option Addr) (cap B o : Nat), L.map (·.1) = l ∧ L.length = l.length ∧ v = .slice a l.length cap ∧ (l ≠ [] → a = some ⟨B, o, none⟩ ∧ P B) ∧ (∀ p ∈ L, Stands w P p) ∧
      ∀ j u, (L.flatMap wcells)[j]? = some u → w.cell? ⟨B, o + j, none⟩ = some u := by
  obtain ⟨a, cap, B, o, rfl, hc, hm, hn, hx⟩ := h
  have main : ∀ k, k ≤ l.length → ∃ L : List (Wd × Value), L.map (·.1) = l.take k ∧ L.length = k ∧ (∀ p ∈ L, Stands w P p) ∧ ∀ j u, (L.flatMap wcells)[j]? = some u → w.cell? ⟨B, o + j, none⟩ = some u := by
    intro k
    induction k with
    | zero => exact fun _ => ⟨[], by simp, rfl, fun p hp => by simp at hp, fun j u hu => by simp at hu⟩
    | succ k ih =>
      intro hk
      obtain ⟨L, h1, h2, h3, h4⟩ := ih (by omega)
      obtain ⟨x, hget⟩ : ∃ x, l[k]? = some x := ⟨_, List.getElem?_eq_getElem (by omega)⟩
      obtain ⟨ax, cx, M, off, c0, c1, c2, hr, hP, hn1, hn2⟩ := hx k x hget
      have hfl : (L.flatMap wcells).length = k * 3 := by
        rw [← h2]
        clear h1 h2 h3 h4
        induction L with
        | nil => rfl
        | cons q L ih2 => rw [List.flatMap_cons, List.length_append, ih2]; simp [wcells]; omega
      refine ⟨L ++ [(x, .slice ax x.code.length cx)], by rw [List.map_append, h1, List.take_add_one, hget]; rfl, by simp [h2], ?_, ?_⟩
      · intro p hp
        rcases List.mem_append.1 hp with hp | hp
        · exact h3 p hp
        · simp at hp; subst hp
          exact ⟨ax, cx, M, off, rfl, hr, hP, hn1, hn2⟩
      · intro j u hu
        rw [List.flatMap_append] at hu
        by_cases hj : j < k * 3
        · rw [List.getElem?_append_left (by omega)] at hu
          exact h4 j u hu
        · rw [List.getElem?_append_right (by omega), hfl] at hu
          obtain ⟨i, rfl⟩ : ∃ i, j = k * 3 + i := ⟨j - k * 3, by omega⟩
          rw [Nat.add_sub_cancel_left] at hu
          match i, hu with
          | 0, hu => (simp [wcells] at hu; subst hu; rw [Nat.add_zero]; exact c0)
          | 1, hu => (simp [wcells] at hu; subst hu; rw [← Nat.add_assoc]; exact c1)
          | 2, hu => (simp [wcells] at hu; subst hu; rw [← Nat.add_assoc]; exact c2)
          | i + 3, hu => simp [wcells] at hu
  obtain ⟨L, h1, h2, h3, h4⟩ := main l.length (Nat.le_refl _)
  rw [List.take_length] at h1
  exact ⟨L, a, cap, B, o, h1, h2, rfl, hn, h3, h4⟩

theorem one_wcellsL (L : List (Wd × Value)) (h : ∀ p ∈ L, ∃ a n c, p.2 = .slice a n c) : ∀ u ∈ L.flatMap wcells, u.oneCell' = true := by
  intro u hu
  obtain ⟨p, hp, hu⟩ := List.mem_flatMap.1 hu
  obtain ⟨a, n, c, hv⟩ := h p hp
  unfold wcells at hu
  rw [hv] at hu
  simp at hu
  rcases hu with rfl | rfl | rfl <;> rfl

theorem wcellsL_length (L : List (Wd × Value)) : (L.flatMap wcells).length = L.length * 3 := by
  induction L with
  | nil => rfl
  | cons q L ih2 => rw [List.flatMap_cons, List.length_append, ih2]; simp [wcells]; omega

/-- Words in a row of one's own, their codes anywhere. -/
theorem row_words {w : World} {P : Nat → Prop} {base : Nat} {v : Value} {L : List (Wd × Value)} (h : w.ownsRow base 59 3 v L.length (L.flatMap wcells)) (hm : L.length ≤ maxLen) (hs : ∀ p ∈ L, Stands w P p) : WordsIn w (fun _ => True) v (L.map (·.1)) := by
  rcases h.2 with ⟨rfl, hn⟩ | ⟨g, cap, cur, rfl, hb, hg, hnc, _, hcs, htk⟩
  · have : L = [] := List.eq_nil_of_length_eq_zero hn
    subst this
    exact WordsIn.nil _ _
  · have hcell : ∀ j u, (L.flatMap wcells)[j]? = some u → w.cell? ⟨g, j, none⟩ = some u := by
      intro j u hu
      have := h.cells (g := g) (by rfl) j u hu
      rwa [Addr.add_off, Nat.zero_add] at this
    refine ⟨some ⟨g, 0, none⟩, cap, g, 0, by rw [List.length_map], by rw [List.length_map]; exact hnc, by rw [List.length_map]; exact hm, fun _ => ⟨rfl, trivial⟩, fun i x hx => ?_⟩
    rw [List.getElem?_map] at hx
    obtain ⟨p, hp, rfl⟩ := Option.map_eq_some_iff.1 hx
    obtain ⟨a, cp, M, off, hv, h1, h2, h3⟩ := hs p (List.mem_of_getElem? hp)
    refine ⟨a, cp, M, off, ?_, ?_, ?_, hv ▸ h1, fun _ => trivial, h3⟩
    · rw [Nat.zero_add]
      exact hcell _ _ (by have := wcells_at hp 0 (by decide); rw [Nat.add_zero] at this; rw [this]; rfl)
    · rw [Nat.zero_add]
      exact hcell _ _ (by rw [wcells_at hp 1 (by decide)]; rfl)
    · rw [Nat.zero_add]
      exact hcell _ _ (by rw [wcells_at hp 2 (by decide), ← hv]; rfl)

set_option maxRecDepth 100000 in
/-- Words that came in, appended to a row of one's own. -/
theorem wpList_append_in {ops : Array Oper} {rest : List Oper} {o : Oper} {a : Act} {w : World} {Q : Exit → Act → World → Prop} (hgd : o.guard = none) (s x : Operand)
    (ho : o.op = .call { callee := .builtin .append, args := #[s, x], argTypes := #[24, 24] }) (base : Nat) (v : Value) (n : Nat) (xs : List Value) (hs : a.eval s = v) (hown : w.ownsRow base 59 3 v n xs)
    (ao : Option Addr) (m c B off : Nat) (L : List (Wd × Value)) (hx : a.eval x = .slice ao m c) (hl : L.length = m) (hB : m ≠ 0 → ao = some ⟨B, off, none⟩) (hz : ao = none → c = 0) (hc : ∀ j u, (L.flatMap wcells)[j]? = some u → w.cell? ⟨B, off + j, none⟩ = some u) (h1 : ∀ p ∈ L, ∃ a n c, p.2 = .slice a n c) (hlen : n + m ≤ 2000000) (hbase : base ≤ w.heap.size)
    (h : ∀ v' w', w'.ownsRow base 59 3 v' (n + m) (xs ++ L.flatMap wcells) → Keeps v.ownBlock.toList w w' → wpList Try.prog ops Q rest (a.put o.dst v') w') : wpList Try.prog ops Q (o :: rest) a w := by
  obtain ⟨i0, hi, hz0, hz1, hz2⟩ := info_parts infoWord
  cases ao with
  | none =>
    have hm0 : m = 0 := by
      by_cases e : m = 0
      · exact e
      · have := hB e; cases this
    have hc0 := hz rfl
    subst hm0 hc0
    have : L = [] := List.eq_nil_of_length_eq_zero hl
    subst this
    refine wpList_append_own_none hgd s x 24 ho base 59 i0 3 Try.underlying24 hi v n xs hs (by rw [← hz1] at hown ⊢; exact hown) hx ?_
    exact h v w (by simpa using hown) (Keeps.refl _ _)
  | some ad =>
    refine wpList_append_words hgd s x ho base v n xs hs hown ad m c (L.flatMap wcells) hx (by rw [wcellsL_length, hl]) (fun j u hu => ?_) (one_wcellsL L h1) hlen hbase h
    have hm0 : m ≠ 0 := by
      intro e; rw [← hl] at e
      have : L = [] := List.eq_nil_of_length_eq_zero e
      subst this; simp at hu
    have := hB hm0
    injection this with this
    subst this
    rw [Addr.add_off]
    exact hc j u hu

end Go.Proofs.Ytfnjjanknfmibaa
