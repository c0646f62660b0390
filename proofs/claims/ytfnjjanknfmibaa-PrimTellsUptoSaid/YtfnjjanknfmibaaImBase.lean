/-
  Words as bytes: where words stand in memory; lists of words that came in.
-/
import Derived.Test.YtfnjjanknfmibaaImRight
import Derived.ChangeArms
namespace Go.Proofs.Ytfnjjanknfmibaa
open Go.RowKit Go.Deep Go.ChangeShapes Go.WideShapes
set_option linter.unusedVariables false

/-- A word whose cells stand at p of block B, its code in a block of which P is said. -/
def WordAt (w : World) (P : Nat → Prop) (B p : Nat) (x : Wd) : Prop :=
  ∃ a cap M off, w.cell? ⟨B, p, none⟩ = some (str x.name) ∧ w.cell? ⟨B, p + 1, none⟩ = some (bv x.flags) ∧ w.cell? ⟨B, p + 2, none⟩ = some (.slice a x.code.length cap) ∧
    UReads w (.slice a x.code.length cap) x.code M off ∧ (x.code ≠ [] → P M) ∧ x.name.length ≤ maxLen ∧ x.code.length ≤ maxLen

/-- The words that a slice reads as. -/
def WordsIn (w : World) (P : Nat → Prop) (v : Value) (l : List Wd) : Prop :=
  ∃ a cap B o, v = .slice a l.length cap ∧ l.length ≤ cap ∧ l.length ≤ maxLen ∧ (l ≠ [] → a = some ⟨B, o, none⟩ ∧ P B) ∧ ∀ i x, l[i]? = some x → WordAt w P B (o + i * 3) x

theorem WordAt.keeps {S : List Nat} {w w' : World} {P : Nat → Prop} {B p : Nat} {x : Wd} (h : WordAt w P B p x) (hk : Keeps S w w') (hP : ∀ k, P k → k ∉ S) (hB : P B) : WordAt w' P B p x := by
  obtain ⟨a, cap, M, off, h0, h1, h2, h3, h4, h5⟩ := h
  exact ⟨a, cap, M, off, hk.cell h0 (hP _ hB), hk.cell h1 (hP _ hB), hk.cell h2 (hP _ hB), h3.keeps hk (fun hne => hP _ (h4 hne)), h4, h5⟩

theorem WordsIn.keeps {S : List Nat} {w w' : World} {P : Nat → Prop} {v : Value} {l : List Wd} (h : WordsIn w P v l) (hk : Keeps S w w') (hP : ∀ k, P k → k ∉ S) : WordsIn w' P v l := by
  obtain ⟨a, cap, B, o, hv, hc, hm, hn, hx⟩ := h
  refine ⟨a, cap, B, o, hv, hc, hm, hn, fun i x hi => (hx i x hi).keeps hk hP (hn ?_).2⟩
  intro e; simp [e] at hi

theorem WordsIn.next {w w' : World} {P : Nat → Prop} {v : Value} {l : List Wd} (h : WordsIn w P v l) (hk : Keeps [] w w') : WordsIn w' P v l := h.keeps hk (fun _ _ => by simp)

theorem WordsIn.imp {w : World} {P Q : Nat → Prop} {v : Value} {l : List Wd} (h : WordsIn w P v l) (hPQ : ∀ k, k < w.heap.size → P k → Q k) : WordsIn w Q v l := by
  obtain ⟨a, cap, B, o, hv, hc, hm, hn, hx⟩ := h
  have hB : l ≠ [] → B < w.heap.size := by
    intro hne
    obtain ⟨_, _, _, _, h0, _⟩ := hx 0 (l[0]'(List.length_pos_iff.2 hne)) (List.getElem?_eq_getElem (List.length_pos_iff.2 hne))
    exact World.block_lt_of_cell? w _ h0
  refine ⟨a, cap, B, o, hv, hc, hm, fun hne => ⟨(hn hne).1, hPQ _ (hB hne) (hn hne).2⟩, fun i x hi => ?_⟩
  obtain ⟨a, cap, M, off, h0, h1, h2, h3, h4, h5⟩ := hx i x hi
  exact ⟨a, cap, M, off, h0, h1, h2, h3, fun hne => hPQ _ (h3.lt hne) (h4 hne), h5⟩

theorem WordsIn.shape {w : World} {P : Nat → Prop} {v : Value} {l : List Wd} (h : WordsIn w P v l) : ∃ a cap, v = .slice a l.length cap ∧ l.length ≤ cap ∧ l.length ≤ maxLen := by
  obtain ⟨a, cap, B, o, hv, hc, hm, _⟩ := h
  exact ⟨a, cap, hv, hc, hm⟩

theorem WordsIn.nil (w : World) (P : Nat → Prop) : WordsIn w P (.slice none 0 0) [] := ⟨none, 0, 0, 0, rfl, Nat.le_refl _, by simp, fun h => absurd rfl h, fun i x hi => by simp at hi⟩

/-- The first words. -/
theorem WordsIn.take {w : World} {P : Nat → Prop} {a : Option Addr} {cap : Nat} {l : List Wd} (h : WordsIn w P (.slice a l.length cap) l) (n : Nat) (hn : n ≤ l.length) : WordsIn w P (.slice a n cap) (l.take n) := by
  obtain ⟨a', cap', B, o, hv, hc, hm, h1, hx⟩ := h
  injection hv with e1 _ e3
  subst e1 e3
  have hlen : (l.take n).length = n := by simp; omega
  refine ⟨a, cap, B, o, by rw [hlen], by omega, by omega, fun hne => h1 (fun e => hne (by simp [e])), fun i x hi => hx i x ?_⟩
  rw [List.getElem?_take] at hi
  split at hi
  · exact hi
  · cases hi

/-- A word of a list, as the walk takes it. -/
theorem WordsIn.at {w : World} {P : Nat → Prop} {v : Value} {l : List Wd} (h : WordsIn w P v l) (hl : l ≠ []) : ∃ B o cap, v = .slice (some ⟨B, o, none⟩) l.length cap ∧ l.length ≤ cap ∧ l.length ≤ maxLen ∧ P B ∧ B < w.heap.size ∧ ∀ i x, l[i]? = some x → WordAt w P B (o + i * 3) x := by
  obtain ⟨a, cap, B, o, hv, hc, hm, h1, hx⟩ := h
  have hB : B < w.heap.size := by
    obtain ⟨_, _, _, _, h0, _⟩ := hx 0 (l[0]'(List.length_pos_iff.2 hl)) (List.getElem?_eq_getElem (List.length_pos_iff.2 hl))
    exact World.block_lt_of_cell? w _ h0
  obtain ⟨rfl, hP⟩ := h1 hl
  exact ⟨B, o, cap, hv, hc, hm, hP, hB, hx⟩

theorem str_back (s : ByteArray) : str s.data.toList = .string s := by unfold str; simp

theorem addr_plain {w : World} {a : Addr} {v : Value} (h : w.cell? (a.add 0) = some v) : a = ⟨a.block, a.off, none⟩ := by
  obtain ⟨b, o, spot⟩ := a
  cases spot with
  | none => rfl
  | some x =>
    exfalso
    simp only [Addr.add, if_true] at h
    unfold World.cell? at h
    split at h
    · simp at h
    · cases h

theorem words_in_of {w : World} {P : Nat → Prop} {B o len : Nat} (h : ∀ i, i < len → ∃ x, WordAt w P B (o + i * 3) x) : ∃ l : List Wd, l.length = len ∧ ∀ i x, l[i]? = some x → WordAt w P B (o + i * 3) x := by
  induction len with
  | zero => exact ⟨[], rfl, fun i x hx => by simp at hx⟩
  | succ k ih =>
    obtain ⟨l, hl, hc⟩ := ih (fun i hi => h i (by omega))
    obtain ⟨x, hx⟩ := h k (by omega)
    refine ⟨l ++ [x], by simp [hl], fun i y hy => ?_⟩
    by_cases hi : i < l.length
    · rw [List.getElem?_append_left hi] at hy; exact hc i y hy
    · have hil : i = l.length := by
        have := (List.getElem?_eq_some_iff.1 hy).1
        simp at this; omega
      subst hil
      simp at hy
      subst hy
      rw [hl]; exact hx

section
variable {H : Type} {enc : TypeId × Value → H} {W : World} {b0 : Nat} {spare : Nat → Bool} {held : Bool}

/-- A list of words that came in. -/
theorem words10_read {fuel : Nat} {v : Value} {x : DataW H × List MemPlace} (h : DataW.trod enc Try.prog W b0 spare held fuel 24 [v] = some x) : ∃ l, WordsIn W (fun k => k < W.heap.size) v l := by
  rcases structs_read Try.underlying24 Try.underlying59 (by kernel_rfl) (by kernel_rfl) h with rfl | ⟨a, len, cap, rfl, hl, hm, hf⟩
  · exact ⟨[], WordsIn.nil _ _⟩
  · by_cases h0 : len = 0
    · subst h0
      exact ⟨[], some a, cap, 0, 0, rfl, by simp, by simp, fun h => absurd rfl h, fun i x hi => by simp at hi⟩
    have ha : a = ⟨a.block, a.off, none⟩ := by
      obtain ⟨u0, y0, n0, c0, t0⟩ := hf 0 (by omega) 0 _ rfl
      simp only [Nat.zero_mul, Nat.zero_add] at c0
      exact addr_plain c0
    obtain ⟨B, o, spot⟩ := a
    injection ha with _ _ hs
    subst hs
    obtain ⟨l, hll, hlx⟩ := words_in_of (w := W) (P := fun k => k < W.heap.size) (B := B) (o := o) (len := len) (fun i hi => by
      obtain ⟨u0, y0, n0, c0, t0⟩ := hf i hi 0 _ rfl
      obtain ⟨u1, y1, n1, c1, t1⟩ := hf i hi 1 _ rfl
      obtain ⟨u2, y2, n2, c2, t2⟩ := hf i hi 2 _ rfl
      obtain ⟨s, hs, _, ws⟩ := DataW.trod_string Try.underlying9 t0
      obtain ⟨d, hd, _, wd⟩ := DataW.trod_int Try.underlying5 t1
      simp at hs hd
      subst hs hd
      obtain ⟨c, rfl⟩ := byte_of_wf wd
      obtain ⟨code, M, off, hr, hlen⟩ := words_read t2
      obtain ⟨ao, cp, rfl, _⟩ := hr.shape
      rw [Addr.add_off] at c0 c1 c2
      exact ⟨⟨s.data.toList, c, code⟩, ao, cp, M, off, by rw [str_back]; exact c0, c1, c2, hr, fun hne => hr.lt hne, ws, hlen⟩)
    refine ⟨l, some ⟨B, o, none⟩, cap, B, o, by rw [hll], by omega, by omega, fun hne => ⟨rfl, ?_⟩, hlx⟩
    obtain ⟨_, _, _, _, c0, _⟩ := hlx 0 (l[0]'(List.length_pos_iff.2 hne)) (List.getElem?_eq_getElem (List.length_pos_iff.2 hne))
    exact World.block_lt_of_cell? W _ c0
end
end Go.Proofs.Ytfnjjanknfmibaa
