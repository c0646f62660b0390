/-
  Slices of slices of bytes that came in.
-/
import Derived.Test.YtdcfcljgennipaaOwn
import Derived.Test.YtdcfcljgennipaaArgs
namespace Go.Proofs.Ytdcfcljgennipaa
open Go.RowKit Go.Deep Go.ChangeShapes Go.WideShapes

/-- A slice of slices of bytes, as it lies. -/
def Parts (w : World) (v : Value) (ls : List (List UInt8)) : Prop :=
  (v = .slice none 0 0 ∧ ls = []) ∨ ∃ (a : Addr) (cap : Nat), v = .slice (some a) ls.length cap ∧ ls.length ≤ maxLen ∧ ls.length ≤ cap ∧
    ∀ i l, ls[i]? = some l → ∃ u M, w.cell? (a.add i) = some u ∧ Reads w u l M ∧ l.length ≤ maxLen ∧ (l ≠ [] → M < w.heap.size)

theorem parts_of {w : World} {a : Addr} {len : Nat} (h : ∀ i, i < len → ∃ u l M, w.cell? (a.add i) = some u ∧ Reads w u l M ∧ l.length ≤ maxLen ∧ (l ≠ [] → M < w.heap.size)) :
    ∃ ls : List (List UInt8), ls.length = len ∧ ∀ i l, ls[i]? = some l → ∃ u M, w.cell? (a.add i) = some u ∧ Reads w u l M ∧ l.length ≤ maxLen ∧ (l ≠ [] → M < w.heap.size) := by
  induction len with
  | zero => exact ⟨[], rfl, fun i l hl => by simp at hl⟩
  | succ k ih =>
    obtain ⟨ls, hl, hc⟩ := ih (fun i hi => h i (by omega))
    obtain ⟨u, l, M, hu⟩ := h k (by omega)
    refine ⟨ls ++ [l], by simp [hl], fun i x hx => ?_⟩
    by_cases hi : i < ls.length
    · rw [List.getElem?_append_left hi] at hx; exact hc i x hx
    · have hil : i = ls.length := by
        have := (List.getElem?_eq_some_iff.1 hx).1
        simp at this; omega
      subst hil
      simp at hx
      subst hx
      rw [hl]; exact ⟨u, M, hu⟩

theorem cellsBytes : Try.prog.cellsOf 22 = 1 := by kernel_rfl

theorem parts_read {H : Type} {enc : TypeId × Value → H} {W : World} {b0 fuel : Nat} {spare : Nat → Bool} {held : Bool} {v : Value} {x : DataW H × List MemPlace} (h : DataW.trod enc Try.prog W b0 spare held fuel 117 [v] = some x) :
    ∃ ls, Parts W v ls := by
  rcases open_slice Try.underlying117 h with ⟨hcs, _⟩ | ⟨a, len, cap, m, n, D, Pl, hcs, _, hl, hm, hmm, _, hi⟩
  · obtain rfl : v = .slice none 0 0 := by simpa using hcs
    exact ⟨[], .inl ⟨rfl, rfl⟩⟩
  · obtain rfl : v = .slice (some a) len cap := by simpa using hcs
    obtain ⟨ls, hls, hc⟩ := parts_of (w := W) (a := a) (len := len) (fun i hlt => by
      have him : i < m := by rw [hmm]; split <;> omega
      obtain ⟨cells, hc, htr⟩ := hi i him
      rw [cellsBytes] at hc
      obtain ⟨_, hcl, hat⟩ := World.cells?_some hc
      match cells, hcl with
      | [u], _ =>
        obtain ⟨l, M, h1, h2, h3⟩ := bytes_read htr
        have h0 := hat 0 (by decide)
        rw [Nat.mul_one, Deep.add_add, Nat.add_zero] at h0
        exact ⟨u, l, M, h0, h1, h2, h3⟩)
    exact ⟨ls, .inr ⟨a, cap, by rw [hls], by omega, by omega, hc⟩⟩

/-- The parts, as the walk takes them. -/
def PartsAt (w : World) (B o : Nat) (ls : List (List UInt8)) : Prop :=
  ∀ i l, ls[i]? = some l → ∃ pp cc M, w.cell? ⟨B, o + i, none⟩ = some (.slice pp l.length cc) ∧ Reads w (.slice pp l.length cc) l M ∧ l.length ≤ maxLen ∧ (l ≠ [] → M < w.heap.size)

/-- The parts, as the walk takes them: one block. -/
theorem Parts.at {w : World} {v : Value} {ls : List (List UInt8)} (h : Parts w v ls) : ∃ (a : Option Addr) (c B o : Nat), v = .slice a ls.length c ∧ (ls ≠ [] → a = some ⟨B, o, none⟩) ∧ PartsAt w B o ls ∧ ls.length ≤ maxLen ∧ ls.length ≤ c := by
  rcases h with ⟨rfl, rfl⟩ | ⟨a, c, rfl, hm, hcp, hp⟩
  · exact ⟨none, 0, 0, 0, rfl, fun h => absurd rfl h, fun i l hl => by simp at hl, by simp, by simp⟩
  · by_cases he : ls = []
    · subst he
      exact ⟨some a, c, 0, 0, rfl, fun h => absurd rfl h, fun i l hl => by simp at hl, hm, by simp⟩
    · obtain ⟨b, o, spot⟩ := a
      match ls, he with
      | l0 :: lr, _ =>
        obtain ⟨u, M, h0, _⟩ := hp 0 l0 rfl
        have hs : spot = none := by
          cases spot with
          | none => rfl
          | some x =>
            exfalso
            simp only [Addr.add, if_true] at h0
            unfold World.cell? at h0
            split at h0
            · simp at h0
            · cases h0
        subst hs
        refine ⟨some ⟨b, o, none⟩, c, b, o, rfl, fun _ => rfl, fun i l hl => ?_, hm, hcp⟩
        obtain ⟨u, M, hu, hr, hl2, hM⟩ := hp i l hl
        rw [Addr.add_off] at hu
        obtain ⟨pp, cc, rfl, _⟩ := hr.shape
        exact ⟨pp, cc, M, hu, hr, hl2, hM⟩

theorem PartsAt.keeps {S : List Nat} {w w' : World} {B o : Nat} {ls : List (List UInt8)} (h : PartsAt w B o ls) (hk : Keeps S w w') (hS : ∀ x ∈ S, w.heap.size ≤ x) : PartsAt w' B o ls := by
  intro i l hl
  obtain ⟨pp, cc, M, hc, hr, hm, hM⟩ := h i l hl
  have hB := World.block_lt_of_cell? _ _ hc
  refine ⟨pp, cc, if l = [] then w.heap.size + (S.foldr (· + ·) 0) + 1 else M, hk.cell hc (fun hm => by have := hS _ hm; omega), ?_, hm, fun hne => by rw [if_neg hne]; have := hM hne; have := hk.size; omega⟩
  by_cases he : l = []
  · subst he
    rcases hr with h1 | ⟨ad, cap, hv, hcap, hb, hcell⟩
    · exact .inl h1
    · exact .inr ⟨ad, cap, hv, hcap, fun h => absurd rfl h, fun i c hi => by simp at hi⟩
  · rw [if_neg he]
    exact hr.keeps hk (fun hm => by have := hS _ hm; have := hM he; omega)
end Go.Proofs.Ytdcfcljgennipaa
