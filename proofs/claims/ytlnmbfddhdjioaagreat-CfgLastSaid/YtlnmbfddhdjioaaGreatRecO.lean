/-
  Records that stand one behind the other: plain mathematics.
-/
import Derived.Test.YtlnmbfddhdjioaaGreatRecBitsA
namespace Go.Proofs.YtlnmbfddhdjioaaGreat

/-- The bytes of records, one behind the other; how many these are; what stands there. -/
def recsL (ps : List (List UInt8)) : List UInt8 := ps.flatMap recB
def sizes : List (List UInt8) → Nat
  | [] => 0
  | p :: ps => sizeN p.length + sizes ps
def entries : Nat → List (List UInt8) → List (Nat × R4)
  | _, [] => []
  | a, p :: ps => (a, ⟨sizeN p.length, 1, p⟩) :: entries (a + sizeN p.length) ps

theorem recsL_length : ∀ ps : List (List UInt8), (recsL ps).length = sizes ps
  | [] => rfl
  | p :: ps => by
    have := recsL_length ps
    unfold recsL at *
    rw [List.flatMap_cons, List.length_append, recB_length, this]; rfl

theorem recsL_snoc (ps : List (List UInt8)) (p : List UInt8) : recsL (ps ++ [p]) = recsL ps ++ recB p := by
  unfold recsL; rw [List.flatMap_append]; simp

theorem sizes_snoc : ∀ (ps : List (List UInt8)) (p : List UInt8), sizes (ps ++ [p]) = sizes ps + sizeN p.length
  | [], p => by simp [sizes]
  | q :: ps, p => by simp only [List.cons_append, sizes, sizes_snoc ps p]; omega

theorem sizes_mod : ∀ ps : List (List UInt8), sizes ps % 4 = 0
  | [] => rfl
  | p :: ps => by
    have h1 := sizes_mod ps
    have h2 := sizeN_mod p.length
    simp only [sizes]; omega

theorem sizes_le : ∀ (ps : List (List UInt8)), (∀ p ∈ ps, p.length ≤ 200) → sizes ps ≤ 215 * ps.length
  | [], _ => by simp [sizes]
  | p :: ps, h => by
    have h1 := sizes_le ps (fun q hq => h q (List.mem_cons_of_mem _ hq))
    have h2 := h p (by simp)
    have h3 := fillN_lt p.length
    simp only [sizes, List.length_cons]
    unfold sizeN
    omega

theorem entries_length : ∀ (a : Nat) (ps : List (List UInt8)), (entries a ps).length = ps.length
  | _, [] => rfl
  | a, p :: ps => by simp only [entries, List.length_cons, entries_length]

theorem entries_get : ∀ (a : Nat) (ps : List (List UInt8)) (k : Nat) (p : List UInt8), ps[k]? = some p → (entries a ps)[k]? = some (a + sizes (ps.take k), ⟨sizeN p.length, 1, p⟩)
  | _, [], k, p, h => by simp at h
  | a, q :: ps, 0, p, h => by simp at h; subst h; simp [entries, sizes]
  | a, q :: ps, k + 1, p, h => by
    have := entries_get (a + sizeN q.length) ps k p (by simpa using h)
    simp only [entries, List.getElem?_cons_succ, this, List.take_succ_cons, sizes]
    rw [Nat.add_assoc]

theorem isRow_recs (b t : List UInt8) (ht : blank t) : ∀ (ps : List (List UInt8)) (a : Nat), b.drop a = recsL ps ++ t → (∀ p ∈ ps, p.length ≤ 4080) → IsRow b a (entries a ps)
  | [], a, h, _ => .done _ ((blank_drop b a).1 (by rw [h]; simpa [recsL] using ht))
  | p :: ps, a, h, hp => by
    have e : recsL (p :: ps) ++ t = recB p ++ (recsL ps ++ t) := by unfold recsL; rw [List.flatMap_cons, List.append_assoc]
    rw [e] at h
    have hw : a < writtenN b := by
      by_cases hlt : a < writtenN b
      · exact hlt
      · exfalso
        have hb := (blank_drop b a).2 (by omega)
        have hz := rec_zero p 0 (by decide)
        have : (b.drop a)[8 + fillN p.length + 0]? = some 0 := by
          rw [h, List.getElem?_append_left (by rw [recB_length]; unfold sizeN; omega)]; exact hz
        have := hb 0 (List.mem_iff_getElem?.2 ⟨_, this⟩)
        cases this
    have hf : firstL (b.drop a) = ⟨sizeN p.length, 1, p⟩ := by rw [h]; exact firstL_rec p _ (hp p (by simp))
    have hd : b.drop (a + sizeN p.length) = recsL ps ++ t := by
      rw [← List.drop_drop, h, List.drop_append_of_le_length (by rw [recB_length]; exact Nat.le_refl _), List.drop_of_length_le (by rw [recB_length]; exact Nat.le_refl _), List.nil_append]
    have := isRow_recs b t ht ps (a + sizeN p.length) hd (fun q hq => hp q (List.mem_cons_of_mem _ hq))
    have hm := IsRow.more a hw (entries (a + sizeN p.length) ps) (by rw [hf]; exact this)
    rw [hf] at hm
    exact hm

theorem rowL_recs (b t : List UInt8) (ht : blank t) (ps : List (List UInt8)) (h : b = recsL ps ++ t) (hp : ∀ p ∈ ps, p.length ≤ 4080) : rowL b = entries 0 ps :=
  (isRow_recs b t ht ps 0 (by rw [List.drop_zero]; exact h) hp).eq.symm

theorem placeK_row {b : List UInt8} {a : Nat} {l : List (Nat × R4)} (h : IsRow b a l) : ∀ k, a = placeK b k → placeK b (k + l.length) = a + (l.map fun x => x.2.size).sum := by
  induction h with
  | done a h => intro k e; simp [e]
  | more a h l _ ih =>
    intro k e
    have hs : placeK b (k + 1) = a + (firstL (b.drop a)).size := by
      simp only [placeK]; rw [← e, if_pos h]
    have := ih (k + 1) hs.symm
    rw [List.length_cons, show k + (l.length + 1) = k + 1 + l.length by omega, this]
    simp; omega

theorem entries_sum : ∀ (a : Nat) (ps : List (List UInt8)), ((entries a ps).map fun x => x.2.size).sum = sizes ps
  | _, [] => rfl
  | a, p :: ps => by simp [entries, sizes, entries_sum]

theorem endK_recs (b t : List UInt8) (ht : blank t) (ps : List (List UInt8)) (h : b = recsL ps ++ t) (hp : ∀ p ∈ ps, p.length ≤ 4080) : endK b = sizes ps := by
  have hr := isRow_recs b t ht ps 0 (by rw [List.drop_zero]; exact h) hp
  have := placeK_row hr 0 rfl
  unfold endK
  rw [rowL_recs b t ht ps h hp]
  rw [Nat.zero_add, Nat.zero_add, entries_sum] at this
  exact this

/-- What the statements write: the first eight of some payloads, each cut to 200 bytes. -/
def cutP (ls : List (List UInt8)) : List (List UInt8) := (ls.take 8).map (List.take 200)

theorem cutP_length (ls : List (List UInt8)) : (cutP ls).length = min 8 ls.length := by simp [cutP]
theorem cutP_short (ls : List (List UInt8)) : ∀ p ∈ cutP ls, p.length ≤ 200 := by
  intro p hp
  obtain ⟨q, _, rfl⟩ := List.mem_map.1 hp
  simp; omega
theorem cutP_get (ls : List (List UInt8)) (k : Nat) (l : List UInt8) (hk : k < 8) (h : ls[k]? = some l) : (cutP ls)[k]? = some (l.take 200) := by
  simp [cutP, hk, h]
end Go.Proofs.YtlnmbfddhdjioaaGreat
