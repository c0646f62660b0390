/-
  Records, as plain mathematics: the bytes of one, what stands at the begin of bytes, and what stands one behind the other.
-/
import Derived.Test.YtdcfcljgennipaaCrcN
namespace Go.Proofs.Ytdcfcljgennipaa

/-- A number of bytes, filled up to words. -/
def fillN (n : Nat) : Nat := (n + 3) / 4 * 4
def sizeN (n : Nat) : Nat := 12 + fillN n

theorem fillN_ge (n : Nat) : n ≤ fillN n := by unfold fillN; omega
theorem fillN_lt (n : Nat) : fillN n < n + 4 := by unfold fillN; omega
theorem fillN_mod (n : Nat) : fillN n % 4 = 0 := by unfold fillN; omega
theorem sizeN_mod (n : Nat) : sizeN n % 4 = 0 := by unfold sizeN fillN; omega

def headB (n : Nat) : List UInt8 := [UInt8.ofNat (n / 256), UInt8.ofNat n, ~~~UInt8.ofNat (n / 256), ~~~UInt8.ofNat n]
/-- A payload, filled up. -/
def padB (p : List UInt8) : List UInt8 := p ++ List.replicate (fillN p.length - p.length) 255
def be4 (x : BitVec 32) : List UInt8 := [UInt8.ofNat (x.toNat / 2 ^ 24), UInt8.ofNat (x.toNat / 2 ^ 16), UInt8.ofNat (x.toNat / 2 ^ 8), UInt8.ofNat x.toNat]
def bodyB (p : List UInt8) : List UInt8 := padB p ++ be4 (crcOf (headB p.length ++ padB p))
/-- The bytes of a record. -/
def recB (p : List UInt8) : List UInt8 := headB p.length ++ (bodyB p ++ [0, 0, 0, 0])

theorem headB_length (n : Nat) : (headB n).length = 4 := rfl
theorem padB_length (p : List UInt8) : (padB p).length = fillN p.length := by
  have := fillN_ge p.length
  simp [padB]; omega
theorem be4_length (x : BitVec 32) : (be4 x).length = 4 := rfl
theorem bodyB_length (p : List UInt8) : (bodyB p).length = fillN p.length + 4 := by simp [bodyB, padB_length, be4_length]
theorem recB_length (p : List UInt8) : (recB p).length = sizeN p.length := by
  simp [recB, bodyB_length, headB_length, sizeN]; omega

/-- The length that a right head tells. -/
def headLen : List UInt8 → Option Nat
  | a :: b :: c :: d :: _ => if a = ~~~c ∧ b = ~~~d ∧ a.toNat * 256 + b.toNat ≤ 4080 then some (a.toNat * 256 + b.toNat) else none
  | _ => none

/-- What stands at a place: how many bytes it takes, its kind, its payload. -/
structure R4 where
  size : Nat
  kind : UInt8
  pay : List UInt8
deriving DecidableEq

def firstL (b : List UInt8) : R4 :=
  match headLen b with
  | none => ⟨min 4 b.length, 3, []⟩
  | some n => if b.length < sizeN n then ⟨min 4 b.length, 3, []⟩
    else if b.take (sizeN n) = recB ((b.drop 4).take n) then ⟨sizeN n, 1, (b.drop 4).take n⟩ else ⟨sizeN n, 2, []⟩

/-- How many bytes there are up to the last one that is not 255. -/
def writtenN (b : List UInt8) : Nat := (b.reverse.dropWhile (· == 255)).length

def rowF : Nat → Nat → List UInt8 → List (Nat × R4)
  | 0, _, _ => []
  | f + 1, at', b => if at' < writtenN b then (at', firstL (b.drop at')) :: rowF f (at' + (firstL (b.drop at')).size) b else []

/-- What stands one behind the other, from a place on. -/
def rowAt (at' : Nat) (b : List UInt8) : List (Nat × R4) := rowF (b.length - at') at' b
def rowL (b : List UInt8) : List (Nat × R4) := rowAt 0 b

theorem headLen_le {b : List UInt8} {n : Nat} (h : headLen b = some n) : n ≤ 4080 ∧ 4 ≤ b.length := by
  unfold headLen at h
  split at h
  · split at h
    · rename_i hc
      simp at h
      simp
      omega
    · cases h
  · cases h

theorem firstL_size (b : List UInt8) (h : b ≠ []) : 1 ≤ (firstL b).size ∧ (firstL b).size ≤ b.length := by
  have hb : 0 < b.length := List.length_pos_iff.2 h
  unfold firstL
  split
  · simp; omega
  · split
    · simp; omega
    · split
      · unfold sizeN at *; simp; omega
      · unfold sizeN at *; simp; omega

theorem firstL_kind (b : List UInt8) : (firstL b).kind = 1 ∨ (firstL b).kind = 2 ∨ (firstL b).kind = 3 := by
  unfold firstL
  split
  · simp
  · split
    · simp
    · split <;> simp

theorem firstL_pay (b : List UInt8) (h : (firstL b).kind ≠ 1) : (firstL b).pay = [] := by
  unfold firstL at h ⊢
  split
  · rfl
  · rename_i n hn
    rw [hn] at h
    simp only at h ⊢
    split
    · rfl
    · rename_i h1
      rw [if_neg h1] at h
      split
      · rename_i h2
        rw [if_pos h2] at h
        exact absurd rfl h
      · rfl

theorem writtenN_le (b : List UInt8) : writtenN b ≤ b.length := by
  unfold writtenN
  have := (List.dropWhile_sublist (l := b.reverse) (fun c => c == 255)).length_le
  simpa using this

theorem writtenN_nil : writtenN [] = 0 := rfl

theorem writtenN_snoc (b : List UInt8) (c : UInt8) : writtenN (b ++ [c]) = if c = 255 then writtenN b else b.length + 1 := by
  unfold writtenN
  rw [List.reverse_append]
  simp only [List.reverse_cons, List.reverse_nil, List.nil_append, List.singleton_append, List.dropWhile_cons]
  by_cases h : c = 255
  · simp [h]
  · simp [h]

/-- All of them are 255. -/
def blank (b : List UInt8) : Prop := ∀ c ∈ b, c = 255

theorem blank_replicate (n : Nat) : blank (List.replicate n 255) := fun _ h => List.eq_of_mem_replicate h

theorem blank_eq {b : List UInt8} (h : blank b) : b = List.replicate b.length 255 := List.eq_replicate_iff.2 ⟨rfl, h⟩

theorem writtenN_append (a b : List UInt8) (h : blank b) : writtenN (a ++ b) = writtenN a := by
  rw [blank_eq h]
  generalize b.length = n
  induction n with
  | zero => simp
  | succ n ih => rw [List.replicate_succ', ← List.append_assoc, writtenN_snoc, if_pos rfl, ih]

theorem writtenN_blank {b : List UInt8} (h : blank b) : writtenN b = 0 := by
  have := writtenN_append [] b h
  simpa [writtenN_nil] using this

theorem snoc_induction {P : List UInt8 → Prop} (h0 : P []) (h1 : ∀ b c, P b → P (b ++ [c])) (b : List UInt8) : P b := by
  have h : ∀ r : List UInt8, P r.reverse := by
    intro r
    induction r with
    | nil => exact h0
    | cons c r ih => rw [List.reverse_cons]; exact h1 _ _ ih
  have := h b.reverse
  rwa [List.reverse_reverse] at this

theorem writtenN_drop (b : List UInt8) : blank (b.drop (writtenN b)) := by
  induction b using snoc_induction with
  | h0 => intro c hc; simp at hc
  | h1 b c ih =>
    rw [writtenN_snoc]
    by_cases h : c = 255
    · rw [if_pos h]
      have := writtenN_le b
      rw [List.drop_append_of_le_length this]
      intro x hx
      rcases List.mem_append.1 hx with hx | hx
      · exact ih x hx
      · simpa [h] using hx
    · rw [if_neg h]
      intro x hx
      rw [List.drop_of_length_le (by simp)] at hx
      cases hx

theorem writtenN_last (b : List UInt8) (h : 0 < writtenN b) : ∃ c, b[writtenN b - 1]? = some c ∧ c ≠ 255 := by
  induction b using snoc_induction with
  | h0 => simp [writtenN] at h
  | h1 b c ih =>
    rw [writtenN_snoc] at h ⊢
    by_cases hc : c = 255
    · rw [if_pos hc] at h ⊢
      obtain ⟨x, hx, hn⟩ := ih h
      have := writtenN_le b
      exact ⟨x, by rw [List.getElem?_append_left (by omega)]; exact hx, hn⟩
    · rw [if_neg hc]
      exact ⟨c, by simp, hc⟩

/-- Nothing stands from a place on just if it lies behind what is written. -/
theorem blank_drop (b : List UInt8) (k : Nat) : blank (b.drop k) ↔ writtenN b ≤ k := by
  constructor
  · intro h
    by_cases hw : writtenN b ≤ k
    · exact hw
    · exfalso
      obtain ⟨c, hc, hn⟩ := writtenN_last b (by omega)
      refine hn (h c ?_)
      refine List.mem_iff_getElem?.2 ⟨writtenN b - 1 - k, ?_⟩
      rw [List.getElem?_drop, show k + (writtenN b - 1 - k) = writtenN b - 1 by omega, hc]
  · intro h c hc
    have h1 := writtenN_drop b
    refine h1 c ?_
    have : b.drop k = (b.drop (writtenN b)).drop (k - writtenN b) := by rw [List.drop_drop]; congr 1; omega
    rw [this] at hc
    exact List.mem_of_mem_drop hc

theorem rowF_more (b : List UInt8) : ∀ (f g at' : Nat), writtenN b ≤ f + at' → f ≤ g → rowF g at' b = rowF f at' b := by
  intro f
  induction f with
  | zero =>
    intro g at' h _
    cases g with
    | zero => rfl
    | succ g => simp only [rowF]; rw [if_neg (by omega)]
  | succ f ih =>
    intro g at' h hg
    match g, hg with
    | g + 1, hg =>
      simp only [rowF]
      by_cases hlt : at' < writtenN b
      · rw [if_pos hlt, if_pos hlt]
        have := writtenN_le b
        have hs := firstL_size (b.drop at') (by intro e; have := congrArg List.length e; simp at this; omega)
        rw [ih g _ (by omega) (by omega)]
      · rw [if_neg hlt, if_neg hlt]

theorem rowF_eq (b : List UInt8) (f at' : Nat) (h : writtenN b ≤ f + at') : rowF f at' b = rowAt at' b := by
  have := writtenN_le b
  unfold rowAt
  by_cases hf : f ≤ b.length - at'
  · exact (rowF_more b f _ at' h hf).symm
  · exact rowF_more b _ f at' (by omega) (by omega)

theorem rowAt_end (at' : Nat) (b : List UInt8) (h : writtenN b ≤ at') : rowAt at' b = [] := by
  rw [← rowF_eq b 0 at' (by omega)]; rfl

theorem rowAt_step (at' : Nat) (b : List UInt8) (h : at' < writtenN b) : rowAt at' b = (at', firstL (b.drop at')) :: rowAt (at' + (firstL (b.drop at')).size) b := by
  have hw := writtenN_le b
  have hs := firstL_size (b.drop at') (by intro e; have := congrArg List.length e; simp at this; omega)
  rw [← rowF_eq b (b.length - at' - 1 + 1) at' (by omega)]
  simp only [rowF]
  rw [if_pos h, rowF_eq _ _ _ (by omega)]

/-- Where what stands there ends. -/
def endL (at' : Nat) (l : List (Nat × R4)) : Nat := match l.getLast? with
  | none => at'
  | some x => x.1 + x.2.size

/-- A row that goes on from a place: nothing is let out. -/
inductive IsRow (b : List UInt8) : Nat → List (Nat × R4) → Prop
  | done (at' : Nat) (h : writtenN b ≤ at') : IsRow b at' []
  | more (at' : Nat) (h : at' < writtenN b) (l : List (Nat × R4)) (hl : IsRow b (at' + (firstL (b.drop at')).size) l) : IsRow b at' ((at', firstL (b.drop at')) :: l)

theorem isRow_rowAt (b : List UInt8) : ∀ (k at' : Nat), writtenN b - at' ≤ k → IsRow b at' (rowAt at' b) := by
  intro k
  induction k with
  | zero => intro at' h; rw [rowAt_end _ _ (by omega)]; exact .done _ (by omega)
  | succ k ih =>
    intro at' h
    by_cases hlt : at' < writtenN b
    · have hw := writtenN_le b
      have hs := firstL_size (b.drop at') (by intro e; have := congrArg List.length e; simp at this; omega)
      rw [rowAt_step _ _ hlt]
      exact .more _ hlt _ (ih _ (by omega))
    · rw [rowAt_end _ _ (by omega)]; exact .done _ (by omega)

theorem isRow_rowL (b : List UInt8) : IsRow b 0 (rowL b) := isRow_rowAt b _ 0 (Nat.le_refl _)

theorem IsRow.eq {b : List UInt8} {at' : Nat} {l : List (Nat × R4)} (h : IsRow b at' l) : l = rowAt at' b := by
  induction h with
  | done at' h => rw [rowAt_end _ _ h]
  | more at' h l _ ih => rw [rowAt_step _ _ h, ← ih]

/-- The place that the k-th thing of a row has. -/
def placeAt (at' : Nat) (l : List (Nat × R4)) (k : Nat) : Nat := endL at' (l.take k)

end Go.Proofs.Ytdcfcljgennipaa
