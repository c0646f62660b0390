/-
  Records, as plain mathematics: the bytes of one, what stands at the begin of bytes, and what stands one behind the other.
  Records with a byte changed, and records that stand at the begin of bytes: plain mathematics.
-/
import Derived.Test.YtlnmbfddhdjioaaGreatCrcMath
namespace Go.Proofs.YtlnmbfddhdjioaaGreat

/-- A number of bytes, filled up to words. -/
def fillN (n : Nat) : Nat := (n + 3) / 4 * 4
def sizeN (n : Nat) : Nat := 12 + fillN n

theorem fillN_ge (n : Nat) : n ≤ fillN n := by unfold fillN; omega
theorem fillN_lt (n : Nat) : fillN n < n + 4 := by unfold fillN; omega
theorem fillN_mod (n : Nat) : fillN n % 4 = 0 := by unfold fillN; omega
theorem sizeN_mod (n : Nat) : sizeN n % 4 = 0 := by unfold sizeN fillN; omega

def headB (n : Nat) : List UInt8 := [UInt8.ofNat (n / 256), UInt8.ofNat n, ~~~UInt8.ofNat (n / 256), ~~~UInt8.ofNat n]
/-- A payload, filled up. -/
def padB (p : List UInt8) : List UInt8 := p ++ List.replicate (fillN p.length - p.length) 255
def be4 (x : BitVec 32) : List UInt8 := [UInt8.ofNat (x.toNat / 2 ^ 24), UInt8.ofNat (x.toNat / 2 ^ 16), UInt8.ofNat (x.toNat / 2 ^ 8), UInt8.ofNat x.toNat]
def bodyB (p : List UInt8) : List UInt8 := padB p ++ be4 (crcOf (headB p.length ++ padB p))
/-- The bytes of a record. -/
def recB (p : List UInt8) : List UInt8 := headB p.length ++ (bodyB p ++ [0, 0, 0, 0])

theorem headB_length (n : Nat) : (headB n).length = 4 := rfl
theorem padB_length (p : List UInt8) : (padB p).length = fillN p.length := by
  have := fillN_ge p.length
  simp [padB]; omega
theorem be4_length (x : BitVec 32) : (be4 x).length = 4 := rfl
theorem bodyB_length (p : List UInt8) : (bodyB p).length = fillN p.length + 4 := by simp [bodyB, padB_length, be4_length]
theorem recB_length (p : List UInt8) : (recB p).length = sizeN p.length := by
  simp [recB, bodyB_length, headB_length, sizeN]; omega

/-- The length that a right head tells. -/
def headLen : List UInt8 → Option Nat
  | a :: b :: c :: d :: _ => if a = ~~~c ∧ b = ~~~d ∧ a.toNat * 256 + b.toNat ≤ 4080 then some (a.toNat * 256 + b.toNat) else none
  | _ => none

/-- What stands at a place: how many bytes it takes, its kind, its payload. -/
structure R4 where
  size : Nat
  kind : UInt8
  pay : List UInt8
deriving DecidableEq

def firstL (b : List UInt8) : R4 :=
  match headLen b with
  | none => ⟨min 4 b.length, 3, []⟩
  | some n => if b.length < sizeN n then ⟨min 4 b.length, 3, []⟩
    else if b.take (sizeN n) = recB ((b.drop 4).take n) then ⟨sizeN n, 1, (b.drop 4).take n⟩ else ⟨sizeN n, 2, []⟩

/-- How many bytes there are up to the last one that is not 255. -/
def writtenN (b : List UInt8) : Nat := (b.reverse.dropWhile (· == 255)).length

def rowF : Nat → Nat → List UInt8 → List (Nat × R4)
  | 0, _, _ => []
  | f + 1, at', b => if at' < writtenN b then (at', firstL (b.drop at')) :: rowF f (at' + (firstL (b.drop at')).size) b else []

/-- What stands one behind the other, from a place on. -/
def rowAt (at' : Nat) (b : List UInt8) : List (Nat × R4) := rowF (b.length - at') at' b
def rowL (b : List UInt8) : List (Nat × R4) := rowAt 0 b

theorem headLen_le {b : List UInt8} {n : Nat} (h : headLen b = some n) : n ≤ 4080 ∧ 4 ≤ b.length := by
  unfold headLen at h
  split at h
  · split at h
    · rename_i hc
      simp at h
      simp
      omega
    · cases h
  · cases h

theorem firstL_size (b : List UInt8) (h : b ≠ []) : 1 ≤ (firstL b).size ∧ (firstL b).size ≤ b.length := by
  have hb : 0 < b.length := List.length_pos_iff.2 h
  unfold firstL
  split
  · simp; omega
  · split
    · simp; omega
    · split
      · unfold sizeN at *; simp; omega
      · unfold sizeN at *; simp; omega

theorem firstL_kind (b : List UInt8) : (firstL b).kind = 1 ∨ (firstL b).kind = 2 ∨ (firstL b).kind = 3 := by
  unfold firstL
  split
  · simp
  · split
    · simp
    · split <;> simp

theorem firstL_pay (b : List UInt8) (h : (firstL b).kind ≠ 1) : (firstL b).pay = [] := by
  unfold firstL at h ⊢
  split
  · rfl
  · rename_i n hn
    rw [hn] at h
    simp only at h ⊢
    split
    · rfl
    · rename_i h1
      rw [if_neg h1] at h
      split
      · rename_i h2
        rw [if_pos h2] at h
        exact absurd rfl h
      · rfl

theorem writtenN_le (b : List UInt8) : writtenN b ≤ b.length := by
  unfold writtenN
  have := (List.dropWhile_sublist (l := b.reverse) (fun c => c == 255)).length_le
  simpa using this

theorem writtenN_nil : writtenN [] = 0 := rfl

theorem writtenN_snoc (b : List UInt8) (c : UInt8) : writtenN (b ++ [c]) = if c = 255 then writtenN b else b.length + 1 := by
  unfold writtenN
  rw [List.reverse_append]
  simp only [List.reverse_cons, List.reverse_nil, List.nil_append, List.singleton_append, List.dropWhile_cons]
  by_cases h : c = 255
  · simp [h]
  · simp [h]

/-- All of them are 255. -/
def blank (b : List UInt8) : Prop := ∀ c ∈ b, c = 255

theorem blank_replicate (n : Nat) : blank (List.replicate n 255) := fun _ h => List.eq_of_mem_replicate h

theorem blank_eq {b : List UInt8} (h : blank b) : b = List.replicate b.length 255 := List.eq_replicate_iff.2 ⟨rfl, h⟩

theorem writtenN_append (a b : List UInt8) (h : blank b) : writtenN (a ++ b) = writtenN a := by
  rw [blank_eq h]
  generalize b.length = n
  induction n with
  | zero => simp
  | succ n ih => rw [List.replicate_succ', ← List.append_assoc, writtenN_snoc, if_pos rfl, ih]

theorem writtenN_blank {b : List UInt8} (h : blank b) : writtenN b = 0 := by
  have := writtenN_append [] b h
  simpa [writtenN_nil] using this

theorem snoc_induction {P : List UInt8 → Prop} (h0 : P []) (h1 : ∀ b c, P b → P (b ++ [c])) (b : List UInt8) : P b := by
  have h : ∀ r : List UInt8, P r.reverse := by
    intro r
    induction r with
    | nil => exact h0
    | cons c r ih => rw [List.reverse_cons]; exact h1 _ _ ih
  have := h b.reverse
  rwa [List.reverse_reverse] at this

theorem writtenN_drop (b : List UInt8) : blank (b.drop (writtenN b)) := by
  induction b using snoc_induction with
  | h0 => intro c hc; simp at hc
  | h1 b c ih =>
    rw [writtenN_snoc]
    by_cases h : c = 255
    · rw [if_pos h]
      have := writtenN_le b
      rw [List.drop_append_of_le_length this]
      intro x hx
      rcases List.mem_append.1 hx with hx | hx
      · exact ih x hx
      · simpa [h] using hx
    · rw [if_neg h]
      intro x hx
      rw [List.drop_of_length_le (by simp)] at hx
      cases hx

theorem writtenN_last (b : List UInt8) (h : 0 < writtenN b) : ∃ c, b[writtenN b - 1]? = some c ∧ c ≠ 255 := by
  induction b using snoc_induction with
  | h0 => simp [writtenN] at h
  | h1 b c ih =>
    rw [writtenN_snoc] at h ⊢
    by_cases hc : c = 255
    · rw [if_pos hc] at h ⊢
      obtain ⟨x, hx, hn⟩ := ih h
      have := writtenN_le b
      exact ⟨x, by rw [List.getElem?_append_left (by omega)]; exact hx, hn⟩
    · rw [if_neg hc]
      exact ⟨c, by simp, hc⟩

/-- Nothing stands from a place on just if it lies behind what is written. -/
theorem blank_drop (b : List UInt8) (k : Nat) : blank (b.drop k) ↔ writtenN b ≤ k := by
  constructor
  · intro h
    by_cases hw : writtenN b ≤ k
    · exact hw
    · exfalso
      obtain ⟨c, hc, hn⟩ := writtenN_last b (by omega)
      refine hn (h c ?_)
      refine List.mem_iff_getElem?.2 ⟨writtenN b - 1 - k, ?_⟩
      rw [List.getElem?_drop, show k + (writtenN b - 1 - k) = writtenN b - 1 by omega, hc]
  · intro h c hc
    have h1 := writtenN_drop b
    refine h1 c ?_
    have : b.drop k = (b.drop (writtenN b)).drop (k - writtenN b) := by rw [List.drop_drop]; congr 1; omega
    rw [this] at hc
    exact List.mem_of_mem_drop hc

theorem rowF_more (b : List UInt8) : ∀ (f g at' : Nat), writtenN b ≤ f + at' → f ≤ g → rowF g at' b = rowF f at' b := by
  intro f
  induction f with
  | zero =>
    intro g at' h _
    cases g with
    | zero => rfl
    | succ g => simp only [rowF]; rw [if_neg (by omega)]
  | succ f ih =>
    intro g at' h hg
    match g, hg with
    | g + 1, hg =>
      simp only [rowF]
      by_cases hlt : at' < writtenN b
      · rw [if_pos hlt, if_pos hlt]
        have := writtenN_le b
        have hs := firstL_size (b.drop at') (by intro e; have := congrArg List.length e; simp at this; omega)
        rw [ih g _ (by omega) (by omega)]
      · rw [if_neg hlt, if_neg hlt]

theorem rowF_eq (b : List UInt8) (f at' : Nat) (h : writtenN b ≤ f + at') : rowF f at' b = rowAt at' b := by
  have := writtenN_le b
  unfold rowAt
  by_cases hf : f ≤ b.length - at'
  · exact (rowF_more b f _ at' h hf).symm
  · exact rowF_more b _ f at' (by omega) (by omega)

theorem rowAt_end (at' : Nat) (b : List UInt8) (h : writtenN b ≤ at') : rowAt at' b = [] := by
  rw [← rowF_eq b 0 at' (by omega)]; rfl

theorem rowAt_step (at' : Nat) (b : List UInt8) (h : at' < writtenN b) : rowAt at' b = (at', firstL (b.drop at')) :: rowAt (at' + (firstL (b.drop at')).size) b := by
  have hw := writtenN_le b
  have hs := firstL_size (b.drop at') (by intro e; have := congrArg List.length e; simp at this; omega)
  rw [← rowF_eq b (b.length - at' - 1 + 1) at' (by omega)]
  simp only [rowF]
  rw [if_pos h, rowF_eq _ _ _ (by omega)]

/-- Where what stands there ends. -/
def endL (at' : Nat) (l : List (Nat × R4)) : Nat := match l.getLast? with
  | none => at'
  | some x => x.1 + x.2.size

/-- A row that goes on from a place: nothing is let out. -/
inductive IsRow (b : List UInt8) : Nat → List (Nat × R4) → Prop
  | done (at' : Nat) (h : writtenN b ≤ at') : IsRow b at' []
  | more (at' : Nat) (h : at' < writtenN b) (l : List (Nat × R4)) (hl : IsRow b (at' + (firstL (b.drop at')).size) l) : IsRow b at' ((at', firstL (b.drop at')) :: l)

theorem isRow_rowAt (b : List UInt8) : ∀ (k at' : Nat), writtenN b - at' ≤ k → IsRow b at' (rowAt at' b) := by
  intro k
  induction k with
  | zero => intro at' h; rw [rowAt_end _ _ (by omega)]; exact .done _ (by omega)
  | succ k ih =>
    intro at' h
    by_cases hlt : at' < writtenN b
    · have hw := writtenN_le b
      have hs := firstL_size (b.drop at') (by intro e; have := congrArg List.length e; simp at this; omega)
      rw [rowAt_step _ _ hlt]
      exact .more _ hlt _ (ih _ (by omega))
    · rw [rowAt_end _ _ (by omega)]; exact .done _ (by omega)

theorem isRow_rowL (b : List UInt8) : IsRow b 0 (rowL b) := isRow_rowAt b _ 0 (Nat.le_refl _)

theorem IsRow.eq {b : List UInt8} {at' : Nat} {l : List (Nat × R4)} (h : IsRow b at' l) : l = rowAt at' b := by
  induction h with
  | done at' h => rw [rowAt_end _ _ h]
  | more at' h l _ ih => rw [rowAt_step _ _ h, ← ih]

/-- The place that the k-th thing of a row has. -/
def placeAt (at' : Nat) (l : List (Nat × R4)) (k : Nat) : Nat := endL at' (l.take k)

end Go.Proofs.YtlnmbfddhdjioaaGreat

namespace Go.Proofs.YtlnmbfddhdjioaaGreat

theorem byte_ne (c d : UInt8) (h : c ≠ d) : c.toBitVec.setWidth 32 ^^^ d.toBitVec.setWidth 32 ≠ 0#32 := by
  intro e
  apply h
  have e2 : c.toBitVec.setWidth 32 = d.toBitVec.setWidth 32 := BitVec.xor_eq_zero_iff.1 e
  apply UInt8.eq_of_toBitVec_eq
  apply BitVec.eq_of_toNat_eq
  have := congrArg BitVec.toNat e2
  simp only [BitVec.toNat_setWidth] at this
  have h1 := c.toBitVec.isLt
  have h2 := d.toBitVec.isLt
  omega

/-- One byte changed changes the CRC. -/
theorem crc_byte (l1 l2 : List UInt8) (c d : UInt8) (h : c ≠ d) : crcOf (l1 ++ c :: l2) ≠ crcOf (l1 ++ d :: l2) := by
  intro e
  unfold crcOf at e
  have e1 : addl ones32 (l1 ++ c :: l2) = addl ones32 (l1 ++ d :: l2) := by
    have := congrArg (fun x => ~~~ x) e
    simpa using this
  rw [addl_append, addl_append, addl_cons, addl_cons] at e1
  have hx : add1 (addl ones32 l1) c = add1 (addl ones32 l1) d ^^^ zb 8 (c.toBitVec.setWidth 32 ^^^ d.toBitVec.setWidth 32) := by
    unfold add1
    rw [← zb_xor]
    congr 1
    rw [BitVec.xor_assoc]
    congr 1
    rw [BitVec.xor_comm (d.toBitVec.setWidth 32), BitVec.xor_assoc, BitVec.xor_self, BitVec.xor_zero]
  rw [hx, addl_xor] at e1
  have h0 : zb (8 * l2.length) (zb 8 (c.toBitVec.setWidth 32 ^^^ d.toBitVec.setWidth 32)) = 0#32 := by
    have := congrArg (fun x => addl (add1 (addl ones32 l1) d) l2 ^^^ x) e1
    simp only [← BitVec.xor_assoc, BitVec.xor_self, BitVec.zero_xor] at this
    exact this
  exact byte_ne c d h (zb_inj 8 (zb_inj _ h0))

theorem crc_set (l : List UInt8) (i : Nat) (c d : UInt8) (hd : l[i]? = some d) (h : c ≠ d) : crcOf (l.set i c) ≠ crcOf l := by
  have hi := (List.getElem?_eq_some_iff.1 hd).1
  have e1 : l = l.take i ++ d :: l.drop (i + 1) := by
    conv => lhs; rw [← List.take_append_drop i l, List.drop_eq_getElem_cons hi, (List.getElem?_eq_some_iff.1 hd).2]
  have e2 : l.set i c = l.take i ++ c :: l.drop (i + 1) := by
    rw [List.set_eq_take_append_cons_drop, if_pos hi]
  rw [e2]
  conv => rhs; rw [e1]
  exact crc_byte _ _ _ _ h

theorem ofNat_toNat (n : Nat) : (UInt8.ofNat n).toNat = n % 256 := by simp

theorem head_number (n : Nat) (h : n ≤ 4080) : (UInt8.ofNat (n / 256)).toNat * 256 + (UInt8.ofNat n).toNat = n := by
  rw [ofNat_toNat, ofNat_toNat]; omega

theorem headLen_rec (p r : List UInt8) (hp : p.length ≤ 4080) : headLen (headB p.length ++ r) = some p.length := by
  simp only [headB, List.cons_append, List.nil_append, headLen]
  rw [if_pos ⟨by simp, by simp, by rw [head_number _ hp]; exact hp⟩, head_number _ hp]

theorem recB_take (p r : List UInt8) : (recB p ++ r).take (sizeN p.length) = recB p := by
  rw [List.take_append_of_le_length (by rw [recB_length]; exact Nat.le_refl _), List.take_of_length_le (by rw [recB_length]; exact Nat.le_refl _)]

theorem recB_payload (p r : List UInt8) : ((recB p ++ r).drop 4).take p.length = p := by
  unfold recB bodyB padB
  simp only [List.append_assoc]
  rw [List.drop_append_of_le_length (by rw [headB_length]; exact Nat.le_refl _), List.drop_of_length_le (by rw [headB_length]; exact Nat.le_refl _), List.nil_append]
  rw [List.take_append_of_le_length (Nat.le_refl _), List.take_length]

/-- A record that stands at the begin of bytes is one. -/
theorem firstL_rec (p r : List UInt8) (hp : p.length ≤ 4080) : firstL (recB p ++ r) = ⟨sizeN p.length, 1, p⟩ := by
  have h : headLen (recB p ++ r) = some p.length := by
    unfold recB
    rw [List.append_assoc]
    exact headLen_rec p _ hp
  unfold firstL
  rw [h]
  simp only
  rw [if_neg (by rw [List.length_append, recB_length]; omega), recB_payload, recB_take, if_pos rfl]

theorem be4_inj (x y : BitVec 32) (h : be4 x = be4 y) : x = y := by
  have hb : ∀ m n : Nat, UInt8.ofNat m = UInt8.ofNat n → m % 256 = n % 256 := fun m n e => by
    have := congrArg UInt8.toNat e
    rwa [ofNat_toNat, ofNat_toNat] at this
  unfold be4 at h
  simp only [List.cons.injEq, and_true] at h
  obtain ⟨h1, h2, h3, h4⟩ := h
  have h1 := hb _ _ h1
  have h2 := hb _ _ h2
  have h3 := hb _ _ h3
  have h4 := hb _ _ h4
  apply BitVec.eq_of_toNat_eq
  have hx := x.isLt
  have hy := y.isLt
  omega

theorem recB_head (p : List UInt8) : (recB p).take (4 + fillN p.length) = headB p.length ++ padB p := by
  have e : recB p = (headB p.length ++ padB p) ++ (be4 (crcOf (headB p.length ++ padB p)) ++ [0, 0, 0, 0]) := by
    unfold recB bodyB; simp only [List.append_assoc]
  rw [e, List.take_append_of_le_length (by simp [headB_length, padB_length]), List.take_of_length_le (by simp [headB_length, padB_length])]

theorem recB_tail (p : List UInt8) : (recB p).drop (4 + fillN p.length) = be4 (crcOf (headB p.length ++ padB p)) ++ [0, 0, 0, 0] := by
  have e : recB p = (headB p.length ++ padB p) ++ (be4 (crcOf (headB p.length ++ padB p)) ++ [0, 0, 0, 0]) := by
    unfold recB bodyB; simp only [List.append_assoc]
  rw [e, List.drop_append_of_le_length (by simp [headB_length, padB_length]), List.drop_of_length_le (by simp [headB_length, padB_length]), List.nil_append]

theorem not_self (a b : UInt8) (h : a = ~~~b) : b = ~~~a := by rw [h]; simp

/-- A record of which a byte is another one is none. -/
theorem rec_changed (p : List UInt8) (hp : p.length ≤ 4080) (i : Nat) (c d : UInt8) (hd : (recB p)[i]? = some d) (hc : c ≠ d) : (firstL ((recB p).set i c)).kind ≠ 1 := by
  intro hk
  have hi := (List.getElem?_eq_some_iff.1 hd).1
  rw [recB_length] at hi
  have hlen : ((recB p).set i c).length = sizeN p.length := by simp [recB_length]
  unfold firstL at hk
  cases hh : headLen ((recB p).set i c) with
  | none => rw [hh] at hk; simp at hk
  | some n =>
    rw [hh] at hk
    simp only at hk
    by_cases hs : ((recB p).set i c).length < sizeN n
    · rw [if_pos hs] at hk; simp at hk
    rw [if_neg hs] at hk
    by_cases he : ((recB p).set i c).take (sizeN n) = recB ((((recB p).set i c).drop 4).take n)
    case neg => rw [if_neg he] at hk; simp at hk
    have hrec : recB p = headB p.length ++ (bodyB p ++ [0, 0, 0, 0]) := rfl
    by_cases h4 : i < 4
    · -- the head
      have e : (recB p).set i c = (headB p.length).set i c ++ (bodyB p ++ [0, 0, 0, 0]) := by
        rw [hrec, List.set_append_left _ _ (by rw [headB_length]; exact h4)]
      rw [e] at hh
      rw [hrec, List.getElem?_append_left (by rw [headB_length]; exact h4)] at hd
      have key : ∀ a b x y : UInt8, ∀ r : List UInt8, headLen (a :: b :: x :: y :: r) = some n → a = ~~~x ∧ b = ~~~y := by
        intro a b x y r h
        simp only [headLen] at h
        by_cases q : a = ~~~x ∧ b = ~~~y ∧ a.toNat * 256 + b.toNat ≤ 4080
        · exact ⟨q.1, q.2.1⟩
        · rw [if_neg q] at h; cases h
      match i, h4 with
      | 0, _ =>
        have := key _ _ _ _ _ hh
        simp [headB] at hd
        exact hc (by rw [this.1, ← hd]; simp)
      | 1, _ =>
        have := key _ _ _ _ _ hh
        simp [headB] at hd
        exact hc (by rw [this.2, ← hd]; simp)
      | 2, _ =>
        have := key _ _ _ _ _ hh
        simp [headB] at hd
        exact hc (by rw [not_self _ _ this.1, ← hd])
      | 3, _ =>
        have := key _ _ _ _ _ hh
        simp [headB] at hd
        exact hc (by rw [not_self _ _ this.2, ← hd])
    · have e : (recB p).set i c = headB p.length ++ (bodyB p ++ [0, 0, 0, 0]).set (i - 4) c := by
        rw [hrec, List.set_append_right _ _ (by rw [headB_length]; omega), headB_length]
      have hn : n = p.length := by
        rw [e, headLen_rec p _ hp] at hh
        cases hh; rfl
      subst hn
      rw [List.take_of_length_le (by rw [hlen]; exact Nat.le_refl _)] at he
      obtain ⟨q, hq⟩ : ∃ q, q = (((recB p).set i c).drop 4).take p.length := ⟨_, rfl⟩
      rw [← hq] at he
      have hql : q.length = p.length := by
        rw [hq]; simp [recB_length, sizeN]
        have := fillN_ge p.length; omega
      have hL := recB_head q
      have hT := recB_tail q
      rw [hql, ← he] at hL hT
      by_cases hiL : i < 4 + fillN p.length
      · -- ahead of the sum: the sums are alike
        have hD : ((recB p).set i c).drop (4 + fillN p.length) = (recB p).drop (4 + fillN p.length) := by
          rw [List.drop_set_of_lt hiL]
        rw [hD, recB_tail p] at hT
        have hcrc := be4_inj _ _ (List.append_inj_left hT rfl)
        rw [← hL, List.take_set, recB_head p] at hcrc
        refine crc_set (headB p.length ++ padB p) i c d ?_ hc hcrc.symm
        rw [← recB_head p, List.getElem?_take, if_pos hiL, hd]
      · -- behind it: all is what the payload says
        have hX : ((recB p).set i c).take (4 + fillN p.length) = (recB p).take (4 + fillN p.length) := by
          rw [List.take_set_of_le (by omega)]
        rw [hX, recB_head p] at hL
        have : (recB p).set i c = recB p := by
          rw [← List.take_append_drop (4 + fillN p.length) ((recB p).set i c), hX, hT, ← hL, ← recB_tail p, List.take_append_drop]
        have h2 := congrArg (fun l => l[i]?) this
        simp only [List.getElem?_set_self (show i < (recB p).length by rw [recB_length]; exact hi), hd] at h2
        cases h2
        exact hc rfl
end Go.Proofs.YtlnmbfddhdjioaaGreat
