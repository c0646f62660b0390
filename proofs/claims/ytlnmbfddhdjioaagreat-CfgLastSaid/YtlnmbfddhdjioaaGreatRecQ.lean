/-
  What stands where a record was torn: plain mathematics.
-/
import Derived.Test.YtlnmbfddhdjioaaGreatRecO
namespace Go.Proofs.YtlnmbfddhdjioaaGreat

/-- Bytes, and what they are at the begin of whatever bytes. -/
structure IsItem (x : List UInt8 × R4) : Prop where
  size : x.1.length = x.2.size
  seen : ∃ (j : Nat) (c : UInt8), x.1[j]? = some c ∧ c ≠ 255
  first : ∀ t, firstL (x.1 ++ t) = x.2

def itemsL (xs : List (List UInt8 × R4)) : List UInt8 := xs.flatMap (·.1)
def rowI : Nat → List (List UInt8 × R4) → List (Nat × R4)
  | _, [] => []
  | a, x :: xs => (a, x.2) :: rowI (a + x.2.size) xs

theorem isRow_items (b t : List UInt8) (ht : blank t) : ∀ (xs : List (List UInt8 × R4)) (a : Nat), b.drop a = itemsL xs ++ t → (∀ x ∈ xs, IsItem x) → IsRow b a (rowI a xs)
  | [], a, h, _ => .done _ ((blank_drop b a).1 (by rw [h]; simpa [itemsL] using ht))
  | x :: xs, a, h, hp => by
    have e : itemsL (x :: xs) ++ t = x.1 ++ (itemsL xs ++ t) := by unfold itemsL; rw [List.flatMap_cons, List.append_assoc]
    rw [e] at h
    have hx := hp x (by simp)
    have hw : a < writtenN b := by
      by_cases hlt : a < writtenN b
      · exact hlt
      · exfalso
        have hb := (blank_drop b a).2 (by omega)
        obtain ⟨j, c, hj, hc⟩ := hx.seen
        have : (b.drop a)[j]? = some c := by
          rw [h, List.getElem?_append_left (List.getElem?_eq_some_iff.1 hj).1]; exact hj
        exact hc (hb c (List.mem_iff_getElem?.2 ⟨_, this⟩))
    have hf : firstL (b.drop a) = x.2 := by rw [h]; exact hx.first _
    have hd : b.drop (a + x.2.size) = itemsL xs ++ t := by
      rw [← List.drop_drop, h, ← hx.size, List.drop_append_of_le_length (Nat.le_refl _), List.drop_of_length_le (Nat.le_refl _), List.nil_append]
    have := isRow_items b t ht xs (a + x.2.size) hd (fun q hq => hp q (List.mem_cons_of_mem _ hq))
    have hm := IsRow.more a hw (rowI (a + x.2.size) xs) (by rw [hf]; exact this)
    rw [hf] at hm
    exact hm

theorem rowI_append : ∀ (a : Nat) (xs ys : List (List UInt8 × R4)), rowI a (xs ++ ys) = rowI a xs ++ rowI (a + (xs.map fun x => x.2.size).sum) ys
  | a, [], ys => by simp [rowI]
  | a, x :: xs, ys => by
    simp only [List.cons_append, rowI, rowI_append (a + x.2.size) xs ys, List.map_cons, List.sum_cons]
    rw [Nat.add_assoc]

/-- A record is one thing. -/
theorem item_rec (p : List UInt8) (hp : p.length ≤ 4080) : IsItem (recB p, ⟨sizeN p.length, 1, p⟩) :=
  ⟨recB_length p, ⟨_, 0, rec_zero p 0 (by decide), by decide⟩, fun t => firstL_rec p t hp⟩

def recItem (p : List UInt8) : List UInt8 × R4 := (recB p, ⟨sizeN p.length, 1, p⟩)

theorem rowI_recs : ∀ (a : Nat) (ps : List (List UInt8)), rowI a (ps.map recItem) = entries a ps
  | _, [] => rfl
  | a, p :: ps => by simp only [List.map_cons, rowI, entries, recItem]; rw [← rowI_recs (a + sizeN p.length) ps]

theorem itemsL_recs (ps : List (List UInt8)) : itemsL (ps.map recItem) = recsL ps := by
  unfold itemsL recsL; rw [List.flatMap_map]; rfl

theorem headLen_four (a b c d : UInt8) (t : List UInt8) : headLen (a :: b :: c :: d :: t) = headLen [a, b, c, d] := rfl

/-- A word that is no head is garbage. -/
theorem item_garbage (a b c d : UInt8) (hn : headLen [a, b, c, d] = none) (hs : ¬ (a = 255 ∧ b = 255 ∧ c = 255 ∧ d = 255)) : IsItem ([a, b, c, d], ⟨4, 3, []⟩) := by
  refine ⟨rfl, ?_, fun t => ?_⟩
  · by_cases h0 : a = 255
    · by_cases h1 : b = 255
      · by_cases h2 : c = 255
        · by_cases h3 : d = 255
          · exact absurd ⟨h0, h1, h2, h3⟩ hs
          · exact ⟨3, d, rfl, h3⟩
        · exact ⟨2, c, rfl, h2⟩
      · exact ⟨1, b, rfl, h1⟩
    · exact ⟨0, a, rfl, h0⟩
  · have : headLen ([a, b, c, d] ++ t) = none := by
      rw [show [a, b, c, d] ++ t = a :: b :: c :: d :: t from rfl, headLen_four, hn]
    unfold firstL
    rw [this]
    simp

/-- A head of n bytes, with others behind it that are no record of these. -/
theorem item_torn (p : List UInt8) (hp : p.length ≤ 4080) (r : List UInt8) (hl : (headB p.length ++ r).length = sizeN p.length) (hne : headB p.length ++ r ≠ recB (((headB p.length ++ r).drop 4).take p.length)) :
    IsItem (headB p.length ++ r, ⟨sizeN p.length, 2, []⟩) := by
  refine ⟨hl, ?_, fun t => ?_⟩
  · by_cases h0 : UInt8.ofNat (p.length / 256) = 255
    · exact ⟨2, ~~~UInt8.ofNat (p.length / 256), rfl, by rw [h0]; decide⟩
    · exact ⟨0, UInt8.ofNat (p.length / 256), rfl, h0⟩
  · have hh : headLen (headB p.length ++ r ++ t) = some p.length := by
      rw [List.append_assoc]; exact headLen_rec p _ hp
    have h4 : ((headB p.length ++ r ++ t).drop 4).take p.length = ((headB p.length ++ r).drop 4).take p.length := by
      have hs : 4 + p.length ≤ (headB p.length ++ r).length := by rw [hl]; have := fillN_ge p.length; unfold sizeN; omega
      rw [List.drop_append_of_le_length (by omega), List.take_append_of_le_length (by simp at hs ⊢; omega)]
    unfold firstL
    rw [hh]
    simp only
    rw [if_neg (by rw [List.length_append, hl]; omega), h4, ← hl, List.take_append_of_le_length (Nat.le_refl _), List.take_length, if_neg hne]

/-- Of a byte that should be cleared to c, what a mask leaves. -/
def tornB (m c : UInt8) : UInt8 := clears 255 m c

/-- Of bytes that should be programmed where nothing was, what a mask leaves. -/
def tornL (m l : List UInt8) : List UInt8 := l.mapIdx fun i c => tornB (m.getD i 0) c

theorem tornL_length (m l : List UInt8) : (tornL m l).length = l.length := by simp [tornL]

theorem tornL_get (m l : List UInt8) (i : Nat) : (tornL m l)[i]? = (l[i]?).map fun c => tornB (m.getD i 0) c := by simp [tornL]

theorem tornB_bits (m c : UInt8) (i : Nat) : (tornB m c).toBitVec.getLsbD i = (decide (i < 8) && !(m.toBitVec.getLsbD i && !c.toBitVec.getLsbD i)) := by
  unfold tornB clears
  simp only [UInt8.toBitVec_and, UInt8.toBitVec_not, BitVec.getLsbD_and, BitVec.getLsbD_not]
  have : (255 : UInt8).toBitVec.getLsbD i = decide (i < 8) := by
    rw [show (255 : UInt8).toBitVec = BitVec.allOnes 8 from rfl, BitVec.getLsbD_allOnes]
  rw [this]
  by_cases h : i < 8
  · simp [h]
  · simp [h]

/-- A byte and its inverse, both torn, are inverse only if neither was. -/
theorem torn_pair (m n a : UInt8) (h : tornB m a = ~~~tornB n (~~~a)) : tornB m a = a ∧ tornB n (~~~a) = ~~~a := by
  have hb : ∀ i, i < 8 → ((!(m.toBitVec.getLsbD i && !a.toBitVec.getLsbD i)) = !(!(n.toBitVec.getLsbD i && !(!a.toBitVec.getLsbD i)))) := by
    intro i hi
    have := congrArg (fun x : UInt8 => x.toBitVec.getLsbD i) h
    simp only [UInt8.toBitVec_not, BitVec.getLsbD_not, tornB_bits, hi, decide_true, Bool.true_and] at this
    exact this
  constructor
  · apply UInt8.eq_of_toBitVec_eq
    apply BitVec.eq_of_getLsbD_eq
    intro i hi
    have := hb i hi
    rw [tornB_bits]
    simp only [hi, decide_true, Bool.true_and]
    revert this
    cases m.toBitVec.getLsbD i <;> cases n.toBitVec.getLsbD i <;> cases a.toBitVec.getLsbD i <;> simp
  · apply UInt8.eq_of_toBitVec_eq
    apply BitVec.eq_of_getLsbD_eq
    intro i hi
    have := hb i hi
    rw [tornB_bits]
    simp only [UInt8.toBitVec_not, BitVec.getLsbD_not, hi, decide_true, Bool.true_and]
    revert this
    cases m.toBitVec.getLsbD i <;> cases n.toBitVec.getLsbD i <;> cases a.toBitVec.getLsbD i <;> simp

theorem torn_inverse (m n a : UInt8) (h : tornB m a = ~~~tornB n (~~~a)) : tornB m a = a := (torn_pair m n a h).1

theorem recB_last (q : List UInt8) (r : List UInt8) (h : recB q = r) (j : Nat) (hj : j < 4) : r[8 + fillN q.length + j]? = some 0 := by rw [← h]; exact rec_zero q j hj

/-- What the three tears leave at a place. -/
def tornBytes (k : Nat) (m p : List UInt8) : List UInt8 :=
  match k with
  | 0 => tornL m (headB p.length)
  | 1 => headB p.length ++ tornL m (bodyB p)
  | _ => headB p.length ++ (bodyB p ++ tornL m [0, 0, 0, 0])

/-- What stands there: nothing, or one thing. -/
theorem torn_items (k : Nat) (m p : List UInt8) (hp : p.length ≤ 4080) :
    ∃ xs : List (List UInt8 × R4), ∃ (pad : Nat), tornBytes k m p ++ List.replicate pad 255 = itemsL xs ++ List.replicate (if xs = [] then 4 else 0) 255 ∧ (∀ x ∈ xs, IsItem x) ∧ pad ≤ sizeN p.length ∧
      (xs = [] ∧ k = 0 ∨ (∃ y, xs = [(y, ⟨4, 3, []⟩)]) ∧ k = 0 ∨ (∃ y, xs = [(y, ⟨sizeN p.length, 2, []⟩)]) ∨ xs = [recItem p] ∧ 2 ≤ k) := by
  have hb := bodyB_length p
  have h0 := headB_length p.length
  have hsz : sizeN p.length = 12 + fillN p.length := rfl
  -- a head, whatever stands in the body, and a commit that is not there
  have whole : ∀ r : List UInt8, (headB p.length ++ r).length = sizeN p.length → (∃ j, j < 4 ∧ (headB p.length ++ r)[8 + fillN p.length + j]? ≠ some 0) → IsItem (headB p.length ++ r, ⟨sizeN p.length, 2, []⟩) := by
    intro r hl ⟨j, hj, hne⟩
    refine item_torn p hp r hl (fun e => ?_)
    have hql : (((headB p.length ++ r).drop 4).take p.length).length = p.length := by
      have := fillN_ge p.length
      rw [List.length_take, List.length_drop, hl]; omega
    have := recB_last _ _ e.symm j hj
    rw [hql] at this
    exact hne this
  match k with
  | 0 =>
    have e : tornL m (headB p.length) = [tornB (m.getD 0 0) (UInt8.ofNat (p.length / 256)), tornB (m.getD 1 0) (UInt8.ofNat p.length), tornB (m.getD 2 0) (~~~UInt8.ofNat (p.length / 256)), tornB (m.getD 3 0) (~~~UInt8.ofNat p.length)] := rfl
    cases hh : headLen (tornL m (headB p.length)) with
    | none =>
      by_cases hs : tornB (m.getD 0 0) (UInt8.ofNat (p.length / 256)) = 255 ∧ tornB (m.getD 1 0) (UInt8.ofNat p.length) = 255 ∧ tornB (m.getD 2 0) (~~~UInt8.ofNat (p.length / 256)) = 255 ∧ tornB (m.getD 3 0) (~~~UInt8.ofNat p.length) = 255
      · refine ⟨[], 0, ?_, fun x hx => by simp at hx, by omega, .inl ⟨rfl, rfl⟩⟩
        show tornL m (headB p.length) ++ _ = _
        rw [e, hs.1, hs.2.1, hs.2.2.1, hs.2.2.2]; rfl
      · rw [e] at hh
        refine ⟨[(tornL m (headB p.length), ⟨4, 3, []⟩)], 0, by simp [itemsL, tornBytes], fun x hx => ?_, by omega, .inr (.inl ⟨⟨_, rfl⟩, rfl⟩)⟩
        simp at hx; subst hx
        rw [e]
        exact item_garbage _ _ _ _ hh hs
    | some n =>
      have key : ∀ a b x y : UInt8, headLen [a, b, x, y] = some n → a = ~~~x ∧ b = ~~~y := by
        intro a b x y h
        simp only [headLen] at h
        by_cases q : a = ~~~x ∧ b = ~~~y ∧ a.toNat * 256 + b.toNat ≤ 4080
        · exact ⟨q.1, q.2.1⟩
        · rw [if_neg q] at h; cases h
      rw [e] at hh
      obtain ⟨k1, k2⟩ := key _ _ _ _ hh
      obtain ⟨a1, a2⟩ := torn_pair _ _ _ k1
      obtain ⟨b1, b2⟩ := torn_pair _ _ _ k2
      have eh : tornL m (headB p.length) = headB p.length := by rw [e, a1, a2, b1, b2]; rfl
      have hi := whole (List.replicate (fillN p.length + 8) 255) (by simp [h0, hsz]; omega) ⟨0, by decide, by
        rw [List.getElem?_append_right (by rw [h0]; omega), h0, List.getElem?_replicate, if_pos (by omega)]; simp⟩
      refine ⟨[(headB p.length ++ List.replicate (fillN p.length + 8) 255, ⟨sizeN p.length, 2, []⟩)], fillN p.length + 8, ?_, fun x hx => by simp at hx; subst hx; exact hi, by omega, .inr (.inr (.inl ⟨_, rfl⟩))⟩
      show tornL m (headB p.length) ++ _ = _
      rw [eh]; simp [itemsL]
  | 1 =>
    have hi := whole (tornL m (bodyB p) ++ List.replicate 4 255) (by simp [h0, hsz, tornL_length, hb]; omega) ⟨0, by decide, by
      rw [List.getElem?_append_right (by rw [h0]; omega), h0, List.getElem?_append_right (by rw [tornL_length, hb]; omega), tornL_length, hb, List.getElem?_replicate, if_pos (by omega)]; simp⟩
    refine ⟨[(headB p.length ++ (tornL m (bodyB p) ++ List.replicate 4 255), ⟨sizeN p.length, 2, []⟩)], 4, ?_, fun x hx => by simp at hx; subst hx; exact hi, by omega, .inr (.inr (.inl ⟨_, rfl⟩))⟩
    simp [itemsL, tornBytes]
  | k + 2 =>
    by_cases hz : tornL m [0, 0, 0, 0] = [0, 0, 0, 0]
    · refine ⟨[recItem p], 0, ?_, fun x hx => by simp at hx; subst hx; exact item_rec p hp, by omega, .inr (.inr (.inr ⟨rfl, by omega⟩))⟩
      simp [itemsL, tornBytes, hz, recItem, recB]
    · have hj : ∃ j, j < 4 ∧ (tornL m [0, 0, 0, 0])[j]? ≠ some 0 := by
        have e4 : tornL m [0, 0, 0, 0] = [tornB (m.getD 0 0) 0, tornB (m.getD 1 0) 0, tornB (m.getD 2 0) 0, tornB (m.getD 3 0) 0] := rfl
        rw [e4] at hz ⊢
        by_cases q0 : tornB (m.getD 0 0) 0 = 0
        · by_cases q1 : tornB (m.getD 1 0) 0 = 0
          · by_cases q2 : tornB (m.getD 2 0) 0 = 0
            · by_cases q3 : tornB (m.getD 3 0) 0 = 0
              · exact absurd (by rw [q0, q1, q2, q3]) hz
              · exact ⟨3, by decide, by simpa using q3⟩
            · exact ⟨2, by decide, by simpa using q2⟩
          · exact ⟨1, by decide, by simpa using q1⟩
        · exact ⟨0, by decide, by simpa using q0⟩
      obtain ⟨j, hj4, hjn⟩ := hj
      have hi := whole (bodyB p ++ tornL m [0, 0, 0, 0]) (by simp [h0, hsz, tornL_length, hb]; omega) ⟨j, hj4, by
        rw [List.getElem?_append_right (by rw [h0]; omega), h0, List.getElem?_append_right (by rw [hb]; omega), hb, show 8 + fillN p.length + j - 4 - (fillN p.length + 4) = j by omega]
        exact hjn⟩
      refine ⟨[(headB p.length ++ (bodyB p ++ tornL m [0, 0, 0, 0]), ⟨sizeN p.length, 2, []⟩)], 0, ?_, fun x hx => by simp at hx; subst hx; exact hi, by omega, .inr (.inr (.inl ⟨_, rfl⟩))⟩
      simp [itemsL, tornBytes]
end Go.Proofs.YtlnmbfddhdjioaaGreat
