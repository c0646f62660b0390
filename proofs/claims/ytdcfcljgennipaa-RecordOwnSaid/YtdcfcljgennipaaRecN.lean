/-
  Records with a byte changed, and records that stand at the begin of bytes: plain mathematics.
-/
import Derived.Test.YtdcfcljgennipaaRecM
namespace Go.Proofs.Ytdcfcljgennipaa

theorem byte_ne (c d : UInt8) (h : c ≠ d) : c.toBitVec.setWidth 32 ^^^ d.toBitVec.setWidth 32 ≠ 0#32 := by
  intro e
  apply h
  have e2 : c.toBitVec.setWidth 32 = d.toBitVec.setWidth 32 := BitVec.xor_eq_zero_iff.1 e
  apply UInt8.eq_of_toBitVec_eq
  apply BitVec.eq_of_toNat_eq
  have := congrArg BitVec.toNat e2
  simp only [BitVec.toNat_setWidth] at this
  have h1 := c.toBitVec.isLt
  have h2 := d.toBitVec.isLt
  omega

/-- One byte changed changes the CRC. -/
theorem crc_byte (l1 l2 : List UInt8) (c d : UInt8) (h : c ≠ d) : crcOf (l1 ++ c :: l2) ≠ crcOf (l1 ++ d :: l2) := by
  intro e
  unfold crcOf at e
  have e1 : addl ones32 (l1 ++ c :: l2) = addl ones32 (l1 ++ d :: l2) := by
    have := congrArg (fun x => ~~~ x) e
    simpa using this
  rw [addl_append, addl_append, addl_cons, addl_cons] at e1
  have hx : add1 (addl ones32 l1) c = add1 (addl ones32 l1) d ^^^ zb 8 (c.toBitVec.setWidth 32 ^^^ d.toBitVec.setWidth 32) := by
    unfold add1
    rw [← zb_xor]
    congr 1
    rw [BitVec.xor_assoc]
    congr 1
    rw [BitVec.xor_comm (d.toBitVec.setWidth 32), BitVec.xor_assoc, BitVec.xor_self, BitVec.xor_zero]
  rw [hx, addl_xor] at e1
  have h0 : zb (8 * l2.length) (zb 8 (c.toBitVec.setWidth 32 ^^^ d.toBitVec.setWidth 32)) = 0#32 := by
    have := congrArg (fun x => addl (add1 (addl ones32 l1) d) l2 ^^^ x) e1
    simp only [← BitVec.xor_assoc, BitVec.xor_self, BitVec.zero_xor] at this
    exact this
  exact byte_ne c d h (zb_inj 8 (zb_inj _ h0))

theorem crc_set (l : List UInt8) (i : Nat) (c d : UInt8) (hd : l[i]? = some d) (h : c ≠ d) : crcOf (l.set i c) ≠ crcOf l := by
  have hi := (List.getElem?_eq_some_iff.1 hd).1
  have e1 : l = l.take i ++ d :: l.drop (i + 1) := by
    conv => lhs; rw [← List.take_append_drop i l, List.drop_eq_getElem_cons hi, (List.getElem?_eq_some_iff.1 hd).2]
  have e2 : l.set i c = l.take i ++ c :: l.drop (i + 1) := by
    rw [List.set_eq_take_append_cons_drop, if_pos hi]
  rw [e2]
  conv => rhs; rw [e1]
  exact crc_byte _ _ _ _ h

theorem ofNat_toNat (n : Nat) : (UInt8.ofNat n).toNat = n % 256 := by simp

theorem head_number (n : Nat) (h : n ≤ 4080) : (UInt8.ofNat (n / 256)).toNat * 256 + (UInt8.ofNat n).toNat = n := by
  rw [ofNat_toNat, ofNat_toNat]; omega

theorem headLen_rec (p r : List UInt8) (hp : p.length ≤ 4080) : headLen (headB p.length ++ r) = some p.length := by
  simp only [headB, List.cons_append, List.nil_append, headLen]
  rw [if_pos ⟨by simp, by simp, by rw [head_number _ hp]; exact hp⟩, head_number _ hp]

theorem recB_take (p r : List UInt8) : (recB p ++ r).take (sizeN p.length) = recB p := by
  rw [List.take_append_of_le_length (by rw [recB_length]; exact Nat.le_refl _), List.take_of_length_le (by rw [recB_length]; exact Nat.le_refl _)]

theorem recB_payload (p r : List UInt8) : ((recB p ++ r).drop 4).take p.length = p := by
  unfold recB bodyB padB
  simp only [List.append_assoc]
  rw [List.drop_append_of_le_length (by rw [headB_length]; exact Nat.le_refl _), List.drop_of_length_le (by rw [headB_length]; exact Nat.le_refl _), List.nil_append]
  rw [List.take_append_of_le_length (Nat.le_refl _), List.take_length]

/-- A record that stands at the begin of bytes is one. -/
theorem firstL_rec (p r : List UInt8) (hp : p.length ≤ 4080) : firstL (recB p ++ r) = ⟨sizeN p.length, 1, p⟩ := by
  have h : headLen (recB p ++ r) = some p.length := by
    unfold recB
    rw [List.append_assoc]
    exact headLen_rec p _ hp
  unfold firstL
  rw [h]
  simp only
  rw [if_neg (by rw [List.length_append, recB_length]; omega), recB_payload, recB_take, if_pos rfl]

theorem be4_inj (x y : BitVec 32) (h : be4 x = be4 y) : x = y := by
  have hb : ∀ m n : Nat, UInt8.ofNat m = UInt8.ofNat n → m % 256 = n % 256 := fun m n e => by
    have := congrArg UInt8.toNat e
    rwa [ofNat_toNat, ofNat_toNat] at this
  unfold be4 at h
  simp only [List.cons.injEq, and_true] at h
  obtain ⟨h1, h2, h3, h4⟩ := h
  have h1 := hb _ _ h1
  have h2 := hb _ _ h2
  have h3 := hb _ _ h3
  have h4 := hb _ _ h4
  apply BitVec.eq_of_toNat_eq
  have hx := x.isLt
  have hy := y.isLt
  omega

theorem recB_head (p : List UInt8) : (recB p).take (4 + fillN p.length) = headB p.length ++ padB p := by
  have e : recB p = (headB p.length ++ padB p) ++ (be4 (crcOf (headB p.length ++ padB p)) ++ [0, 0, 0, 0]) := by
    unfold recB bodyB; simp only [List.append_assoc]
  rw [e, List.take_append_of_le_length (by simp [headB_length, padB_length]), List.take_of_length_le (by simp [headB_length, padB_length])]

theorem recB_tail (p : List UInt8) : (recB p).drop (4 + fillN p.length) = be4 (crcOf (headB p.length ++ padB p)) ++ [0, 0, 0, 0] := by
  have e : recB p = (headB p.length ++ padB p) ++ (be4 (crcOf (headB p.length ++ padB p)) ++ [0, 0, 0, 0]) := by
    unfold recB bodyB; simp only [List.append_assoc]
  rw [e, List.drop_append_of_le_length (by simp [headB_length, padB_length]), List.drop_of_length_le (by simp [headB_length, padB_length]), List.nil_append]

theorem not_self (a b : UInt8) (h : a = ~~~b) : b = ~~~a := by rw [h]; simp

/-- A record of which a byte is another one is none. -/
theorem rec_changed (p : List UInt8) (hp : p.length ≤ 4080) (i : Nat) (c d : UInt8) (hd : (recB p)[i]? = some d) (hc : c ≠ d) : (firstL ((recB p).set i c)).kind ≠ 1 := by
  intro hk
  have hi := (List.getElem?_eq_some_iff.1 hd).1
  rw [recB_length] at hi
  have hlen : ((recB p).set i c).length = sizeN p.length := by simp [recB_length]
  unfold firstL at hk
  cases hh : headLen ((recB p).set i c) with
  | none => rw [hh] at hk; simp at hk
  | some n =>
    rw [hh] at hk
    simp only at hk
    by_cases hs : ((recB p).set i c).length < sizeN n
    · rw [if_pos hs] at hk; simp at hk
    rw [if_neg hs] at hk
    by_cases he : ((recB p).set i c).take (sizeN n) = recB ((((recB p).set i c).drop 4).take n)
    case neg => rw [if_neg he] at hk; simp at hk
    have hrec : recB p = headB p.length ++ (bodyB p ++ [0, 0, 0, 0]) := rfl
    by_cases h4 : i < 4
    · -- the head
      have e : (recB p).set i c = (headB p.length).set i c ++ (bodyB p ++ [0, 0, 0, 0]) := by
        rw [hrec, List.set_append_left _ _ (by rw [headB_length]; exact h4)]
      rw [e] at hh
      rw [hrec, List.getElem?_append_left (by rw [headB_length]; exact h4)] at hd
      have key : ∀ a b x y : UInt8, ∀ r : List UInt8, headLen (a :: b :: x :: y :: r) = some n → a = ~~~x ∧ b = ~~~y := by
        intro a b x y r h
        simp only [headLen] at h
        by_cases q : a = ~~~x ∧ b = ~~~y ∧ a.toNat * 256 + b.toNat ≤ 4080
        · exact ⟨q.1, q.2.1⟩
        · rw [if_neg q] at h; cases h
      match i, h4 with
      | 0, _ =>
        have := key _ _ _ _ _ hh
        simp [headB] at hd
        exact hc (by rw [this.1, ← hd]; simp)
      | 1, _ =>
        have := key _ _ _ _ _ hh
        simp [headB] at hd
        exact hc (by rw [this.2, ← hd]; simp)
      | 2, _ =>
        have := key _ _ _ _ _ hh
        simp [headB] at hd
        exact hc (by rw [not_self _ _ this.1, ← hd])
      | 3, _ =>
        have := key _ _ _ _ _ hh
        simp [headB] at hd
        exact hc (by rw [not_self _ _ this.2, ← hd])
    · have e : (recB p).set i c = headB p.length ++ (bodyB p ++ [0, 0, 0, 0]).set (i - 4) c := by
        rw [hrec, List.set_append_right _ _ (by rw [headB_length]; omega), headB_length]
      have hn : n = p.length := by
        rw [e, headLen_rec p _ hp] at hh
        cases hh; rfl
      subst hn
      rw [List.take_of_length_le (by rw [hlen]; exact Nat.le_refl _)] at he
      obtain ⟨q, hq⟩ : ∃ q, q = (((recB p).set i c).drop 4).take p.length := ⟨_, rfl⟩
      rw [← hq] at he
      have hql : q.length = p.length := by
        rw [hq]; simp [recB_length, sizeN]
        have := fillN_ge p.length; omega
      have hL := recB_head q
      have hT := recB_tail q
      rw [hql, ← he] at hL hT
      by_cases hiL : i < 4 + fillN p.length
      · -- ahead of the sum: the sums are alike
        have hD : ((recB p).set i c).drop (4 + fillN p.length) = (recB p).drop (4 + fillN p.length) := by
          rw [List.drop_set_of_lt hiL]
        rw [hD, recB_tail p] at hT
        have hcrc := be4_inj _ _ (List.append_inj_left hT rfl)
        rw [← hL, List.take_set, recB_head p] at hcrc
        refine crc_set (headB p.length ++ padB p) i c d ?_ hc hcrc.symm
        rw [← recB_head p, List.getElem?_take, if_pos hiL, hd]
      · -- behind it: all is what the payload says
        have hX : ((recB p).set i c).take (4 + fillN p.length) = (recB p).take (4 + fillN p.length) := by
          rw [List.take_set_of_le (by omega)]
        rw [hX, recB_head p] at hL
        have : (recB p).set i c = recB p := by
          rw [← List.take_append_drop (4 + fillN p.length) ((recB p).set i c), hX, hT, ← hL, ← recB_tail p, List.take_append_drop]
        have h2 := congrArg (fun l => l[i]?) this
        simp only [List.getElem?_set_self (show i < (recB p).length by rw [recB_length]; exact hi), hd] at h2
        cases h2
        exact hc rfl
end Go.Proofs.Ytdcfcljgennipaa
