/-
  Bits of bytes that are changed, one by one. Plain mathematics.
-/
import Derived.Test.YtdcfcljgennipaaCrcN
namespace Go.Proofs.Ytdcfcljgennipaa

def mask8 (r : Nat) : UInt8 := UInt8.ofNat (2 ^ r)

theorem mask8_nat (r : Nat) (h : r < 8) : (mask8 r).toNat = 2 ^ r := by
  have : (2 : Nat) ^ r < 2 ^ 8 := Nat.pow_lt_pow_right (by decide) h
  exact UInt8.toNat_ofNat_of_lt' this

theorem bitsOf_get : ∀ (l : List UInt8) (j : Nat), (bitsOf l)[j]? = (l[j / 8]?).map fun c => c.toNat.testBit (j % 8)
  | [], j => by simp [bitsOf]
  | c :: l, j => by
    rw [bitsOf_cons]
    by_cases h : j < 8
    · rw [List.getElem?_append_left (by rw [byteBits_length]; exact h), Nat.div_eq_of_lt h, Nat.mod_eq_of_lt h]
      simp [byteBits, h]
    · rw [List.getElem?_append_right (by rw [byteBits_length]; omega), byteBits_length, bitsOf_get l (j - 8)]
      rw [show j / 8 = (j - 8) / 8 + 1 by omega, show (j - 8) % 8 = j % 8 by omega, List.getElem?_cons_succ]

theorem flip_get (l : List UInt8) (q r : Nat) (c : UInt8) (hr : r < 8) (hc : l[q]? = some c) (j : Nat) :
    (bitsOf (l.set q (c ^^^ mask8 r)))[j]? = ((bitsOf l)[j]?).map fun x => x ^^ decide (j = 8 * q + r) := by
  have hl : q < l.length := (List.getElem?_eq_some_iff.1 hc).1
  rw [bitsOf_get, bitsOf_get, List.getElem?_set]
  by_cases h : q = j / 8
  · rw [if_pos h, if_pos hl, ← h, hc, Option.map_some, Option.map_some, Option.map_some]
    congr 1
    rw [UInt8.toNat_xor, Nat.testBit_xor, mask8_nat r hr, Nat.testBit_two_pow]
    congr 1
    apply decide_eq_decide.2
    omega
  · rw [if_neg h]
    have hn : decide (j = 8 * q + r) = false := by apply decide_eq_false; omega
    rw [hn, Option.map_map]
    simp [Function.comp_def]

/-- The bytes, the first k bits of the change done from a bit on. -/
def burst (b : List UInt8) (bit : Nat) (ch : BitVec 32) : Nat → List UInt8
  | 0 => b
  | k + 1 => if ch.getLsbD k then (burst b bit ch k).set ((bit + k) / 8) ((burst b bit ch k).getD ((bit + k) / 8) 0 ^^^ mask8 ((bit + k) % 8)) else burst b bit ch k

theorem burst_length (b : List UInt8) (bit : Nat) (ch : BitVec 32) (k : Nat) : (burst b bit ch k).length = b.length := by
  induction k with
  | zero => rfl
  | succ k ih => simp only [burst]; split <;> simp [ih]

theorem burst_get (b : List UInt8) (bit : Nat) (ch : BitVec 32) (k : Nat) (h : bit + k ≤ 8 * b.length) (j : Nat) :
    (bitsOf (burst b bit ch k))[j]? = ((bitsOf b)[j]?).map fun x => x ^^ (decide (bit ≤ j ∧ j < bit + k) && ch.getLsbD (j - bit)) := by
  induction k with
  | zero =>
    simp only [burst]
    have : decide (bit ≤ j ∧ j < bit + 0) = false := by apply decide_eq_false; omega
    rw [this]; simp
  | succ k ih =>
    have ih := ih (by omega)
    simp only [burst]
    have hq : (bit + k) / 8 < (burst b bit ch k).length := by rw [burst_length]; omega
    have e8 : 8 * ((bit + k) / 8) + (bit + k) % 8 = bit + k := by omega
    cases hc : ch.getLsbD k
    · simp only [Bool.false_eq_true, if_false]
      rw [ih]
      congr 1
      funext x
      congr 1
      by_cases e : j = bit + k
      · rw [show j - bit = k by omega, hc]; simp
      · congr 1; apply decide_eq_decide.2; omega
    · simp only [if_true]
      rw [flip_get _ _ _ _ (Nat.mod_lt _ (by decide)) (by rw [List.getD_eq_getElem?_getD, List.getElem?_eq_getElem hq]; rfl), ih, Option.map_map, e8]
      congr 1
      funext x
      simp only [Function.comp_apply]
      by_cases e : j = bit + k
      · have h1 : decide (bit ≤ j ∧ j < bit + k) = false := by apply decide_eq_false; omega
        have h2 : decide (bit ≤ j ∧ j < bit + (k + 1)) = true := by apply decide_eq_true; omega
        rw [h1, h2, show j - bit = k by omega, hc, e]
        simp
      · have h1 : decide (j = bit + k) = false := decide_eq_false e
        rw [h1, Bool.xor_false]
        congr 2; apply decide_eq_decide.2; omega

def chBits (ch : BitVec 32) : List Bool := (List.range 32).map ch.getLsbD

theorem chBits_of (ch : BitVec 32) : ofBits (chBits ch) = ch := by
  apply BitVec.eq_of_getLsbD_eq
  intro i hi
  rw [ofBits_get _ i hi]
  simp [chBits, hi]

theorem burst_crc (b : List UInt8) (bit : Nat) (ch : BitVec 32) (h : bit + 32 ≤ 8 * b.length) (hc : ch ≠ 0#32) : crcOf (burst b bit ch 32) ≠ crcOf b := by
  have hlc : (chBits ch).length = 32 := by simp [chBits]
  refine crcOf_ne b _ (List.replicate bit false ++ (chBits ch ++ List.replicate (8 * b.length - bit - 32) false)) ?_ (by simp [hlc]; omega) (feed_burst _ _ _ hlc (by rw [chBits_of]; exact hc))
  refine List.ext_getElem? fun j => ?_
  rw [burst_get b bit ch 32 (by omega) j, List.getElem?_zipWith]
  by_cases hj : j < 8 * b.length
  · have e1 : (bitsOf b)[j]? = some ((bitsOf b)[j]'(by rw [bitsOf_length]; exact hj)) := List.getElem?_eq_getElem _
    rw [e1]
    by_cases c1 : j < bit
    · rw [List.getElem?_append_left (by simpa using c1), List.getElem?_replicate, if_pos c1]
      have : decide (bit ≤ j ∧ j < bit + 32) = false := by apply decide_eq_false; omega
      rw [this]
      simp
    · rw [List.getElem?_append_right (by simp; omega), List.length_replicate]
      by_cases c2 : j < bit + 32
      · rw [List.getElem?_append_left (by rw [hlc]; omega)]
        have : decide (bit ≤ j ∧ j < bit + 32) = true := by apply decide_eq_true; omega
        rw [this]
        have e2 : (chBits ch)[j - bit]? = some (ch.getLsbD (j - bit)) := by unfold chBits; rw [List.getElem?_map, List.getElem?_range (by omega)]; rfl
        rw [e2]
        simp
      · rw [List.getElem?_append_right (by rw [hlc]; omega), hlc, List.getElem?_replicate, if_pos (by omega)]
        have : decide (bit ≤ j ∧ j < bit + 32) = false := by apply decide_eq_false; omega
        rw [this]
        simp
  · rw [List.getElem?_eq_none (by rw [bitsOf_length]; omega)]
    simp
end Go.Proofs.Ytdcfcljgennipaa
