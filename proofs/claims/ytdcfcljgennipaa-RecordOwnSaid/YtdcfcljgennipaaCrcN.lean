/-
  The CRC bit by bit: a division of bits, and bits that are changed. Plain mathematics.
-/
import Derived.Test.YtdcfcljgennipaaCrcM
namespace Go.Proofs.Ytdcfcljgennipaa

def bit1 (x : Bool) : BitVec 32 := if x then 1#32 else 0#32

def feed (s : BitVec 32) (m : List Bool) : BitVec 32 := m.foldl (fun s x => step1 (s ^^^ bit1 x)) s

theorem feed_cons (s : BitVec 32) (x : Bool) (m : List Bool) : feed s (x :: m) = feed (step1 (s ^^^ bit1 x)) m := rfl
theorem feed_append (s : BitVec 32) (a b : List Bool) : feed s (a ++ b) = feed (feed s a) b := List.foldl_append

def ofBits : List Bool → BitVec 32
  | [] => 0#32
  | x :: bs => (ofBits bs <<< 1) ^^^ bit1 x

theorem bit1_get (x : Bool) (i : Nat) : (bit1 x).getLsbD i = (x && decide (i = 0)) := by
  cases x
  · simp [bit1]
  · cases i with
    | zero => decide
    | succ n =>
      simp only [bit1, if_true, Bool.true_and]
      unfold BitVec.getLsbD
      rw [show (1#32).toNat = 1 from rfl, Nat.testBit_succ]
      simp

theorem ofBits_get (bs : List Bool) : ∀ i, i < 32 → (ofBits bs).getLsbD i = (bs[i]?).getD false := by
  induction bs with
  | nil => intro i _; simp [ofBits]
  | cons x bs ih =>
    intro i hi
    simp only [ofBits, BitVec.getLsbD_xor, BitVec.getLsbD_shiftLeft, bit1_get]
    cases i with
    | zero => simp
    | succ n => simp [ih n (by omega), hi]

theorem ofBits_lt (bs : List Bool) (h : bs.length ≤ 31) : (ofBits bs).toNat < 2 ^ 31 := by
  apply Nat.lt_pow_two_of_testBit
  intro i hi
  by_cases h32 : i < 32
  · have := ofBits_get bs i h32
    unfold BitVec.getLsbD at this
    rw [this]
    simp [List.getElem?_eq_none (by omega : bs.length ≤ i)]
  · exact Nat.testBit_lt_two_pow (Nat.lt_of_lt_of_le (ofBits bs).isLt (Nat.pow_le_pow_right (by decide) (by omega)))

theorem feed_bits (bs : List Bool) : ∀ s : BitVec 32, bs.length ≤ 32 → feed s bs = zb bs.length (s ^^^ ofBits bs) := by
  induction bs with
  | nil => intro s _; simp [feed, ofBits, zb]
  | cons x bs ih =>
    intro s h
    rw [feed_cons, ih _ (by simp at h; omega), List.length_cons]
    simp only [zb, ofBits]
    congr 1
    rw [show s ^^^ (ofBits bs <<< 1 ^^^ bit1 x) = (s ^^^ bit1 x) ^^^ (ofBits bs <<< 1) by
      ext i hi; simp; cases s[i] <;> cases (bit1 x)[i] <;> simp]
    rw [step1_xor (s ^^^ bit1 x), step1_shl _ (ofBits_lt bs (by simp at h; omega))]

def byteBits (c : UInt8) : List Bool := (List.range 8).map c.toNat.testBit

def bitsOf (l : List UInt8) : List Bool := l.flatMap byteBits

theorem bitsOf_cons (c : UInt8) (l : List UInt8) : bitsOf (c :: l) = byteBits c ++ bitsOf l := rfl
theorem byteBits_length (c : UInt8) : (byteBits c).length = 8 := by simp [byteBits]
theorem bitsOf_length (l : List UInt8) : (bitsOf l).length = 8 * l.length := by
  induction l with
  | nil => rfl
  | cons c l ih => rw [bitsOf_cons, List.length_append, ih, byteBits_length, List.length_cons]; omega

theorem byteBits_get (c : UInt8) (i : Nat) : ((byteBits c)[i]?).getD false = c.toNat.testBit i := by
  unfold byteBits
  by_cases h : i < 8
  · simp [List.getElem?_range h]
  · rw [List.getElem?_eq_none (by simp; omega)]
    simp only [Option.getD_none]
    exact (Nat.testBit_lt_two_pow (Nat.lt_of_lt_of_le c.toNat_lt (Nat.pow_le_pow_right (by decide : 0 < 2) (by omega : 8 ≤ i)))).symm

theorem ofBits_byte (c : UInt8) : ofBits (byteBits c) = c.toBitVec.setWidth 32 := by
  apply BitVec.eq_of_getLsbD_eq
  intro i hi
  rw [ofBits_get _ i hi, byteBits_get, BitVec.getLsbD_setWidth]
  simp only [hi, decide_true, Bool.true_and]
  rfl

theorem add1_feed (s : BitVec 32) (c : UInt8) : add1 s c = feed s (byteBits c) := by
  rw [feed_bits _ _ (by rw [byteBits_length]; decide), byteBits_length, ofBits_byte]; rfl

theorem addl_feed (l : List UInt8) : ∀ s : BitVec 32, addl s l = feed s (bitsOf l) := by
  induction l with
  | nil => intro s; rfl
  | cons c l ih => intro s; rw [addl_cons, bitsOf_cons, feed_append, ← add1_feed, ih]

/-- The first 32 bits, with those of s added. -/
def xorFront (s : BitVec 32) (L : List Bool) : List Bool := L.mapIdx fun i x => x ^^ s.getLsbD i

theorem xorFront_length (s : BitVec 32) (L : List Bool) : (xorFront s L).length = L.length := by simp [xorFront]

theorem xorFront_get (s : BitVec 32) (L : List Bool) (i : Nat) : (xorFront s L)[i]? = (L[i]?).map fun x => x ^^ s.getLsbD i := by simp [xorFront]

/-- What a division has left, i bits gone. -/
def left (m : List Bool) (i : Nat) : List Bool := List.replicate i false ++ xorFront (feed ones32 (m.take i)) (m.drop i ++ List.replicate 32 false)

theorem left_length (m : List Bool) (i : Nat) (h : i ≤ m.length) : (left m i).length = m.length + 32 := by
  simp [left, xorFront_length]; omega

theorem ones32_get (i : Nat) : ones32.getLsbD i = decide (i < 32) := by
  have : ones32 = BitVec.allOnes 32 := by decide
  rw [this, BitVec.getLsbD_allOnes]

theorem left_zero (m : List Bool) (j : Nat) : (left m 0)[j]? = ((m ++ List.replicate 32 false)[j]?).map fun x => x ^^ decide (j < 32) := by
  simp only [left, List.replicate_zero, List.nil_append, List.take_zero, List.drop_zero]
  rw [xorFront_get]
  rw [show feed ones32 [] = ones32 from rfl, ones32_get]

theorem left_get (m : List Bool) (i j : Nat) : (left m i)[j]? = if j < i then some false else ((m.drop i ++ List.replicate 32 false)[j - i]?).map fun x => x ^^ (feed ones32 (m.take i)).getLsbD (j - i) := by
  unfold left
  rw [List.getElem?_append]
  simp only [List.length_replicate, xorFront_get]
  by_cases h : j < i
  · simp [h]
  · simp [h]

theorem left_here (m : List Bool) (i : Nat) (h : i < m.length) : (left m i)[i]? = some (m[i] ^^ (feed ones32 (m.take i)).getLsbD 0) := by
  rw [left_get, if_neg (by omega), Nat.sub_self, List.getElem?_append_left (by simp; omega)]
  simp [h]

theorem feed_take (m : List Bool) (i : Nat) (h : i < m.length) : feed ones32 (m.take (i + 1)) = step1 (feed ones32 (m.take i) ^^^ bit1 m[i]) := by
  rw [List.take_succ_eq_append_getElem h, feed_append]; rfl

theorem step1_get (s : BitVec 32) (x : Bool) (j : Nat) : (step1 (s ^^^ bit1 x)).getLsbD j = (s.getLsbD (j + 1) ^^ (poly.getLsbD j && (x ^^ s.getLsbD 0))) := by
  unfold step1
  have h0 : (s ^^^ bit1 x).getLsbD 0 = (x ^^ s.getLsbD 0) := by rw [BitVec.getLsbD_xor, bit1_get]; cases x <;> cases s.getLsbD 0 <;> rfl
  rw [h0]
  have h1 : ∀ j, ((s ^^^ bit1 x) >>> 1).getLsbD j = s.getLsbD (j + 1) := by
    intro j
    rw [BitVec.getLsbD_ushiftRight, BitVec.getLsbD_xor, bit1_get, Nat.add_comm]
    simp
  cases (x ^^ s.getLsbD 0)
  · simp only [Bool.false_eq_true, if_false, h1]; simp
  · simp only [if_true, BitVec.getLsbD_xor, h1]; simp

/-- A step of the division: the bit goes; if it was one, so do those of the polynomial. -/
theorem left_step (m : List Bool) (i : Nat) (h : i < m.length) (j : Nat) :
    (left m (i + 1))[j]? = if j = i then some false else ((left m i)[j]?).map fun y => y ^^ (decide (i < j) && (poly.getLsbD (j - (i + 1)) && (m[i] ^^ (feed ones32 (m.take i)).getLsbD 0))) := by
  rw [left_get, left_get]
  by_cases hj : j < i
  · rw [if_pos (by omega), if_neg (by omega), if_pos hj]; simp; omega
  · by_cases he : j = i
    · rw [if_pos (by omega), if_pos he]
    · rw [if_neg (by omega), if_neg he, if_neg hj]
      rw [feed_take m i h]
      have e : m.drop i ++ List.replicate 32 false = m[i] :: (m.drop (i + 1) ++ List.replicate 32 false) := by
        rw [List.drop_eq_getElem_cons h, List.cons_append]
      rw [e, show j - i = (j - (i + 1)) + 1 by omega, List.getElem?_cons_succ, Option.map_map]
      congr 1
      funext y
      simp only [Function.comp_apply]
      rw [step1_get, show decide (i < j) = true by simp; omega]
      cases y <;> cases (feed ones32 (m.take i)).getLsbD (j - (i + 1) + 1) <;> simp

theorem left_end (m : List Bool) (j : Nat) (h : j < 32) : (left m m.length)[m.length + j]? = some ((feed ones32 m).getLsbD j) := by
  rw [left_get, if_neg (by omega), show m.length + j - m.length = j by omega, List.drop_length, List.nil_append, List.take_length]
  rw [List.getElem?_replicate, if_pos h]
  simp

/-- Bits that are changed. -/
theorem feed_xor : ∀ (a b : List Bool) (s t : BitVec 32), a.length = b.length → feed (s ^^^ t) (List.zipWith (fun x y => x ^^ y) a b) = feed s a ^^^ feed t b
  | [], [], s, t, _ => rfl
  | x :: a, y :: b, s, t, h => by
    rw [List.zipWith_cons_cons, feed_cons, feed_cons, feed_cons, ← feed_xor a b _ _ (by simpa using h), ← step1_xor]
    congr 2
    ext i hi
    have e : bit1 (x ^^ y) = bit1 x ^^^ bit1 y := by cases x <;> cases y <;> decide
    rw [e]
    simp
    cases s[i] <;> cases t[i] <;> cases (bit1 x)[i] <;> cases (bit1 y)[i] <;> rfl
  | [], _ :: _, _, _, h => by simp at h
  | _ :: _, [], _, _, h => by simp at h

theorem feed_noughts (n : Nat) : ∀ s : BitVec 32, feed s (List.replicate n false) = zb n s := by
  induction n with
  | zero => intro s; rfl
  | succ n ih => intro s; rw [List.replicate_succ, feed_cons, ih]; simp [bit1, zb]

theorem feed_burst (a r : Nat) (bs : List Bool) (h : bs.length = 32) (hn : ofBits bs ≠ 0#32) : feed 0#32 (List.replicate a false ++ (bs ++ List.replicate r false)) ≠ 0#32 := by
  rw [feed_append, feed_append, feed_noughts a, zb_zero, feed_noughts, feed_bits _ _ (by omega), BitVec.zero_xor]
  intro e
  exact hn (zb_inj _ (zb_inj _ e))

theorem crcOf_ne (a b : List UInt8) (e : List Bool) (he : bitsOf b = List.zipWith (fun x y => x ^^ y) (bitsOf a) e) (hel : e.length = 8 * a.length) (hn : feed 0#32 e ≠ 0#32) : crcOf b ≠ crcOf a := by
  intro h
  unfold crcOf at h
  have h2 := BitVec.not_inj.1 h
  rw [addl_feed, addl_feed, he] at h2
  have h3 : feed ones32 (List.zipWith (fun x y => x ^^ y) (bitsOf a) e) = feed ones32 (bitsOf a) ^^^ feed 0#32 e := by
    rw [← feed_xor _ _ _ _ (by rw [bitsOf_length, hel]), BitVec.xor_zero]
  rw [h3] at h2
  apply hn
  have h4 := congrArg (fun v => feed ones32 (bitsOf a) ^^^ v) h2
  simpa [← BitVec.xor_assoc] using h4
end Go.Proofs.Ytdcfcljgennipaa
