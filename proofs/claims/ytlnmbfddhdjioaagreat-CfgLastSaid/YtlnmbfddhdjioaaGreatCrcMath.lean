/-
  The CRC over bits: plain mathematics. No function of the program is named here.
  The CRC bit by bit: a division of bits, and bits that are changed. Plain mathematics.
  Bits of bytes that are changed, one by one. Plain mathematics.
  The document's CRC: a step of its division. Plain mathematics.
-/

namespace Go.Proofs.YtlnmbfddhdjioaaGreat

def poly : BitVec 32 := 0xedb88320#32

/-- One zero bit more. -/
def step1 (s : BitVec 32) : BitVec 32 := if s.getLsbD 0 then (s >>> 1) ^^^ poly else s >>> 1

theorem step1_xor (a b : BitVec 32) : step1 (a ^^^ b) = step1 a ^^^ step1 b := by
  unfold step1
  rw [BitVec.getLsbD_xor, BitVec.ushiftRight_xor_distrib]
  cases a.getLsbD 0 <;> cases b.getLsbD 0 <;> simp
  · rw [BitVec.xor_assoc]
  · ext i hi; simp; cases (a.getLsbD (1 + i)) <;> cases (b.getLsbD (1 + i)) <;> cases poly[i] <;> rfl
  · ext i hi; simp; cases (a.getLsbD (1 + i)) <;> cases (b.getLsbD (1 + i)) <;> cases poly[i] <;> rfl

theorem step1_zero : step1 0#32 = 0#32 := by decide

def zb : Nat → BitVec 32 → BitVec 32
  | 0, s => s
  | n + 1, s => zb n (step1 s)

theorem zb_xor (n : Nat) : ∀ a b : BitVec 32, zb n (a ^^^ b) = zb n a ^^^ zb n b := by
  induction n with
  | zero => intro a b; rfl
  | succ n ih => intro a b; simp only [zb]; rw [step1_xor, ih]

theorem zb_zero (n : Nat) : zb n 0#32 = 0#32 := by
  induction n with
  | zero => rfl
  | succ n ih => simp only [zb]; rw [step1_zero, ih]

theorem zb_add (m n : Nat) : ∀ s : BitVec 32, zb (m + n) s = zb n (zb m s) := by
  induction m with
  | zero => intro s; simp [zb]
  | succ m ih => intro s; rw [Nat.succ_add]; simp only [zb]; exact ih _

theorem zb_succ (n : Nat) (s : BitVec 32) : zb (n + 1) s = step1 (zb n s) := by rw [zb_add]; rfl

/-- A bit ahead of noughts. -/
theorem step1_shl (y : BitVec 32) (h : y.toNat < 2 ^ 31) : step1 (y <<< 1) = y := by
  unfold step1
  have h0 : (y <<< 1).getLsbD 0 = false := by simp
  rw [h0]
  simp only [Bool.false_eq_true, if_false]
  apply BitVec.eq_of_toNat_eq
  simp only [BitVec.toNat_ushiftRight, BitVec.toNat_shiftLeft]
  rw [Nat.shiftLeft_eq, Nat.shiftRight_eq_div_pow]
  omega

theorem step1_inj {a : BitVec 32} (h : step1 a = 0#32) : a = 0#32 := by
  unfold step1 at h
  have hp : poly.getLsbD 31 = true := by decide
  cases h0 : a.getLsbD 0
  · rw [h0] at h
    simp only [Bool.false_eq_true, if_false] at h
    apply BitVec.eq_of_getLsbD_eq
    intro i hi
    cases i with
    | zero => simpa using h0
    | succ j =>
      have := congrArg (fun v : BitVec 32 => v.getLsbD j) h
      simp at this
      rw [Nat.add_comm] at this
      simpa using this
  · rw [h0] at h
    simp only [if_true] at h
    exfalso
    have := congrArg (fun v : BitVec 32 => v.getLsbD 31) h
    simp only [BitVec.getLsbD_xor, hp, BitVec.getLsbD_ushiftRight, BitVec.getLsbD_zero] at this
    rw [BitVec.getLsbD_of_ge _ _ (by decide)] at this
    cases this

theorem zb_inj (n : Nat) : ∀ {a : BitVec 32}, zb n a = 0#32 → a = 0#32 := by
  induction n with
  | zero => intro a h; exact h
  | succ n ih => intro a h; exact step1_inj (ih h)

/-- Bytes. -/
def add1 (s : BitVec 32) (c : UInt8) : BitVec 32 := zb 8 (s ^^^ c.toBitVec.setWidth 32)

def addl (s : BitVec 32) (l : List UInt8) : BitVec 32 := l.foldl add1 s

theorem addl_nil (s : BitVec 32) : addl s [] = s := rfl
theorem addl_cons (s : BitVec 32) (c : UInt8) (l : List UInt8) : addl s (c :: l) = addl (add1 s c) l := rfl
theorem addl_append (s : BitVec 32) (a b : List UInt8) : addl s (a ++ b) = addl (addl s a) b := List.foldl_append

def ones32 : BitVec 32 := 0xffffffff#32

def crcOf (l : List UInt8) : BitVec 32 := ~~~ (addl ones32 l)

theorem not_xor_ones (s : BitVec 32) : ~~~ s = s ^^^ ones32 := by
  have : ones32 = BitVec.allOnes 32 := by decide
  rw [this, BitVec.xor_allOnes]

/-- What is added to a state goes through by itself. -/
theorem addl_xor (l : List UInt8) : ∀ s d : BitVec 32, addl (s ^^^ d) l = addl s l ^^^ zb (8 * l.length) d := by
  induction l with
  | nil => intro s d; rfl
  | cons c l ih =>
    intro s d
    rw [addl_cons, addl_cons]
    have h : add1 (s ^^^ d) c = add1 s c ^^^ zb 8 d := by
      unfold add1
      rw [← zb_xor]
      congr 1
      ext i hi; simp; cases s[i] <;> cases d[i] <;> cases (c.toBitVec.getLsbD i) <;> rfl
    rw [h, ih, List.length_cons, show 8 * (l.length + 1) = 8 + 8 * l.length by omega, zb_add]

theorem crcOf_append (a b : List UInt8) : crcOf (a ++ b) = zb (8 * b.length) (crcOf a) ^^^ crcOf b := by
  unfold crcOf
  rw [addl_append]
  have h : addl ones32 a = ones32 ^^^ ~~~ (addl ones32 a) := by
    rw [not_xor_ones]
    ext i hi; simp; cases ones32[i] <;> cases (addl ones32 a)[i] <;> rfl
  rw [h, addl_xor]
  rw [not_xor_ones, not_xor_ones (addl ones32 b)]
  rw [← h]
  ext i hi; simp; cases ones32[i] <;> cases (addl ones32 b)[i] <;> cases (zb (8 * b.length) (~~~ (addl ones32 a)))[i] <;> rfl

def xor3 (a b c : UInt8) : UInt8 := a ^^^ b ^^^ c

theorem add1_xor3 (s t u : BitVec 32) (a b c : UInt8) : add1 (s ^^^ t ^^^ u) (xor3 a b c) = add1 s a ^^^ add1 t b ^^^ add1 u c := by
  unfold add1 xor3
  rw [← zb_xor, ← zb_xor]
  congr 1
  ext i hi
  simp
  cases s[i] <;> cases t[i] <;> cases u[i] <;> cases (a.toBitVec.getLsbD i) <;> cases (b.toBitVec.getLsbD i) <;> cases (c.toBitVec.getLsbD i) <;> rfl

def odds : List UInt8 → List UInt8 → List UInt8 → List UInt8
  | a :: as, b :: bs, c :: cs => xor3 a b c :: odds as bs cs
  | _, _, _ => []

theorem addl_odds : ∀ (a b c : List UInt8) (s t u : BitVec 32), a.length = b.length → b.length = c.length →
    addl (s ^^^ t ^^^ u) (odds a b c) = addl s a ^^^ addl t b ^^^ addl u c
  | [], [], [], s, t, u, _, _ => rfl
  | a :: as, b :: bs, c :: cs, s, t, u, h1, h2 => by
    simp only [odds, addl_cons]
    rw [add1_xor3]
    exact addl_odds as bs cs _ _ _ (by simpa using h1) (by simpa using h2)
  | [], [], _ :: _, _, _, _, _, h => by simp at h
  | [], _ :: _, _, _, _, _, h, _ => by simp at h
  | _ :: _, [], _, _, _, _, h, _ => by simp at h
  | _ :: _, _ :: _, [], _, _, _, _, h => by simp at h

theorem crcOf_odds (a b c : List UInt8) (h1 : a.length = b.length) (h2 : b.length = c.length) : crcOf (odds a b c) = crcOf a ^^^ crcOf b ^^^ crcOf c := by
  unfold crcOf
  have h : ones32 = ones32 ^^^ ones32 ^^^ ones32 := by decide
  rw [not_xor_ones, not_xor_ones, not_xor_ones, not_xor_ones]
  rw [show addl ones32 (odds a b c) = addl (ones32 ^^^ ones32 ^^^ ones32) (odds a b c) by rw [← h]]
  rw [addl_odds a b c _ _ _ h1 h2]
  ext i hi; simp; cases ones32[i] <;> cases (addl ones32 a)[i] <;> cases (addl ones32 b)[i] <;> cases (addl ones32 c)[i] <;> rfl

/-- The table: four bits at a time. -/
theorem zb4 (s : BitVec 32) : zb 4 s = (s >>> 4) ^^^ zb 4 (s &&& 15#32) := by
  have h : s = ((s >>> 4) <<< 4) ^^^ (s &&& 15#32) := by
    apply BitVec.eq_of_getLsbD_eq
    intro i hi
    simp only [BitVec.getLsbD_xor, BitVec.getLsbD_shiftLeft, BitVec.getLsbD_ushiftRight, BitVec.getLsbD_and]
    by_cases h4 : i < 4
    · have : (15#32).getLsbD i = true := by
        match i, h4 with
        | 0, _ => decide
        | 1, _ => decide
        | 2, _ => decide
        | 3, _ => decide
      simp [h4, this]
    · have : (15#32).getLsbD i = false := by
        unfold BitVec.getLsbD
        exact Nat.testBit_lt_two_pow (Nat.lt_of_lt_of_le (by decide : (15#32).toNat < 2 ^ 4) (Nat.pow_le_pow_right (by decide) (by omega)))
      rw [this]
      simp only [h4, hi, decide_true, decide_false, Bool.not_false, Bool.and_true, Bool.true_and, Bool.and_false, Bool.xor_false]
      congr 1; omega
  have h2 : ∀ y : BitVec 32, y.toNat < 2 ^ 28 → zb 4 (y <<< 4) = y := by
    intro y hy
    have e : y <<< 4 = (((y <<< 1) <<< 1) <<< 1) <<< 1 := by simp [← BitVec.shiftLeft_add]
    rw [e]
    simp only [zb]
    rw [step1_shl, step1_shl, step1_shl, step1_shl]
    · omega
    · rw [BitVec.toNat_shiftLeft, Nat.shiftLeft_eq]; omega
    · rw [BitVec.toNat_shiftLeft, BitVec.toNat_shiftLeft, Nat.shiftLeft_eq, Nat.shiftLeft_eq]; omega
    · rw [BitVec.toNat_shiftLeft, BitVec.toNat_shiftLeft, BitVec.toNat_shiftLeft, Nat.shiftLeft_eq, Nat.shiftLeft_eq, Nat.shiftLeft_eq]; omega
  conv => lhs; rw [h]
  rw [zb_xor, h2]
  rw [BitVec.toNat_ushiftRight, Nat.shiftRight_eq_div_pow]
  have := s.isLt
  omega
end Go.Proofs.YtlnmbfddhdjioaaGreat

namespace Go.Proofs.YtlnmbfddhdjioaaGreat

def bit1 (x : Bool) : BitVec 32 := if x then 1#32 else 0#32

def feed (s : BitVec 32) (m : List Bool) : BitVec 32 := m.foldl (fun s x => step1 (s ^^^ bit1 x)) s

theorem feed_cons (s : BitVec 32) (x : Bool) (m : List Bool) : feed s (x :: m) = feed (step1 (s ^^^ bit1 x)) m := rfl
theorem feed_append (s : BitVec 32) (a b : List Bool) : feed s (a ++ b) = feed (feed s a) b := List.foldl_append

def ofBits : List Bool → BitVec 32
  | [] => 0#32
  | x :: bs => (ofBits bs <<< 1) ^^^ bit1 x

theorem bit1_get (x : Bool) (i : Nat) : (bit1 x).getLsbD i = (x && decide (i = 0)) := by
  cases x
  · simp [bit1]
  · cases i with
    | zero => decide
    | succ n =>
      simp only [bit1, if_true, Bool.true_and]
      unfold BitVec.getLsbD
      rw [show (1#32).toNat = 1 from rfl, Nat.testBit_succ]
      simp

theorem ofBits_get (bs : List Bool) : ∀ i, i < 32 → (ofBits bs).getLsbD i = (bs[i]?).getD false := by
  induction bs with
  | nil => intro i _; simp [ofBits]
  | cons x bs ih =>
    intro i hi
    simp only [ofBits, BitVec.getLsbD_xor, BitVec.getLsbD_shiftLeft, bit1_get]
    cases i with
    | zero => simp
    | succ n => simp [ih n (by omega), hi]

theorem ofBits_lt (bs : List Bool) (h : bs.length ≤ 31) : (ofBits bs).toNat < 2 ^ 31 := by
  apply Nat.lt_pow_two_of_testBit
  intro i hi
  by_cases h32 : i < 32
  · have := ofBits_get bs i h32
    unfold BitVec.getLsbD at this
    rw [this]
    simp [List.getElem?_eq_none (by omega : bs.length ≤ i)]
  · exact Nat.testBit_lt_two_pow (Nat.lt_of_lt_of_le (ofBits bs).isLt (Nat.pow_le_pow_right (by decide) (by omega)))

theorem feed_bits (bs : List Bool) : ∀ s : BitVec 32, bs.length ≤ 32 → feed s bs = zb bs.length (s ^^^ ofBits bs) := by
  induction bs with
  | nil => intro s _; simp [feed, ofBits, zb]
  | cons x bs ih =>
    intro s h
    rw [feed_cons, ih _ (by simp at h; omega), List.length_cons]
    simp only [zb, ofBits]
    congr 1
    rw [show s ^^^ (ofBits bs <<< 1 ^^^ bit1 x) = (s ^^^ bit1 x) ^^^ (ofBits bs <<< 1) by
      ext i hi; simp; cases s[i] <;> cases (bit1 x)[i] <;> simp]
    rw [step1_xor (s ^^^ bit1 x), step1_shl _ (ofBits_lt bs (by simp at h; omega))]

def byteBits (c : UInt8) : List Bool := (List.range 8).map c.toNat.testBit

def bitsOf (l : List UInt8) : List Bool := l.flatMap byteBits

theorem bitsOf_cons (c : UInt8) (l : List UInt8) : bitsOf (c :: l) = byteBits c ++ bitsOf l := rfl
theorem byteBits_length (c : UInt8) : (byteBits c).length = 8 := by simp [byteBits]
theorem bitsOf_length (l : List UInt8) : (bitsOf l).length = 8 * l.length := by
  induction l with
  | nil => rfl
  | cons c l ih => rw [bitsOf_cons, List.length_append, ih, byteBits_length, List.length_cons]; omega

theorem byteBits_get (c : UInt8) (i : Nat) : ((byteBits c)[i]?).getD false = c.toNat.testBit i := by
  unfold byteBits
  by_cases h : i < 8
  · simp [List.getElem?_range h]
  · rw [List.getElem?_eq_none (by simp; omega)]
    simp only [Option.getD_none]
    exact (Nat.testBit_lt_two_pow (Nat.lt_of_lt_of_le c.toNat_lt (Nat.pow_le_pow_right (by decide : 0 < 2) (by omega : 8 ≤ i)))).symm

theorem ofBits_byte (c : UInt8) : ofBits (byteBits c) = c.toBitVec.setWidth 32 := by
  apply BitVec.eq_of_getLsbD_eq
  intro i hi
  rw [ofBits_get _ i hi, byteBits_get, BitVec.getLsbD_setWidth]
  simp only [hi, decide_true, Bool.true_and]
  rfl

theorem add1_feed (s : BitVec 32) (c : UInt8) : add1 s c = feed s (byteBits c) := by
  rw [feed_bits _ _ (by rw [byteBits_length]; decide), byteBits_length, ofBits_byte]; rfl

theorem addl_feed (l : List UInt8) : ∀ s : BitVec 32, addl s l = feed s (bitsOf l) := by
  induction l with
  | nil => intro s; rfl
  | cons c l ih => intro s; rw [addl_cons, bitsOf_cons, feed_append, ← add1_feed, ih]

/-- The first 32 bits, with those of s added. -/
def xorFront (s : BitVec 32) (L : List Bool) : List Bool := L.mapIdx fun i x => x ^^ s.getLsbD i

theorem xorFront_length (s : BitVec 32) (L : List Bool) : (xorFront s L).length = L.length := by simp [xorFront]

theorem xorFront_get (s : BitVec 32) (L : List Bool) (i : Nat) : (xorFront s L)[i]? = (L[i]?).map fun x => x ^^ s.getLsbD i := by simp [xorFront]

/-- What a division has left, i bits gone. -/
def left (m : List Bool) (i : Nat) : List Bool := List.replicate i false ++ xorFront (feed ones32 (m.take i)) (m.drop i ++ List.replicate 32 false)

theorem left_length (m : List Bool) (i : Nat) (h : i ≤ m.length) : (left m i).length = m.length + 32 := by
  simp [left, xorFront_length]; omega

theorem ones32_get (i : Nat) : ones32.getLsbD i = decide (i < 32) := by
  have : ones32 = BitVec.allOnes 32 := by decide
  rw [this, BitVec.getLsbD_allOnes]

theorem left_zero (m : List Bool) (j : Nat) : (left m 0)[j]? = ((m ++ List.replicate 32 false)[j]?).map fun x => x ^^ decide (j < 32) := by
  simp only [left, List.replicate_zero, List.nil_append, List.take_zero, List.drop_zero]
  rw [xorFront_get]
  rw [show feed ones32 [] = ones32 from rfl, ones32_get]

theorem left_get (m : List Bool) (i j : Nat) : (left m i)[j]? = if j < i then some false else ((m.drop i ++ List.replicate 32 false)[j - i]?).map fun x => x ^^ (feed ones32 (m.take i)).getLsbD (j - i) := by
  unfold left
  rw [List.getElem?_append]
  simp only [List.length_replicate, xorFront_get]
  by_cases h : j < i
  · simp [h]
  · simp [h]

theorem left_here (m : List Bool) (i : Nat) (h : i < m.length) : (left m i)[i]? = some (m[i] ^^ (feed ones32 (m.take i)).getLsbD 0) := by
  rw [left_get, if_neg (by omega), Nat.sub_self, List.getElem?_append_left (by simp; omega)]
  simp [h]

theorem feed_take (m : List Bool) (i : Nat) (h : i < m.length) : feed ones32 (m.take (i + 1)) = step1 (feed ones32 (m.take i) ^^^ bit1 m[i]) := by
  rw [List.take_succ_eq_append_getElem h, feed_append]; rfl

theorem step1_get (s : BitVec 32) (x : Bool) (j : Nat) : (step1 (s ^^^ bit1 x)).getLsbD j = (s.getLsbD (j + 1) ^^ (poly.getLsbD j && (x ^^ s.getLsbD 0))) := by
  unfold step1
  have h0 : (s ^^^ bit1 x).getLsbD 0 = (x ^^ s.getLsbD 0) := by rw [BitVec.getLsbD_xor, bit1_get]; cases x <;> cases s.getLsbD 0 <;> rfl
  rw [h0]
  have h1 : ∀ j, ((s ^^^ bit1 x) >>> 1).getLsbD j = s.getLsbD (j + 1) := by
    intro j
    rw [BitVec.getLsbD_ushiftRight, BitVec.getLsbD_xor, bit1_get, Nat.add_comm]
    simp
  cases (x ^^ s.getLsbD 0)
  · simp only [Bool.false_eq_true, if_false, h1]; simp
  · simp only [if_true, BitVec.getLsbD_xor, h1]; simp

/-- A step of the division: the bit goes; if it was one, so do those of the polynomial. -/
theorem left_step (m : List Bool) (i : Nat) (h : i < m.length) (j : Nat) :
    (left m (i + 1))[j]? = if j = i then some false else ((left m i)[j]?).map fun y => y ^^ (decide (i < j) && (poly.getLsbD (j - (i + 1)) && (m[i] ^^ (feed ones32 (m.take i)).getLsbD 0))) := by
  rw [left_get, left_get]
  by_cases hj : j < i
  · rw [if_pos (by omega), if_neg (by omega), if_pos hj]; simp; omega
  · by_cases he : j = i
    · rw [if_pos (by omega), if_pos he]
    · rw [if_neg (by omega), if_neg he, if_neg hj]
      rw [feed_take m i h]
      have e : m.drop i ++ List.replicate 32 false = m[i] :: (m.drop (i + 1) ++ List.replicate 32 false) := by
        rw [List.drop_eq_getElem_cons h, List.cons_append]
      rw [e, show j - i = (j - (i + 1)) + 1 by omega, List.getElem?_cons_succ, Option.map_map]
      congr 1
      funext y
      simp only [Function.comp_apply]
      rw [step1_get, show decide (i < j) = true by simp; omega]
      cases y <;> cases (feed ones32 (m.take i)).getLsbD (j - (i + 1) + 1) <;> simp

theorem left_end (m : List Bool) (j : Nat) (h : j < 32) : (left m m.length)[m.length + j]? = some ((feed ones32 m).getLsbD j) := by
  rw [left_get, if_neg (by omega), show m.length + j - m.length = j by omega, List.drop_length, List.nil_append, List.take_length]
  rw [List.getElem?_replicate, if_pos h]
  simp

/-- Bits that are changed. -/
theorem feed_xor : ∀ (a b : List Bool) (s t : BitVec 32), a.length = b.length → feed (s ^^^ t) (List.zipWith (fun x y => x ^^ y) a b) = feed s a ^^^ feed t b
  | [], [], s, t, _ => rfl
  | x :: a, y :: b, s, t, h => by
    rw [List.zipWith_cons_cons, feed_cons, feed_cons, feed_cons, ← feed_xor a b _ _ (by simpa using h), ← step1_xor]
    congr 2
    ext i hi
    have e : bit1 (x ^^ y) = bit1 x ^^^ bit1 y := by cases x <;> cases y <;> decide
    rw [e]
    simp
    cases s[i] <;> cases t[i] <;> cases (bit1 x)[i] <;> cases (bit1 y)[i] <;> rfl
  | [], _ :: _, _, _, h => by simp at h
  | _ :: _, [], _, _, h => by simp at h

theorem feed_noughts (n : Nat) : ∀ s : BitVec 32, feed s (List.replicate n false) = zb n s := by
  induction n with
  | zero => intro s; rfl
  | succ n ih => intro s; rw [List.replicate_succ, feed_cons, ih]; simp [bit1, zb]

theorem feed_burst (a r : Nat) (bs : List Bool) (h : bs.length = 32) (hn : ofBits bs ≠ 0#32) : feed 0#32 (List.replicate a false ++ (bs ++ List.replicate r false)) ≠ 0#32 := by
  rw [feed_append, feed_append, feed_noughts a, zb_zero, feed_noughts, feed_bits _ _ (by omega), BitVec.zero_xor]
  intro e
  exact hn (zb_inj _ (zb_inj _ e))

theorem crcOf_ne (a b : List UInt8) (e : List Bool) (he : bitsOf b = List.zipWith (fun x y => x ^^ y) (bitsOf a) e) (hel : e.length = 8 * a.length) (hn : feed 0#32 e ≠ 0#32) : crcOf b ≠ crcOf a := by
  intro h
  unfold crcOf at h
  have h2 := BitVec.not_inj.1 h
  rw [addl_feed, addl_feed, he] at h2
  have h3 : feed ones32 (List.zipWith (fun x y => x ^^ y) (bitsOf a) e) = feed ones32 (bitsOf a) ^^^ feed 0#32 e := by
    rw [← feed_xor _ _ _ _ (by rw [bitsOf_length, hel]), BitVec.xor_zero]
  rw [h3] at h2
  apply hn
  have h4 := congrArg (fun v => feed ones32 (bitsOf a) ^^^ v) h2
  simpa [← BitVec.xor_assoc] using h4
end Go.Proofs.YtlnmbfddhdjioaaGreat

namespace Go.Proofs.YtlnmbfddhdjioaaGreat

def mask8 (r : Nat) : UInt8 := UInt8.ofNat (2 ^ r)

theorem mask8_nat (r : Nat) (h : r < 8) : (mask8 r).toNat = 2 ^ r := by
  have : (2 : Nat) ^ r < 2 ^ 8 := Nat.pow_lt_pow_right (by decide) h
  exact UInt8.toNat_ofNat_of_lt' this

theorem bitsOf_get : ∀ (l : List UInt8) (j : Nat), (bitsOf l)[j]? = (l[j / 8]?).map fun c => c.toNat.testBit (j % 8)
  | [], j => by simp [bitsOf]
  | c :: l, j => by
    rw [bitsOf_cons]
    by_cases h : j < 8
    · rw [List.getElem?_append_left (by rw [byteBits_length]; exact h), Nat.div_eq_of_lt h, Nat.mod_eq_of_lt h]
      simp [byteBits, h]
    · rw [List.getElem?_append_right (by rw [byteBits_length]; omega), byteBits_length, bitsOf_get l (j - 8)]
      rw [show j / 8 = (j - 8) / 8 + 1 by omega, show (j - 8) % 8 = j % 8 by omega, List.getElem?_cons_succ]

theorem flip_get (l : List UInt8) (q r : Nat) (c : UInt8) (hr : r < 8) (hc : l[q]? = some c) (j : Nat) :
    (bitsOf (l.set q (c ^^^ mask8 r)))[j]? = ((bitsOf l)[j]?).map fun x => x ^^ decide (j = 8 * q + r) := by
  have hl : q < l.length := (List.getElem?_eq_some_iff.1 hc).1
  rw [bitsOf_get, bitsOf_get, List.getElem?_set]
  by_cases h : q = j / 8
  · rw [if_pos h, if_pos hl, ← h, hc, Option.map_some, Option.map_some, Option.map_some]
    congr 1
    rw [UInt8.toNat_xor, Nat.testBit_xor, mask8_nat r hr, Nat.testBit_two_pow]
    congr 1
    apply decide_eq_decide.2
    omega
  · rw [if_neg h]
    have hn : decide (j = 8 * q + r) = false := by apply decide_eq_false; omega
    rw [hn, Option.map_map]
    simp [Function.comp_def]

/-- The bytes, the first k bits of the change done from a bit on. -/
def burst (b : List UInt8) (bit : Nat) (ch : BitVec 32) : Nat → List UInt8
  | 0 => b
  | k + 1 => if ch.getLsbD k then (burst b bit ch k).set ((bit + k) / 8) ((burst b bit ch k).getD ((bit + k) / 8) 0 ^^^ mask8 ((bit + k) % 8)) else burst b bit ch k

theorem burst_length (b : List UInt8) (bit : Nat) (ch : BitVec 32) (k : Nat) : (burst b bit ch k).length = b.length := by
  induction k with
  | zero => rfl
  | succ k ih => simp only [burst]; split <;> simp [ih]

theorem burst_get (b : List UInt8) (bit : Nat) (ch : BitVec 32) (k : Nat) (h : bit + k ≤ 8 * b.length) (j : Nat) :
    (bitsOf (burst b bit ch k))[j]? = ((bitsOf b)[j]?).map fun x => x ^^ (decide (bit ≤ j ∧ j < bit + k) && ch.getLsbD (j - bit)) := by
  induction k with
  | zero =>
    simp only [burst]
    have : decide (bit ≤ j ∧ j < bit + 0) = false := by apply decide_eq_false; omega
    rw [this]; simp
  | succ k ih =>
    have ih := ih (by omega)
    simp only [burst]
    have hq : (bit + k) / 8 < (burst b bit ch k).length := by rw [burst_length]; omega
    have e8 : 8 * ((bit + k) / 8) + (bit + k) % 8 = bit + k := by omega
    cases hc : ch.getLsbD k
    · simp only [Bool.false_eq_true, if_false]
      rw [ih]
      congr 1
      funext x
      congr 1
      by_cases e : j = bit + k
      · rw [show j - bit = k by omega, hc]; simp
      · congr 1; apply decide_eq_decide.2; omega
    · simp only [if_true]
      rw [flip_get _ _ _ _ (Nat.mod_lt _ (by decide)) (by rw [List.getD_eq_getElem?_getD, List.getElem?_eq_getElem hq]; rfl), ih, Option.map_map, e8]
      congr 1
      funext x
      simp only [Function.comp_apply]
      by_cases e : j = bit + k
      · have h1 : decide (bit ≤ j ∧ j < bit + k) = false := by apply decide_eq_false; omega
        have h2 : decide (bit ≤ j ∧ j < bit + (k + 1)) = true := by apply decide_eq_true; omega
        rw [h1, h2, show j - bit = k by omega, hc, e]
        simp
      · have h1 : decide (j = bit + k) = false := decide_eq_false e
        rw [h1, Bool.xor_false]
        congr 2; apply decide_eq_decide.2; omega

def chBits (ch : BitVec 32) : List Bool := (List.range 32).map ch.getLsbD

theorem chBits_of (ch : BitVec 32) : ofBits (chBits ch) = ch := by
  apply BitVec.eq_of_getLsbD_eq
  intro i hi
  rw [ofBits_get _ i hi]
  simp [chBits, hi]

theorem burst_crc (b : List UInt8) (bit : Nat) (ch : BitVec 32) (h : bit + 32 ≤ 8 * b.length) (hc : ch ≠ 0#32) : crcOf (burst b bit ch 32) ≠ crcOf b := by
  have hlc : (chBits ch).length = 32 := by simp [chBits]
  refine crcOf_ne b _ (List.replicate bit false ++ (chBits ch ++ List.replicate (8 * b.length - bit - 32) false)) ?_ (by simp [hlc]; omega) (feed_burst _ _ _ hlc (by rw [chBits_of]; exact hc))
  refine List.ext_getElem? fun j => ?_
  rw [burst_get b bit ch 32 (by omega) j, List.getElem?_zipWith]
  by_cases hj : j < 8 * b.length
  · have e1 : (bitsOf b)[j]? = some ((bitsOf b)[j]'(by rw [bitsOf_length]; exact hj)) := List.getElem?_eq_getElem _
    rw [e1]
    by_cases c1 : j < bit
    · rw [List.getElem?_append_left (by simpa using c1), List.getElem?_replicate, if_pos c1]
      have : decide (bit ≤ j ∧ j < bit + 32) = false := by apply decide_eq_false; omega
      rw [this]
      simp
    · rw [List.getElem?_append_right (by simp; omega), List.length_replicate]
      by_cases c2 : j < bit + 32
      · rw [List.getElem?_append_left (by rw [hlc]; omega)]
        have : decide (bit ≤ j ∧ j < bit + 32) = true := by apply decide_eq_true; omega
        rw [this]
        have e2 : (chBits ch)[j - bit]? = some (ch.getLsbD (j - bit)) := by unfold chBits; rw [List.getElem?_map, List.getElem?_range (by omega)]; rfl
        rw [e2]
        simp
      · rw [List.getElem?_append_right (by rw [hlc]; omega), hlc, List.getElem?_replicate, if_pos (by omega)]
        have : decide (bit ≤ j ∧ j < bit + 32) = false := by apply decide_eq_false; omega
        rw [this]
        simp
  · rw [List.getElem?_eq_none (by rw [bitsOf_length]; omega)]
    simp
end Go.Proofs.YtlnmbfddhdjioaaGreat

namespace Go.Proofs.YtlnmbfddhdjioaaGreat

def powersN : List Nat := [26, 23, 22, 16, 12, 11, 10, 8, 7, 5, 4, 2, 1, 0]

def flip1 (L : List Bool) (q : Nat) : List Bool := L.set q (!L.getD q false)

def flipsAt (i : Nat) (ps : List Nat) (L : List Bool) : List Bool := ps.foldl (fun L p => flip1 L (i + 32 - p)) L

theorem flipsAt_snoc (i : Nat) (ps : List Nat) (p : Nat) (L : List Bool) : flipsAt i (ps ++ [p]) L = flip1 (flipsAt i ps L) (i + 32 - p) := by
  unfold flipsAt; rw [List.foldl_append]; rfl

theorem flip1_length (L : List Bool) (q : Nat) : (flip1 L q).length = L.length := by simp [flip1]

theorem flipsAt_length (i : Nat) (ps : List Nat) : ∀ L : List Bool, (flipsAt i ps L).length = L.length := by
  induction ps with
  | nil => intro L; rfl
  | cons p ps ih => intro L; unfold flipsAt at *; rw [List.foldl_cons, ih, flip1_length]

theorem flip1_get (L : List Bool) (q j : Nat) : (flip1 L q)[j]? = (L[j]?).map fun x => x ^^ decide (q = j) := by
  unfold flip1
  rw [List.getElem?_set]
  by_cases h : q = j
  · subst h
    rw [if_pos rfl]
    by_cases hl : q < L.length
    · rw [if_pos hl, List.getElem?_eq_getElem hl, List.getD_eq_getElem?_getD, List.getElem?_eq_getElem hl]; simp
    · rw [if_neg hl, List.getElem?_eq_none (by omega)]; rfl
  · rw [if_neg h, decide_eq_false h]; simp

def flag (i : Nat) (ps : List Nat) (j : Nat) : Bool := ps.foldr (fun p b => b ^^ decide (i + 32 - p = j)) false

theorem flipsAt_get (i : Nat) (ps : List Nat) (j : Nat) : ∀ L : List Bool, (flipsAt i ps L)[j]? = (L[j]?).map fun x => x ^^ flag i ps j := by
  induction ps with
  | nil => intro L; simp [flipsAt, flag]
  | cons p ps ih =>
    intro L
    have e : flipsAt i (p :: ps) L = flipsAt i ps (flip1 L (i + 32 - p)) := rfl
    rw [e, ih, flip1_get, Option.map_map]
    congr 1
    funext x
    have e2 : flag i (p :: ps) j = (flag i ps j ^^ decide (i + 32 - p = j)) := rfl
    simp only [Function.comp_apply, e2]
    cases x <;> cases flag i ps j <;> cases decide (i + 32 - p = j) <;> rfl

def gbit (t : Nat) : Bool := powersN.foldr (fun p b => b ^^ decide (31 - p = t)) false

theorem gbit_poly (t : Nat) : gbit t = poly.getLsbD t := by
  by_cases h : t < 32
  · have : ∀ t : Fin 32, gbit t.val = poly.getLsbD t.val := by decide
    exact this ⟨t, h⟩
  · rw [BitVec.getLsbD_of_ge _ _ (by omega)]
    have hp : ∀ p, decide (31 - p = t) = false := fun p => decide_eq_false (by omega)
    unfold gbit
    simp only [hp]
    rfl

theorem flag_low (i j : Nat) (h : j ≤ i) : flag i powersN j = false := by
  have hp : ∀ p ∈ powersN, decide (i + 32 - p = j) = false := by
    intro p hp
    apply decide_eq_false
    have : p ≤ 26 := by revert hp; revert p; decide
    omega
  unfold flag
  have : ∀ ps : List Nat, (∀ p ∈ ps, decide (i + 32 - p = j) = false) → ps.foldr (fun p b => b ^^ decide (i + 32 - p = j)) false = false := by
    intro ps
    induction ps with
    | nil => intro _; rfl
    | cons p ps ih => intro h; rw [List.foldr_cons, ih (fun q hq => h q (by simp [hq])), h p (by simp)]; rfl
  exact this _ hp

theorem flag_high (i t : Nat) : flag i powersN (i + 1 + t) = poly.getLsbD t := by
  rw [← gbit_poly]
  unfold flag gbit
  have : ∀ ps : List Nat, (∀ p ∈ ps, p ≤ 26) → ps.foldr (fun p b => b ^^ decide (i + 32 - p = i + 1 + t)) false = ps.foldr (fun p b => b ^^ decide (31 - p = t)) false := by
    intro ps
    induction ps with
    | nil => intro _; rfl
    | cons p ps ih =>
      intro h
      have hp := h p (by simp)
      rw [List.foldr_cons, List.foldr_cons, ih (fun q hq => h q (by simp [hq]))]
      congr 1
      apply decide_eq_decide.2
      omega
  exact this _ (by decide)

theorem left_skip (m : List Bool) (i : Nat) (h : i < m.length) (ht : (m[i] ^^ (feed ones32 (m.take i)).getLsbD 0) = false) : left m (i + 1) = left m i := by
  apply List.ext_getElem?
  intro j
  rw [left_step m i h j, ht]
  by_cases e : j = i
  · subst e; rw [if_pos rfl, left_here m j h, ht]
  · rw [if_neg e]; simp

theorem left_flip (m : List Bool) (i : Nat) (h : i < m.length) (ht : (m[i] ^^ (feed ones32 (m.take i)).getLsbD 0) = true) : flipsAt i powersN ((left m i).set i false) = left m (i + 1) := by
  apply List.ext_getElem?
  intro j
  rw [flipsAt_get, left_step m i h j, ht, List.getElem?_set, left_length m i (Nat.le_of_lt h)]
  by_cases e : j = i
  · subst e
    rw [if_pos rfl, if_pos rfl, if_pos (by omega), flag_low j j (Nat.le_refl _)]; rfl
  · rw [if_neg e, if_neg (fun h => e h.symm)]
    congr 1
    funext x
    by_cases l : j < i
    · rw [flag_low i j (by omega), decide_eq_false (by omega : ¬ i < j)]; simp
    · rw [show j = i + 1 + (j - (i + 1)) by omega, flag_high, decide_eq_true (by omega : i < i + 1 + (j - (i + 1)))]
      simp

theorem half_step (n j : Nat) : n / 2 ^ j = 2 * (n / 2 ^ (j + 1)) + (if n.testBit j then 1 else 0) := by
  have e : n / 2 ^ (j + 1) = n / 2 ^ j / 2 := by rw [Nat.pow_succ, Nat.div_div_eq_div_mul]
  rw [e, Nat.testBit_eq_decide_div_mod_eq]
  generalize n / 2 ^ j = y
  by_cases h : y % 2 = 1
  · simp [h]; omega
  · simp [h]; omega
end Go.Proofs.YtlnmbfddhdjioaaGreat
