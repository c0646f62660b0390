/-
  The CRC over bits: plain mathematics. No function of the program is named here.
-/
namespace Go.Proofs.Ytdcfcljgennipaa

def poly : BitVec 32 := 0xedb88320#32

/-- One zero bit more. -/
def step1 (s : BitVec 32) : BitVec 32 := if s.getLsbD 0 then (s >>> 1) ^^^ poly else s >>> 1

theorem step1_xor (a b : BitVec 32) : step1 (a ^^^ b) = step1 a ^^^ step1 b := by
  unfold step1
  rw [BitVec.getLsbD_xor, BitVec.ushiftRight_xor_distrib]
  cases a.getLsbD 0 <;> cases b.getLsbD 0 <;> simp
  · rw [BitVec.xor_assoc]
  · ext i hi; simp; cases (a.getLsbD (1 + i)) <;> cases (b.getLsbD (1 + i)) <;> cases poly[i] <;> rfl
  · ext i hi; simp; cases (a.getLsbD (1 + i)) <;> cases (b.getLsbD (1 + i)) <;> cases poly[i] <;> rfl

theorem step1_zero : step1 0#32 = 0#32 := by decide

def zb : Nat → BitVec 32 → BitVec 32
  | 0, s => s
  | n + 1, s => zb n (step1 s)

theorem zb_xor (n : Nat) : ∀ a b : BitVec 32, zb n (a ^^^ b) = zb n a ^^^ zb n b := by
  induction n with
  | zero => intro a b; rfl
  | succ n ih => intro a b; simp only [zb]; rw [step1_xor, ih]

theorem zb_zero (n : Nat) : zb n 0#32 = 0#32 := by
  induction n with
  | zero => rfl
  | succ n ih => simp only [zb]; rw [step1_zero, ih]

theorem zb_add (m n : Nat) : ∀ s : BitVec 32, zb (m + n) s = zb n (zb m s) := by
  induction m with
  | zero => intro s; simp [zb]
  | succ m ih => intro s; rw [Nat.succ_add]; simp only [zb]; exact ih _

theorem zb_succ (n : Nat) (s : BitVec 32) : zb (n + 1) s = step1 (zb n s) := by rw [zb_add]; rfl

/-- A bit ahead of noughts. -/
theorem step1_shl (y : BitVec 32) (h : y.toNat < 2 ^ 31) : step1 (y <<< 1) = y := by
  unfold step1
  have h0 : (y <<< 1).getLsbD 0 = false := by simp
  rw [h0]
  simp only [Bool.false_eq_true, if_false]
  apply BitVec.eq_of_toNat_eq
  simp only [BitVec.toNat_ushiftRight, BitVec.toNat_shiftLeft]
  rw [Nat.shiftLeft_eq, Nat.shiftRight_eq_div_pow]
  omega

theorem step1_inj {a : BitVec 32} (h : step1 a = 0#32) : a = 0#32 := by
  unfold step1 at h
  have hp : poly.getLsbD 31 = true := by decide
  cases h0 : a.getLsbD 0
  · rw [h0] at h
    simp only [Bool.false_eq_true, if_false] at h
    apply BitVec.eq_of_getLsbD_eq
    intro i hi
    cases i with
    | zero => simpa using h0
    | succ j =>
      have := congrArg (fun v : BitVec 32 => v.getLsbD j) h
      simp at this
      rw [Nat.add_comm] at this
      simpa using this
  · rw [h0] at h
    simp only [if_true] at h
    exfalso
    have := congrArg (fun v : BitVec 32 => v.getLsbD 31) h
    simp only [BitVec.getLsbD_xor, hp, BitVec.getLsbD_ushiftRight, BitVec.getLsbD_zero] at this
    rw [BitVec.getLsbD_of_ge _ _ (by decide)] at this
    cases this

theorem zb_inj (n : Nat) : ∀ {a : BitVec 32}, zb n a = 0#32 → a = 0#32 := by
  induction n with
  | zero => intro a h; exact h
  | succ n ih => intro a h; exact step1_inj (ih h)

/-- Bytes. -/
def add1 (s : BitVec 32) (c : UInt8) : BitVec 32 := zb 8 (s ^^^ c.toBitVec.setWidth 32)

def addl (s : BitVec 32) (l : List UInt8) : BitVec 32 := l.foldl add1 s

theorem addl_nil (s : BitVec 32) : addl s [] = s := rfl
theorem addl_cons (s : BitVec 32) (c : UInt8) (l : List UInt8) : addl s (c :: l) = addl (add1 s c) l := rfl
theorem addl_append (s : BitVec 32) (a b : List UInt8) : addl s (a ++ b) = addl (addl s a) b := List.foldl_append

def ones32 : BitVec 32 := 0xffffffff#32

def crcOf (l : List UInt8) : BitVec 32 := ~~~ (addl ones32 l)

theorem not_xor_ones (s : BitVec 32) : ~~~ s = s ^^^ ones32 := by
  have : ones32 = BitVec.allOnes 32 := by decide
  rw [this, BitVec.xor_allOnes]

/-- What is added to a state goes through by itself. -/
theorem addl_xor (l : List UInt8) : ∀ s d : BitVec 32, addl (s ^^^ d) l = addl s l ^^^ zb (8 * l.length) d := by
  induction l with
  | nil => intro s d; rfl
  | cons c l ih =>
    intro s d
    rw [addl_cons, addl_cons]
    have h : add1 (s ^^^ d) c = add1 s c ^^^ zb 8 d := by
      unfold add1
      rw [← zb_xor]
      congr 1
      ext i hi; simp; cases s[i] <;> cases d[i] <;> cases (c.toBitVec.getLsbD i) <;> rfl
    rw [h, ih, List.length_cons, show 8 * (l.length + 1) = 8 + 8 * l.length by omega, zb_add]

theorem crcOf_append (a b : List UInt8) : crcOf (a ++ b) = zb (8 * b.length) (crcOf a) ^^^ crcOf b := by
  unfold crcOf
  rw [addl_append]
  have h : addl ones32 a = ones32 ^^^ ~~~ (addl ones32 a) := by
    rw [not_xor_ones]
    ext i hi; simp; cases ones32[i] <;> cases (addl ones32 a)[i] <;> rfl
  rw [h, addl_xor]
  rw [not_xor_ones, not_xor_ones (addl ones32 b)]
  rw [← h]
  ext i hi; simp; cases ones32[i] <;> cases (addl ones32 b)[i] <;> cases (zb (8 * b.length) (~~~ (addl ones32 a)))[i] <;> rfl

def xor3 (a b c : UInt8) : UInt8 := a ^^^ b ^^^ c

theorem add1_xor3 (s t u : BitVec 32) (a b c : UInt8) : add1 (s ^^^ t ^^^ u) (xor3 a b c) = add1 s a ^^^ add1 t b ^^^ add1 u c := by
  unfold add1 xor3
  rw [← zb_xor, ← zb_xor]
  congr 1
  ext i hi
  simp
  cases s[i] <;> cases t[i] <;> cases u[i] <;> cases (a.toBitVec.getLsbD i) <;> cases (b.toBitVec.getLsbD i) <;> cases (c.toBitVec.getLsbD i) <;> rfl

def odds : List UInt8 → List UInt8 → List UInt8 → List UInt8
  | a :: as, b :: bs, c :: cs => xor3 a b c :: odds as bs cs
  | _, _, _ => []

theorem addl_odds : ∀ (a b c : List UInt8) (s t u : BitVec 32), a.length = b.length → b.length = c.length →
    addl (s ^^^ t ^^^ u) (odds a b c) = addl s a ^^^ addl t b ^^^ addl u c
  | [], [], [], s, t, u, _, _ => rfl
  | a :: as, b :: bs, c :: cs, s, t, u, h1, h2 => by
    simp only [odds, addl_cons]
    rw [add1_xor3]
    exact addl_odds as bs cs _ _ _ (by simpa using h1) (by simpa using h2)
  | [], [], _ :: _, _, _, _, _, h => by simp at h
  | [], _ :: _, _, _, _, _, h, _ => by simp at h
  | _ :: _, [], _, _, _, _, h, _ => by simp at h
  | _ :: _, _ :: _, [], _, _, _, _, h => by simp at h

theorem crcOf_odds (a b c : List UInt8) (h1 : a.length = b.length) (h2 : b.length = c.length) : crcOf (odds a b c) = crcOf a ^^^ crcOf b ^^^ crcOf c := by
  unfold crcOf
  have h : ones32 = ones32 ^^^ ones32 ^^^ ones32 := by decide
  rw [not_xor_ones, not_xor_ones, not_xor_ones, not_xor_ones]
  rw [show addl ones32 (odds a b c) = addl (ones32 ^^^ ones32 ^^^ ones32) (odds a b c) by rw [← h]]
  rw [addl_odds a b c _ _ _ h1 h2]
  ext i hi; simp; cases ones32[i] <;> cases (addl ones32 a)[i] <;> cases (addl ones32 b)[i] <;> cases (addl ones32 c)[i] <;> rfl

/-- The table: four bits at a time. -/
theorem zb4 (s : BitVec 32) : zb 4 s = (s >>> 4) ^^^ zb 4 (s &&& 15#32) := by
  have h : s = ((s >>> 4) <<< 4) ^^^ (s &&& 15#32) := by
    apply BitVec.eq_of_getLsbD_eq
    intro i hi
    simp only [BitVec.getLsbD_xor, BitVec.getLsbD_shiftLeft, BitVec.getLsbD_ushiftRight, BitVec.getLsbD_and]
    by_cases h4 : i < 4
    · have : (15#32).getLsbD i = true := by
        match i, h4 with
        | 0, _ => decide
        | 1, _ => decide
        | 2, _ => decide
        | 3, _ => decide
      simp [h4, this]
    · have : (15#32).getLsbD i = false := by
        unfold BitVec.getLsbD
        exact Nat.testBit_lt_two_pow (Nat.lt_of_lt_of_le (by decide : (15#32).toNat < 2 ^ 4) (Nat.pow_le_pow_right (by decide) (by omega)))
      rw [this]
      simp only [h4, hi, decide_true, decide_false, Bool.not_false, Bool.and_true, Bool.true_and, Bool.and_false, Bool.xor_false]
      congr 1; omega
  have h2 : ∀ y : BitVec 32, y.toNat < 2 ^ 28 → zb 4 (y <<< 4) = y := by
    intro y hy
    have e : y <<< 4 = (((y <<< 1) <<< 1) <<< 1) <<< 1 := by simp [← BitVec.shiftLeft_add]
    rw [e]
    simp only [zb]
    rw [step1_shl, step1_shl, step1_shl, step1_shl]
    · omega
    · rw [BitVec.toNat_shiftLeft, Nat.shiftLeft_eq]; omega
    · rw [BitVec.toNat_shiftLeft, BitVec.toNat_shiftLeft, Nat.shiftLeft_eq, Nat.shiftLeft_eq]; omega
    · rw [BitVec.toNat_shiftLeft, BitVec.toNat_shiftLeft, BitVec.toNat_shiftLeft, Nat.shiftLeft_eq, Nat.shiftLeft_eq, Nat.shiftLeft_eq]; omega
  conv => lhs; rw [h]
  rw [zb_xor, h2]
  rw [BitVec.toNat_ushiftRight, Nat.shiftRight_eq_div_pow]
  have := s.isLt
  omega
end Go.Proofs.Ytdcfcljgennipaa
