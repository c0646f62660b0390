/-
  SHA-256 over numbers of 32 bits. Plain mathematics: no program is named here.
-/
import Derived.Lib.Hide
namespace Go.Proofs.YtlnmbfddhdjioaaDoor

/-- The eight words. -/
structure W8 where
  (a b c d e f g h : BitVec 32)

def W8.get (s : W8) : Nat → BitVec 32
  | 0 => s.a
  | 1 => s.b
  | 2 => s.c
  | 3 => s.d
  | 4 => s.e
  | 5 => s.f
  | 6 => s.g
  | _ => s.h

/-- Turned to the right. -/
def rr (x : BitVec 32) (n : Nat) : BitVec 32 := (x >>> n) ||| (x <<< (32 - n))
def sg0 (x : BitVec 32) : BitVec 32 := rr x 7 ^^^ rr x 18 ^^^ (x >>> 3)
def sg1 (x : BitVec 32) : BitVec 32 := rr x 17 ^^^ rr x 19 ^^^ (x >>> 10)
def bs0 (x : BitVec 32) : BitVec 32 := rr x 2 ^^^ rr x 13 ^^^ rr x 22
def bs1 (x : BitVec 32) : BitVec 32 := rr x 6 ^^^ rr x 11 ^^^ rr x 25
def chs (e f g : BitVec 32) : BitVec 32 := (e &&& f) ^^^ (~~~ e &&& g)
def maj (a b c : BitVec 32) : BitVec 32 := (a &&& b) ^^^ (a &&& c) ^^^ (b &&& c)
def mixE (e f g : BitVec 32) : BitVec 32 := bs1 e + chs e f g
def mixA (a b c : BitVec 32) : BitVec 32 := bs0 a + maj a b c

def rt (s : W8) (k w : BitVec 32) : BitVec 32 := s.h + mixE s.e s.f s.g + k + w
def ru (s : W8) : BitVec 32 := mixA s.a s.b s.c
/-- A round. -/
def rnd (s : W8) (k w : BitVec 32) : W8 := ⟨rt s k w + ru s, s.a, s.b, s.c, s.d + rt s k w, s.e, s.f, s.g⟩

def rds (K W : Nat → BitVec 32) (s : W8) : Nat → W8
  | 0 => s
  | n + 1 => rnd (rds K W s n) (K n) (W n)

/-- The words of a block, out of its first sixteen. -/
def sch (m : Nat → BitVec 32) (t : Nat) : BitVec 32 :=
  if t < 16 then m t else sch m (t - 16) + (sch m (t - 7) + sg0 (sch m (t - 15)) + sg1 (sch m (t - 2)))
termination_by t
decreasing_by all_goals omega

theorem sch_lt (m : Nat → BitVec 32) (t : Nat) (h : t < 16) : sch m t = m t := by rw [sch, if_pos h]
theorem sch_ge (m : Nat → BitVec 32) (t : Nat) (h : 16 ≤ t) : sch m t = sch m (t - 16) + (sch m (t - 7) + sg0 (sch m (t - 15)) + sg1 (sch m (t - 2))) := by rw [sch, if_neg (by omega)]

def W8.add (s v : W8) : W8 := ⟨s.a + v.a, s.b + v.b, s.c + v.c, s.d + v.d, s.e + v.e, s.f + v.f, s.g + v.g, s.h + v.h⟩

theorem W8.add_get (s v : W8) (i : Nat) : (s.add v).get i = s.get i + v.get i := by
  unfold W8.get W8.add
  match i with
  | 0 | 1 | 2 | 3 | 4 | 5 | 6 => rfl
  | _ + 7 => rfl

/-- What one more block makes of the words. -/
def blk (K : Nat → BitVec 32) (s : W8) (m : Nat → BitVec 32) : W8 := s.add (rds K (sch m) s 64)

/-- The first k bytes of word j of a block. -/
def part (xs : List UInt8) (j : Nat) : Nat → BitVec 32
  | 0 => 0#32
  | k + 1 => (part xs j k <<< 8) ||| (xs.getD (4 * j + k) 0).toBitVec.setWidth 32

def wordOf (xs : List UInt8) (j : Nat) : BitVec 32 := part xs j 4

/-- Word j behind the first n bytes of a block. -/
def wordK (xs : List UInt8) (n j : Nat) : BitVec 32 := part xs j (min 4 (n - 4 * j))

theorem wordK_zero (xs : List UInt8) (j : Nat) : wordK xs 0 j = 0#32 := by
  unfold wordK; simp [part]

theorem wordK_all (xs : List UInt8) (j : Nat) (h : j < 16) : wordK xs 64 j = wordOf xs j := by
  unfold wordK wordOf; rw [Nat.min_eq_left (by omega)]

theorem wordK_succ (xs : List UInt8) (n j : Nat) : wordK xs (n + 1) j = if j = n / 4 then (wordK xs n (n / 4) <<< 8) ||| (xs.getD n 0).toBitVec.setWidth 32 else wordK xs n j := by
  by_cases h : j = n / 4
  · rw [if_pos h, h]
    unfold wordK
    have e1 : min 4 (n + 1 - 4 * (n / 4)) = n % 4 + 1 := by omega
    have e2 : min 4 (n - 4 * (n / 4)) = n % 4 := by omega
    rw [e1, e2]
    have e3 : 4 * (n / 4) + n % 4 = n := by omega
    show _ ||| (xs.getD (4 * (n / 4) + n % 4) 0).toBitVec.setWidth 32 = _
    rw [e3]
  · rw [if_neg h]
    unfold wordK
    congr 1
    omega

/-- Block q of a text. -/
def blockAt (l : List UInt8) (q : Nat) : List UInt8 := (l.drop (64 * q)).take 64

/-- The words behind q blocks of a text. -/
def hs (K : Nat → BitVec 32) (s0 : W8) (l : List UInt8) : Nat → W8
  | 0 => s0
  | q + 1 => blk K (hs K s0 l q) (wordOf (blockAt l q))

theorem blockAt_append (l m : List UInt8) (q : Nat) (h : 64 * (q + 1) ≤ l.length) : blockAt (l ++ m) q = blockAt l q := by
  unfold blockAt
  rw [List.drop_append_of_le_length (by omega), List.take_append_of_le_length (by rw [List.length_drop]; omega)]

theorem hs_append (K : Nat → BitVec 32) (s0 : W8) (l m : List UInt8) (q : Nat) (h : 64 * q ≤ l.length) : hs K s0 (l ++ m) q = hs K s0 l q := by
  induction q with
  | zero => rfl
  | succ q ih =>
    simp only [hs]
    rw [ih (by omega), blockAt_append l m q h]

/-- The words behind all whole blocks of a text. -/
def stOf (K : Nat → BitVec 32) (s0 : W8) (l : List UInt8) : W8 := hs K s0 l (l.length / 64)

/-- The number of bits of a text of n bytes, as eight bytes. -/
def be64 (n : Nat) : List UInt8 := (List.range 8).map fun i => UInt8.ofNat (8 * n / 2 ^ (56 - 8 * i))

/-- What is appended to a text of n bytes. -/
def padb (n : Nat) : List UInt8 := 128 :: (List.replicate ((119 - n % 64) % 64) 0 ++ be64 n)

theorem be64_length (n : Nat) : (be64 n).length = 8 := by simp [be64]
theorem padb_length (n : Nat) : (padb n).length = 1 + (119 - n % 64) % 64 + 8 := by simp [padb, be64_length]; omega

def outb (s : W8) (i : Nat) : UInt8 := UInt8.ofNat ((s.get (i / 4)).toNat / 2 ^ (24 - i % 4 * 8))

def outs (s : W8) : List UInt8 := (List.range 32).map (outb s)

/-- The SHA-256 of a text. -/
def sumOf (K : Nat → BitVec 32) (s0 : W8) (l : List UInt8) : List UInt8 := outs (stOf K s0 (l ++ padb l.length))

theorem outs_length (s : W8) : (outs s).length = 32 := by simp [outs]
theorem sumOf_length (K : Nat → BitVec 32) (s0 : W8) (l : List UInt8) : (sumOf K s0 l).length = 32 := outs_length _

/-- The words of the square roots. -/
def h0 : W8 := ⟨1779033703#32, 3144134277#32, 1013904242#32, 2773480762#32, 1359893119#32, 2600822924#32, 528734635#32, 1541459225#32⟩

/-- The words of the cube roots. -/
def kkL : List (BitVec 32) := [1116352408#32, 1899447441#32, 3049323471#32, 3921009573#32, 961987163#32, 1508970993#32, 2453635748#32, 2870763221#32, 3624381080#32, 310598401#32, 607225278#32, 1426881987#32, 1925078388#32, 2162078206#32, 2614888103#32, 3248222580#32, 3835390401#32, 4022224774#32, 264347078#32, 604807628#32, 770255983#32, 1249150122#32, 1555081692#32, 1996064986#32, 2554220882#32, 2821834349#32, 2952996808#32, 3210313671#32, 3336571891#32, 3584528711#32, 113926993#32, 338241895#32, 666307205#32, 773529912#32, 1294757372#32, 1396182291#32, 1695183700#32, 1986661051#32, 2177026350#32, 2456956037#32, 2730485921#32, 2820302411#32, 3259730800#32, 3345764771#32, 3516065817#32, 3600352804#32, 4094571909#32, 275423344#32, 430227734#32, 506948616#32, 659060556#32, 883997877#32, 958139571#32, 1322822218#32, 1537002063#32, 1747873779#32, 1955562222#32, 2024104815#32, 2227730452#32, 2361852424#32, 2428436474#32, 2756734187#32, 3204031479#32, 3329325298#32]
def kk (t : Nat) : BitVec 32 := kkL.getD t 0#32

/-- The word that stands at place j of sixteen, ahead of round k. -/
def win (m : Nat → BitVec 32) (k j : Nat) : BitVec 32 := sch m (if k < 16 then j else k - 1 - (k - 1 - j) % 16)

theorem win_small (m : Nat → BitVec 32) (k j : Nat) (hk : k ≤ 16) (hj : j < 16) : win m k j = sch m j := by
  unfold win
  by_cases h : k < 16
  · rw [if_pos h]
  · rw [if_neg h]; congr 1; omega

theorem win_at (m : Nat → BitVec 32) (k j : Nat) (hk : 16 ≤ k) (hj : j ≤ 16) (h1 : 1 ≤ j) : win m k ((k - j) % 16) = sch m (k - j) := by
  unfold win
  rw [if_neg (by omega)]
  congr 1
  omega

theorem win_step (m : Nat → BitVec 32) (k i : Nat) (hk : 16 ≤ k) (hi : i < 16) : win m (k + 1) i = if i = k % 16 then sch m k else win m k i := by
  unfold win
  rw [if_neg (show ¬ k + 1 < 16 by omega), if_neg (show ¬ k < 16 by omega)]
  by_cases h : i = k % 16
  · rw [if_pos h]; congr 1; omega
  · rw [if_neg h]; congr 1; omega

theorem win_next (m : Nat → BitVec 32) (k : Nat) (hk : 16 ≤ k) :
    win m k (k % 16) + (win m k ((k - 7) % 16) + sg0 (win m k ((k - 15) % 16)) + sg1 (win m k ((k - 2) % 16))) = sch m k := by
  rw [sch_ge m k hk, win_at m k 7 hk (by omega) (by omega), win_at m k 15 hk (by omega) (by omega), win_at m k 2 hk (by omega) (by omega)]
  have : win m k (k % 16) = sch m (k - 16) := by
    have := win_at m k 16 hk (by omega) (by omega)
    rwa [show (k - 16) % 16 = k % 16 by omega] at this
  rw [this]
end Go.Proofs.YtlnmbfddhdjioaaDoor
