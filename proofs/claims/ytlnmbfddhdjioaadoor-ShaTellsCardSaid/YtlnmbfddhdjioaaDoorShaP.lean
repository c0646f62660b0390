/-
  The sums of texts that are known, reckoned: by numbers, so that the kernel reckons fast. Plain mathematics.
-/
import Derived.Test.YtlnmbfddhdjioaaDoorShaN
namespace Go.Proofs.YtlnmbfddhdjioaaDoor

/-- A number is reckoned before it is handed on. -/
noncomputable def force (x : Nat) (k : Nat → Nat) : Nat := Nat.rec (k 0) (fun n _ => k (Nat.succ n)) x

theorem force_eq (x : Nat) (k : Nat → Nat) : force x k = k x := by cases x <;> rfl

abbrev F8 := Nat → Nat → Nat → Nat → Nat → Nat → Nat → Nat → Nat

noncomputable def rdN (kw : Nat) (ih : F8) : F8 := fun a b c d e f g h =>
  force (Nat.mul e 4294967297) fun ee =>
  force (Nat.add (Nat.add h kw) (Nat.add (Nat.mod (Nat.xor (Nat.shiftRight ee 6) (Nat.xor (Nat.shiftRight ee 11) (Nat.shiftRight ee 25))) 4294967296) (Nat.xor g (Nat.land e (Nat.xor f g))))) fun t =>
  force (Nat.mul a 4294967297) fun aa =>
  force (Nat.mod (Nat.add t (Nat.add (Nat.mod (Nat.xor (Nat.shiftRight aa 2) (Nat.xor (Nat.shiftRight aa 13) (Nat.shiftRight aa 22))) 4294967296) (Nat.xor (Nat.land a b) (Nat.land c (Nat.xor a b))))) 4294967296) fun a' =>
  force (Nat.mod (Nat.add d t) 4294967296) fun e' =>
  ih a' a b c e' e f g

noncomputable def rdsN (kws : List Nat) (fin : F8) : F8 := List.rec fin (fun kw _ ih => rdN kw ih) kws

noncomputable def blksN (kws : List Nat) (n : Nat) (fin : F8) : F8 :=
  Nat.rec fin (fun _ ih => fun a b c d e f g h => rdsN kws (fun a' b' c' d' e' f' g' h' =>
    force (Nat.mod (Nat.add a a') 4294967296) fun a => force (Nat.mod (Nat.add b b') 4294967296) fun b => force (Nat.mod (Nat.add c c') 4294967296) fun c => force (Nat.mod (Nat.add d d') 4294967296) fun d =>
    force (Nat.mod (Nat.add e e') 4294967296) fun e => force (Nat.mod (Nat.add f f') 4294967296) fun f => force (Nat.mod (Nat.add g g') 4294967296) fun g => force (Nat.mod (Nat.add h h') 4294967296) fun h =>
    ih a b c d e f g h) a b c d e f g h) n

/-- The words as numbers, handed on. -/
def W8.on (s : W8) (fin : F8) : Nat := fin s.a.toNat s.b.toNat s.c.toNat s.d.toNat s.e.toNat s.f.toNat s.g.toNat s.h.toNat

/-- A round with the sum of its K and its word. -/
def rnd' (s : W8) (kw : BitVec 32) : W8 := ⟨s.h + mixE s.e s.f s.g + kw + ru s, s.a, s.b, s.c, s.d + (s.h + mixE s.e s.f s.g + kw), s.e, s.f, s.g⟩

theorem rnd_eq (s : W8) (k w : BitVec 32) : rnd s k w = rnd' s (k + w) := by
  unfold rnd rnd' rt
  rw [BitVec.add_assoc (s.h + mixE s.e s.f s.g) k w]

theorem rot_nat (x : BitVec 32) (n : Nat) (hn : n < 32) : (x.toNat * 4294967297) >>> n % 4294967296 = (rr x n).toNat := by
  apply Nat.eq_of_testBit_eq
  intro i
  rw [show (4294967296 : Nat) = 2 ^ 32 from rfl, Nat.testBit_mod_two_pow, Nat.testBit_shiftRight]
  have e : x.toNat * 4294967297 = 2 ^ 32 * x.toNat + x.toNat := by omega
  rw [e, Nat.testBit_two_pow_mul_add _ x.isLt]
  have hr : (rr x n).toNat.testBit i = (rr x n).getLsbD i := rfl
  rw [hr]
  unfold rr
  rw [BitVec.getLsbD_or, BitVec.getLsbD_ushiftRight, BitVec.getLsbD_shiftLeft]
  have hx : ∀ j, x.toNat.testBit j = x.getLsbD j := fun _ => rfl
  simp only [hx]
  by_cases hi : i < 32
  · by_cases h : n + i < 32
    · simp [hi, h, show i < 32 - n by omega]
    · have h2 : x.getLsbD (n + i) = false := BitVec.getLsbD_of_ge x (n + i) (by omega)
      simp [hi, h, h2, show ¬ i < 32 - n by omega]
      congr 1
      omega
  · have h2 : x.getLsbD (n + i) = false := BitVec.getLsbD_of_ge x (n + i) (by omega)
    simp [hi, h2]

theorem xor3_mod (a b c : Nat) : (a ^^^ (b ^^^ c)) % 4294967296 = (a % 4294967296) ^^^ ((b % 4294967296) ^^^ (c % 4294967296)) := by
  rw [show (4294967296 : Nat) = 2 ^ 32 from rfl, Nat.xor_mod_two_pow, Nat.xor_mod_two_pow]

theorem bs1_nat (x : BitVec 32) : ((x.toNat * 4294967297) >>> 6 ^^^ ((x.toNat * 4294967297) >>> 11 ^^^ (x.toNat * 4294967297) >>> 25)) % 4294967296 = (bs1 x).toNat := by
  rw [xor3_mod, rot_nat _ _ (by omega), rot_nat _ _ (by omega), rot_nat _ _ (by omega)]
  unfold bs1
  rw [BitVec.toNat_xor, BitVec.toNat_xor, Nat.xor_assoc]

theorem bs0_nat (x : BitVec 32) : ((x.toNat * 4294967297) >>> 2 ^^^ ((x.toNat * 4294967297) >>> 13 ^^^ (x.toNat * 4294967297) >>> 22)) % 4294967296 = (bs0 x).toNat := by
  rw [xor3_mod, rot_nat _ _ (by omega), rot_nat _ _ (by omega), rot_nat _ _ (by omega)]
  unfold bs0
  rw [BitVec.toNat_xor, BitVec.toNat_xor, Nat.xor_assoc]

theorem chs_nat (e f g : BitVec 32) : (g.toNat ^^^ (e.toNat &&& (f.toNat ^^^ g.toNat))) = (chs e f g).toNat := by
  have h : chs e f g = g ^^^ (e &&& (f ^^^ g)) := by
    unfold chs
    ext i hi
    simp
    cases e[i] <;> cases f[i] <;> cases g[i] <;> rfl
  rw [h, BitVec.toNat_xor, BitVec.toNat_and, BitVec.toNat_xor]

theorem maj_nat (a b c : BitVec 32) : ((a.toNat &&& b.toNat) ^^^ (c.toNat &&& (a.toNat ^^^ b.toNat))) = (maj a b c).toNat := by
  have h : maj a b c = (a &&& b) ^^^ (c &&& (a ^^^ b)) := by
    unfold maj
    ext i hi
    simp
    cases a[i] <;> cases b[i] <;> cases c[i] <;> rfl
  rw [h, BitVec.toNat_xor, BitVec.toNat_and, BitVec.toNat_and, BitVec.toNat_xor]

theorem rdN_eq (kw : BitVec 32) (ih : F8) (s : W8) : s.on (rdN kw.toNat ih) = (rnd' s kw).on ih := by
  unfold W8.on rdN
  simp only [force_eq]
  have e1 := bs1_nat s.e
  have e2 := chs_nat s.e s.f s.g
  have e3 := bs0_nat s.a
  have e4 := maj_nat s.a s.b s.c
  show ih _ _ _ _ _ _ _ _ = ih _ _ _ _ _ _ _ _
  simp only [show ∀ a b, Nat.mul a b = a * b from fun _ _ => rfl, show ∀ a b, Nat.add a b = a + b from fun _ _ => rfl, show ∀ a b, Nat.mod a b = a % b from fun _ _ => rfl, show ∀ a b, Nat.xor a b = a ^^^ b from fun _ _ => rfl, show ∀ a b, Nat.land a b = a &&& b from fun _ _ => rfl, show ∀ a b, Nat.shiftRight a b = a >>> b from fun _ _ => rfl]
  rw [e1, e2, e3, e4]
  unfold rnd' mixE ru mixA
  simp only [BitVec.toNat_add]
  congr 1 <;> omega

theorem rdsN_eq (kws : List (BitVec 32)) (fin : F8) (s : W8) : s.on (rdsN (kws.map (·.toNat)) fin) = (kws.foldl rnd' s).on fin := by
  induction kws generalizing s with
  | nil => rfl
  | cons k kws ih =>
    show s.on (rdN k.toNat (rdsN (kws.map (·.toNat)) fin)) = _
    rw [rdN_eq, ih]
    rfl

theorem rds_fold (K W : Nat → BitVec 32) (s : W8) (n : Nat) : rds K W s n = ((List.range n).map fun t => K t + W t).foldl rnd' s := by
  induction n with
  | zero => rfl
  | succ n ih =>
    rw [List.range_succ, List.map_append, List.foldl_append, ← ih]
    show rnd _ _ _ = rnd' _ _
    exact rnd_eq _ _ _

/-- What n blocks of the same words make. -/
def iterB (kws : List (BitVec 32)) : Nat → W8 → W8
  | 0, s => s
  | n + 1, s => iterB kws n (s.add (kws.foldl rnd' s))

theorem blksN_eq (kws : List (BitVec 32)) (n : Nat) (fin : F8) (s : W8) : s.on (blksN (kws.map (·.toNat)) n fin) = (iterB kws n s).on fin := by
  induction n generalizing s with
  | zero => rfl
  | succ n ih =>
    have h2 : s.on (blksN (kws.map (·.toNat)) (n + 1) fin) = (s.add (kws.foldl rnd' s)).on (blksN (kws.map (·.toNat)) n fin) := by
      unfold W8.on
      show rdsN (kws.map (·.toNat)) (fun a' b' c' d' e' f' g' h' => _) s.a.toNat s.b.toNat s.c.toNat s.d.toNat s.e.toNat s.f.toNat s.g.toNat s.h.toNat = _
      have h3 := fun F => rdsN_eq kws F s
      unfold W8.on at h3
      rw [h3]
      unfold blksN
      simp only [force_eq]
      rfl
    exact h2.trans (ih _)

/-- Are these the words? -/
def isW (A B C D E F G H : Nat) : F8 := fun a b c d e f g h =>
  cond (Nat.beq a A) (cond (Nat.beq b B) (cond (Nat.beq c C) (cond (Nat.beq d D) (cond (Nat.beq e E) (cond (Nat.beq f F) (cond (Nat.beq g G) (cond (Nat.beq h H) 1 0) 0) 0) 0) 0) 0) 0) 0

theorem isW_eq (s r : W8) (h : s.on (isW r.a.toNat r.b.toNat r.c.toNat r.d.toNat r.e.toNat r.f.toNat r.g.toNat r.h.toNat) = 1) : s = r := by
  have key : ∀ (x y : BitVec 32) (k : Nat), cond (Nat.beq x.toNat y.toNat) k 0 = 1 → x = y ∧ k = 1 := by
    intro x y k hk
    cases hb : Nat.beq x.toNat y.toNat with
    | true => rw [hb] at hk; exact ⟨BitVec.eq_of_toNat_eq (Nat.eq_of_beq_eq_true hb), hk⟩
    | false => rw [hb] at hk; cases hk
  unfold W8.on isW at h
  obtain ⟨h1, h⟩ := key _ _ _ h
  obtain ⟨h2, h⟩ := key _ _ _ h
  obtain ⟨h3, h⟩ := key _ _ _ h
  obtain ⟨h4, h⟩ := key _ _ _ h
  obtain ⟨h5, h⟩ := key _ _ _ h
  obtain ⟨h6, h⟩ := key _ _ _ h
  obtain ⟨h7, h⟩ := key _ _ _ h
  obtain ⟨h8, h⟩ := key _ _ _ h
  obtain ⟨a, b, c, d, e, f, g, hh⟩ := s
  obtain ⟨a', b', c', d', e', f', g', hh'⟩ := r
  simp_all

theorem iter_of (kws : List (BitVec 32)) (n : Nat) (s r : W8) (h : Nat.beq (s.on (blksN (kws.map (·.toNat)) n (isW r.a.toNat r.b.toNat r.c.toNat r.d.toNat r.e.toNat r.f.toNat r.g.toNat r.h.toNat))) 1 = true) : iterB kws n s = r := by
  apply isW_eq
  rw [← blksN_eq]
  exact Nat.eq_of_beq_eq_true h

/-- Are these the 64 words of a block? -/
def schOk (m : Nat → BitVec 32) (L : List (BitVec 32)) : Bool :=
  (List.range 64).all fun t => (L.getD t 0#32).toNat == (if t < 16 then m t else L.getD (t - 16) 0#32 + (L.getD (t - 7) 0#32 + sg0 (L.getD (t - 15) 0#32) + sg1 (L.getD (t - 2) 0#32))).toNat

theorem sch_of (m : Nat → BitVec 32) (L : List (BitVec 32)) (h : schOk m L = true) (t : Nat) (ht : t < 64) : sch m t = L.getD t 0#32 := by
  have h' : ∀ t, t < 64 → L.getD t 0#32 = if t < 16 then m t else L.getD (t - 16) 0#32 + (L.getD (t - 7) 0#32 + sg0 (L.getD (t - 15) 0#32) + sg1 (L.getD (t - 2) 0#32)) := by
    intro t ht
    have := List.all_eq_true.1 h t (by simpa using ht)
    exact BitVec.eq_of_toNat_eq (by simpa using this)
  induction t using Nat.strongRecOn with
  | ind t ih =>
    by_cases h16 : t < 16
    · rw [sch_lt _ _ h16, h' t ht, if_pos h16]
    · rw [sch_ge _ _ (by omega), ih (t - 16) (by omega) (by omega), ih (t - 7) (by omega) (by omega), ih (t - 15) (by omega) (by omega), ih (t - 2) (by omega) (by omega), h' t ht, if_neg h16]

theorem blk_of (K m : Nat → BitVec 32) (L kws : List (BitVec 32)) (s r : W8) (hL : schOk m L = true) (hk : kws = (List.range 64).map fun t => K t + L.getD t 0#32) (h : iterB kws 1 s = r) : blk K s m = r := by
  rw [← h]
  show s.add _ = s.add _
  rw [rds_fold, hk]
  congr 2
  apply List.map_congr_left
  intro t ht
  rw [sch_of m L hL t (by simpa using ht)]
end Go.Proofs.YtlnmbfddhdjioaaDoor
