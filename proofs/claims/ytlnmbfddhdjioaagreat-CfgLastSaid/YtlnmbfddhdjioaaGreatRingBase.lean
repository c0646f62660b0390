/-
  Ring, as plain mathematics: rooms where nothing was, sectors, heads, what a sector is.
  Contracts of ring: payloadOf, Head, none, read, numberOf.
-/
import Derived.Test.YtlnmbfddhdjioaaGreatRecQ
import Derived.Test.YtlnmbfddhdjioaaGreatRecMade
namespace Go.Proofs.YtlnmbfddhdjioaaGreat
open Go.RowKit

/-- From a place on, so many bytes are 255. -/
def room (bs : List UInt8) (a n : Nat) : Prop := ∀ j, a ≤ j → j < a + n → bs[j]? = some 255

theorem room.mono {bs : List UInt8} {a n : Nat} (h : room bs a n) (b m : Nat) (h1 : a ≤ b) (h2 : b + m ≤ a + n) : room bs b m := fun j hj hl => h j (by omega) (by omega)

theorem room.of_blank {bs : List UInt8} {a n : Nat} (h : blank (bs.drop a)) (hn : a + n ≤ bs.length) : room bs a n := fun j hj hl => blank_get h hj (by omega)

theorem put_get (bs : List UInt8) (a : Nat) (l : List UInt8) (h : a + l.length ≤ bs.length) (j : Nat) : (put bs a l)[j]? = if a ≤ j ∧ j < a + l.length then l[j - a]? else bs[j]? := by
  have h1 : (bs.take a).length = a := by simp; omega
  unfold put
  by_cases hj : j < a
  · rw [List.getElem?_append_left (by omega), List.getElem?_take, if_pos hj, if_neg (by omega)]
  · rw [List.getElem?_append_right (by omega), h1]
    by_cases hj2 : j < a + l.length
    · rw [List.getElem?_append_left (by omega), if_pos (by omega)]
    · rw [List.getElem?_append_right (by omega), List.getElem?_drop, show a + l.length + (j - a - l.length) = j by omega, if_neg (by omega)]

theorem room_put {bs : List UInt8} {a b n : Nat} {l : List UInt8} (h : room bs b n) (hl : a + l.length ≤ bs.length) (hb : a + l.length ≤ b) : room (put bs a l) b n := fun j hj hlt => by
  rw [put_get _ _ _ hl, if_neg (by omega)]; exact h j hj hlt

theorem span_room (bs : List UInt8) (a : Nat) (l : List UInt8) (h : a + l.length ≤ bs.length) (hb : room bs a l.length) : span bs a l.length (gClear l 255) = put bs a l := by
  apply List.ext_getElem?
  intro j
  rw [span_get, put_get _ _ _ h]
  by_cases hj : a ≤ j ∧ j < a + l.length
  · rw [if_pos hj, hb j hj.1 hj.2]
    simp only [Option.map_some]
    rw [if_pos hj]
    unfold gClear
    rw [clears_blank, List.getD_eq_getElem?_getD, List.getElem?_eq_getElem (by omega)]
    rfl
  · rw [if_neg hj]
    cases bs[j]? with
    | none => rfl
    | some c => simp [hj]

theorem span_roomTorn (bs : List UInt8) (a : Nat) (l m : List UInt8) (h : a + l.length ≤ bs.length) (hb : room bs a l.length) : span bs a l.length (fun i c => gClear l (m.getD i 0) i c) = put bs a (tornL m l) := by
  apply List.ext_getElem?
  intro j
  rw [span_get, put_get _ _ _ (by rw [tornL_length]; exact h), tornL_length]
  by_cases hj : a ≤ j ∧ j < a + l.length
  · rw [if_pos hj, hb j hj.1 hj.2, tornL_get, List.getElem?_eq_getElem (show j - a < l.length by omega)]
    simp only [Option.map_some]
    rw [if_pos hj]
    have hg : l.getD (j - a) 0 = l[j - a]'(by omega) := by rw [List.getD_eq_getElem?_getD, List.getElem?_eq_getElem (by omega)]; rfl
    unfold gClear
    rw [hg]
    rfl
  · rw [if_neg hj]
    cases bs[j]? with
    | none => rfl
    | some c => simp [hj]

theorem program_room {s : FS} (a : Nat) (l : List UInt8) (hd : s.down = false) (hu : s.armed = false) (h4 : a % 4 = 0) (hl4 : l.length % 4 = 0) (hne : l ≠ []) (hle : a + l.length ≤ s.bs.length) (hb : room s.bs a l.length) :
    s.program a l = ({ s with bs := put s.bs a l }, 0) := by
  have hm : s.mayProgram a l.length = 0 := FS.mayProgram_ok hd (by unfold FS.has; omega) (by omega) (by omega)
  rw [FS.program_let hm hne, FS.let_whole hu, Int.toNat_natCast, span_room _ _ _ hle hb]

theorem program_roomArmed {s : FS} (a : Nat) (l : List UInt8) (hd : s.down = false) (hu : s.armed = true) (h0 : s.left ≠ 0) (h4 : a % 4 = 0) (hl4 : l.length % 4 = 0) (hne : l ≠ []) (hle : a + l.length ≤ s.bs.length) (hb : room s.bs a l.length) :
    s.program a l = ({ s with bs := put s.bs a l, left := s.left - 1 }, 0) := by
  have hm : s.mayProgram a l.length = 0 := FS.mayProgram_ok hd (by unfold FS.has; omega) (by omega) (by omega)
  rw [FS.program_let hm hne, Int.toNat_natCast]
  unfold FS.let
  rw [if_neg (fun h => h0 h.2), span_room _ _ _ hle hb, hu, if_pos rfl]

theorem program_roomTorn {s : FS} (a : Nat) (l : List UInt8) (hd : s.down = false) (hu : s.armed = true) (h0 : s.left = 0) (h4 : a % 4 = 0) (hl4 : l.length % 4 = 0) (hne : l ≠ []) (hle : a + l.length ≤ s.bs.length) (hb : room s.bs a l.length) :
    s.program a l = ({ s with bs := put s.bs a (tornL s.mask l), down := true, armed := false, left := 0, mask := [] }, 12) := by
  have hm : s.mayProgram a l.length = 0 := FS.mayProgram_ok hd (by unfold FS.has; omega) (by omega) (by omega)
  rw [FS.program_let hm hne, FS.let_torn hu h0, Int.toNat_natCast, span_roomTorn _ _ _ _ hle hb]

/-- What three programs, one behind the other, make where nothing was. -/
theorem puts3 (bs : List UInt8) (a : Nat) (p x y : List UInt8) (hx : x.length = (bodyB p).length) (hy : y.length ≤ 4) (h : a + sizeN p.length ≤ bs.length) :
    put (put bs a (headB p.length)) (a + 4) x = put bs a (headB p.length ++ x) ∧ put (put bs a (headB p.length ++ x)) (a + 4 + (bodyB p).length) y = put bs a (headB p.length ++ (x ++ y)) := by
  have h0 : (headB p.length).length = 4 := headB_length _
  have h1 : (bodyB p).length = fillN p.length + 4 := bodyB_length p
  have hsz : sizeN p.length = 12 + fillN p.length := rfl
  constructor
  · have := put_put bs a (headB p.length) x (by omega)
    rwa [h0] at this
  · have hy2 : (headB p.length ++ x).length = 4 + (bodyB p).length := by simp [h0, hx]
    have := put_put bs a (headB p.length ++ x) y (by rw [hy2]; omega)
    rwa [hy2, ← Nat.add_assoc, List.append_assoc] at this

/-- A record that is written where nothing was. -/
theorem write_room {s : FS} (a : Nat) (p : List UInt8) (hp : p.length ≤ 4080) (hd : s.down = false) (hu : s.armed = false) (h4 : a % 4 = 0) (hle : a + sizeN p.length ≤ s.bs.length) (hb : room s.bs a (sizeN p.length)) :
    s.write a p = ({ s with bs := put s.bs a (recB p) }, 0) := by
  have hf := fillN_mod p.length
  have h0 : (headB p.length).length = 4 := headB_length _
  have h1 : (bodyB p).length = fillN p.length + 4 := bodyB_length p
  have hsz : sizeN p.length = 12 + fillN p.length := rfl
  have hr : s.readErr a (sizeN p.length) = 0 := by
    unfold FS.readErr
    rw [hd, if_neg (by simp), if_pos (by unfold FS.has; omega)]
  unfold FS.write
  rw [if_neg (by omega), if_neg (fun h => h.2 hr)]
  have e1 := program_room (s := s) a (headB p.length) hd hu h4 (by rw [h0]) (by intro e; rw [e] at h0; cases h0) (by omega) (hb.mono _ _ (by omega) (by omega))
  have l1 : (put s.bs a (headB p.length)).length = s.bs.length := put_length _ _ _ (by omega)
  have b1 : room (put s.bs a (headB p.length)) (a + 4) (bodyB p).length := room_put (hb.mono _ _ (by omega) (by omega)) (by omega) (by omega)
  have e2 := program_room (s := { s with bs := put s.bs a (headB p.length) }) (a + 4) (bodyB p) hd hu (by omega) (by omega) (by intro e; rw [e] at h1; simp at h1) (by simp only [l1]; omega) b1
  obtain ⟨q1, q2⟩ := puts3 s.bs a p (bodyB p) [0, 0, 0, 0] rfl (by decide) hle
  have l2 : (put s.bs a (headB p.length ++ bodyB p)).length = s.bs.length := put_length _ _ _ (by simp [h0]; omega)
  have b2 : room (put s.bs a (headB p.length ++ bodyB p)) (a + 4 + (bodyB p).length) 4 := room_put (hb.mono _ _ (by omega) (by omega)) (by simp [h0]; omega) (by simp [h0]; omega)
  have e3 := program_room (s := { s with bs := put s.bs a (headB p.length ++ bodyB p) }) (a + 4 + (bodyB p).length) [0, 0, 0, 0] hd hu (by omega) (by rfl) (by simp) (by simp only [l2, List.length_cons, List.length_nil]; omega) b2
  simp only [stepP]
  rw [e1]
  simp only [ne_eq, not_true_eq_false, if_false, h0]
  rw [show ((a : Int) + ((4 : Nat) : Int)) = ((a + 4 : Nat) : Int) by omega, e2]
  simp only [not_true_eq_false, if_false]
  rw [q1, show (((a + 4 : Nat) : Int) + (((bodyB p).length : Nat) : Int)) = ((a + 4 + (bodyB p).length : Nat) : Int) by omega, e3]
  simp only [not_true_eq_false, if_false]
  rw [q2]; rfl

/-- A record whose writing is torn at its k-th program, where nothing was. -/
theorem write_roomTorn {s : FS} (a : Nat) (p : List UInt8) (k : Nat) (hk : k < 3) (hp : p.length ≤ 4080) (hd : s.down = false) (hu : s.armed = true) (hl : s.left = (k : Int)) (h4 : a % 4 = 0) (hle : a + sizeN p.length ≤ s.bs.length) (hb : room s.bs a (sizeN p.length)) :
    s.write a p = ({ s with bs := put s.bs a (tornBytes k s.mask p), down := true, armed := false, left := 0, mask := [] }, 12) := by
  have hf := fillN_mod p.length
  have h0 : (headB p.length).length = 4 := headB_length _
  have h1 : (bodyB p).length = fillN p.length + 4 := bodyB_length p
  have hsz : sizeN p.length = 12 + fillN p.length := rfl
  have hr : s.readErr a (sizeN p.length) = 0 := by
    unfold FS.readErr
    rw [hd, if_neg (by simp), if_pos (by unfold FS.has; omega)]
  have hne0 : headB p.length ≠ [] := by intro e; rw [e] at h0; cases h0
  have hne1 : bodyB p ≠ [] := by intro e; rw [e] at h1; simp at h1
  have l1 : (put s.bs a (headB p.length)).length = s.bs.length := put_length _ _ _ (by omega)
  have b1 : room (put s.bs a (headB p.length)) (a + 4) (bodyB p).length := room_put (hb.mono _ _ (by omega) (by omega)) (by omega) (by omega)
  have l2 : (put s.bs a (headB p.length ++ bodyB p)).length = s.bs.length := put_length _ _ _ (by simp [h0]; omega)
  have b2 : room (put s.bs a (headB p.length ++ bodyB p)) (a + 4 + (bodyB p).length) 4 := room_put (hb.mono _ _ (by omega) (by omega)) (by simp [h0]; omega) (by simp [h0]; omega)
  unfold FS.write
  rw [if_neg (by omega), if_neg (fun h => h.2 hr)]
  match k, hk with
  | 0, _ =>
    have e1 := program_roomTorn (s := s) a (headB p.length) hd hu hl h4 (by rw [h0]) hne0 (by omega) (hb.mono _ _ (by omega) (by omega))
    simp only [stepP]
    rw [e1, if_pos (by simp)]
    rfl
  | 1, _ =>
    have e1 := program_roomArmed (s := s) a (headB p.length) hd hu (by omega) h4 (by rw [h0]) hne0 (by omega) (hb.mono _ _ (by omega) (by omega))
    have e2 := program_roomTorn (s := { s with bs := put s.bs a (headB p.length), left := s.left - 1 }) (a + 4) (bodyB p) hd hu (by simp only [hl]; rfl) (by omega) (by omega) hne1 (by simp only [l1]; omega) b1
    obtain ⟨q1, _⟩ := puts3 s.bs a p (tornL s.mask (bodyB p)) [0, 0, 0, 0] (tornL_length _ _) (by decide) hle
    simp only [stepP]
    rw [e1, if_neg (by simp)]
    simp only [h0]
    rw [show ((a : Int) + ((4 : Nat) : Int)) = ((a + 4 : Nat) : Int) by omega, e2, if_pos (by simp)]
    simp only [q1]
    rfl
  | 2, _ =>
    have e1 := program_roomArmed (s := s) a (headB p.length) hd hu (by omega) h4 (by rw [h0]) hne0 (by omega) (hb.mono _ _ (by omega) (by omega))
    have e2 := program_roomArmed (s := { s with bs := put s.bs a (headB p.length), left := s.left - 1 }) (a + 4) (bodyB p) hd hu (by simp only [hl]; decide) (by omega) (by omega) hne1 (by simp only [l1]; omega) b1
    obtain ⟨q1, q2⟩ := puts3 s.bs a p (bodyB p) (tornL s.mask [0, 0, 0, 0]) rfl (by rw [tornL_length]; decide) hle
    have e3 := program_roomTorn (s := { s with bs := put s.bs a (headB p.length ++ bodyB p), left := s.left - 1 - 1 }) (a + 4 + (bodyB p).length) [0, 0, 0, 0] hd hu (by simp only [hl]; rfl) (by omega) (by rfl) (by simp) (by simp only [l2, List.length_cons, List.length_nil]; omega) b2
    simp only [stepP]
    rw [e1, if_neg (by simp)]
    simp only [h0]
    rw [show ((a : Int) + ((4 : Nat) : Int)) = ((a + 4 : Nat) : Int) by omega, e2, if_neg (by simp)]
    simp only
    rw [q1, show (((a + 4 : Nat) : Int) + (((bodyB p).length : Nat) : Int)) = ((a + 4 + (bodyB p).length : Nat) : Int) by omega, e3, if_pos (by simp)]
    simp only [q2]
    rfl

/-- The bytes of a sector. -/
def sec (bs : List UInt8) (k : Nat) : List UInt8 := (bs.drop (k * 256)).take 256

theorem sec_get (bs : List UInt8) (k i : Nat) : (sec bs k)[i]? = if i < 256 then bs[k * 256 + i]? else none := by
  unfold sec
  rw [List.getElem?_take]
  split
  · rw [List.getElem?_drop]
  · rfl

theorem sec_length (bs : List UInt8) (k : Nat) (h : k * 256 + 256 ≤ bs.length) : (sec bs k).length = 256 := by unfold sec; simp; omega

theorem sec_ext {bs cs : List UInt8} {k : Nat} (h : ∀ i, i < 256 → bs[k * 256 + i]? = cs[k * 256 + i]?) : sec bs k = sec cs k := by
  apply List.ext_getElem?
  intro i
  rw [sec_get, sec_get]
  split
  · rename_i hi; exact h i hi
  · rfl

theorem sec_put_other (bs : List UInt8) (k j : Nat) (l : List UInt8) (hj : j ≠ k) (hl : l.length ≤ 256) (h : k * 256 + 256 ≤ bs.length) : sec (put bs (k * 256) l) j = sec bs j :=
  sec_ext fun i hi => by
    rw [put_get _ _ _ (by omega), if_neg]
    intro ⟨h1, h2⟩
    rcases Nat.lt_or_gt_of_ne hj with h3 | h3
    · have : j + 1 ≤ k := h3
      have := Nat.mul_le_mul_right 256 this
      omega
    · have : k + 1 ≤ j := h3
      have := Nat.mul_le_mul_right 256 this
      omega

theorem sec_put_same (bs : List UInt8) (k : Nat) (l : List UInt8) (hl : l.length ≤ 256) (h : k * 256 + 256 ≤ bs.length) : sec (put bs (k * 256) l) k = l ++ (sec bs k).drop l.length := by
  apply List.ext_getElem?
  intro i
  rw [sec_get, put_get _ _ _ (by omega)]
  by_cases hi : i < l.length
  · rw [if_pos (by omega), if_pos (by omega), List.getElem?_append_left hi, show k * 256 + i - k * 256 = i by omega]
  · rw [List.getElem?_append_right (by omega), List.getElem?_drop, show l.length + (i - l.length) = i by omega, sec_get]
    split
    · rw [if_neg (by omega)]
    · rfl

theorem sec_span_other (bs : List UInt8) (k j : Nat) (g : Nat → UInt8 → UInt8) (hj : j ≠ k) : sec (span bs (k * 256) 256 g) j = sec bs j :=
  sec_ext fun i hi => by
    rw [span_get]
    have : ¬ (k * 256 ≤ j * 256 + i ∧ j * 256 + i < k * 256 + 256) := by
      intro ⟨h1, h2⟩
      rcases Nat.lt_or_gt_of_ne hj with h3 | h3
      · have : j + 1 ≤ k := h3
        have := Nat.mul_le_mul_right 256 this
        omega
      · have : k + 1 ≤ j := h3
        have := Nat.mul_le_mul_right 256 this
        omega
    cases bs[j * 256 + i]? with
    | none => rfl
    | some c => simp [this]

theorem sec_erased (bs : List UInt8) (k : Nat) : blank (sec (span bs (k * 256) 256 (gSet 255)) k) := by
  intro c hc
  obtain ⟨i, hi⟩ := List.mem_iff_getElem?.1 hc
  rw [sec_get] at hi
  split at hi
  · rename_i hlt
    rw [span_get] at hi
    cases hb : bs[k * 256 + i]? with
    | none => rw [hb] at hi; cases hi
    | some d =>
      rw [hb, Option.map_some, if_pos (by omega)] at hi
      cases hi; rfl
  · cases hi

theorem sec_room {bs : List UInt8} {k : Nat} (h : blank (sec bs k)) (hl : k * 256 + 256 ≤ bs.length) (n : Nat) (hn : n ≤ 256) : room bs (k * 256) n := fun j hj hlt => by
  have h1 := sec_get bs k (j - k * 256)
  rw [if_pos (by omega), show k * 256 + (j - k * 256) = j by omega] at h1
  have hc : bs[j]? = some bs[j] := List.getElem?_eq_getElem (by omega)
  rw [hc] at h1 ⊢
  rw [h _ (List.mem_iff_getElem?.2 ⟨_, h1⟩)]

theorem blank_drop_le {b : List UInt8} (h : blank b) (n : Nat) : blank (b.drop n) := fun c hc => h c (List.mem_of_mem_drop hc)

/-- The payload of a head. -/
def headP (x : BitVec 32) : List UInt8 := 82 :: be4 x
theorem headP_length (x : BitVec 32) : (headP x).length = 5 := rfl
theorem size5 : sizeN 5 = 20 := by decide
theorem head_length (x : BitVec 32) : (recB (headP x)).length = 20 := by rw [recB_length, headP_length, size5]

/-- A byte behind a number. -/
def pushB (x : BitVec 32) (c : UInt8) : BitVec 32 := x <<< 8 ||| c.toBitVec.setWidth 32

theorem pushB_toNat (x : BitVec 32) (c : UInt8) (h : x.toNat < 16777216) : (pushB x c).toNat = x.toNat * 256 + c.toNat := by
  have hc : c.toNat < 2 ^ 8 := c.toNat_lt
  have e : (c.toBitVec.setWidth 32).toNat = c.toNat := by
    have := byte32 c
    omega
  unfold pushB
  rw [BitVec.toNat_or, e, BitVec.toNat_shiftLeft, Nat.shiftLeft_eq, Nat.mod_eq_of_lt (by omega)]
  have := Nat.shiftLeft_add_eq_or_of_lt hc x.toNat
  rw [Nat.shiftLeft_eq] at this
  exact this.symm

def num4 (a b c d : UInt8) : BitVec 32 := pushB (pushB (pushB (pushB 0#32 a) b) c) d

theorem num4_toNat (a b c d : UInt8) : (num4 a b c d).toNat = ((a.toNat * 256 + b.toNat) * 256 + c.toNat) * 256 + d.toNat := by
  have ha : a.toNat < 256 := a.toNat_lt
  have hb : b.toNat < 256 := b.toNat_lt
  have hc : c.toNat < 256 := c.toNat_lt
  have h1 : (pushB 0#32 a).toNat = a.toNat := by rw [pushB_toNat _ _ (by simp)]; simp
  have h2 : (pushB (pushB 0#32 a) b).toNat = a.toNat * 256 + b.toNat := by rw [pushB_toNat _ _ (by omega), h1]
  have h3 : (pushB (pushB (pushB 0#32 a) b) c).toNat = (a.toNat * 256 + b.toNat) * 256 + c.toNat := by rw [pushB_toNat _ _ (by omega), h2]
  unfold num4
  rw [pushB_toNat _ _ (by omega), h3]

theorem num4_be4 (x : BitVec 32) : num4 (UInt8.ofNat (x.toNat / 2 ^ 24)) (UInt8.ofNat (x.toNat / 2 ^ 16)) (UInt8.ofNat (x.toNat / 2 ^ 8)) (UInt8.ofNat x.toNat) = x := by
  apply BitVec.eq_of_toNat_eq
  rw [num4_toNat, ofNat_toNat, ofNat_toNat, ofNat_toNat, ofNat_toNat]
  have := x.isLt
  omega

def numL : List UInt8 → Option (BitVec 32)
  | [k, a, b, c, d] => if k = 82 then some (num4 a b c d) else none
  | _ => none

theorem numL_headP (x : BitVec 32) : numL (headP x) = some x := by
  show numL [82, _, _, _, _] = _
  simp only [numL, if_true]
  rw [num4_be4]

/-- Of which kind a sector is, and its number. -/
def hdrL (b : List UInt8) : UInt8 × BitVec 32 :=
  if (atL b).kind = 0 then (0, 0#32) else if (atL b).kind = 1 then (match numL (atL b).pay with | some x => (1, x) | none => (2, 0#32)) else (2, 0#32)

theorem writtenN_seen {b : List UInt8} {j : Nat} {c : UInt8} (hj : b[j]? = some c) (hc : c ≠ 255) : writtenN b ≠ 0 := by
  intro h
  have := (blank_drop b 0).2 (by omega)
  rw [List.drop_zero] at this
  exact hc (this c (List.mem_iff_getElem?.2 ⟨_, hj⟩))

theorem atL_item {x : List UInt8 × R4} (h : IsItem x) (t : List UInt8) : atL (x.1 ++ t) = x.2 := by
  obtain ⟨j, c, hj, hc⟩ := h.seen
  have hw : writtenN (x.1 ++ t) ≠ 0 := writtenN_seen (j := j) (by rw [List.getElem?_append_left (List.getElem?_eq_some_iff.1 hj).1]; exact hj) hc
  unfold atL
  rw [if_neg hw]
  exact h.first t

theorem hdrL_blank {b : List UInt8} (h : blank b) : hdrL b = (0, 0#32) := by
  have : atL b = ⟨b.length, 0, []⟩ := by unfold atL; rw [if_pos (writtenN_blank h)]
  unfold hdrL
  rw [this, if_pos rfl]

theorem hdrL_kind0 {b : List UInt8} (h : (hdrL b).1 = 0) : blank b := by
  by_cases hw : writtenN b = 0
  · have := (blank_drop b 0).2 (by omega)
    rwa [List.drop_zero] at this
  · exfalso
    have e : atL b = firstL b := if_neg hw
    unfold hdrL at h
    rw [e] at h
    rcases firstL_kind b with hk | hk | hk
    · rw [hk] at h
      simp only [if_true] at h
      cases hn : numL (firstL b).pay with
      | none => rw [hn] at h; revert h; decide
      | some x => rw [hn] at h; revert h; simp
    · rw [hk, if_neg (by decide), if_neg (by decide)] at h; revert h; decide
    · rw [hk, if_neg (by decide), if_neg (by decide)] at h; revert h; decide

theorem hdrL_head (x : BitVec 32) (t : List UInt8) : hdrL (recB (headP x) ++ t) = (1, x) := by
  have := atL_item (item_rec (headP x) (by rw [headP_length]; decide)) t
  unfold hdrL
  rw [this]
  simp only [numL_headP]
  rfl

theorem hdrL_item {x : List UInt8 × R4} (h : IsItem x) (h0 : x.2.kind ≠ 0) (h1 : x.2.kind ≠ 1) (t : List UInt8) : hdrL (x.1 ++ t) = (2, 0#32) := by
  unfold hdrL
  rw [atL_item h t, if_neg h0, if_neg h1]

theorem hdrL_kinds (b : List UInt8) : hdrL b = (0, 0#32) ∨ (∃ x, hdrL b = (1, x)) ∨ hdrL b = (2, 0#32) := by
  unfold hdrL
  split
  · exact .inl rfl
  · split
    · split
      · exact .inr (.inl ⟨_, rfl⟩)
      · exact .inr (.inr rfl)
    · exact .inr (.inr rfl)

/-- A header of a sector. -/
structure Hdr where
  sector : Int
  kind : UInt8
  num : BitVec 32
deriving DecidableEq

def hdrOf (k : Int) (b : List UInt8) : Hdr := ⟨k, (hdrL b).1, (hdrL b).2⟩
def hdrAt (bs : List UInt8) (k : Nat) : Hdr := hdrOf k (sec bs k)
/-- What Look tells. -/
def lookL (bs : List UInt8) (first count : Nat) : List Hdr := (List.range count).map fun i => hdrAt bs (first + i)

theorem lookL_length (bs : List UInt8) (first count : Nat) : (lookL bs first count).length = count := by simp [lookL]
theorem lookL_get (bs : List UInt8) (first count i : Nat) (h : i < count) : (lookL bs first count)[i]? = some (hdrAt bs (first + i)) := by simp [lookL, h]
theorem lookL_succ (bs : List UInt8) (first k : Nat) : lookL bs first (k + 1) = lookL bs first k ++ [hdrAt bs (first + k)] := by
  unfold lookL; rw [List.range_succ, List.map_append]; rfl
theorem lookL_mem {bs : List UInt8} {first count : Nat} {x : Hdr} : x ∈ lookL bs first count ↔ ∃ k, first ≤ k ∧ k < first + count ∧ x = hdrAt bs k := by
  unfold lookL
  rw [List.mem_map]
  constructor
  · rintro ⟨i, hi, rfl⟩
    exact ⟨first + i, by omega, by have := List.mem_range.1 hi; omega, rfl⟩
  · rintro ⟨k, h1, h2, rfl⟩
    exact ⟨k - first, List.mem_range.2 (by omega), by rw [show first + (k - first) = k by omega]⟩

theorem lookL_congr {cs bs : List UInt8} {first count : Nat} (h : ∀ k, first ≤ k → k < first + count → sec cs k = sec bs k) : lookL cs first count = lookL bs first count := by
  unfold lookL
  apply List.map_congr_left
  intro i hi
  have := List.mem_range.1 hi
  unfold hdrAt
  rw [h _ (by omega) (by omega)]

/-- One more of a list: is it better than the best one so far? -/
def bestStep (counts : Hdr → Bool) (better : Hdr → Hdr → Bool) (acc : Option Hdr) (x : Hdr) : Option Hdr :=
  if counts x = true ∧ (∀ c, acc = some c → better x c = true) then some x else acc
def bestL (counts : Hdr → Bool) (better : Hdr → Hdr → Bool) (l : List Hdr) : Option Hdr := l.foldl (bestStep counts better) none

theorem bestL_snoc (counts : Hdr → Bool) (better : Hdr → Hdr → Bool) (l : List Hdr) (x : Hdr) : bestL counts better (l ++ [x]) = bestStep counts better (bestL counts better l) x := by
  unfold bestL; rw [List.foldl_append]; rfl

theorem bestL_take (counts : Hdr → Bool) (better : Hdr → Hdr → Bool) (l : List Hdr) (k : Nat) (x : Hdr) (h : l[k]? = some x) : bestL counts better (l.take (k + 1)) = bestStep counts better (bestL counts better (l.take k)) x := by
  rw [List.take_add_one, h]; exact bestL_snoc _ _ _ _

/-- What the best one of a list is. -/
def IsBest (counts : Hdr → Bool) (key : Hdr → Int) (l : List Hdr) : Option Hdr → Prop
  | none => ∀ y ∈ l, counts y = false
  | some c => c ∈ l ∧ counts c = true ∧ ∀ y ∈ l, counts y = true → key c ≤ key y

theorem IsBest.step {counts : Hdr → Bool} {better : Hdr → Hdr → Bool} {key : Hdr → Int} (hb : ∀ a b, better a b = decide (key a < key b)) {l : List Hdr} {acc : Option Hdr} (h : IsBest counts key l acc) (x : Hdr) :
    IsBest counts key (l ++ [x]) (bestStep counts better acc x) := by
  unfold bestStep
  by_cases hc : counts x = true
  · cases acc with
    | none =>
      rw [if_pos ⟨hc, fun c hc => by cases hc⟩]
      refine ⟨by simp, hc, fun y hy hcy => ?_⟩
      rcases List.mem_append.1 hy with hy | hy
      · rw [h y hy] at hcy; cases hcy
      · simp at hy; subst hy; exact Int.le_refl _
    | some c =>
      obtain ⟨h1, h2, h3⟩ := h
      by_cases hlt : key x < key c
      · rw [if_pos ⟨hc, fun d hd => by cases hd; rw [hb]; exact decide_eq_true hlt⟩]
        refine ⟨by simp, hc, fun y hy hcy => ?_⟩
        rcases List.mem_append.1 hy with hy | hy
        · have := h3 y hy hcy; omega
        · simp at hy; subst hy; exact Int.le_refl _
      · rw [if_neg (fun hh => hlt (by have := hh.2 c rfl; rw [hb] at this; exact of_decide_eq_true this))]
        refine ⟨List.mem_append.2 (.inl h1), h2, fun y hy hcy => ?_⟩
        rcases List.mem_append.1 hy with hy | hy
        · exact h3 y hy hcy
        · simp at hy; subst hy; omega
  · rw [if_neg (fun hh => hc hh.1)]
    have hf : counts x = false := by simpa using hc
    cases acc with
    | none =>
      intro y hy
      rcases List.mem_append.1 hy with hy | hy
      · exact h y hy
      · simp at hy; subst hy; exact hf
    | some c =>
      obtain ⟨h1, h2, h3⟩ := h
      refine ⟨List.mem_append.2 (.inl h1), h2, fun y hy hcy => ?_⟩
      rcases List.mem_append.1 hy with hy | hy
      · exact h3 y hy hcy
      · simp at hy; subst hy; rw [hf] at hcy; cases hcy

theorem isBest_bestL {counts : Hdr → Bool} {better : Hdr → Hdr → Bool} {key : Hdr → Int} (hb : ∀ a b, better a b = decide (key a < key b)) (l : List Hdr) : IsBest counts key l (bestL counts better l) := by
  have h : ∀ (l seen : List Hdr) (acc : Option Hdr), IsBest counts key seen acc → IsBest counts key (seen ++ l) (l.foldl (bestStep counts better) acc) := by
    intro l
    induction l with
    | nil => intro seen acc h; rw [List.append_nil]; exact h
    | cons x l ih =>
      intro seen acc h
      have := ih (seen ++ [x]) _ (h.step hb x)
      rw [List.append_assoc] at this
      exact this
  exact h l [] none (fun y hy => by cases hy)

def liveH (h : Hdr) : Bool := h.kind == 1
def newerH (a b : Hdr) : Bool := decide (b.num.toNat < a.num.toNat)
def newestL (l : List Hdr) : Option Hdr := bestL liveH newerH l
theorem newest_best (l : List Hdr) : IsBest liveH (fun h => -(h.num.toNat : Int)) l (newestL l) :=
  isBest_bestL (fun a b => decide_eq_decide.2 (by omega)) l

/-- The wear of a sector; 0, of one that is not there. -/
def FS.wearOf (s : FS) (k : Int) : Int := if 0 ≤ k ∧ k < s.wear.length then s.wear.getD k.toNat 0 else 0
def otherH (but : Int) (h : Hdr) : Bool := h.sector != but
def FS.fresher (s : FS) (a b : Hdr) : Bool := decide (s.wearOf a.sector < s.wearOf b.sector)
def FS.pick (s : FS) (but : Int) (l : List Hdr) : Option Hdr := bestL (otherH but) s.fresher l
theorem pick_best (s : FS) (but : Int) (l : List Hdr) : IsBest (otherH but) (fun h => s.wearOf h.sector) l (s.pick but l) :=
  isBest_bestL (fun _ _ => rfl) l

/-- What Clear and Open make of a flash, and answer. -/
def FS.clear (s : FS) (k : Int) : FS × Int :=
  if s.down = true then (s, 12) else if ¬ (0 ≤ k ∧ k < s.wear.length) then (s, 10) else if (hdrL (sec s.bs k.toNat)).1 = 0 then (s, 0) else s.erase k
def FS.opened (s : FS) (k : Int) (x : BitVec 32) : FS × Int :=
  if s.down = true then (s, 12) else if ¬ (0 ≤ k ∧ k < s.wear.length) then (s, 10) else s.write (k * 256) (headP x)
end Go.Proofs.YtlnmbfddhdjioaaGreat

namespace Go.Proofs.YtlnmbfddhdjioaaGreat
open Go.RowKit

set_option maxHeartbeats 400000 in
theorem payloadOf_any (w : World) (x : BitVec 32) :
    Calls Tryz.prog 48 #[uv x] w fun e w' => e = .returned (.slice (some ⟨w.heap.size, 0, none⟩) 5 5) ∧ w.alloc (.cells ((headP x).map bv).toArray 5) = w' := by
  have d1 : (x.toNat : Int) / (2 : Int) ^ 24 = ((x.toNat / 2 ^ 24 : Nat) : Int) := by rw [Int.natCast_ediv, Int.natCast_pow]; rfl
  have d2 : (x.toNat : Int) / (2 : Int) ^ 16 = ((x.toNat / 2 ^ 16 : Nat) : Int) := by rw [Int.natCast_ediv, Int.natCast_pow]; rfl
  have d3 : (x.toNat : Int) / (2 : Int) ^ 8 = ((x.toNat / 2 ^ 8 : Nat) : Int) := by rw [Int.natCast_ediv, Int.natCast_pow]; rfl
  have f1 : (x.toNat : Int) / (16777216 : Int) = ((x.toNat / 2 ^ 24 : Nat) : Int) := d1
  have f2 : (x.toNat : Int) / (65536 : Int) = ((x.toNat / 2 ^ 16 : Nat) : Int) := d2
  have f3 : (x.toNat : Int) / (256 : Int) = ((x.toNat / 2 ^ 8 : Nat) : Int) := d3
  have b1 := byte_wrap (x.toNat / 2 ^ 24)
  have b2 := byte_wrap (x.toNat / 2 ^ 16)
  have b3 := byte_wrap (x.toNat / 2 ^ 8)
  have b4 := byte_wrap x.toNat
  obtain ⟨c1, hc1⟩ : ∃ c, c = UInt8.ofNat (x.toNat / 2 ^ 24) := ⟨_, rfl⟩
  obtain ⟨c2, hc2⟩ : ∃ c, c = UInt8.ofNat (x.toNat / 2 ^ 16) := ⟨_, rfl⟩
  obtain ⟨c3, hc3⟩ : ∃ c, c = UInt8.ofNat (x.toNat / 2 ^ 8) := ⟨_, rfl⟩
  obtain ⟨c4, hc4⟩ : ∃ c, c = UInt8.ofNat x.toNat := ⟨_, rfl⟩
  have HB := Lib.hid (show headP x = [82, c1, c2, c3, c4] by rw [hc1, hc2, hc3, hc4]; rfl)
  rw [← hc1] at b1
  rw [← hc2] at b2
  rw [← hc3] at b3
  rw [← hc4] at b4
  clear hc1 hc2 hc3 hc4
  rw [HB.out]
  clear HB
  generalize x.toNat / 2 ^ 24 = q1 at *
  generalize x.toNat / 2 ^ 16 = q2 at *
  generalize x.toNat / 2 ^ 8 = q3 at *
  unfold uv
  generalize x.toNat = q at *
  go_enter Tryz.func48, Tryz.ntmps48
  go_wp2
  go_ret
  exact ⟨rfl, by simp [bv]⟩

set_option maxHeartbeats 400000 in
theorem Head_any (w : World) : Calls Tryz.prog 57 #[] w fun e w' => e = .returned (.int .i64 20) ∧ Keeps [] w w' := by
  have HS := Lib.hid (fun w => Size_ok w 5 (by decide))
  rw [size5] at HS
  go_enter Tryz.func57, Tryz.ntmps57
  go_wp2_with (first | (go_at_call 48; refine (payloadOf_any _ 0#32).mono ?_; rintro e w' ⟨rfl, rfl⟩) | (go_at_call 28; refine (HS.out _).mono ?_; rintro e w' ⟨rfl, rfl⟩))
  go_ret
  exact ⟨rfl, Keeps.alloc [] _ _⟩

set_option maxHeartbeats 400000 in
theorem none_yes {F B W M : Nat} {s : FS} (w : World) (h : FlashAt w F B W M s) (h0 : 0 < s.wear.length) :
    Calls Tryz.prog 39 #[.pointer (some ⟨F, 0, none⟩)] w fun e w' => e = .returned (.bool false) ∧ w = w' := by
  have HS := Lib.hid (Sectors_yes w h)
  have hne : (((s.wear.length : Int) == 0) : Bool) = false := by simp; intro e; rw [e] at h0; cases h0
  generalize s.wear.length = n at *
  clear h h0
  go_enter Tryz.func39, Tryz.ntmps39
  go_wp2_with (go_at_call 40; refine HS.out.mono ?_; rintro e w' ⟨rfl, rfl⟩)
  go_ret
  exact ⟨rfl, rfl⟩

set_option maxHeartbeats 400000 in
theorem none_not (p : Option Addr) (w : World) (h : NotMade w p) :
    Calls Tryz.prog 39 #[.pointer p] w fun e w' => e = .returned (.bool true) ∧ w = w' := by
  go_enter Tryz.func39, Tryz.ntmps39
  go_wp2_with (go_at_call 40; refine (Sectors_not _ _ h).mono ?_; rintro e w' ⟨rfl, rfl⟩)
  go_ret
  exact ⟨rfl, rfl⟩

set_option maxHeartbeats 400000 in
theorem rread_not (p : Option Addr) (w : World) (h : NotMade w p) (k : Int) :
    Calls Tryz.prog 41 #[.pointer p, .int .i64 k] w fun e w' => e = .returned (.tuple #[.slice none 0 0, .int .i64 1]) ∧ w = w' := by
  by_cases h0 : 0 ≤ k
  all_goals
    go_enter Tryz.func41, Tryz.ntmps41
    go_wp2_with (first | (go_at_call 40; refine (Sectors_not _ _ h).mono ?_; rintro e w' ⟨rfl, rfl⟩) | (go_at_call 36; refine (Read_not _ _ h _ _).mono ?_; rintro e w' ⟨rfl, rfl⟩))
    go_ret2
    exact ⟨rfl, rfl⟩

/-- read, of a sector that is there. -/
theorem rread_ok {F B W M : Nat} {s : FS} (w : World) (hF : FlashAt w F B W M s) (k : Nat) (hd : s.down = false) (hk : k < s.wear.length) :
    Calls Tryz.prog 41 #[.pointer (some ⟨F, 0, none⟩), .int .i64 k] w fun e w' => ∃ b c, e = .returned (.tuple #[.slice (some ⟨b, 0, none⟩) 256 c, .int .i64 0]) ∧ w.heap.size ≤ b ∧
      Row w' b 5 ((sec s.bs k).map bv) c ∧ Keeps [] w w' := by
  have hlen := hF.len
  have hfew := hF.few
  have HR := Lib.hid (Read_ok w hF ((k * 256 : Nat) : Int) 256 hd (by unfold FS.has; omega))
  have hp : s.part ((k * 256 : Nat) : Int) 256 = sec s.bs k := by unfold FS.part sec; rw [Int.toNat_natCast]; rfl
  rw [hp] at HR
  have HS := Lib.hid (Sectors_yes w hF)
  have hlt : (k : Int) < s.wear.length := by omega
  have h0 : (0 : Int) ≤ k := by omega
  have hm : (k : Int) * 256 = ((k * 256 : Nat) : Int) := by omega
  clear hF hlen hd hk hp
  generalize s.wear.length = n at *
  generalize sec s.bs k = l at *
  generalize k * 256 = q at *
  go_enter Tryz.func41, Tryz.ntmps41
  go_wp2_with (first | (go_at_call 40; refine HS.out.mono ?_; rintro e w' ⟨rfl, rfl⟩) | (go_at_call 36; refine HR.out.mono ?_; rintro e w' ⟨b, c, rfl, hb, hr, hk⟩; have HB := Lib.hid hr; have HK := Lib.hid hk; clear hr hk))
  go_ret2
  exact ⟨b, c, rfl, hb, HB.out, HK.out⟩

/-- What read tells of sectors that cannot be read. -/
def FS.readNo (s : FS) (k : Int) : Int := if s.down = true then 12 else if ¬ (0 ≤ k ∧ k < s.wear.length) then 10 else 0

theorem FS.readNo_zero {s : FS} {k : Int} : s.readNo k = 0 ↔ s.down = false ∧ 0 ≤ k ∧ k < s.wear.length := by
  unfold FS.readNo
  cases s.down
  · simp
  · simp

theorem rread_no {F B W M : Nat} {s : FS} (w : World) (hF : FlashAt w F B W M s) (k : Int) (hk : k ≤ 9223372036854775807) (h : s.readNo k ≠ 0) :
    Calls Tryz.prog 41 #[.pointer (some ⟨F, 0, none⟩), .int .i64 k] w fun e w' => e = .returned (.tuple #[.slice none 0 0, .int .i64 (s.readNo k)]) ∧ w = w' := by
  have hlen := hF.len
  have hfew := hF.few
  have HS := Lib.hid (Sectors_yes w hF)
  have HR := Lib.hid (show ∀ a : Int, (s.down = true ∨ a = -1) → Calls Tryz.prog 36 #[.pointer (some ⟨F, 0, none⟩), .int .i64 a, .int .i64 256] w fun e w' => e = .returned (.tuple #[.slice none 0 0, .int .i64 (if s.down = true then 12 else 10)]) ∧ w = w' from fun a ha => by
    cases hd : s.down with
    | true => exact Read_down w hF a 256 hd
    | false =>
      rw [hd] at ha
      rcases ha with ha | rfl
      · cases ha
      · exact Read_out w hF (-1) 256 (by decide) hd (by unfold FS.has; omega))
  have hx : s.readNo k = if s.down = true then 12 else 10 := by
    unfold FS.readNo at h ⊢
    cases hd : s.down with
    | true => rfl
    | false =>
      rw [hd] at h
      rw [if_neg (by simp)] at h ⊢
      by_cases hi : 0 ≤ k ∧ k < s.wear.length
      · rw [if_neg (fun q => q hi)] at h; exact absurd rfl h
      · rw [if_pos hi, if_neg (by simp)]
  rw [hx]
  by_cases h1 : 0 ≤ k ∧ k < s.wear.length
  · have hd : s.down = true := by
      cases hd : s.down with
      | true => rfl
      | false =>
        exfalso; apply h
        exact FS.readNo_zero.2 ⟨hd, h1⟩
    have HRR := Lib.hid (fun a => HR.out a (.inl hd))
    clear HR hx h hd hF hlen
    obtain ⟨h2, h3⟩ := h1
    have hm : k * 256 ≤ 65536 := by omega
    generalize (if s.down = true then (12 : Int) else 10) = r at *
    generalize s.wear.length = n at *
    go_enter Tryz.func41, Tryz.ntmps41
    go_wp2_with (first | (go_at_call 40; refine HS.out.mono ?_; rintro e w' ⟨rfl, rfl⟩) | (go_at_call 36; refine (HRR.out _).mono ?_; rintro e w' ⟨rfl, rfl⟩))
    go_ret2
    exact ⟨rfl, rfl⟩
  · have HRR := Lib.hid (HR.out (-1) (.inr rfl))
    clear HR hx h hF hlen
    generalize (if s.down = true then (12 : Int) else 10) = r at *
    generalize s.wear.length = n at *
    by_cases h2 : 0 ≤ k
    · have h3 : ¬ k < (n : Int) := fun h3 => h1 ⟨h2, h3⟩
      clear h1
      go_enter Tryz.func41, Tryz.ntmps41
      go_wp2_with (first | (go_at_call 40; refine HS.out.mono ?_; rintro e w' ⟨rfl, rfl⟩) | (go_at_call 36; refine HRR.out.mono ?_; rintro e w' ⟨rfl, rfl⟩))
      go_ret2
      exact ⟨rfl, rfl⟩
    · clear h1
      go_enter Tryz.func41, Tryz.ntmps41
      go_wp2_with (first | (go_at_call 40; refine HS.out.mono ?_; rintro e w' ⟨rfl, rfl⟩) | (go_at_call 36; refine HRR.out.mono ?_; rintro e w' ⟨rfl, rfl⟩))
      go_ret2
      exact ⟨rfl, rfl⟩

set_option maxHeartbeats 400000 in
theorem numberOf_short (w : World) (v : Value) (p : List UInt8) (M : Nat) (h : Reads w v p M) (h5 : p.length ≠ 5) :
    Calls Tryz.prog 71 #[v] w fun e w' => e = .returned (.tuple #[uv 0#32, .bool false]) ∧ Keeps [] w w' := by
  obtain ⟨a, cap, rfl, _⟩ := h.shape
  have hne : (((p.length : Int) != 5) : Bool) = true := by simp; omega
  clear h h5
  generalize p.length = n at *
  go_enter Tryz.func71, Tryz.ntmps71
  go_wp2_with (go_at_call 48; refine (payloadOf_any _ 0#32).mono ?_; rintro e w' ⟨rfl, rfl⟩)
  go_ret2
  exact ⟨rfl, Keeps.alloc [] _ _⟩

set_option maxHeartbeats 400000 in
theorem numberOf_other (w : World) (v : Value) (k a b c d : UInt8) (M : Nat) (h : Reads w v [k, a, b, c, d] M) (hk : k ≠ 82) :
    Calls Tryz.prog 71 #[v] w fun e w' => e = .returned (.tuple #[uv 0#32, .bool false]) ∧ Keeps [] w w' := by
  obtain ⟨off, cap, rfl, _, hc⟩ := h.at (by simp)
  have c0 := hc 0 k rfl
  rw [Nat.add_zero] at c0
  have hne : (((k.toNat : Int) != 82) : Bool) = true := u8_ne k 82 hk
  have c0' : (w.alloc (.cells ((headP 0#32).map bv).toArray 5)).cell? ⟨M, off, none⟩ = some (.int .u8 (k.toNat : Int)) := (Keeps.alloc [] w _).cell c0 (by simp)
  clear h hc hk c0
  generalize (k.toNat : Int) = z at *
  go_enter Tryz.func71, Tryz.ntmps71
  go_wp2_with (go_at_call 48; refine (payloadOf_any _ 0#32).mono ?_; rintro e w' ⟨rfl, rfl⟩)
  go_ret2
  exact ⟨rfl, Keeps.alloc [] _ _⟩

def numAcc (l : List UInt8) (k : Nat) : BitVec 32 := (l.take k).foldl pushB 0#32

theorem numAcc_succ (l : List UInt8) (k : Nat) (c : UInt8) (h : l[k]? = some c) : numAcc l (k + 1) = pushB (numAcc l k) c := by
  unfold numAcc; rw [List.take_add_one, h, List.foldl_append]; rfl

set_option maxRecDepth 100000 in
set_option maxHeartbeats 1000000 in
theorem numberOf_head (w : World) (v : Value) (a b c d : UInt8) (M : Nat) (h : Reads w v [82, a, b, c, d] M) :
    Calls Tryz.prog 71 #[v] w fun e w' => e = .returned (.tuple #[uv (num4 a b c d), .bool true]) ∧ Keeps [] w w' := by
  obtain ⟨off, cap, rfl, hcap, hc⟩ := h.at (by simp)
  have hcap5 : 5 ≤ cap := by simpa using hcap
  have hsl : ∀ w, (Instr.slice 23 (.slice (some ⟨M, off, none⟩) 5 cap) (some (.int .i64 1)) none none).run Tryz.prog w = .ok (.slice (some ⟨M, off + 1, none⟩) 4 (cap - 1)) w := fun w => by
    rw [run_slice_l w 23 _ 5 cap underBytes .i64 1 (by omega) (by omega)]
    rw [elemBytes, sizeByte]
    simp only [Result.andThen, sliced]
    rw [if_neg (by omega)]
    rfl
  have hnum : numAcc [a, b, c, d] 4 = num4 a b c d := rfl
  have hmul : ∀ x : BitVec 32, IntKind.u32.wrap ((x.toNat : Int) * (2 : Int) ^ 8) = ((x <<< 8).toNat : Int) := fun x => shl32 x 8
  have hmul2 : ∀ x : BitVec 32, (x.toNat : Int) * (256 : Int) % (4294967296 : Int) = ((x <<< 8).toNat : Int) := fun x => by
    rw [BitVec.toNat_shiftLeft, Nat.shiftLeft_eq]; omega
  have hc2 : ∀ i x, [a, b, c, d][i]? = some x → w.cell? ⟨M, off + 1 + i, none⟩ = some (bv x) := fun i x hx => by
    have := hc (i + 1) x (by simpa using hx)
    rwa [show off + (i + 1) = off + 1 + i by omega] at this
  have c0 := hc 0 82 rfl
  rw [Nat.add_zero] at c0
  obtain ⟨V, hV⟩ : ∃ V, V = w.alloc (.cells ((headP 0#32).map bv).toArray 5) := ⟨_, rfl⟩
  have kV : Keeps [] w V := by rw [hV]; exact Keeps.alloc [] _ _
  have c0' : V.cell? ⟨M, off, none⟩ = some (.int .u8 82) := kV.cell c0 (by simp)
  have HC := Lib.hid (fun i x (hx : [a, b, c, d][i]? = some x) => kV.cell (hc2 i x hx) (by simp))
  have HV := Lib.hid hV
  have KV := Lib.hid kV
  have HN := Lib.hid hnum
  have HP := Lib.hid (payloadOf_any w 0#32)
  rw [← hV] at HP
  clear h hc hc2 hcap c0 hV kV hnum
  simp only [List.length_cons, List.length_nil, Nat.reduceAdd]
  go_enter Tryz.func71, Tryz.ntmps71
  go_wp2_with (go_at_call 48; refine HP.out.mono ?_; rintro e w' ⟨rfl, rfl⟩)
  go_loopw [4, 6, 21] (fun n b' i wr => ∃ k : Nat, k ≤ 4 ∧ i = .int .i64 k ∧ n = uv (numAcc [a, b, c, d] k) ∧ wr = V) (fun _ _ i _ => 4 - (intOf i).toNat)
  case atStart => exact ⟨0, by omega, rfl, rfl, rfl⟩
  case round =>
    obtain ⟨k, hk, rfl, rfl, rfl⟩ := hrel
    by_cases hlt : k < 4
    · obtain ⟨x, hx⟩ : ∃ x, [a, b, c, d][k]? = some x := ⟨_, List.getElem?_eq_getElem (by simpa using hlt)⟩
      have q0 := HC.out k x hx
      unfold bv at q0
      have HS := Lib.hid (numAcc_succ [a, b, c, d] k x hx)
      have m1 := hmul (numAcc [a, b, c, d] k)
      have m3 := hmul2 (numAcc [a, b, c, d] k)
      obtain ⟨y, hy⟩ : ∃ y : BitVec 32, y = x.toBitVec.setWidth 32 := ⟨_, rfl⟩
      have e1 : IntKind.u32.wrap (x.toNat : Int) = (y.toNat : Int) := by
        rw [hy, byte32 x]; exact wrap_nat32 _
      have e2 : (x.toNat : Int) = (y.toNat : Int) := by rw [hy]; exact byte32 x
      have m2 := bits_or32 (numAcc [a, b, c, d] k <<< 8) y
      have HY := Lib.hid (show pushB (numAcc [a, b, c, d] k) x = numAcc [a, b, c, d] k <<< 8 ||| y by rw [hy]; rfl)
      rw [e2] at q0
      have hki : (k : Int) < 4 := by omega
      clear hx hy e1 e2
      generalize hA : numAcc [a, b, c, d] k = A at *
      generalize hS8 : A <<< 8 = S8 at *
      generalize hO : S8 ||| y = O at *
      go_wp2
      go_roundw
      case rel => exact ⟨k + 1, by omega, by go_num, by rw [HS.out, HY.out], by trivial⟩
      case measure => simp [intOf]; omega
    · obtain rfl : k = 4 := by omega
      rw [HN.out]
      go_wp2
      go_ret2
      exact ⟨rfl, KV.out⟩

/-- numberOf, of whatever bytes. -/
theorem numberOf_any (w : World) (v : Value) (p : List UInt8) (M : Nat) (h : Reads w v p M) :
    Calls Tryz.prog 71 #[v] w fun e w' => e = .returned (.tuple #[uv ((numL p).getD 0#32), .bool (numL p).isSome]) ∧ Keeps [] w w' := by
  by_cases h5 : p.length = 5
  · match p, h5, h with
    | [k, a, b, c, d], _, h =>
      by_cases hk : k = 82
      · subst hk
        have := numberOf_head w v a b c d M h
        simpa [numL] using this
      · have := numberOf_other w v k a b c d M h hk
        simpa [numL, hk] using this
  · have hn : numL p = none := by
      unfold numL
      split
      · simp at h5
      · rfl
    rw [hn]
    exact numberOf_short w v p M h h5
end Go.Proofs.YtlnmbfddhdjioaaGreat
