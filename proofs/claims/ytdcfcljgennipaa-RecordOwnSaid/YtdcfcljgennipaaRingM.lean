/-
  Ring, as plain mathematics: rooms where nothing was, sectors, heads, what a sector is.
-/
import Derived.Test.YtdcfcljgennipaaRecQ
import Derived.Test.YtdcfcljgennipaaRecJ
namespace Go.Proofs.Ytdcfcljgennipaa
open Go.RowKit

/-- From a place on, so many bytes are 255. -/
def room (bs : List UInt8) (a n : Nat) : Prop := ∀ j, a ≤ j → j < a + n → bs[j]? = some 255

theorem room.mono {bs : List UInt8} {a n : Nat} (h : room bs a n) (b m : Nat) (h1 : a ≤ b) (h2 : b + m ≤ a + n) : room bs b m := fun j hj hl => h j (by omega) (by omega)

theorem room.of_blank {bs : List UInt8} {a n : Nat} (h : blank (bs.drop a)) (hn : a + n ≤ bs.length) : room bs a n := fun j hj hl => blank_get h hj (by omega)

theorem put_get (bs : List UInt8) (a : Nat) (l : List UInt8) (h : a + l.length ≤ bs.length) (j : Nat) : (put bs a l)[j]? = if a ≤ j ∧ j < a + l.length then l[j - a]? else bs[j]? := by
  have h1 : (bs.take a).length = a := by simp; omega
  unfold put
  by_cases hj : j < a
  · rw [List.getElem?_append_left (by omega), List.getElem?_take, if_pos hj, if_neg (by omega)]
  · rw [List.getElem?_append_right (by omega), h1]
    by_cases hj2 : j < a + l.length
    · rw [List.getElem?_append_left (by omega), if_pos (by omega)]
    · rw [List.getElem?_append_right (by omega), List.getElem?_drop, show a + l.length + (j - a - l.length) = j by omega, if_neg (by omega)]

theorem room_put {bs : List UInt8} {a b n : Nat} {l : List UInt8} (h : room bs b n) (hl : a + l.length ≤ bs.length) (hb : a + l.length ≤ b) : room (put bs a l) b n := fun j hj hlt => by
  rw [put_get _ _ _ hl, if_neg (by omega)]; exact h j hj hlt

theorem span_room (bs : List UInt8) (a : Nat) (l : List UInt8) (h : a + l.length ≤ bs.length) (hb : room bs a l.length) : span bs a l.length (gClear l 255) = put bs a l := by
  apply List.ext_getElem?
  intro j
  rw [span_get, put_get _ _ _ h]
  by_cases hj : a ≤ j ∧ j < a + l.length
  · rw [if_pos hj, hb j hj.1 hj.2]
    simp only [Option.map_some]
    rw [if_pos hj]
    unfold gClear
    rw [clears_blank, List.getD_eq_getElem?_getD, List.getElem?_eq_getElem (by omega)]
    rfl
  · rw [if_neg hj]
    cases bs[j]? with
    | none => rfl
    | some c => simp [hj]

theorem span_roomTorn (bs : List UInt8) (a : Nat) (l m : List UInt8) (h : a + l.length ≤ bs.length) (hb : room bs a l.length) : span bs a l.length (fun i c => gClear l (m.getD i 0) i c) = put bs a (tornL m l) := by
  apply List.ext_getElem?
  intro j
  rw [span_get, put_get _ _ _ (by rw [tornL_length]; exact h), tornL_length]
  by_cases hj : a ≤ j ∧ j < a + l.length
  · rw [if_pos hj, hb j hj.1 hj.2, tornL_get, List.getElem?_eq_getElem (show j - a < l.length by omega)]
    simp only [Option.map_some]
    rw [if_pos hj]
    have hg : l.getD (j - a) 0 = l[j - a]'(by omega) := by rw [List.getD_eq_getElem?_getD, List.getElem?_eq_getElem (by omega)]; rfl
    unfold gClear
    rw [hg]
    rfl
  · rw [if_neg hj]
    cases bs[j]? with
    | none => rfl
    | some c => simp [hj]

theorem program_room {s : FS} (a : Nat) (l : List UInt8) (hd : s.down = false) (hu : s.armed = false) (h4 : a % 4 = 0) (hl4 : l.length % 4 = 0) (hne : l ≠ []) (hle : a + l.length ≤ s.bs.length) (hb : room s.bs a l.length) :
    s.program a l = ({ s with bs := put s.bs a l }, 0) := by
  have hm : s.mayProgram a l.length = 0 := FS.mayProgram_ok hd (by unfold FS.has; omega) (by omega) (by omega)
  rw [FS.program_let hm hne, FS.let_whole hu, Int.toNat_natCast, span_room _ _ _ hle hb]

theorem program_roomArmed {s : FS} (a : Nat) (l : List UInt8) (hd : s.down = false) (hu : s.armed = true) (h0 : s.left ≠ 0) (h4 : a % 4 = 0) (hl4 : l.length % 4 = 0) (hne : l ≠ []) (hle : a + l.length ≤ s.bs.length) (hb : room s.bs a l.length) :
    s.program a l = ({ s with bs := put s.bs a l, left := s.left - 1 }, 0) := by
  have hm : s.mayProgram a l.length = 0 := FS.mayProgram_ok hd (by unfold FS.has; omega) (by omega) (by omega)
  rw [FS.program_let hm hne, Int.toNat_natCast]
  unfold FS.let
  rw [if_neg (fun h => h0 h.2), span_room _ _ _ hle hb, hu, if_pos rfl]

theorem program_roomTorn {s : FS} (a : Nat) (l : List UInt8) (hd : s.down = false) (hu : s.armed = true) (h0 : s.left = 0) (h4 : a % 4 = 0) (hl4 : l.length % 4 = 0) (hne : l ≠ []) (hle : a + l.length ≤ s.bs.length) (hb : room s.bs a l.length) :
    s.program a l = ({ s with bs := put s.bs a (tornL s.mask l), down := true, armed := false, left := 0, mask := [] }, 12) := by
  have hm : s.mayProgram a l.length = 0 := FS.mayProgram_ok hd (by unfold FS.has; omega) (by omega) (by omega)
  rw [FS.program_let hm hne, FS.let_torn hu h0, Int.toNat_natCast, span_roomTorn _ _ _ _ hle hb]

/-- What three programs, one behind the other, make where nothing was. -/
theorem puts3 (bs : List UInt8) (a : Nat) (p x y : List UInt8) (hx : x.length = (bodyB p).length) (hy : y.length ≤ 4) (h : a + sizeN p.length ≤ bs.length) :
    put (put bs a (headB p.length)) (a + 4) x = put bs a (headB p.length ++ x) ∧ put (put bs a (headB p.length ++ x)) (a + 4 + (bodyB p).length) y = put bs a (headB p.length ++ (x ++ y)) := by
  have h0 : (headB p.length).length = 4 := headB_length _
  have h1 : (bodyB p).length = fillN p.length + 4 := bodyB_length p
  have hsz : sizeN p.length = 12 + fillN p.length := rfl
  constructor
  · have := put_put bs a (headB p.length) x (by omega)
    rwa [h0] at this
  · have hy2 : (headB p.length ++ x).length = 4 + (bodyB p).length := by simp [h0, hx]
    have := put_put bs a (headB p.length ++ x) y (by rw [hy2]; omega)
    rwa [hy2, ← Nat.add_assoc, List.append_assoc] at this

/-- A record that is written where nothing was. -/
theorem write_room {s : FS} (a : Nat) (p : List UInt8) (hp : p.length ≤ 4080) (hd : s.down = false) (hu : s.armed = false) (h4 : a % 4 = 0) (hle : a + sizeN p.length ≤ s.bs.length) (hb : room s.bs a (sizeN p.length)) :
    s.write a p = ({ s with bs := put s.bs a (recB p) }, 0) := by
  have hf := fillN_mod p.length
  have h0 : (headB p.length).length = 4 := headB_length _
  have h1 : (bodyB p).length = fillN p.length + 4 := bodyB_length p
  have hsz : sizeN p.length = 12 + fillN p.length := rfl
  have hr : s.readErr a (sizeN p.length) = 0 := by
    unfold FS.readErr
    rw [hd, if_neg (by simp), if_pos (by unfold FS.has; omega)]
  unfold FS.write
  rw [if_neg (by omega), if_neg (fun h => h.2 hr)]
  have e1 := program_room (s := s) a (headB p.length) hd hu h4 (by rw [h0]) (by intro e; rw [e] at h0; cases h0) (by omega) (hb.mono _ _ (by omega) (by omega))
  have l1 : (put s.bs a (headB p.length)).length = s.bs.length := put_length _ _ _ (by omega)
  have b1 : room (put s.bs a (headB p.length)) (a + 4) (bodyB p).length := room_put (hb.mono _ _ (by omega) (by omega)) (by omega) (by omega)
  have e2 := program_room (s := { s with bs := put s.bs a (headB p.length) }) (a + 4) (bodyB p) hd hu (by omega) (by omega) (by intro e; rw [e] at h1; simp at h1) (by simp only [l1]; omega) b1
  obtain ⟨q1, q2⟩ := puts3 s.bs a p (bodyB p) [0, 0, 0, 0] rfl (by decide) hle
  have l2 : (put s.bs a (headB p.length ++ bodyB p)).length = s.bs.length := put_length _ _ _ (by simp [h0]; omega)
  have b2 : room (put s.bs a (headB p.length ++ bodyB p)) (a + 4 + (bodyB p).length) 4 := room_put (hb.mono _ _ (by omega) (by omega)) (by simp [h0]; omega) (by simp [h0]; omega)
  have e3 := program_room (s := { s with bs := put s.bs a (headB p.length ++ bodyB p) }) (a + 4 + (bodyB p).length) [0, 0, 0, 0] hd hu (by omega) (by rfl) (by simp) (by simp only [l2, List.length_cons, List.length_nil]; omega) b2
  simp only [stepP]
  rw [e1]
  simp only [ne_eq, not_true_eq_false, if_false, h0]
  rw [show ((a : Int) + ((4 : Nat) : Int)) = ((a + 4 : Nat) : Int) by omega, e2]
  simp only [not_true_eq_false, if_false]
  rw [q1, show (((a + 4 : Nat) : Int) + (((bodyB p).length : Nat) : Int)) = ((a + 4 + (bodyB p).length : Nat) : Int) by omega, e3]
  simp only [not_true_eq_false, if_false]
  rw [q2]; rfl

/-- A record whose writing is torn at its k-th program, where nothing was. -/
theorem write_roomTorn {s : FS} (a : Nat) (p : List UInt8) (k : Nat) (hk : k < 3) (hp : p.length ≤ 4080) (hd : s.down = false) (hu : s.armed = true) (hl : s.left = (k : Int)) (h4 : a % 4 = 0) (hle : a + sizeN p.length ≤ s.bs.length) (hb : room s.bs a (sizeN p.length)) :
    s.write a p = ({ s with bs := put s.bs a (tornBytes k s.mask p), down := true, armed := false, left := 0, mask := [] }, 12) := by
  have hf := fillN_mod p.length
  have h0 : (headB p.length).length = 4 := headB_length _
  have h1 : (bodyB p).length = fillN p.length + 4 := bodyB_length p
  have hsz : sizeN p.length = 12 + fillN p.length := rfl
  have hr : s.readErr a (sizeN p.length) = 0 := by
    unfold FS.readErr
    rw [hd, if_neg (by simp), if_pos (by unfold FS.has; omega)]
  have hne0 : headB p.length ≠ [] := by intro e; rw [e] at h0; cases h0
  have hne1 : bodyB p ≠ [] := by intro e; rw [e] at h1; simp at h1
  have l1 : (put s.bs a (headB p.length)).length = s.bs.length := put_length _ _ _ (by omega)
  have b1 : room (put s.bs a (headB p.length)) (a + 4) (bodyB p).length := room_put (hb.mono _ _ (by omega) (by omega)) (by omega) (by omega)
  have l2 : (put s.bs a (headB p.length ++ bodyB p)).length = s.bs.length := put_length _ _ _ (by simp [h0]; omega)
  have b2 : room (put s.bs a (headB p.length ++ bodyB p)) (a + 4 + (bodyB p).length) 4 := room_put (hb.mono _ _ (by omega) (by omega)) (by simp [h0]; omega) (by simp [h0]; omega)
  unfold FS.write
  rw [if_neg (by omega), if_neg (fun h => h.2 hr)]
  match k, hk with
  | 0, _ =>
    have e1 := program_roomTorn (s := s) a (headB p.length) hd hu hl h4 (by rw [h0]) hne0 (by omega) (hb.mono _ _ (by omega) (by omega))
    simp only [stepP]
    rw [e1, if_pos (by simp)]
    rfl
  | 1, _ =>
    have e1 := program_roomArmed (s := s) a (headB p.length) hd hu (by omega) h4 (by rw [h0]) hne0 (by omega) (hb.mono _ _ (by omega) (by omega))
    have e2 := program_roomTorn (s := { s with bs := put s.bs a (headB p.length), left := s.left - 1 }) (a + 4) (bodyB p) hd hu (by simp only [hl]; rfl) (by omega) (by omega) hne1 (by simp only [l1]; omega) b1
    obtain ⟨q1, _⟩ := puts3 s.bs a p (tornL s.mask (bodyB p)) [0, 0, 0, 0] (tornL_length _ _) (by decide) hle
    simp only [stepP]
    rw [e1, if_neg (by simp)]
    simp only [h0]
    rw [show ((a : Int) + ((4 : Nat) : Int)) = ((a + 4 : Nat) : Int) by omega, e2, if_pos (by simp)]
    simp only [q1]
    rfl
  | 2, _ =>
    have e1 := program_roomArmed (s := s) a (headB p.length) hd hu (by omega) h4 (by rw [h0]) hne0 (by omega) (hb.mono _ _ (by omega) (by omega))
    have e2 := program_roomArmed (s := { s with bs := put s.bs a (headB p.length), left := s.left - 1 }) (a + 4) (bodyB p) hd hu (by simp only [hl]; decide) (by omega) (by omega) hne1 (by simp only [l1]; omega) b1
    obtain ⟨q1, q2⟩ := puts3 s.bs a p (bodyB p) (tornL s.mask [0, 0, 0, 0]) rfl (by rw [tornL_length]; decide) hle
    have e3 := program_roomTorn (s := { s with bs := put s.bs a (headB p.length ++ bodyB p), left := s.left - 1 - 1 }) (a + 4 + (bodyB p).length) [0, 0, 0, 0] hd hu (by simp only [hl]; rfl) (by omega) (by rfl) (by simp) (by simp only [l2, List.length_cons, List.length_nil]; omega) b2
    simp only [stepP]
    rw [e1, if_neg (by simp)]
    simp only [h0]
    rw [show ((a : Int) + ((4 : Nat) : Int)) = ((a + 4 : Nat) : Int) by omega, e2, if_neg (by simp)]
    simp only
    rw [q1, show (((a + 4 : Nat) : Int) + (((bodyB p).length : Nat) : Int)) = ((a + 4 + (bodyB p).length : Nat) : Int) by omega, e3, if_pos (by simp)]
    simp only [q2]
    rfl

/-- The bytes of a sector. -/
def sec (bs : List UInt8) (k : Nat) : List UInt8 := (bs.drop (k * 256)).take 256

theorem sec_get (bs : List UInt8) (k i : Nat) : (sec bs k)[i]? = if i < 256 then bs[k * 256 + i]? else none := by
  unfold sec
  rw [List.getElem?_take]
  split
  · rw [List.getElem?_drop]
  · rfl

theorem sec_length (bs : List UInt8) (k : Nat) (h : k * 256 + 256 ≤ bs.length) : (sec bs k).length = 256 := by unfold sec; simp; omega

theorem sec_ext {bs cs : List UInt8} {k : Nat} (h : ∀ i, i < 256 → bs[k * 256 + i]? = cs[k * 256 + i]?) : sec bs k = sec cs k := by
  apply List.ext_getElem?
  intro i
  rw [sec_get, sec_get]
  split
  · rename_i hi; exact h i hi
  · rfl

theorem sec_put_other (bs : List UInt8) (k j : Nat) (l : List UInt8) (hj : j ≠ k) (hl : l.length ≤ 256) (h : k * 256 + 256 ≤ bs.length) : sec (put bs (k * 256) l) j = sec bs j :=
  sec_ext fun i hi => by
    rw [put_get _ _ _ (by omega), if_neg]
    intro ⟨h1, h2⟩
    rcases Nat.lt_or_gt_of_ne hj with h3 | h3
    · have : j + 1 ≤ k := h3
      have := Nat.mul_le_mul_right 256 this
      omega
    · have : k + 1 ≤ j := h3
      have := Nat.mul_le_mul_right 256 this
      omega

theorem sec_put_same (bs : List UInt8) (k : Nat) (l : List UInt8) (hl : l.length ≤ 256) (h : k * 256 + 256 ≤ bs.length) : sec (put bs (k * 256) l) k = l ++ (sec bs k).drop l.length := by
  apply List.ext_getElem?
  intro i
  rw [sec_get, put_get _ _ _ (by omega)]
  by_cases hi : i < l.length
  · rw [if_pos (by omega), if_pos (by omega), List.getElem?_append_left hi, show k * 256 + i - k * 256 = i by omega]
  · rw [List.getElem?_append_right (by omega), List.getElem?_drop, show l.length + (i - l.length) = i by omega, sec_get]
    split
    · rw [if_neg (by omega)]
    · rfl

theorem sec_span_other (bs : List UInt8) (k j : Nat) (g : Nat → UInt8 → UInt8) (hj : j ≠ k) : sec (span bs (k * 256) 256 g) j = sec bs j :=
  sec_ext fun i hi => by
    rw [span_get]
    have : ¬ (k * 256 ≤ j * 256 + i ∧ j * 256 + i < k * 256 + 256) := by
      intro ⟨h1, h2⟩
      rcases Nat.lt_or_gt_of_ne hj with h3 | h3
      · have : j + 1 ≤ k := h3
        have := Nat.mul_le_mul_right 256 this
        omega
      · have : k + 1 ≤ j := h3
        have := Nat.mul_le_mul_right 256 this
        omega
    cases bs[j * 256 + i]? with
    | none => rfl
    | some c => simp [this]

theorem sec_erased (bs : List UInt8) (k : Nat) : blank (sec (span bs (k * 256) 256 (gSet 255)) k) := by
  intro c hc
  obtain ⟨i, hi⟩ := List.mem_iff_getElem?.1 hc
  rw [sec_get] at hi
  split at hi
  · rename_i hlt
    rw [span_get] at hi
    cases hb : bs[k * 256 + i]? with
    | none => rw [hb] at hi; cases hi
    | some d =>
      rw [hb, Option.map_some, if_pos (by omega)] at hi
      cases hi; rfl
  · cases hi

theorem sec_room {bs : List UInt8} {k : Nat} (h : blank (sec bs k)) (hl : k * 256 + 256 ≤ bs.length) (n : Nat) (hn : n ≤ 256) : room bs (k * 256) n := fun j hj hlt => by
  have h1 := sec_get bs k (j - k * 256)
  rw [if_pos (by omega), show k * 256 + (j - k * 256) = j by omega] at h1
  have hc : bs[j]? = some bs[j] := List.getElem?_eq_getElem (by omega)
  rw [hc] at h1 ⊢
  rw [h _ (List.mem_iff_getElem?.2 ⟨_, h1⟩)]

theorem blank_drop_le {b : List UInt8} (h : blank b) (n : Nat) : blank (b.drop n) := fun c hc => h c (List.mem_of_mem_drop hc)

/-- The payload of a head. -/
def headP (x : BitVec 32) : List UInt8 := 82 :: be4 x
theorem headP_length (x : BitVec 32) : (headP x).length = 5 := rfl
theorem size5 : sizeN 5 = 20 := by decide
theorem head_length (x : BitVec 32) : (recB (headP x)).length = 20 := by rw [recB_length, headP_length, size5]

/-- A byte behind a number. -/
def pushB (x : BitVec 32) (c : UInt8) : BitVec 32 := x <<< 8 ||| c.toBitVec.setWidth 32

theorem pushB_toNat (x : BitVec 32) (c : UInt8) (h : x.toNat < 16777216) : (pushB x c).toNat = x.toNat * 256 + c.toNat := by
  have hc : c.toNat < 2 ^ 8 := c.toNat_lt
  have e : (c.toBitVec.setWidth 32).toNat = c.toNat := by
    have := byte32 c
    omega
  unfold pushB
  rw [BitVec.toNat_or, e, BitVec.toNat_shiftLeft, Nat.shiftLeft_eq, Nat.mod_eq_of_lt (by omega)]
  have := Nat.shiftLeft_add_eq_or_of_lt hc x.toNat
  rw [Nat.shiftLeft_eq] at this
  exact this.symm

def num4 (a b c d : UInt8) : BitVec 32 := pushB (pushB (pushB (pushB 0#32 a) b) c) d

theorem num4_toNat (a b c d : UInt8) : (num4 a b c d).toNat = ((a.toNat * 256 + b.toNat) * 256 + c.toNat) * 256 + d.toNat := by
  have ha : a.toNat < 256 := a.toNat_lt
  have hb : b.toNat < 256 := b.toNat_lt
  have hc : c.toNat < 256 := c.toNat_lt
  have h1 : (pushB 0#32 a).toNat = a.toNat := by rw [pushB_toNat _ _ (by simp)]; simp
  have h2 : (pushB (pushB 0#32 a) b).toNat = a.toNat * 256 + b.toNat := by rw [pushB_toNat _ _ (by omega), h1]
  have h3 : (pushB (pushB (pushB 0#32 a) b) c).toNat = (a.toNat * 256 + b.toNat) * 256 + c.toNat := by rw [pushB_toNat _ _ (by omega), h2]
  unfold num4
  rw [pushB_toNat _ _ (by omega), h3]

theorem num4_be4 (x : BitVec 32) : num4 (UInt8.ofNat (x.toNat / 2 ^ 24)) (UInt8.ofNat (x.toNat / 2 ^ 16)) (UInt8.ofNat (x.toNat / 2 ^ 8)) (UInt8.ofNat x.toNat) = x := by
  apply BitVec.eq_of_toNat_eq
  rw [num4_toNat, ofNat_toNat, ofNat_toNat, ofNat_toNat, ofNat_toNat]
  have := x.isLt
  omega

def numL : List UInt8 → Option (BitVec 32)
  | [k, a, b, c, d] => if k = 82 then some (num4 a b c d) else none
  | _ => none

theorem numL_headP (x : BitVec 32) : numL (headP x) = some x := by
  show numL [82, _, _, _, _] = _
  simp only [numL, if_true]
  rw [num4_be4]

/-- Of which kind a sector is, and its number. -/
def hdrL (b : List UInt8) : UInt8 × BitVec 32 :=
  if (atL b).kind = 0 then (0, 0#32) else if (atL b).kind = 1 then (match numL (atL b).pay with | some x => (1, x) | none => (2, 0#32)) else (2, 0#32)

theorem writtenN_seen {b : List UInt8} {j : Nat} {c : UInt8} (hj : b[j]? = some c) (hc : c ≠ 255) : writtenN b ≠ 0 := by
  intro h
  have := (blank_drop b 0).2 (by omega)
  rw [List.drop_zero] at this
  exact hc (this c (List.mem_iff_getElem?.2 ⟨_, hj⟩))

theorem atL_item {x : List UInt8 × R4} (h : IsItem x) (t : List UInt8) : atL (x.1 ++ t) = x.2 := by
  obtain ⟨j, c, hj, hc⟩ := h.seen
  have hw : writtenN (x.1 ++ t) ≠ 0 := writtenN_seen (j := j) (by rw [List.getElem?_append_left (List.getElem?_eq_some_iff.1 hj).1]; exact hj) hc
  unfold atL
  rw [if_neg hw]
  exact h.first t

theorem hdrL_blank {b : List UInt8} (h : blank b) : hdrL b = (0, 0#32) := by
  have : atL b = ⟨b.length, 0, []⟩ := by unfold atL; rw [if_pos (writtenN_blank h)]
  unfold hdrL
  rw [this, if_pos rfl]

theorem hdrL_kind0 {b : List UInt8} (h : (hdrL b).1 = 0) : blank b := by
  by_cases hw : writtenN b = 0
  · have := (blank_drop b 0).2 (by omega)
    rwa [List.drop_zero] at this
  · exfalso
    have e : atL b = firstL b := if_neg hw
    unfold hdrL at h
    rw [e] at h
    rcases firstL_kind b with hk | hk | hk
    · rw [hk] at h
      simp only [if_true] at h
      cases hn : numL (firstL b).pay with
      | none => rw [hn] at h; revert h; decide
      | some x => rw [hn] at h; revert h; simp
    · rw [hk, if_neg (by decide), if_neg (by decide)] at h; revert h; decide
    · rw [hk, if_neg (by decide), if_neg (by decide)] at h; revert h; decide

theorem hdrL_head (x : BitVec 32) (t : List UInt8) : hdrL (recB (headP x) ++ t) = (1, x) := by
  have := atL_item (item_rec (headP x) (by rw [headP_length]; decide)) t
  unfold hdrL
  rw [this]
  simp only [numL_headP]
  rfl

theorem hdrL_item {x : List UInt8 × R4} (h : IsItem x) (h0 : x.2.kind ≠ 0) (h1 : x.2.kind ≠ 1) (t : List UInt8) : hdrL (x.1 ++ t) = (2, 0#32) := by
  unfold hdrL
  rw [atL_item h t, if_neg h0, if_neg h1]

theorem hdrL_kinds (b : List UInt8) : hdrL b = (0, 0#32) ∨ (∃ x, hdrL b = (1, x)) ∨ hdrL b = (2, 0#32) := by
  unfold hdrL
  split
  · exact .inl rfl
  · split
    · split
      · exact .inr (.inl ⟨_, rfl⟩)
      · exact .inr (.inr rfl)
    · exact .inr (.inr rfl)

/-- A header of a sector. -/
structure Hdr where
  sector : Int
  kind : UInt8
  num : BitVec 32
deriving DecidableEq

def hdrOf (k : Int) (b : List UInt8) : Hdr := ⟨k, (hdrL b).1, (hdrL b).2⟩
def hdrAt (bs : List UInt8) (k : Nat) : Hdr := hdrOf k (sec bs k)
/-- What Look tells. -/
def lookL (bs : List UInt8) (first count : Nat) : List Hdr := (List.range count).map fun i => hdrAt bs (first + i)

theorem lookL_length (bs : List UInt8) (first count : Nat) : (lookL bs first count).length = count := by simp [lookL]
theorem lookL_get (bs : List UInt8) (first count i : Nat) (h : i < count) : (lookL bs first count)[i]? = some (hdrAt bs (first + i)) := by simp [lookL, h]
theorem lookL_succ (bs : List UInt8) (first k : Nat) : lookL bs first (k + 1) = lookL bs first k ++ [hdrAt bs (first + k)] := by
  unfold lookL; rw [List.range_succ, List.map_append]; rfl
theorem lookL_mem {bs : List UInt8} {first count : Nat} {x : Hdr} : x ∈ lookL bs first count ↔ ∃ k, first ≤ k ∧ k < first + count ∧ x = hdrAt bs k := by
  unfold lookL
  rw [List.mem_map]
  constructor
  · rintro ⟨i, hi, rfl⟩
    exact ⟨first + i, by omega, by have := List.mem_range.1 hi; omega, rfl⟩
  · rintro ⟨k, h1, h2, rfl⟩
    exact ⟨k - first, List.mem_range.2 (by omega), by rw [show first + (k - first) = k by omega]⟩

theorem lookL_congr {cs bs : List UInt8} {first count : Nat} (h : ∀ k, first ≤ k → k < first + count → sec cs k = sec bs k) : lookL cs first count = lookL bs first count := by
  unfold lookL
  apply List.map_congr_left
  intro i hi
  have := List.mem_range.1 hi
  unfold hdrAt
  rw [h _ (by omega) (by omega)]

/-- One more of a list: is it better than the best one so far? -/
def bestStep (counts : Hdr → Bool) (better : Hdr → Hdr → Bool) (acc : Option Hdr) (x : Hdr) : Option Hdr :=
  if counts x = true ∧ (∀ c, acc = some c → better x c = true) then some x else acc
def bestL (counts : Hdr → Bool) (better : Hdr → Hdr → Bool) (l : List Hdr) : Option Hdr := l.foldl (bestStep counts better) none

theorem bestL_snoc (counts : Hdr → Bool) (better : Hdr → Hdr → Bool) (l : List Hdr) (x : Hdr) : bestL counts better (l ++ [x]) = bestStep counts better (bestL counts better l) x := by
  unfold bestL; rw [List.foldl_append]; rfl

theorem bestL_take (counts : Hdr → Bool) (better : Hdr → Hdr → Bool) (l : List Hdr) (k : Nat) (x : Hdr) (h : l[k]? = some x) : bestL counts better (l.take (k + 1)) = bestStep counts better (bestL counts better (l.take k)) x := by
  rw [List.take_add_one, h]; exact bestL_snoc _ _ _ _

/-- What the best one of a list is. -/
def IsBest (counts : Hdr → Bool) (key : Hdr → Int) (l : List Hdr) : Option Hdr → Prop
  | none => ∀ y ∈ l, counts y = false
  | some c => c ∈ l ∧ counts c = true ∧ ∀ y ∈ l, counts y = true → key c ≤ key y

theorem IsBest.step {counts : Hdr → Bool} {better : Hdr → Hdr → Bool} {key : Hdr → Int} (hb : ∀ a b, better a b = decide (key a < key b)) {l : List Hdr} {acc : Option Hdr} (h : IsBest counts key l acc) (x : Hdr) :
    IsBest counts key (l ++ [x]) (bestStep counts better acc x) := by
  unfold bestStep
  by_cases hc : counts x = true
  · cases acc with
    | none =>
      rw [if_pos ⟨hc, fun c hc => by cases hc⟩]
      refine ⟨by simp, hc, fun y hy hcy => ?_⟩
      rcases List.mem_append.1 hy with hy | hy
      · rw [h y hy] at hcy; cases hcy
      · simp at hy; subst hy; exact Int.le_refl _
    | some c =>
      obtain ⟨h1, h2, h3⟩ := h
      by_cases hlt : key x < key c
      · rw [if_pos ⟨hc, fun d hd => by cases hd; rw [hb]; exact decide_eq_true hlt⟩]
        refine ⟨by simp, hc, fun y hy hcy => ?_⟩
        rcases List.mem_append.1 hy with hy | hy
        · have := h3 y hy hcy; omega
        · simp at hy; subst hy; exact Int.le_refl _
      · rw [if_neg (fun hh => hlt (by have := hh.2 c rfl; rw [hb] at this; exact of_decide_eq_true this))]
        refine ⟨List.mem_append.2 (.inl h1), h2, fun y hy hcy => ?_⟩
        rcases List.mem_append.1 hy with hy | hy
        · exact h3 y hy hcy
        · simp at hy; subst hy; omega
  · rw [if_neg (fun hh => hc hh.1)]
    have hf : counts x = false := by simpa using hc
    cases acc with
    | none =>
      intro y hy
      rcases List.mem_append.1 hy with hy | hy
      · exact h y hy
      · simp at hy; subst hy; exact hf
    | some c =>
      obtain ⟨h1, h2, h3⟩ := h
      refine ⟨List.mem_append.2 (.inl h1), h2, fun y hy hcy => ?_⟩
      rcases List.mem_append.1 hy with hy | hy
      · exact h3 y hy hcy
      · simp at hy; subst hy; rw [hf] at hcy; cases hcy

theorem isBest_bestL {counts : Hdr → Bool} {better : Hdr → Hdr → Bool} {key : Hdr → Int} (hb : ∀ a b, better a b = decide (key a < key b)) (l : List Hdr) : IsBest counts key l (bestL counts better l) := by
  have h : ∀ (l seen : List Hdr) (acc : Option Hdr), IsBest counts key seen acc → IsBest counts key (seen ++ l) (l.foldl (bestStep counts better) acc) := by
    intro l
    induction l with
    | nil => intro seen acc h; rw [List.append_nil]; exact h
    | cons x l ih =>
      intro seen acc h
      have := ih (seen ++ [x]) _ (h.step hb x)
      rw [List.append_assoc] at this
      exact this
  exact h l [] none (fun y hy => by cases hy)

def liveH (h : Hdr) : Bool := h.kind == 1
def newerH (a b : Hdr) : Bool := decide (b.num.toNat < a.num.toNat)
def newestL (l : List Hdr) : Option Hdr := bestL liveH newerH l
theorem newest_best (l : List Hdr) : IsBest liveH (fun h => -(h.num.toNat : Int)) l (newestL l) :=
  isBest_bestL (fun a b => decide_eq_decide.2 (by omega)) l

/-- The wear of a sector; 0, of one that is not there. -/
def FS.wearOf (s : FS) (k : Int) : Int := if 0 ≤ k ∧ k < s.wear.length then s.wear.getD k.toNat 0 else 0
def otherH (but : Int) (h : Hdr) : Bool := h.sector != but
def FS.fresher (s : FS) (a b : Hdr) : Bool := decide (s.wearOf a.sector < s.wearOf b.sector)
def FS.pick (s : FS) (but : Int) (l : List Hdr) : Option Hdr := bestL (otherH but) s.fresher l
theorem pick_best (s : FS) (but : Int) (l : List Hdr) : IsBest (otherH but) (fun h => s.wearOf h.sector) l (s.pick but l) :=
  isBest_bestL (fun _ _ => rfl) l

/-- What Clear and Open make of a flash, and answer. -/
def FS.clear (s : FS) (k : Int) : FS × Int :=
  if s.down = true then (s, 12) else if ¬ (0 ≤ k ∧ k < s.wear.length) then (s, 10) else if (hdrL (sec s.bs k.toNat)).1 = 0 then (s, 0) else s.erase k
def FS.opened (s : FS) (k : Int) (x : BitVec 32) : FS × Int :=
  if s.down = true then (s, 12) else if ¬ (0 ≤ k ∧ k < s.wear.length) then (s, 10) else s.write (k * 256) (headP x)
end Go.Proofs.Ytdcfcljgennipaa
