/-
  RingHeads: what its walk wants: the mathematics, and lightshiplow's All.
-/
import Derived.Test.YtlnmbfddhdjioaaGreatRingEnd
namespace Go.Proofs.YtlnmbfddhdjioaaGreat
open Go.RowKit

theorem room_ahead {bs : List UInt8} {a b n : Nat} {l : List UInt8} (h : room bs b n) (hl : a + l.length ≤ bs.length) (hb : b + n ≤ a) : room (put bs a l) b n := fun j hj hlt => by
  rw [put_get _ _ _ hl, if_neg (by omega)]; exact h j hj hlt

theorem put_nil (bs : List UInt8) (a : Nat) : put bs a [] = bs := by simp [put]

/-- A program where nothing was, of no bytes, too. -/
theorem program_any {s : FS} (a : Nat) (l : List UInt8) (hd : s.down = false) (hu : s.armed = false) (h4 : a % 4 = 0) (hl4 : l.length % 4 = 0) (hle : a + l.length ≤ s.bs.length) (hb : room s.bs a l.length) :
    s.program a l = ({ s with bs := put s.bs a l }, 0) := by
  by_cases hne : l = []
  · subst hne
    have hm : s.mayProgram a 0 = 0 := FS.mayProgram_ok hd (by unfold FS.has; simp at hle ⊢; omega) (by omega) (by omega)
    unfold FS.program
    rw [if_pos (.inr rfl), put_nil]
    simp only [List.length_nil]
    exact Prod.ext rfl hm
  · exact program_room a l hd hu h4 hl4 hne hle hb

theorem clears_self (c : UInt8) : clears c 255 c = c := by
  unfold clears
  apply UInt8.eq_of_toBitVec_eq
  simp only [UInt8.toBitVec_and, UInt8.toBitVec_not, UInt8.toBitVec_ofNat]
  rw [show BitVec.ofNat 8 255 = BitVec.allOnes 8 from rfl, BitVec.allOnes_and, BitVec.not_not, BitVec.and_self]

theorem clears_all (c : UInt8) : clears c 255 255 = c := by
  unfold clears
  apply UInt8.eq_of_toBitVec_eq
  simp only [UInt8.toBitVec_and, UInt8.toBitVec_not, UInt8.toBitVec_ofNat]
  rw [show BitVec.ofNat 8 255 = BitVec.allOnes 8 from rfl, BitVec.allOnes_and, BitVec.not_not, BitVec.and_allOnes]

theorem clears_none (c : UInt8) : clears c 255 0 = 0 := by
  unfold clears
  apply UInt8.eq_of_toBitVec_eq
  simp only [UInt8.toBitVec_and, UInt8.toBitVec_not, UInt8.toBitVec_ofNat]
  rw [show BitVec.ofNat 8 255 = BitVec.allOnes 8 from rfl, BitVec.allOnes_and, BitVec.not_not]
  exact BitVec.and_zero

/-- Bytes that stand there. -/
def stands (bs : List UInt8) (a : Nat) (l : List UInt8) : Prop := ∀ i c, l[i]? = some c → bs[a + i]? = some c

theorem span_same (bs : List UInt8) (a : Nat) (l : List UInt8) (h : stands bs a l) : span bs a l.length (gClear l 255) = bs := by
  apply List.ext_getElem?
  intro j
  rw [span_get]
  by_cases hj : a ≤ j ∧ j < a + l.length
  · have hg : l[j - a]? = some (l[j - a]'(by omega)) := List.getElem?_eq_getElem (by omega)
    have := h _ _ hg
    rw [show a + (j - a) = j by omega] at this
    rw [this, Option.map_some, if_pos hj]
    unfold gClear
    rw [List.getD_eq_getElem?_getD, hg, Option.getD_some, clears_self]
  · cases bs[j]? with
    | none => rfl
    | some c => simp [hj]

theorem program_same {s : FS} (a : Nat) (l : List UInt8) (hd : s.down = false) (hu : s.armed = false) (h4 : a % 4 = 0) (hl4 : l.length % 4 = 0) (hne : l ≠ []) (hle : a + l.length ≤ s.bs.length) (hb : stands s.bs a l) :
    s.program a l = (s, 0) := by
  have hm : s.mayProgram a l.length = 0 := FS.mayProgram_ok hd (by unfold FS.has; omega) (by omega) (by omega)
  rw [FS.program_let hm hne, FS.let_whole hu, Int.toNat_natCast, span_same _ _ _ hb]

theorem stands.part {bs : List UInt8} {a : Nat} {x y z : List UInt8} (h : stands bs a (x ++ (y ++ z))) : stands bs (a + x.length) y := fun i c hi => by
  have := h (x.length + i) c (by rw [List.getElem?_append_right (by omega), Nat.add_sub_cancel_left, List.getElem?_append_left (List.getElem?_eq_some_iff.1 hi).1, hi])
  rwa [← Nat.add_assoc] at this

/-- A record that is written where it stands. -/
theorem write_same {s : FS} (a : Nat) (p : List UInt8) (hp : p.length ≤ 4080) (hd : s.down = false) (hu : s.armed = false) (h4 : a % 4 = 0) (hle : a + sizeN p.length ≤ s.bs.length) (hb : stands s.bs a (recB p)) :
    s.write a p = (s, 0) := by
  have hf := fillN_mod p.length
  have h0 : (headB p.length).length = 4 := headB_length _
  have h1 : (bodyB p).length = fillN p.length + 4 := bodyB_length p
  have hsz : sizeN p.length = 12 + fillN p.length := rfl
  have hr : s.readErr a (sizeN p.length) = 0 := by
    unfold FS.readErr
    rw [hd, if_neg (by simp), if_pos (by unfold FS.has; omega)]
  unfold FS.write
  rw [if_neg (by omega), if_neg (fun h => h.2 hr)]
  have b0 : stands s.bs a (headB p.length) := fun i c hi => hb i c (by unfold recB; rw [List.getElem?_append_left (List.getElem?_eq_some_iff.1 hi).1, hi])
  have b1 : stands s.bs (a + 4) (bodyB p) := by have := stands.part (x := headB p.length) (y := bodyB p) (z := [0, 0, 0, 0]) hb; rwa [h0] at this
  have b2 : stands s.bs (a + 4 + (bodyB p).length) [0, 0, 0, 0] := by
    have := stands.part (x := headB p.length ++ bodyB p) (y := [0, 0, 0, 0]) (z := []) (bs := s.bs) (a := a) (by rw [List.append_nil, List.append_assoc]; exact hb)
    rwa [List.length_append, h0, ← Nat.add_assoc] at this
  have e1 := program_same (s := s) a (headB p.length) hd hu h4 (by rw [h0]) (by intro e; rw [e] at h0; cases h0) (by omega) b0
  have e2 := program_same (s := s) (a + 4) (bodyB p) hd hu (by omega) (by omega) (by intro e; rw [e] at h1; simp at h1) (by omega) b1
  have e3 := program_same (s := s) (a + 4 + (bodyB p).length) [0, 0, 0, 0] hd hu (by omega) (by rfl) (by simp) (by simp only [List.length_cons, List.length_nil]; omega) b2
  simp only [stepP]
  rw [e1]
  simp only [ne_eq, not_true_eq_false, if_false, h0]
  rw [show ((a : Int) + ((4 : Nat) : Int)) = ((a + 4 : Nat) : Int) by omega, e2]
  simp only [not_true_eq_false, if_false]
  rw [show (((a + 4 : Nat) : Int) + (((bodyB p).length : Nat) : Int)) = ((a + 4 + (bodyB p).length : Nat) : Int) by omega, e3]
  simp only [not_true_eq_false, if_false]

theorem opened_same {s : FS} (k : Nat) (x : BitVec 32) (hk : k < s.wear.length) (hl : s.bs.length = 256 * s.wear.length) (hd : s.down = false) (hu : s.armed = false) (hb : stands s.bs (k * 256) (recB (headP x))) : s.opened k x = (s, 0) := by
  unfold FS.opened
  rw [if_neg (by simp [hd]), if_neg (by omega)]
  have hs : sizeN (headP x).length = 20 := by rw [headP_length]; exact size5
  have hp : (headP x).length ≤ 4080 := by rw [headP_length]; omega
  have := write_same (s := s) (k * 256) (headP x) hp hd hu (by omega) (by rw [hs, hl]; omega) hb
  rw [show ((k : Int) * 256) = ((k * 256 : Nat) : Int) by omega, this]

theorem stands_put (bs : List UInt8) (a : Nat) (l : List UInt8) (h : a + l.length ≤ bs.length) : stands (put bs a l) a l := fun i c hi => by
  have := (List.getElem?_eq_some_iff.1 hi).1
  rw [put_get _ _ _ h, if_pos (by omega), show a + i - a = i by omega, hi]

/-- A byte of a head that is cleared: at the begin of whatever bytes it is none. -/
theorem head_spoilt (x : BitVec 32) (i : Nat) (d : UInt8) (hd : (recB (headP x))[i]? = some d) (h0 : d ≠ 0) (t : List UInt8) : hdrL ((recB (headP x)).set i 0 ++ t) = (2, 0#32) := by
  have hp : (headP x).length ≤ 4080 := by rw [headP_length]; omega
  have hi : i < 20 := by have := (List.getElem?_eq_some_iff.1 hd).1; rwa [head_length] at this
  have hk := rec_changed (headP x) hp i 0 d hd (fun e => h0 e.symm)
  have hlen : ((recB (headP x)).set i 0).length = 20 := by rw [List.length_set, head_length]
  have hrec : recB (headP x) = [0, 5, 255, 250] ++ (bodyB (headP x) ++ [0, 0, 0, 0]) := by
    have hh : headB 5 = [0, 5, 255, 250] := by decide
    unfold recB
    rw [headP_length, hh]
  have hfk : (firstL ((recB (headP x)).set i 0 ++ t)).kind = (firstL ((recB (headP x)).set i 0)).kind := by
    by_cases h4 : i < 4
    · have hn : ∀ t, headLen ((recB (headP x)).set i 0 ++ t) = none := by
        intro t
        rw [hrec] at hd ⊢
        match i, h4 with
        | 0, _ => simp at hd; exact absurd hd.symm h0
        | 1, _ => rfl
        | 2, _ => rfl
        | 3, _ => rfl
      have h1 := hn t
      have h2 := hn []
      rw [List.append_nil] at h2
      unfold firstL
      rw [h1, h2]
    · have hh : ∀ t, headLen ((recB (headP x)).set i 0 ++ t) = some 5 := by
        intro t
        have e : (recB (headP x)).set i 0 = headB (headP x).length ++ (bodyB (headP x) ++ [0, 0, 0, 0]).set (i - 4) 0 := by
          rw [show recB (headP x) = headB (headP x).length ++ (bodyB (headP x) ++ [0, 0, 0, 0]) from rfl, List.set_append_right _ _ (by rw [headB_length]; omega), headB_length]
        rw [e, List.append_assoc]
        have := headLen_rec (headP x) ((bodyB (headP x) ++ [0, 0, 0, 0]).set (i - 4) 0 ++ t) hp
        rwa [headP_length] at this
      have h1 := hh t
      have h2 := hh []
      rw [List.append_nil] at h2
      generalize (recB (headP x)).set i 0 = y at *
      unfold firstL
      rw [h1, h2]
      simp only [size5]
      have l1 : ¬ (y ++ t).length < 20 := by rw [List.length_append]; omega
      have l2 : ¬ y.length < 20 := by omega
      rw [if_neg l1, if_neg l2, List.take_append_of_le_length (by omega), List.drop_append_of_le_length (by omega), List.take_append_of_le_length (by rw [List.length_drop]; omega)]
  have hw : writtenN ((recB (headP x)).set i 0 ++ t) ≠ 0 := writtenN_seen (j := i) (c := 0) (by rw [List.getElem?_append_left (by omega), List.getElem?_set_self (by rw [head_length]; exact hi)]) (by decide)
  have e : atL ((recB (headP x)).set i 0 ++ t) = firstL ((recB (headP x)).set i 0 ++ t) := if_neg hw
  have hk2 : (atL ((recB (headP x)).set i 0 ++ t)).kind ≠ 1 := by rw [e, hfk]; exact hk
  have hk3 : (atL ((recB (headP x)).set i 0 ++ t)).kind ≠ 0 := by
    rw [e]
    rcases firstL_kind ((recB (headP x)).set i 0 ++ t) with h | h | h <;> rw [h] <;> decide
  unfold hdrL
  rw [if_neg hk3, if_neg hk2]

/-- Four bytes of which one is 0. -/
def spoilB (j : Nat) : List UInt8 := (List.replicate 4 255).set j 0

theorem span_spoilt (bs : List UInt8) (a j : Nat) (hj : j < 4) : span bs a 4 (gClear (spoilB j) 255) = bs.set (a + j) 0 := by
  apply List.ext_getElem?
  intro i
  rw [span_get, List.getElem?_set]
  by_cases h1 : a + j = i
  · subst h1
    rw [if_pos rfl]
    cases hb : bs[a + j]? with
    | none =>
      have := List.getElem?_eq_none_iff.1 hb
      rw [if_neg (by omega)]; rfl
    | some c =>
      have := (List.getElem?_eq_some_iff.1 hb).1
      rw [if_pos this, Option.map_some, if_pos (by omega)]
      unfold gClear spoilB
      rw [show a + j - a = j by omega, List.getD_eq_getElem?_getD, List.getElem?_set_self (by simpa using hj), Option.getD_some, clears_none]
  · rw [if_neg h1]
    cases hb : bs[i]? with
    | none => rfl
    | some c =>
      rw [Option.map_some]
      by_cases h2 : a ≤ i ∧ i < a + 4
      · rw [if_pos h2]
        unfold gClear spoilB
        rw [List.getD_eq_getElem?_getD, List.getElem?_set_ne (by omega), List.getElem?_replicate, if_pos (by omega), Option.getD_some, clears_all]
      · rw [if_neg h2]

theorem program_spoilt {s : FS} (a j : Nat) (hj : j < 4) (hd : s.down = false) (hu : s.armed = false) (h4 : a % 4 = 0) (hle : a + 4 ≤ s.bs.length) : s.program a (spoilB j) = ({ s with bs := s.bs.set (a + j) 0 }, 0) := by
  have hl : (spoilB j).length = 4 := by simp [spoilB]
  have hm : s.mayProgram a (spoilB j).length = 0 := FS.mayProgram_ok hd (by unfold FS.has; rw [hl]; omega) (by omega) (by rw [hl]; rfl)
  have hne : spoilB j ≠ [] := by intro e; rw [e] at hl; cases hl
  rw [FS.program_let hm hne, FS.let_whole hu, Int.toNat_natCast, hl, span_spoilt _ _ _ hj]

theorem sec_set (bs : List UInt8) (k i : Nat) (hi : i < 256) (c : UInt8) : sec (bs.set (k * 256 + i) c) k = (sec bs k).set i c := by
  apply List.ext_getElem?
  intro j
  rw [sec_get, List.getElem?_set, List.getElem?_set, sec_get]
  by_cases hj : j < 256
  · rw [if_pos hj]
    by_cases h : i = j
    · subst h
      rw [if_pos rfl, if_pos rfl]
      have : k * 256 + i < bs.length ↔ i < (sec bs k).length := by unfold sec; rw [List.length_take, List.length_drop]; omega
      by_cases h2 : k * 256 + i < bs.length
      · rw [if_pos h2, if_pos (this.1 h2)]
      · rw [if_neg h2, if_neg (fun q => h2 (this.2 q))]
    · rw [if_neg (by omega), if_neg h, if_pos hj]
  · rw [if_neg hj, if_neg (by omega), if_neg hj]

set_option maxHeartbeats 1000000 in
theorem lowAll_any (w : World) (c : UInt8) (n : Nat) (hn0 : 0 < n) (hn : n ≤ 65536) :
    Calls Tryz.prog 34 #[.int .u8 c.toNat, .int .i64 n] w fun e w' => ∃ b k, e = .returned (.slice (some ⟨b, 0, none⟩) n k) ∧ w.heap.size ≤ b ∧ Row w' b 5 ((List.replicate n c).map bv) k ∧ Keeps [] w w' := by
  obtain ⟨i0, hi, hz0, hz1, hz2⟩ := info_parts infoByte
  go_enter Tryz.func34, Tryz.ntmps34
  go_wp2
  go_loopw [5] (fun v wr => ∃ (i : Nat) (ao : Option Addr) (cap : Nat), i ≤ n ∧ v = .slice ao i cap ∧ wr.ownsRow w.heap.size 5 1 (.slice ao i cap) i (List.replicate i (bv c)) ∧ Keeps [] w wr) (fun v _ => n - sliceLen v)
  case atStart => exact ⟨0, none, 0, Nat.zero_le _, rfl, World.ownsRow_nil _ _ _ _, Keeps.refl _ _⟩
  case round =>
    obtain ⟨i, ao, cap, hin, rfl, hown, hk⟩ := hrel
    have HO := Lib.hid hown
    have HK := Lib.hid hk
    clear hown hk
    by_cases hlt : i < n
    · have hlt' : (i : Int) < n := by omega
      go_wp2_with (at_builtin; refine wpList_append_own _ rfl _ _ 23 rfl w.heap.size 5 i0 (.int .u8 0) 1 1 Tryz.underlying23 hi hz0 hz1 hz2 rfl (by decide) (.slice ao i cap) i (List.replicate i (bv c)) rfl (HO.out.alloc _) ⟨wr.heap.size, 0, none⟩ 1 1 [bv c] rfl rfl ?c1 ?c2 ?c3 ?c4 ?c5 ?_)
      case c1 =>
        intro j u hu
        rw [Addr.add_off, Nat.zero_add, cell_alloc_new]
        match j, hu with
        | 0, hu => simpa [bv] using hu
      case c2 => intro u hu; simp at hu; subst hu; rfl
      case c3 => unfold maxLen; omega
      case c4 => omega
      case c5 => have := HK.out.size; simp; omega
      intro v' w1 hown1 hg1 _
      have HK1 := Lib.hid ((HK.out.trans (Keeps.alloc [] wr _)).owned2 (HO.out.alloc _) hg1)
      have hrep : List.replicate i (bv c) ++ [bv c] = List.replicate (i + 1) (bv c) := by rw [List.replicate_succ']
      rw [hrep] at hown1
      obtain ⟨ao', cap', rfl⟩ := owns_shape2 hown1
      have HO1 := Lib.hid hown1
      clear hown1 hg1 hrep
      go_wp2
      go_roundw
      case rel => exact ⟨i + 1, ao', cap', by omega, rfl, HO1.out, HK1.out⟩
      case measure => simp [sliceLen]; omega
    · obtain rfl : i = n := by omega
      have hge : ¬ ((i : Int) < i) := by omega
      obtain ⟨b, k, hv, hb, hR⟩ := Row.ofOwns HO.out (by intro e; simp at e; omega)
      simp at hv
      obtain ⟨rfl, rfl⟩ := hv
      have HR := Lib.hid hR
      clear hR
      go_wp2
      go_ret
      exact ⟨b, cap, rfl, hb, HR.out, HK.out⟩
end Go.Proofs.YtlnmbfddhdjioaaGreat
