/-
  Ring's examples (awake).
-/
import Derived.Test.YtdcfcljgennipaaRingH
import Derived.Test.YtdcfcljgennipaaArgs
namespace Go.Proofs.Ytdcfcljgennipaa
open Go.RowKit

theorem HdrsAt.lit (w : World) (hs : List Hdr) (cs : Array Value) (n : Nat) (hcs : cs = (hdrsCells hs).toArray) (hn : n = hs.length) :
    HdrsAt (w.alloc (.cells cs 56)) (.slice (some ⟨w.heap.size, 0, none⟩) n n) hs := by
  subst hcs
  exact HdrsAt.ofCells hn (Nat.le_refl _) (by simp) fun j v hv => by rw [(Whole.new w 56 (hdrsCells hs)).cell]; exact hv

/-- A flash of n sectors that is new. -/
structure NewN (n : Nat) (s : FS) : Prop where
  len : s.bs.length = n * 256
  all : blank s.bs
  wear : s.wear = List.replicate n 0
  down : s.down = false
  armed : s.armed = false

theorem newN (n : Nat) : NewN n (FS.new n) := ⟨List.length_replicate, blank_replicate _, rfl, rfl, rfl⟩

theorem blank_sec {bs : List UInt8} (h : blank bs) (k : Nat) : blank (sec bs k) := fun c hc => h c (List.mem_of_mem_drop (List.mem_of_mem_take hc))

/-- Open, of a sector where nothing is: what it makes. -/
def FS.withHead (s : FS) (k : Nat) (x : BitVec 32) : FS := { s with bs := put s.bs (k * 256) (recB (headP x)) }

theorem opened_blank {s : FS} (k : Nat) (x : BitVec 32) (hk : k < s.wear.length) (hl : s.bs.length = 256 * s.wear.length) (hd : s.down = false) (hu : s.armed = false) (hb : room s.bs (k * 256) 20) : s.opened k x = (s.withHead k x, 0) := by
  unfold FS.opened
  rw [if_neg (by simp [hd]), if_neg (by omega)]
  have hs : sizeN (headP x).length = 20 := by rw [headP_length]; exact size5
  have hp : (headP x).length ≤ 4080 := by rw [headP_length]; omega
  have := write_room (s := s) (k * 256) (headP x) hp hd hu (by omega) (by rw [hs, hl]; omega) (by rw [hs]; exact hb)
  rw [show ((k : Int) * 256) = ((k * 256 : Nat) : Int) by omega, this]
  rfl

theorem withHead_len (s : FS) (k : Nat) (x : BitVec 32) (h : k * 256 + 256 ≤ s.bs.length) : (s.withHead k x).bs.length = s.bs.length := by
  have hl := head_length x
  exact put_length s.bs (k * 256) (recB (headP x)) (by omega)
theorem withHead_other (s : FS) (k j : Nat) (x : BitVec 32) (h : k * 256 + 256 ≤ s.bs.length) (hj : j ≠ k) : sec (s.withHead k x).bs j = sec s.bs j := sec_put_other _ _ _ _ hj (by rw [head_length]; decide) h
theorem withHead_same (s : FS) (k : Nat) (x : BitVec 32) (h : k * 256 + 256 ≤ s.bs.length) : hdrL (sec (s.withHead k x).bs k) = (1, x) := by
  unfold FS.withHead
  rw [sec_put_same _ _ _ (by rw [head_length]; decide) h]
  exact hdrL_head x _

/-- Clear, of a sector where something is: what it makes, unless it is torn. -/
def FS.cleared (s : FS) (k : Nat) : FS := { s with wear := s.wear.set k (s.wear.getD k 0 + 1), bs := span s.bs (k * 256) 256 (gSet 255) }

theorem clear_dirty {s : FS} (k : Nat) (hk : k < s.wear.length) (hd : s.down = false) (hu : s.armed = false) (hh : (hdrL (sec s.bs k)).1 ≠ 0) : s.clear k = (s.cleared k, 0) := by
  unfold FS.clear
  rw [if_neg (by simp [hd]), if_neg (by omega), Int.toNat_natCast, if_neg hh, FS.erase_let hd ⟨by omega, by omega⟩, Int.toNat_natCast]
  exact FS.let_whole hu

theorem clear_free {s : FS} (k : Nat) (hk : k < s.wear.length) (hd : s.down = false) (hh : (hdrL (sec s.bs k)).1 = 0) : s.clear k = (s, 0) := by
  unfold FS.clear
  rw [if_neg (by simp [hd]), if_neg (by omega), Int.toNat_natCast, if_pos hh]

theorem cleared_len (s : FS) (k : Nat) : (s.cleared k).bs.length = s.bs.length := span_length _ _ _ _
theorem cleared_other (s : FS) (k j : Nat) (hj : j ≠ k) : sec (s.cleared k).bs j = sec s.bs j := sec_span_other _ _ _ _ hj
theorem cleared_same (s : FS) (k : Nat) : blank (sec (s.cleared k).bs k) := sec_erased _ _

/-- The flash of the examples. -/
def exR (s : FS) : FS := { s.withHead 3 7#32 with bs := put (s.withHead 3 7#32).bs (4 * 256) [1, 2, 3, 4] }

section
variable {s : FS} (h : NewN 8 s)
include h

theorem exR_len0 : s.bs.length = 256 * s.wear.length := by rw [h.len, h.wear]; rfl
theorem exR_len1 : (s.withHead 3 7#32).bs.length = 2048 := by rw [withHead_len _ _ _ (by rw [h.len]; decide), h.len]
theorem exR_len : (exR s).bs.length = 2048 := by
  show (put _ _ _).length = _
  rw [put_length _ _ _ (by rw [exR_len1 h]; decide), exR_len1 h]
theorem exR_open : s.opened 3 7#32 = (s.withHead 3 7#32, 0) :=
  opened_blank 3 _ (by rw [h.wear]; decide) (exR_len0 h) h.down h.armed (room.of_blank (fun c hc => h.all c (List.mem_of_mem_drop hc)) (by rw [h.len]; decide))
theorem exR_sec4 : sec (s.withHead 3 7#32).bs 4 = sec s.bs 4 := withHead_other _ _ _ _ (by rw [h.len]; decide) (by decide)
theorem exR_program : (s.withHead 3 7#32).program 1024 [1, 2, 3, 4] = (exR s, 0) :=
  program_room (s := s.withHead 3 7#32) 1024 [1, 2, 3, 4] h.down h.armed (by decide) (by decide) (by decide) (by rw [exR_len1 h]; decide)
    (sec_room (k := 4) (by rw [exR_sec4 h]; exact blank_sec h.all _) (by rw [exR_len1 h]; decide) 4 (by decide))
theorem look0 : lookL s.bs 2 3 = [⟨2, 0, 0#32⟩, ⟨3, 0, 0#32⟩, ⟨4, 0, 0#32⟩] := by
  have e : ∀ k, hdrAt s.bs k = ⟨k, 0, 0#32⟩ := fun k => by unfold hdrAt hdrOf; rw [hdrL_blank (blank_sec h.all k)]
  show [hdrAt s.bs 2, hdrAt s.bs 3, hdrAt s.bs 4] = _
  rw [e, e, e]; rfl
theorem exR_sec (k : Nat) (hk : k ≠ 4) : sec (exR s).bs k = sec (s.withHead 3 7#32).bs k := sec_put_other _ _ _ _ hk (by decide) (by rw [exR_len1 h]; decide)
theorem exR_h2 : hdrL (sec (exR s).bs 2) = (0, 0#32) := by
  rw [exR_sec h _ (by decide), withHead_other _ _ _ _ (by rw [h.len]; decide) (by decide)]; exact hdrL_blank (blank_sec h.all _)
theorem exR_h3 : hdrL (sec (exR s).bs 3) = (1, 7#32) := by
  rw [exR_sec h _ (by decide)]; exact withHead_same _ _ _ (by rw [h.len]; decide)
theorem exR_h4 : hdrL (sec (exR s).bs 4) = (2, 0#32) := by
  have e : sec (exR s).bs 4 = [1, 2, 3, 4] ++ (sec (s.withHead 3 7#32).bs 4).drop 4 := sec_put_same _ _ _ (by decide) (by rw [exR_len1 h]; decide)
  rw [e]
  exact hdrL_item (item_garbage 1 2 3 4 (by decide) (by decide)) (by decide) (by decide) _
theorem look1 : lookL (exR s).bs 2 3 = [⟨2, 0, 0#32⟩, ⟨3, 1, 7#32⟩, ⟨4, 2, 0#32⟩] := by
  show [hdrAt (exR s).bs 2, hdrAt (exR s).bs 3, hdrAt (exR s).bs 4] = _
  unfold hdrAt hdrOf
  rw [exR_h2 h, exR_h3 h, exR_h4 h]; rfl
omit h in
theorem exR_newest : newestL [⟨2, 0, 0#32⟩, ⟨3, 1, 7#32⟩, ⟨4, 2, 0#32⟩] = some ⟨3, 1, 7#32⟩ := by decide +kernel
theorem exR_pick3 : (exR s).pick 3 [⟨2, 0, 0#32⟩, ⟨3, 1, 7#32⟩, ⟨4, 2, 0#32⟩] = some ⟨2, 0, 0#32⟩ := by
  have hw : (exR s).wear = List.replicate 8 0 := h.wear
  unfold FS.pick FS.fresher FS.wearOf
  rw [hw]; decide +kernel
theorem exR_clear4 : (exR s).clear 4 = ((exR s).cleared 4, 0) :=
  clear_dirty 4 (by show 4 < s.wear.length; rw [h.wear]; decide) h.down h.armed (by rw [exR_h4 h]; decide)
theorem exR_wear : ((exR s).cleared 4).wear = [0, 0, 0, 0, 1, 0, 0, 0] := by
  show s.wear.set 4 (s.wear.getD 4 0 + 1) = _
  rw [h.wear]; decide +kernel
theorem exR_clear2 : ((exR s).cleared 4).clear 2 = ((exR s).cleared 4, 0) :=
  clear_free 2 (by rw [exR_wear h]; decide) h.down (by rw [cleared_other _ _ _ (by decide), exR_h2 h])
theorem exR_wear4 : ((exR s).cleared 4).wearOf 4 = 1 := by unfold FS.wearOf; rw [exR_wear h]; decide +kernel
theorem exR_wear2 : ((exR s).cleared 4).wearOf 2 = 0 := by unfold FS.wearOf; rw [exR_wear h]; decide +kernel
theorem exR_pick2 : ((exR s).cleared 4).pick 2 [⟨2, 0, 0#32⟩, ⟨3, 1, 7#32⟩, ⟨4, 2, 0#32⟩] = some ⟨3, 1, 7#32⟩ := by
  unfold FS.pick FS.fresher FS.wearOf
  rw [exR_wear h]; decide +kernel
end

set_option maxRecDepth 100000 in
set_option maxHeartbeats 2000000 in
theorem awake5_any (w : World) : Calls Try.prog 29 #[] w fun e w' => e = .returned (.bool true) ∧ Keeps [] w w' := by
  have hfld := fld_hkind
  have hgd := hdr_guard
  have hsm := hdr_equal
  go_enter Try.func29, Try.ntmps29
  go_wp2_with fail
  refine (New_ok w 8 (by decide) (by decide)).mono ?_
  rintro e w1 ⟨F, B, W, M, rfl, hF0, hB0, hW0, hF, k1⟩
  have hs0 := newN 8
  generalize FS.new 8 = s at *
  have HF := Lib.hid hF
  have K1 := Lib.hid k1
  have hlt := hF.lt
  have HE := Lib.hid hs0
  clear hF k1 hs0
  -- three free ones
  have HL := Lib.hid (Look_ok w1 HF.out HE.out.down 2 3 (by decide) (by rw [HE.out.wear]; decide))
  rw [look0 HE.out] at HL
  go_wp2_with fail
  refine HL.out.mono ?_
  rintro e w2 ⟨g2, c2, rfl, hg2, hl2, k2⟩
  have HL2 := Lib.hid hl2
  have HF2 := Lib.hid (HF.out.keeps k2 (by simp) (by simp) (by simp) (by simp))
  have K2 := Lib.hid (K1.out.trans k2)
  have s2 := k2.size
  clear hl2 k2 HF HL
  go_wp2_with (go_at_call 44; refine (Head_any _).mono ?_; rintro e w3 ⟨rfl, k3⟩; have K3 := Lib.hid k3; clear k3)
  have H3 := Lib.hid (HdrsAt.lit w3 [⟨2, 0, 0#32⟩, ⟨3, 0, 0#32⟩, ⟨4, 0, 0#32⟩] _ 3 rfl rfl)
  refine (AreHeaders_same _ _ _ _ (HL2.out.keeps (K3.out.trans (Keeps.alloc [] _ _)) (by simp)) H3.out (by decide)).mono ?_
  rintro e w4 ⟨rfl, k4⟩
  have k24 := (K3.out.trans (Keeps.alloc [] _ _)).trans k4
  have HF4 := Lib.hid (HF2.out.keeps k24 (by simp) (by simp) (by simp) (by simp))
  have K4 := Lib.hid (K2.out.trans k24)
  have s4 := k24.size
  clear k24 k4 H3 HL2 HF2 K3
  -- one is opened, another one is spoilt
  have HO := Open_any w4 HF4.out 3 (by decide) 7#32
  rw [exR_open HE.out] at HO
  have HO := Lib.hid HO
  go_wp2_with fail
  refine HO.out.mono ?_
  rintro e w5 ⟨rfl, hF5, k5⟩
  have HF5 := Lib.hid hF5
  have K5 := Lib.hid (K4.out.then k5 (fun x hx => .inr (by simp at hx; omega)))
  have s5 := k5.size
  clear hF5 k5 HO HF4
  go_wp2_with fail
  refine (Program_lit w5 HF5.out 1024 [1, 2, 3, 4] _ 4 _ 0 rfl rfl (by decide) (exR_program HE.out)).mono ?_
  rintro e w6 ⟨rfl, hF6, k6⟩
  have HF6 := Lib.hid hF6
  have K6 := Lib.hid (K5.out.then k6 (fun x hx => .inr (by simp at hx; omega)))
  have s6 := k6.size
  clear hF6 k6 HF5
  -- they are looked at
  have HL := Lib.hid (Look_ok w6 HF6.out HE.out.down 2 3 (by decide) (by show _ ≤ s.wear.length; rw [HE.out.wear]; decide))
  rw [look1 HE.out] at HL
  go_wp2_with fail
  refine HL.out.mono ?_
  rintro e w7 ⟨g7, c7, rfl, hg7, hl7, k7⟩
  have HL7 := Lib.hid hl7
  have HF7 := Lib.hid (HF6.out.keeps k7 (by simp) (by simp) (by simp) (by simp))
  have K7 := Lib.hid (K6.out.trans k7)
  have s7 := k7.size
  clear hl7 k7 HF6 HL
  have HN := Newest_any w7 _ _ HL7.out (by decide)
  rw [exR_newest] at HN
  dsimp only [Option.getD, Option.isSome, hdrCells] at HN
  have HN := Lib.hid HN
  go_wp2_with fail
  refine HN.out.mono ?_
  rintro e w8 ⟨rfl, k8⟩
  have K8 := Lib.hid k8
  clear HN k8
  go_upto_region 9 with (fail)
  generalize hU : World.alloc w8 _ = U
  have w5' : Whole U w8.heap.size 56 [.int .i64 3, .int .u8 1, .int .u32 7] := by rw [← hU]; exact Whole.new w8 56 [_, _, _]
  have q0 := (w5'.cell 0).trans (show _ = some (Value.int .i64 3) from rfl)
  have q1 := (w5'.cell 1).trans (show _ = some (Value.int .u8 1) from rfl)
  have q2 := (w5'.cell 2).trans (show _ = some (Value.int .u32 7) from rfl)
  have k9 : Keeps [] w7 U := K8.out.trans (by rw [← hU]; exact Keeps.alloc [] _ _)
  have HL9 := Lib.hid (HL7.out.keeps k9 (by simp))
  have HF9 := Lib.hid (HF7.out.keeps k9 (by simp) (by simp) (by simp) (by simp))
  have K9 := Lib.hid (K7.out.trans k9)
  have s9 := k9.size
  clear hU w5' k9 K8 HL7 HF7
  have HP := Pick_any U HF9.out (by show 0 < s.wear.length; rw [HE.out.wear]; decide) _ _ HL9.out (by decide) 3
  rw [exR_pick3 HE.out] at HP
  dsimp only [Option.getD, Option.isSome] at HP
  have HP := Lib.hid HP
  go_wp2_with fail
  refine HP.out.mono ?_
  rintro e w10 ⟨rfl, k10⟩
  have q0 := k10.cell q0 (by simp)
  have q1 := k10.cell q1 (by simp)
  have q2 := k10.cell q2 (by simp)
  have HL10 := Lib.hid (HL9.out.keeps k10 (by simp))
  have HF10 := Lib.hid (HF9.out.keeps k10 (by simp) (by simp) (by simp) (by simp))
  have K10 := Lib.hid (K9.out.trans k10)
  have s10 := k10.size
  clear k10 HL9 HF9 HP
  go_wp2_with fail
  have H11 := Lib.hid (HdrsAt.lit w10 [⟨2, 0, 0#32⟩, ⟨3, 1, 7#32⟩, ⟨4, 2, 0#32⟩] _ 3 rfl rfl)
  refine (AreHeaders_same _ _ _ _ (HL10.out.keeps (Keeps.alloc [] _ _) (by simp)) H11.out (by decide)).mono ?_
  rintro e w11 ⟨rfl, k11⟩
  have k111 := (Keeps.alloc [] w10 _).trans k11
  have HL11 := Lib.hid (HL10.out.keeps k111 (by simp))
  have HF11 := Lib.hid (HF10.out.keeps k111 (by simp) (by simp) (by simp) (by simp))
  have K11 := Lib.hid (K10.out.trans k111)
  have s11 := k111.size
  clear k11 k111 H11 HL10 HF10 q0 q1 q2
  -- one is cleared, another one is free
  have hwr : ∀ x ∈ (exR s).wear, 0 ≤ x ∧ x < 9223372036854775807 := by
    show ∀ x ∈ s.wear, _
    rw [HE.out.wear]; decide
  have HC := Clear_any w11 HF11.out 4 (by decide) hwr
  rw [exR_clear4 HE.out] at HC
  have HC := Lib.hid HC
  clear hwr
  go_wp2_with fail
  refine HC.out.mono ?_
  rintro e w12 ⟨rfl, hF12, k12⟩
  have HF12 := Lib.hid hF12
  have K12 := Lib.hid (K11.out.then k12 (fun x hx => .inr (by simp at hx; omega)))
  have HL12 := Lib.hid (HL11.out.keepsBut k12 (fun g hg => by
    have : g = g7 := by simpa using hg.symm
    simp; omega))
  have s12 := k12.size
  clear hF12 k12 HC HF11 HL11
  have hwr : ∀ x ∈ ((exR s).cleared 4).wear, 0 ≤ x ∧ x < 9223372036854775807 := by rw [exR_wear HE.out]; decide
  have HC := Clear_any w12 HF12.out 2 (by decide) hwr
  rw [exR_clear2 HE.out] at HC
  have HC := Lib.hid HC
  clear hwr
  have hw4 := fun U (hk : FlashAt U F B W M ((exR s).cleared 4)) => Wear_any U hk 4
  rw [exR_wear4 HE.out] at hw4
  have hw2 := fun U (hk : FlashAt U F B W M ((exR s).cleared 4)) => Wear_any U hk 2
  rw [exR_wear2 HE.out] at hw2
  have HW4 := Lib.hid hw4
  have HW2 := Lib.hid hw2
  clear hw4 hw2
  go_wp2_with fail
  refine HC.out.mono ?_
  rintro e w13 ⟨rfl, hF13, k13⟩
  have HF13 := Lib.hid hF13
  have K13 := Lib.hid (K12.out.then k13 (fun x hx => .inr (by simp at hx; omega)))
  have HL13 := Lib.hid (HL12.out.keepsBut k13 (fun g hg => by
    have : g = g7 := by simpa using hg.symm
    simp; omega))
  have s13 := k13.size
  clear hF13 k13 HC HF12 HL12
  go_wp2_with fail
  refine (HW4.out _ HF13.out).mono ?_
  rintro e w' ⟨rfl, rfl⟩
  go_wp2_with fail
  refine (HW2.out _ HF13.out).mono ?_
  rintro e w' ⟨rfl, rfl⟩
  clear HW4 HW2
  have hlen8 : ((exR s).cleared 4).wear.length = 8 := by rw [exR_wear HE.out]; rfl
  have HP := Pick_any w13 HF13.out (by rw [hlen8]; decide) _ _ HL13.out (by decide) 2
  rw [exR_pick2 HE.out] at HP
  dsimp only [Option.getD, Option.isSome] at HP
  have HP := Lib.hid HP
  go_wp2_with fail
  refine HP.out.mono ?_
  rintro e w14 ⟨rfl, k14⟩
  have HF14 := Lib.hid (HF13.out.keeps k14 (by simp) (by simp) (by simp) (by simp))
  have K14 := Lib.hid (K13.out.trans k14)
  clear k14 HF13 HL13 HP
  go_wp2_with fail
  refine (Look_bad w14 HF14.out (by rw [hlen8]; decide) 6 3 (by decide) (by rw [hlen8]; decide)).mono ?_
  rintro e w' ⟨rfl, rfl⟩
  go_wp2_with fail
  refine (Look_bad w14 HF14.out (by rw [hlen8]; decide) 0 2 (by decide) (by rw [hlen8]; decide)).mono ?_
  rintro e w' ⟨rfl, rfl⟩
  go_wp2
  go_ret
  exact ⟨rfl, K14.out⟩
/-- A number of 32 bits that came in. -/
theorem u32_of_wf {n : Int} (h : (Lit.int .u32 n).wf = true) : ∃ x : BitVec 32, n = (x.toNat : Int) := by
  have hb := bounds_u32 h
  exact ⟨BitVec.ofNat 32 n.toNat, by rw [BitVec.toNat_ofNat]; omega⟩

end Go.Proofs.Ytdcfcljgennipaa
