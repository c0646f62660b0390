/-
  Plain primitives: those that work on a stack as such. Written by draft/genpl5.py.
-/
import Derived.Test.YtfnjjanknfmibaaGreatPlMem
namespace Go.Proofs.YtfnjjanknfmibaaGreat
open Go.RowKit
set_option linter.unusedVariables false

section
variable {w0 w : World} {κ : Nat → Nat} {gs gr gm : Nat} {room : Int} {s r : List (BitVec 32)} {win ram : List UInt8}

/-- Where the u-th cell below the top one is. -/
def belowI (u : BitVec 32) : Int := min (u.toNat : Int) 4096 + 1
theorem belowI_bounds (u : BitVec 32) : 1 ≤ belowI u ∧ belowI u ≤ 4097 := by unfold belowI; omega
set_option maxRecDepth 100000 in
theorem below_any (w : World) (u : BitVec 32) : Calls Tryz.prog 83 #[.int .u32 (u.toNat : Int)] w fun e w' => e = .returned (.int .i64 (belowI u)) ∧ w = w' := by
  have h0 := u.isLt
  unfold belowI
  obtain ⟨x, hx⟩ : ∃ x : Int, x = (u.toNat : Int) := ⟨_, rfl⟩
  have x0 : 0 ≤ x := by omega
  have x1 : x < 4294967296 := by omega
  rw [← hx]
  clear hx h0
  go_enter Tryz.func83, Tryz.ntmps83
  go_wp2
  all_goals go_ret
  all_goals refine ⟨congrArg (fun z => Ending.returned (.int .i64 z)) ?_, rfl⟩
  all_goals omega

/-- ROLL: what is thrown, and the cells. -/
def rollT (s : List (BitVec 32)) (i : Int) : Int := if peekT s i (-4) = 0 then peekT (rollL s i) 1 (-4) else peekT s i (-4)
def rollS (s : List (BitVec 32)) (i : Int) : List (BitVec 32) := if peekT s i (-4) = 0 then rollL (rollL s i) 1 else rollL s i

set_option maxRecDepth 100000 in
set_option maxHeartbeats 1000000 in
theorem roll_any (h : Lab w0 κ w gs gr gm room s r win ram) (u : BitVec 32) : Calls Tryz.prog 85 #[.agg #[.pointer (some ⟨gs, 0, none⟩), .pointer (some ⟨gr, 0, none⟩), .pointer (some ⟨gm, 0, none⟩)], .int .u32 (u.toNat : Int)] w fun e w' => e = .returned (.int .i32 (rollT s (belowI u))) ∧ ∃ κ', Lab w0 κ' w' gs gr gm room (rollS s (belowI u)) r win ram ∧ Step κ w κ' w' := by
  have HBX := Lib.hid (fun U (hk : Keeps [] (w.alloc (.cells #[.pointer (some ⟨gs, 0, none⟩), .pointer (some ⟨gr, 0, none⟩), .pointer (some ⟨gm, 0, none⟩)] 61)) U) => (⟨(Keeps.alloc [] w _).trans hk, hk.cell (cell_alloc_new w _ _ 0) (by simp)⟩ : Keeps [] w U ∧ U.cell? ⟨w.heap.size, 0, none⟩ = some (.pointer (some ⟨gs, 0, none⟩))))
  have HN := Lib.hid (h.newer (x := w.heap.size) (Nat.le_refl _))
  have HBL := Lib.hid (fun W => below_any W u)
  have HR1 := Lib.hid (fun W (hk : Keeps [] w W) => (Roll_lab (h.next hk) (belowI u) _ _ rfl rfl).mono (fun e w7 (hh : _ ∧ ∃ κ', _ ∧ _) => (⟨hh.1, hh.2.choose, hh.2.choose_spec.1, hh.2.choose_spec.2⟩ : e = .returned (.int .i32 (peekT s (belowI u) (-4))) ∧ ∃ κ', Lab w0 κ' w7 gs gr gm room (rollL s (belowI u)) r win ram ∧ Step κ W κ' w7)))
  unfold rollT rollS
  clear h
  generalize belowI u = i at *
  generalize rollL s i = s1 at *
  generalize peekT s i (-4) = T at *
  by_cases h0 : T = 0
  · subst h0
    rw [if_pos rfl, if_pos rfl]
    go_enter Tryz.func85, Tryz.ntmps85
    go_upto_region 1 with fail
    go_region_with (first
      | (go_at_call 83; refine (HBL.out _).mono ?_; rintro e w1 ⟨rfl, rfl⟩)
      | (go_at_call 152; refine (HR1.out _ (by first | exact Keeps.alloc [] _ _ | exact (Keeps.alloc [] _ _).trans (Keeps.drew [] _) | exact (Keeps.alloc [] _ _).trans (Keeps.drewN [] _ _))).mono ?_; rintro e w2 ⟨rfl, κ2, hl2, hs2⟩; have HL2 := Lib.hid hl2; have HS2 := Lib.hid (Step.trans (Step.of (by first | exact Keeps.alloc [] _ _ | exact (Keeps.alloc [] _ _).trans (Keeps.drew [] _) | exact (Keeps.alloc [] _ _).trans (Keeps.drewN [] _ _))) hs2 : Step κ w κ2 w2); have b0 := hs2.cell (p := ⟨w.heap.size, 0, none⟩) (HBX.out _ (by first | exact Keeps.refl [] _ | exact Keeps.drew [] _ | exact Keeps.drewN [] _ _)).2 HN.out; clear hl2 hs2))
    all_goals (go_wp2_with (go_at_call 152; refine (Roll_lab HL2.out 1 _ _ rfl rfl).mono ?_; rintro e w3 ⟨rfl, κ3, hl3, hs3⟩; have HL3 := Lib.hid hl3; have HS3 := Lib.hid (HS2.out.trans hs3); clear hl3 hs3))
    all_goals go_ret
    all_goals exact ⟨rfl, κ3, HL3.out, HS3.out⟩
  · rw [if_neg h0, if_neg h0]
    go_enter Tryz.func85, Tryz.ntmps85
    go_upto_region 1 with fail
    go_region_with (first
      | (go_at_call 83; refine (HBL.out _).mono ?_; rintro e w1 ⟨rfl, rfl⟩)
      | (go_at_call 152; refine (HR1.out _ (by first | exact Keeps.alloc [] _ _ | exact (Keeps.alloc [] _ _).trans (Keeps.drew [] _) | exact (Keeps.alloc [] _ _).trans (Keeps.drewN [] _ _))).mono ?_; rintro e w2 ⟨rfl, κ2, hl2, hs2⟩; have HL2 := Lib.hid hl2; have HS2 := Lib.hid (Step.trans (Step.of (by first | exact Keeps.alloc [] _ _ | exact (Keeps.alloc [] _ _).trans (Keeps.drew [] _) | exact (Keeps.alloc [] _ _).trans (Keeps.drewN [] _ _))) hs2 : Step κ w κ2 w2); clear hl2 hs2))
    all_goals (try go_wp2)
    all_goals go_ret
    all_goals exact ⟨rfl, κ2, HL2.out, HS2.out⟩
end

def E_depth : Eff := fun room win c x => ([cN x.s.length], 0, x)
set_option maxRecDepth 100000 in
set_option maxHeartbeats 400000 in
theorem depth_does (gs gr gm : Nat) (W : World) (b : Nat) (hb0 : W.cell? ⟨b, 0, none⟩ = some (.pointer (some ⟨gs, 0, none⟩))) : Does gs gr gm 0 E_depth W 80 #[] #[.pointer (some ⟨b, 0, none⟩)] := by
  refine ⟨entered_of Tryz.func80 (by kernel_rfl) rfl, fun w0 w κ room s r win ram M c hkw hL hr hc => ?_⟩
  obtain rfl := List.length_eq_zero_iff.1 hc
  replace hb0 := hkw.cell hb0 (by simp)
  unfold E_depth
  have HL := Lib.hid hL
  have hlen := hL.lens.1
  have HB := Lib.hid (Len_lab hL (s.length : Int) rfl)
  have HX := Lib.hid (cN_toNat s.length (by omega))
  generalize cN s.length = G at *
  generalize s.length = n at *
  clear hr hkw hL hc
  show Calls _ _ #[.slice (some ⟨M, 0, none⟩) 0 0, .pointer (some ⟨b, 0, none⟩)] w _
  go_enter Tryz.func80, Tryz.ntmps80
  have KZ := Lib.hid (Keeps.refl [] w)
  go_wp2_with (first
    | (go_at_call 25; refine HB.out.mono ?_; rintro e w1 ⟨rfl, rfl⟩))
  go_ret2
  exact ⟨_, _, _, κ, rfl, HL.out.next (Keeps.alloc [] _ _), Step.of (Keeps.alloc [] _ _), UReads.lit1 _ _ _ _ (by rw [HX.out]), fun _ => HL.out.newer (Nat.le_refl _), by simp⟩

def E_pick : Eff := fun room win c x => ([peekX x.s (belowI (c.getD 0 0#32))], peekT x.s (belowI (c.getD 0 0#32)) (-4), x)
set_option maxRecDepth 100000 in
set_option maxHeartbeats 400000 in
theorem pick_does (gs gr gm : Nat) (W : World) (b : Nat) (hb0 : W.cell? ⟨b, 0, none⟩ = some (.pointer (some ⟨gs, 0, none⟩))) : Does gs gr gm 1 E_pick W 81 #[] #[.pointer (some ⟨b, 0, none⟩)] := by
  refine ⟨entered_of Tryz.func81 (by kernel_rfl) rfl, fun w0 w κ room s r win ram M c hkw hL hr hc => ?_⟩
  obtain ⟨c0, rfl⟩ := List.length_eq_one_iff.1 hc
  have hcs := taken_cells hr (by simp)
  have h0 : w.cell? ⟨M, 0, none⟩ = some (.int .u32 (c0.toNat : Int)) := hcs 0 c0 rfl
  have l0 := c0.isLt
  replace hb0 := hkw.cell hb0 (by simp)
  unfold E_pick
  simp only [List.getD_cons_zero]
  have HL := Lib.hid hL
  have HBL := Lib.hid (fun U => below_any U c0)
  have HB := Lib.hid (fun U (hk : Keeps [] w U) => Peek_lab (hL.next hk) (belowI c0) _ _ rfl rfl)
  generalize belowI c0 = i at *
  generalize peekX s i = G at *
  generalize peekT s i (-4) = T at *
  clear hr hkw hL hc hcs
  show Calls _ _ #[.slice (some ⟨M, 0, none⟩) 1 1, .pointer (some ⟨b, 0, none⟩)] w _
  have q0 := fun U (hk : Keeps [] w U) => hk.cell h0 (by simp)
  have qb0 := fun U (hk : Keeps [] w U) => hk.cell hb0 (by simp)
  go_enter Tryz.func81, Tryz.ntmps81
  go_upto_region 1 with fail
  go_region_held3 (fun U => Keeps [] w U) (first | assumption | exact Keeps.refl [] _ | exact Keeps.drew [] _ | exact Keeps.trans (by assumption) (Keeps.alloc [] _ _) | exact (Keeps.drew [] _).trans (Keeps.alloc [] _ _) | exact Keeps.trans (by assumption) (by assumption) | exact (Keeps.drew [] _).trans (by assumption)) (first
    | (go_at_call 83; refine (HBL.out _).mono ?_; rintro e w9 ⟨rfl, rfl⟩)
    | (go_at_call 39; refine (HB.out _ (by first | assumption | exact Keeps.refl [] _ | exact Keeps.drew [] _ | exact Keeps.trans (by assumption) (by assumption) | exact (Keeps.drew [] _).trans (by assumption))).mono ?_; rintro e w1 ⟨rfl, hk⟩)
    | (go_at_call 82; refine (singleU_any _ _ _).mono ?_; rintro e w2 ⟨rfl, rfl⟩))
  all_goals (try go_wp2)
  all_goals go_ret2
  have HK1 : Keeps [] w w1 := by first | assumption | exact (Keeps.drew [] _).trans (by assumption)
  exact ⟨_, _, _, κ, rfl, HL.out.next (HK1.trans (Keeps.alloc [] _ _)), Step.of (HK1.trans (Keeps.alloc [] _ _)), UReads.lit1 _ _ _ _ rfl, fun _ => HL.out.newer HK1.size, by simp⟩

def E_roll : Eff := fun room win c x => ([], rollT x.s (belowI (c.getD 0 0#32)), ⟨rollS x.s (belowI (c.getD 0 0#32)), x.r, x.ram⟩)
set_option maxRecDepth 100000 in
set_option maxHeartbeats 400000 in
theorem roll_does (gs gr gm : Nat) (W : World) (b : Nat) (hb0 : W.cell? ⟨b, 0, none⟩ = some (.pointer (some ⟨gs, 0, none⟩))) (hb1 : W.cell? ⟨b, 1, none⟩ = some (.pointer (some ⟨gr, 0, none⟩))) (hb2 : W.cell? ⟨b, 2, none⟩ = some (.pointer (some ⟨gm, 0, none⟩))) : Does gs gr gm 1 E_roll W 84 #[] #[.pointer (some ⟨b, 0, none⟩)] := by
  refine ⟨entered_of Tryz.func84 (by kernel_rfl) rfl, fun w0 w κ room s r win ram M c hkw hL hr hc => ?_⟩
  obtain ⟨c0, rfl⟩ := List.length_eq_one_iff.1 hc
  have hcs := taken_cells hr (by simp)
  have h0 : w.cell? ⟨M, 0, none⟩ = some (.int .u32 (c0.toNat : Int)) := hcs 0 c0 rfl
  have l0 := c0.isLt
  replace hb0 := hkw.cell hb0 (by simp)
  replace hb1 := hkw.cell hb1 (by simp)
  replace hb2 := hkw.cell hb2 (by simp)
  unfold E_roll
  simp only [List.getD_cons_zero]
  have HL := Lib.hid hL
  have HB := Lib.hid (fun U (hk : Keeps [] w U) => roll_any (hL.next hk) c0)
  generalize rollT s (belowI c0) = T at *
  generalize rollS s (belowI c0) = s' at *
  clear hr hkw hL hc hcs
  show Calls _ _ #[.slice (some ⟨M, 0, none⟩) 1 1, .pointer (some ⟨b, 0, none⟩)] w _
  go_enter Tryz.func84, Tryz.ntmps84
  go_upto_region 1 with fail
  refine wp_region_tail 4 (by kernel_rfl) (by kernel_rfl) ?_
  intro wz hwz
  have kz : Keeps [] w wz := by rw [hwz]; exact Keeps.drew _ _
  replace h0 := kz.cell h0 (by simp)
  replace hb0 := kz.cell hb0 (by simp)
  replace hb1 := kz.cell hb1 (by simp)
  replace hb2 := kz.cell hb2 (by simp)
  have KZ := Lib.hid kz
  clear kz hwz
  simp only [List.take_succ_cons, List.take_zero, List.drop_succ_cons, List.drop_zero]
  repeat still_step
  refine wpStill_nil ?_
  go_wp2_with (first
    | (go_at_call 85; refine (HB.out _ KZ.out).mono ?_; rintro e w1 ⟨rfl, κ1, hl1, hs1⟩; have HL1 := Lib.hid hl1; have HS1 := Lib.hid hs1; clear hl1 hs1))
  go_ret2
  exact ⟨_, 0, 0, κ1, rfl, HL1.out, (Step.of KZ.out).trans HS1.out, UReads.nil _ _ _, fun hn => absurd rfl hn, by decide⟩

def E_tor : Eff := fun room win c x => ([], pushT room (-5) x.r [(c.getD 0 0#32)], ⟨x.s, pushL room x.r [(c.getD 0 0#32)], x.ram⟩)
set_option maxRecDepth 100000 in
set_option maxHeartbeats 400000 in
theorem tor_does (gs gr gm : Nat) (W : World) (b : Nat) (hb1 : W.cell? ⟨b, 1, none⟩ = some (.pointer (some ⟨gr, 0, none⟩))) : Does gs gr gm 1 E_tor W 86 #[] #[.pointer (some ⟨b, 0, none⟩)] := by
  refine ⟨entered_of Tryz.func86 (by kernel_rfl) rfl, fun w0 w κ room s r win ram M c hkw hL hr hc => ?_⟩
  obtain ⟨c0, rfl⟩ := List.length_eq_one_iff.1 hc
  have hcs := taken_cells hr (by simp)
  have h0 : w.cell? ⟨M, 0, none⟩ = some (.int .u32 (c0.toNat : Int)) := hcs 0 c0 rfl
  have l0 := c0.isLt
  replace hb1 := hkw.cell hb1 (by simp)
  unfold E_tor
  simp only [List.getD_cons_zero]
  have HL := Lib.hid hL
  have HB := Lib.hid (fun U xv Mx (hk : Keeps [] w U) (hu : UReads U xv [c0] Mx 0) => (PushR_lab (hL.next hk) xv [c0] Mx 0 hu (by unfold maxLen; simp) _ _ rfl rfl).mono (fun e w7 (hh : _ ∧ ∃ κ', _ ∧ _) => (⟨hh.1, hh.2.choose, hh.2.choose_spec.1, (Step.of hk).trans hh.2.choose_spec.2⟩ : e = .returned (.int .i32 (pushT room (-5) r [c0])) ∧ ∃ κ', Lab w0 κ' w7 gs gr gm room s (pushL room r [c0]) win ram ∧ Step κ w κ' w7)))
  generalize pushT room (-5) r [c0] = T at *
  generalize pushL room r [c0] = r' at *
  clear hr hkw hL hc hcs
  show Calls _ _ #[.slice (some ⟨M, 0, none⟩) 1 1, .pointer (some ⟨b, 0, none⟩)] w _
  go_enter Tryz.func86, Tryz.ntmps86
  go_upto_region 1 with fail
  have hb1a : (w.alloc (.cells #[.int .u32 (c0.toNat : Int)] 24)).cell? ⟨b, 1, none⟩ = some (.pointer (some ⟨gr, 0, none⟩)) := (Keeps.alloc [] w _).cell hb1 (by simp)
  have HV1 := Lib.hid (HB.out ((w.alloc (.cells #[.int .u32 (c0.toNat : Int)] 24)).drew) (.slice (some ⟨w.heap.size, 0, none⟩) 1 1) w.heap.size ((Keeps.alloc [] w _).trans (Keeps.drew [] _)) ((UReads.lit1 w _ c0 24 rfl).keeps (Keeps.drew [] _) (by simp)))
  clear HB
  go_region_with (go_at_call 14; refine HV1.out.mono ?_; rintro e w1 ⟨rfl, κ1, hl1, hs1⟩; have HL1 := Lib.hid hl1; have HS1 := Lib.hid hs1; clear hl1 hs1)
  all_goals (try go_wp2)
  all_goals go_ret2
  all_goals exact ⟨_, 0, 0, κ1, rfl, HL1.out, HS1.out, UReads.nil _ _ _, fun hn => absurd rfl hn, by decide⟩

def E_rfrom : Eff := fun room win c x => ([peekX x.r 0], peekT x.r 0 (-6), ⟨x.s, x.r.take (x.r.length - 1), x.ram⟩)
set_option maxRecDepth 100000 in
set_option maxHeartbeats 400000 in
theorem rfrom_does (gs gr gm : Nat) (W : World) (b : Nat) (hb1 : W.cell? ⟨b, 1, none⟩ = some (.pointer (some ⟨gr, 0, none⟩))) : Does gs gr gm 0 E_rfrom W 87 #[] #[.pointer (some ⟨b, 0, none⟩)] := by
  refine ⟨entered_of Tryz.func87 (by kernel_rfl) rfl, fun w0 w κ room s r win ram M c hkw hL hr hc => ?_⟩
  obtain rfl := List.length_eq_zero_iff.1 hc
  replace hb1 := hkw.cell hb1 (by simp)
  unfold E_rfrom
  have HL := Lib.hid hL
  have HB := Lib.hid (PopR_lab hL _ _ _ rfl rfl rfl)
  generalize peekX r 0 = G at *
  generalize peekT r 0 (-6) = T at *
  generalize r.take (r.length - 1) = r' at *
  clear hr hkw hL hc
  show Calls _ _ #[.slice (some ⟨M, 0, none⟩) 0 0, .pointer (some ⟨b, 0, none⟩)] w _
  go_enter Tryz.func87, Tryz.ntmps87
  have KZ := Lib.hid (Keeps.refl [] w)
  go_wp2_with (first
    | (go_at_call 88; refine HB.out.mono ?_; rintro e w1 ⟨rfl, κ1, hl1, hs1⟩; have HL1 := Lib.hid hl1; have HS1 := Lib.hid hs1; clear hl1 hs1)
    | (go_at_call 82; refine (singleU_any _ _ _).mono ?_; rintro e w2 ⟨rfl, rfl⟩))
  go_ret2
  exact ⟨_, _, _, κ1, rfl, HL1.out.next (Keeps.alloc [] _ _), HS1.out.trans (Step.of (Keeps.alloc [] _ _)), UReads.lit1 _ _ _ _ rfl, fun _ => HL1.out.newer (Nat.le_refl _), by simp⟩

def E_rfetch : Eff := fun room win c x => ([peekX x.r 0], peekT x.r 0 (-6), x)
set_option maxRecDepth 100000 in
set_option maxHeartbeats 400000 in
theorem rfetch_does (gs gr gm : Nat) (W : World) (b : Nat) (hb1 : W.cell? ⟨b, 1, none⟩ = some (.pointer (some ⟨gr, 0, none⟩))) : Does gs gr gm 0 E_rfetch W 89 #[] #[.pointer (some ⟨b, 0, none⟩)] := by
  refine ⟨entered_of Tryz.func89 (by kernel_rfl) rfl, fun w0 w κ room s r win ram M c hkw hL hr hc => ?_⟩
  obtain rfl := List.length_eq_zero_iff.1 hc
  replace hb1 := hkw.cell hb1 (by simp)
  unfold E_rfetch
  have HL := Lib.hid hL
  have HB := Lib.hid (PeekR_lab hL 0 _ _ rfl rfl)
  generalize peekX r 0 = G at *
  generalize peekT r 0 (-6) = T at *
  clear hr hkw hL hc
  show Calls _ _ #[.slice (some ⟨M, 0, none⟩) 0 0, .pointer (some ⟨b, 0, none⟩)] w _
  go_enter Tryz.func89, Tryz.ntmps89
  have KZ := Lib.hid (Keeps.refl [] w)
  go_wp2_with (first
    | (go_at_call 39; refine HB.out.mono ?_; rintro e w1 ⟨rfl, hk⟩; have HK := Lib.hid hk; clear hk)
    | (go_at_call 82; refine (singleU_any _ _ _).mono ?_; rintro e w2 ⟨rfl, rfl⟩))
  go_ret2
  exact ⟨_, _, _, κ, rfl, HL.out.next (HK.out.trans (Keeps.alloc [] _ _)), Step.of (HK.out.trans (Keeps.alloc [] _ _)), UReads.lit1 _ _ _ _ rfl, fun _ => HL.out.newer HK.out.size, by simp⟩

end Go.Proofs.YtfnjjanknfmibaaGreat
