/-
  Plain primitives: those that read memory, and those that write it. Written by draft/genpl5.py.
-/
import Derived.Test.YtfnjjanknfmibaaGreatPlYesB
namespace Go.Proofs.YtfnjjanknfmibaaGreat
open Go.RowKit
set_option linter.unusedVariables false

theorem taken_cells {w : World} {M k : Nat} {c : List (BitVec 32)} (hr : UReads w (.slice (some ⟨M, 0, none⟩) k k) c M 0) (hc : c ≠ []) : ∀ i x, c[i]? = some x → w.cell? ⟨M, i, none⟩ = some (uv x) := by
  intro i x hi
  obtain ⟨cp, e, _, hh⟩ := hr.cells hc
  have := hh i x hi
  rwa [Nat.zero_add] at this
/-- The cell of a number that fits, and of a byte. -/
def cN (n : Nat) : BitVec 32 := BitVec.ofNat 32 n
theorem cN_toNat (n : Nat) (h : n < 4294967296) : (cN n).toNat = n := by unfold cN; rw [BitVec.toNat_ofNat]; omega
theorem loadX_lt (win ram : List UInt8) (A : Nat) : loadX win ram A < 4294967296 := by
  unfold loadX
  split
  · unfold wordN
    have h0 := (List.getD (gL win ram A 4) 0 0).toNat_lt
    have h1 := (List.getD (gL win ram A 4) 1 0).toNat_lt
    have h2 := (List.getD (gL win ram A 4) 2 0).toNat_lt
    have h3 := (List.getD (gL win ram A 4) 3 0).toNat_lt
    omega
  · decide
def cellAt (win ram : List UInt8) (A : Nat) : BitVec 32 := cN (loadX win ram A)
theorem cellAt_toNat (win ram : List UInt8) (A : Nat) : (cellAt win ram A).toNat = loadX win ram A := cN_toNat _ (loadX_lt win ram A)
def byteAt (win ram : List UInt8) (A : Nat) : BitVec 32 := cN (byteX win ram A).toNat
theorem byteAt_toNat (win ram : List UInt8) (A : Nat) : (byteAt win ram A).toNat = (byteX win ram A).toNat := cN_toNat _ (by have := (byteX win ram A).toNat_lt; omega)
/-- The address behind a cell. -/
def nextA (A : Nat) : Nat := (A + 4) % 4294967296

section
variable {w0 w : World} {κ : Nat → Nat} {gs gr gm : Nat} {room : Int} {s r : List (BitVec 32)} {win ram : List UInt8}

set_option maxRecDepth 100000 in
theorem count_any (h : Lab w0 κ w gs gr gm room s r win ram) (A : Nat) (a1 : A < 4294967296) : Gives w 98 #[.agg #[.pointer (some ⟨gs, 0, none⟩), .pointer (some ⟨gr, 0, none⟩), .pointer (some ⟨gm, 0, none⟩)], .int .u32 (A : Int)] [cI ((A : Int) + 1), byteAt win ram A] (tT win ram A 1) := by
  unfold Gives
  have HB := Lib.hid (fun W (hk : Keeps [] w W) => Byte_lab (h.next hk) (A : Int) A rfl a1 _ _ rfl rfl)
  have HX := Lib.hid (byteAt_toNat win ram A)
  have hX := (byteX win ram A).toNat_lt
  obtain ⟨X, hx⟩ : ∃ X : Int, X = ((byteX win ram A).toNat : Int) := ⟨_, rfl⟩
  have HXX := Lib.hid hx
  rw [← hx] at HB
  have x0 : 0 ≤ X ∧ X < 256 := by omega
  obtain ⟨x0, x1⟩ := x0
  clear h hx hX
  generalize tT win ram A 1 = T at *
  go_enter Tryz.func98, Tryz.ntmps98
  go_wp2_with (go_at_call 94; refine (HB.out _ (Keeps.alloc [] _ _)).mono ?_; rintro e w1 ⟨rfl, hk⟩; have HK := Lib.hid hk; clear hk)
  go_ret2
  exact ⟨_, _, _, rfl, UReads.lit2 _ _ _ _ _ _ (by rw [cI_toNat]) (by rw [HX.out]; exact HXX.out), fun _ => Nat.le_trans (Keeps.alloc [] w _).size HK.out.size, ((Keeps.alloc [] w _).trans HK.out).trans (Keeps.alloc [] _ _)⟩

set_option maxRecDepth 100000 in
theorem loadTwo_any (h : Lab w0 κ w gs gr gm room s r win ram) (A : Nat) (a1 : A < 4294967296) : Gives w 96 #[.agg #[.pointer (some ⟨gs, 0, none⟩), .pointer (some ⟨gr, 0, none⟩), .pointer (some ⟨gm, 0, none⟩)], .int .u32 (A : Int)] (if loadT win ram A = 0 then [cellAt win ram (nextA A), cellAt win ram A] else []) (if loadT win ram A = 0 then loadT win ram (nextA A) else loadT win ram A) := by
  unfold Gives
  obtain ⟨a, ha⟩ : ∃ a : Int, a = (A : Int) := ⟨_, rfl⟩
  have HB := Lib.hid (fun W (hk : Keeps [] w W) => Load_lab (h.next hk) a A ha a1 _ _ rfl rfl)
  have HC := Lib.hid (fun W (hk : Keeps [] w W) => Load_lab (h.next hk) ((a + 4) % 4294967296) (nextA A) (by unfold nextA; omega) (by unfold nextA; omega) _ _ rfl rfl)
  rw [← ha]
  clear ha
  have HX := Lib.hid (cellAt_toNat win ram A)
  have HY := Lib.hid (cellAt_toNat win ram (nextA A))
  clear h
  generalize nextA A = A2 at *
  generalize hX : loadX win ram A = X at *
  generalize hY : loadX win ram A2 = Y at *
  clear hX hY
  generalize loadT win ram A2 = T2 at *
  have HBX := Lib.hid (fun U (hk : Keeps [] (w.alloc (.cells #[.pointer (some ⟨gs, 0, none⟩), .pointer (some ⟨gr, 0, none⟩), .pointer (some ⟨gm, 0, none⟩)] 61)) U) => (⟨(Keeps.alloc [] w _).trans hk, hk.cell (cell_alloc_new w _ _ 2) (by simp)⟩ : Keeps [] w U ∧ U.cell? ⟨w.heap.size, 2, none⟩ = some (.pointer (some ⟨gm, 0, none⟩))))
  generalize loadT win ram A = T at *
  by_cases h0 : T = 0
  · subst h0
    rw [if_pos rfl, if_pos rfl]
    go_enter Tryz.func96, Tryz.ntmps96
    go_upto_region 4 with (go_at_call 91; refine (HB.out _ (Keeps.alloc [] _ _)).mono ?_; rintro e w1 ⟨rfl, hk⟩; have HK := Lib.hid (HBX.out _ hk).1; have b2 := (HBX.out _ hk).2; clear hk)
    go_wp2_with (go_at_call 91; refine (HC.out _ HK.out).mono ?_; rintro e w2 ⟨rfl, hk⟩; have HK2 := Lib.hid hk; clear hk)
    go_ret2
    exact ⟨_, _, _, rfl, UReads.lit2 _ _ _ _ _ _ (by rw [HY.out]) (by rw [HX.out]), fun _ => Nat.le_trans HK.out.size HK2.out.size, (HK.out.trans HK2.out).trans (Keeps.alloc [] _ _)⟩
  · rw [if_neg h0, if_neg h0]
    go_enter Tryz.func96, Tryz.ntmps96
    go_wp2_with (go_at_call 91; refine (HB.out _ (Keeps.alloc [] _ _)).mono ?_; rintro e w1 ⟨rfl, hk⟩; have HK := Lib.hid (HBX.out _ hk).1; clear hk)
    go_ret2
    exact ⟨_, 0, 0, rfl, UReads.nil _ _ _, fun hn => absurd rfl hn, HK.out⟩

/-- A cell increased: what is thrown, and what RAM is then. -/
def addT (win ram : List UInt8) (A : Nat) : Int := if loadT win ram A = 0 then storeT win ram A else loadT win ram A
def addL (win ram : List UInt8) (A n : Nat) : List UInt8 := if loadT win ram A = 0 then storeL ram A ((loadX win ram A + n) % 4294967296) else ram

set_option maxRecDepth 100000 in
theorem add_any (h : Lab w0 κ w gs gr gm room s r win ram) (A n : Nat) (a1 : A < 4294967296) (n1 : n < 4294967296) : Calls Tryz.prog 104 #[.agg #[.pointer (some ⟨gs, 0, none⟩), .pointer (some ⟨gr, 0, none⟩), .pointer (some ⟨gm, 0, none⟩)], .int .u32 (A : Int), .int .u32 (n : Int)] w fun e w' => e = .returned (.int .i32 (addT win ram A)) ∧ ∃ κ', Lab w0 κ' w' gs gr gm room s r win (addL win ram A n) ∧ Step κ w κ' w' := by
  obtain ⟨a, ha⟩ : ∃ a : Int, a = (A : Int) := ⟨_, rfl⟩
  obtain ⟨m, hm⟩ : ∃ m : Int, m = (n : Int) := ⟨_, rfl⟩
  obtain ⟨X, hX⟩ : ∃ X : Int, X = (loadX win ram A : Int) := ⟨_, rfl⟩
  have HB := Lib.hid (fun W (hk : Keeps [] w W) => Load_lab (h.next hk) a A ha a1 X _ hX.symm rfl)
  have hlt := loadX_lt win ram A
  have HC := Lib.hid (fun W (hk : Keeps [] w W) => (Store_lab (h.next hk) a ((X + m) % 4294967296) A ((loadX win ram A + n) % 4294967296) ha (by omega) a1 (by omega) _ _ rfl rfl).mono (fun e w7 (hh : _ ∧ ∃ κ', _ ∧ _) => (⟨hh.1, hh.2.choose, hh.2.choose_spec.1, (Step.of hk).trans hh.2.choose_spec.2⟩ : e = .returned (.int .i32 (storeT win ram A)) ∧ ∃ κ', Lab w0 κ' w7 gs gr gm room s r win (storeL ram A ((loadX win ram A + n) % 4294967296)) ∧ Step κ w κ' w7)))
  unfold addT addL
  rw [← ha, ← hm]
  have HL := Lib.hid h
  clear h ha hm hX hlt
  generalize storeL ram A ((loadX win ram A + n) % 4294967296) = R at *
  generalize storeT win ram A = T2 at *
  have HBX := Lib.hid (fun U (hk : Keeps [] (w.alloc (.cells #[.pointer (some ⟨gs, 0, none⟩), .pointer (some ⟨gr, 0, none⟩), .pointer (some ⟨gm, 0, none⟩)] 61)) U) => (⟨(Keeps.alloc [] w _).trans hk, hk.cell (cell_alloc_new w _ _ 2) (by simp)⟩ : Keeps [] w U ∧ U.cell? ⟨w.heap.size, 2, none⟩ = some (.pointer (some ⟨gm, 0, none⟩))))
  generalize loadT win ram A = T at *
  by_cases h0 : T = 0
  · subst h0
    rw [if_pos rfl, if_pos rfl]
    go_enter Tryz.func104, Tryz.ntmps104
    go_upto_region 4 with (go_at_call 91; refine (HB.out _ (Keeps.alloc [] _ _)).mono ?_; rintro e w1 ⟨rfl, hk⟩; have HK := Lib.hid (HBX.out _ hk).1; have b2 := (HBX.out _ hk).2; clear hk)
    go_wp2_with (go_at_call 100; refine (HC.out _ HK.out).mono ?_; rintro e w2 ⟨rfl, κ', hl, hs⟩; have HL2 := Lib.hid hl; have HS2 := Lib.hid hs; clear hl hs)
    go_ret
    exact ⟨rfl, κ', HL2.out, HS2.out⟩
  · rw [if_neg h0, if_neg h0]
    go_enter Tryz.func104, Tryz.ntmps104
    go_wp2_with (go_at_call 91; refine (HB.out _ (Keeps.alloc [] _ _)).mono ?_; rintro e w1 ⟨rfl, hk⟩; have HK := Lib.hid (HBX.out _ hk).1; clear hk)
    go_ret
    exact ⟨rfl, κ, HL.out.next HK.out, Step.of HK.out⟩
end

def E_fetch : Eff := fun room win c x => ([cellAt win x.ram (c.getD 0 0#32).toNat], loadT win x.ram (c.getD 0 0#32).toNat, x)
set_option maxRecDepth 100000 in
set_option maxHeartbeats 400000 in
theorem fetch_does (gs gr gm : Nat) (W : World) (b : Nat) (hb2 : W.cell? ⟨b, 2, none⟩ = some (.pointer (some ⟨gm, 0, none⟩))) : Does gs gr gm 1 E_fetch W 90 #[] #[.pointer (some ⟨b, 0, none⟩)] := by
  refine ⟨entered_of Tryz.func90 (by kernel_rfl) rfl, fun w0 w κ room s r win ram M c hkw hL hr hc => ?_⟩
  obtain ⟨c0, rfl⟩ := List.length_eq_one_iff.1 hc
  have hcs := taken_cells hr (by simp)
  have h0 : w.cell? ⟨M, 0, none⟩ = some (.int .u32 (c0.toNat : Int)) := hcs 0 c0 rfl
  have l0 := c0.isLt
  replace hb2 := hkw.cell hb2 (by simp)
  unfold E_fetch
  simp only [List.getD_cons_zero]
  have HL := Lib.hid hL
  have HB := Lib.hid (fun W (hk : Keeps [] w W) => Load_lab (hL.next hk) (c0.toNat : Int) c0.toNat rfl l0 _ _ rfl rfl)
  have HX := Lib.hid (cellAt_toNat win ram c0.toNat)
  generalize loadX win ram c0.toNat = X at *
  generalize loadT win ram c0.toNat = T at *
  generalize cellAt win ram c0.toNat = G at *
  clear hr hkw hL hc hcs
  show Calls _ _ #[.slice (some ⟨M, 0, none⟩) 1 1, .pointer (some ⟨b, 0, none⟩)] w _
  have q0 := fun U (hk : Keeps [] w U) => hk.cell h0 (by simp)
  have qb2 := fun U (hk : Keeps [] w U) => hk.cell hb2 (by simp)
  go_enter Tryz.func90, Tryz.ntmps90
  go_upto_region 1 with fail
  go_region_held3 (fun U => Keeps [] w U) (first | assumption | exact Keeps.refl [] _ | exact Keeps.drew [] _ | exact Keeps.trans (by assumption) (Keeps.alloc [] _ _) | exact (Keeps.drew [] _).trans (Keeps.alloc [] _ _) | exact Keeps.trans (by assumption) (by assumption) | exact (Keeps.drew [] _).trans (by assumption)) (first
    | (go_at_call 91; refine (HB.out _ (by first | assumption | exact Keeps.refl [] _ | exact Keeps.drew [] _ | exact Keeps.trans (by assumption) (by assumption) | exact (Keeps.drew [] _).trans (by assumption))).mono ?_; rintro e w1 ⟨rfl, hk⟩)
    | (go_at_call 82; refine (singleU_any _ _ _).mono ?_; rintro e w2 ⟨rfl, rfl⟩))
  all_goals (try go_wp2)
  all_goals go_ret2
  have HK1 : Keeps [] w w1 := by first | assumption | exact (Keeps.drew [] _).trans (by assumption)
  exact ⟨_, _, _, κ, rfl, HL.out.next (HK1.trans (Keeps.alloc [] _ _)), Step.of (HK1.trans (Keeps.alloc [] _ _)), UReads.lit1 _ _ _ _ (by rw [HX.out]), fun _ => HL.out.newer HK1.size, by simp⟩

def E_cfetch : Eff := fun room win c x => ([byteAt win x.ram (c.getD 0 0#32).toNat], tT win x.ram (c.getD 0 0#32).toNat 1, x)
set_option maxRecDepth 100000 in
set_option maxHeartbeats 400000 in
theorem cfetch_does (gs gr gm : Nat) (W : World) (b : Nat) (hb2 : W.cell? ⟨b, 2, none⟩ = some (.pointer (some ⟨gm, 0, none⟩))) : Does gs gr gm 1 E_cfetch W 92 #[] #[.pointer (some ⟨b, 0, none⟩)] := by
  refine ⟨entered_of Tryz.func92 (by kernel_rfl) rfl, fun w0 w κ room s r win ram M c hkw hL hr hc => ?_⟩
  obtain ⟨c0, rfl⟩ := List.length_eq_one_iff.1 hc
  have hcs := taken_cells hr (by simp)
  have h0 : w.cell? ⟨M, 0, none⟩ = some (.int .u32 (c0.toNat : Int)) := hcs 0 c0 rfl
  have l0 := c0.isLt
  replace hb2 := hkw.cell hb2 (by simp)
  unfold E_cfetch
  simp only [List.getD_cons_zero]
  have HL := Lib.hid hL
  have HB := Lib.hid (fun W (hk : Keeps [] w W) => Byte_lab (hL.next hk) (c0.toNat : Int) c0.toNat rfl l0 _ _ rfl rfl)
  have HX := Lib.hid (byteAt_toNat win ram c0.toNat)
  have hX := (byteX win ram c0.toNat).toNat_lt
  generalize (byteX win ram c0.toNat).toNat = X at *
  generalize tT win ram c0.toNat 1 = T at *
  generalize byteAt win ram c0.toNat = G at *
  clear hr hkw hL hc hcs
  show Calls _ _ #[.slice (some ⟨M, 0, none⟩) 1 1, .pointer (some ⟨b, 0, none⟩)] w _
  have q0 := fun U (hk : Keeps [] w U) => hk.cell h0 (by simp)
  have qb2 := fun U (hk : Keeps [] w U) => hk.cell hb2 (by simp)
  go_enter Tryz.func92, Tryz.ntmps92
  go_upto_region 1 with fail
  go_region_held3 (fun U => Keeps [] w U) (first | assumption | exact Keeps.refl [] _ | exact Keeps.drew [] _ | exact Keeps.trans (by assumption) (Keeps.alloc [] _ _) | exact (Keeps.drew [] _).trans (Keeps.alloc [] _ _) | exact Keeps.trans (by assumption) (by assumption) | exact (Keeps.drew [] _).trans (by assumption)) (first
    | (go_at_call 94; refine (HB.out _ (by first | assumption | exact Keeps.refl [] _ | exact Keeps.drew [] _ | exact Keeps.trans (by assumption) (by assumption) | exact (Keeps.drew [] _).trans (by assumption))).mono ?_; rintro e w1 ⟨rfl, hk⟩)
    | (go_at_call 93; refine (singleB_any _ (X : Int) _ (by omega) (by omega)).mono ?_; rintro e w2 ⟨rfl, rfl⟩))
  all_goals (try go_wp2)
  all_goals go_ret2
  have HK1 : Keeps [] w w1 := by first | assumption | exact (Keeps.drew [] _).trans (by assumption)
  exact ⟨_, _, _, κ, rfl, HL.out.next (HK1.trans (Keeps.alloc [] _ _)), Step.of (HK1.trans (Keeps.alloc [] _ _)), UReads.lit1 _ _ _ _ (by rw [HX.out]), fun _ => HL.out.newer HK1.size, by simp⟩

def E_fetch2 : Eff := fun room win c x => (if loadT win x.ram (c.getD 0 0#32).toNat = 0 then [cellAt win x.ram (nextA (c.getD 0 0#32).toNat), cellAt win x.ram (c.getD 0 0#32).toNat] else [], if loadT win x.ram (c.getD 0 0#32).toNat = 0 then loadT win x.ram (nextA (c.getD 0 0#32).toNat) else loadT win x.ram (c.getD 0 0#32).toNat, x)
set_option maxRecDepth 100000 in
set_option maxHeartbeats 400000 in
theorem fetch2_does (gs gr gm : Nat) (W : World) (b : Nat) (hb0 : W.cell? ⟨b, 0, none⟩ = some (.pointer (some ⟨gs, 0, none⟩))) (hb1 : W.cell? ⟨b, 1, none⟩ = some (.pointer (some ⟨gr, 0, none⟩))) (hb2 : W.cell? ⟨b, 2, none⟩ = some (.pointer (some ⟨gm, 0, none⟩))) : Does gs gr gm 1 E_fetch2 W 95 #[] #[.pointer (some ⟨b, 0, none⟩)] := by
  refine ⟨entered_of Tryz.func95 (by kernel_rfl) rfl, fun w0 w κ room s r win ram M c hkw hL hr hc => ?_⟩
  obtain ⟨c0, rfl⟩ := List.length_eq_one_iff.1 hc
  have hcs := taken_cells hr (by simp)
  have h0 : w.cell? ⟨M, 0, none⟩ = some (.int .u32 (c0.toNat : Int)) := hcs 0 c0 rfl
  have l0 := c0.isLt
  replace hb0 := hkw.cell hb0 (by simp)
  replace hb1 := hkw.cell hb1 (by simp)
  replace hb2 := hkw.cell hb2 (by simp)
  unfold E_fetch2
  simp only [List.getD_cons_zero]
  have HL := Lib.hid hL
  have HB := Lib.hid (fun W (hk : Keeps [] w W) => loadTwo_any (hL.next hk) c0.toNat l0)
  unfold Gives at HB
  have HLN : Hid ((if loadT win ram c0.toNat = 0 then [cellAt win ram (nextA c0.toNat), cellAt win ram c0.toNat] else []).length ≤ 6) := by show _ ≤ _; split <;> simp
  generalize (if loadT win ram c0.toNat = 0 then [cellAt win ram (nextA c0.toNat), cellAt win ram c0.toNat] else []) = G at *
  generalize (if loadT win ram c0.toNat = 0 then loadT win ram (nextA c0.toNat) else loadT win ram c0.toNat) = T at *
  clear hr hkw hL hc hcs
  show Calls _ _ #[.slice (some ⟨M, 0, none⟩) 1 1, .pointer (some ⟨b, 0, none⟩)] w _
  have q0 := fun U (hk : Keeps [] w U) => hk.cell h0 (by simp)
  have qb0 := fun U (hk : Keeps [] w U) => hk.cell hb0 (by simp)
  have qb1 := fun U (hk : Keeps [] w U) => hk.cell hb1 (by simp)
  have qb2 := fun U (hk : Keeps [] w U) => hk.cell hb2 (by simp)
  go_enter Tryz.func95, Tryz.ntmps95
  go_upto_region 1 with fail
  go_region_held3 (fun U => Keeps [] w U) (first | assumption | exact Keeps.refl [] _ | exact Keeps.drew [] _ | exact Keeps.trans (by assumption) (Keeps.alloc [] _ _) | exact (Keeps.drew [] _).trans (Keeps.alloc [] _ _) | exact Keeps.trans (by assumption) (by assumption) | exact (Keeps.drew [] _).trans (by assumption)) (first
    | (go_at_call 96; refine (HB.out _ (by first | assumption | exact Keeps.refl [] _ | exact Keeps.drew [] _ | exact Keeps.trans (by assumption) (by assumption) | exact (Keeps.drew [] _).trans (by assumption))).mono ?_; rintro e w1 ⟨gv, M1, o1, rfl, hr1, hm1, hk⟩))
  all_goals (try go_wp2)
  all_goals go_ret2
  have HK1 : Keeps [] w w1 := by first | assumption | exact (Keeps.drew [] _).trans (by assumption)
  exact ⟨gv, M1, o1, κ, rfl, HL.out.next HK1, Step.of HK1, hr1, fun hn => HL.out.newer (hm1 hn), HLN.out⟩

def E_count : Eff := fun room win c x => ([cI (((c.getD 0 0#32).toNat : Int) + 1), byteAt win x.ram (c.getD 0 0#32).toNat], tT win x.ram (c.getD 0 0#32).toNat 1, x)
set_option maxRecDepth 100000 in
set_option maxHeartbeats 400000 in
theorem count_does (gs gr gm : Nat) (W : World) (b : Nat) (hb0 : W.cell? ⟨b, 0, none⟩ = some (.pointer (some ⟨gs, 0, none⟩))) (hb1 : W.cell? ⟨b, 1, none⟩ = some (.pointer (some ⟨gr, 0, none⟩))) (hb2 : W.cell? ⟨b, 2, none⟩ = some (.pointer (some ⟨gm, 0, none⟩))) : Does gs gr gm 1 E_count W 97 #[] #[.pointer (some ⟨b, 0, none⟩)] := by
  refine ⟨entered_of Tryz.func97 (by kernel_rfl) rfl, fun w0 w κ room s r win ram M c hkw hL hr hc => ?_⟩
  obtain ⟨c0, rfl⟩ := List.length_eq_one_iff.1 hc
  have hcs := taken_cells hr (by simp)
  have h0 : w.cell? ⟨M, 0, none⟩ = some (.int .u32 (c0.toNat : Int)) := hcs 0 c0 rfl
  have l0 := c0.isLt
  replace hb0 := hkw.cell hb0 (by simp)
  replace hb1 := hkw.cell hb1 (by simp)
  replace hb2 := hkw.cell hb2 (by simp)
  unfold E_count
  simp only [List.getD_cons_zero]
  have HL := Lib.hid hL
  have HB := Lib.hid (fun W (hk : Keeps [] w W) => count_any (hL.next hk) c0.toNat l0)
  unfold Gives at HB
  generalize hG : [cI ((c0.toNat : Int) + 1), byteAt win ram c0.toNat] = G at *
  have HLN : Hid (G.length ≤ 6) := by show _ ≤ _; rw [← hG]; simp
  clear hG
  generalize tT win ram c0.toNat 1 = T at *
  clear hr hkw hL hc hcs
  show Calls _ _ #[.slice (some ⟨M, 0, none⟩) 1 1, .pointer (some ⟨b, 0, none⟩)] w _
  have q0 := fun U (hk : Keeps [] w U) => hk.cell h0 (by simp)
  have qb0 := fun U (hk : Keeps [] w U) => hk.cell hb0 (by simp)
  have qb1 := fun U (hk : Keeps [] w U) => hk.cell hb1 (by simp)
  have qb2 := fun U (hk : Keeps [] w U) => hk.cell hb2 (by simp)
  go_enter Tryz.func97, Tryz.ntmps97
  go_upto_region 1 with fail
  go_region_held3 (fun U => Keeps [] w U) (first | assumption | exact Keeps.refl [] _ | exact Keeps.drew [] _ | exact Keeps.trans (by assumption) (Keeps.alloc [] _ _) | exact (Keeps.drew [] _).trans (Keeps.alloc [] _ _) | exact Keeps.trans (by assumption) (by assumption) | exact (Keeps.drew [] _).trans (by assumption)) (first
    | (go_at_call 98; refine (HB.out _ (by first | assumption | exact Keeps.refl [] _ | exact Keeps.drew [] _ | exact Keeps.trans (by assumption) (by assumption) | exact (Keeps.drew [] _).trans (by assumption))).mono ?_; rintro e w1 ⟨gv, M1, o1, rfl, hr1, hm1, hk⟩))
  all_goals (try go_wp2)
  all_goals go_ret2
  have HK1 : Keeps [] w w1 := by first | assumption | exact (Keeps.drew [] _).trans (by assumption)
  exact ⟨gv, M1, o1, κ, rfl, HL.out.next HK1, Step.of HK1, hr1, fun hn => HL.out.newer (hm1 hn), HLN.out⟩

def E_store : Eff := fun room win c x => ([], storeT win x.ram (c.getD 1 0#32).toNat, ⟨x.s, x.r, storeL x.ram (c.getD 1 0#32).toNat (c.getD 0 0#32).toNat⟩)
set_option maxRecDepth 100000 in
set_option maxHeartbeats 400000 in
theorem store_does (gs gr gm : Nat) (W : World) (b : Nat) (hb2 : W.cell? ⟨b, 2, none⟩ = some (.pointer (some ⟨gm, 0, none⟩))) : Does gs gr gm 2 E_store W 99 #[] #[.pointer (some ⟨b, 0, none⟩)] := by
  refine ⟨entered_of Tryz.func99 (by kernel_rfl) rfl, fun w0 w κ room s r win ram M c hkw hL hr hc => ?_⟩
  obtain ⟨c0, c1, rfl⟩ := two_of hc
  have hcs := taken_cells hr (by simp)
  have h0 : w.cell? ⟨M, 0, none⟩ = some (.int .u32 (c0.toNat : Int)) := hcs 0 c0 rfl
  have l0 := c0.isLt
  have h1 : w.cell? ⟨M, 1, none⟩ = some (.int .u32 (c1.toNat : Int)) := hcs 1 c1 rfl
  have l1 := c1.isLt
  replace hb2 := hkw.cell hb2 (by simp)
  unfold E_store
  simp only [List.getD_cons_zero, List.getD_cons_succ]
  have HL := Lib.hid hL
  have HB := Lib.hid (fun W (hk : Keeps [] w W) => Store_lab (hL.next hk) (c1.toNat : Int) (c0.toNat : Int) c1.toNat c0.toNat rfl rfl l1 l0 _ _ rfl rfl)
  generalize storeL ram c1.toNat c0.toNat = R at *
  generalize storeT win ram c1.toNat = T at *
  clear hr hkw hL hc hcs
  show Calls _ _ #[.slice (some ⟨M, 0, none⟩) 2 2, .pointer (some ⟨b, 0, none⟩)] w _
  go_enter Tryz.func99, Tryz.ntmps99
  go_upto_region 1 with fail
  refine wp_region_tail 8 (by kernel_rfl) (by kernel_rfl) ?_
  intro wz hwz
  have kz : Keeps [] w wz := by rw [hwz]; exact Keeps.drew _ _
  replace h0 := kz.cell h0 (by simp)
  replace h1 := kz.cell h1 (by simp)
  replace hb2 := kz.cell hb2 (by simp)
  have KZ := Lib.hid kz
  clear kz hwz
  simp only [List.take_succ_cons, List.take_zero, List.drop_succ_cons, List.drop_zero]
  repeat still_step
  refine wpStill_nil ?_
  go_wp2_with (first
    | (go_at_call 100; refine (HB.out _ KZ.out).mono ?_; rintro e w1 ⟨rfl, κ1, hl1, hs1⟩; have HL1 := Lib.hid hl1; have HS1 := Lib.hid hs1; clear hl1 hs1))
  go_ret2
  exact ⟨_, 0, 0, κ1, rfl, HL1.out, (Step.of KZ.out).trans HS1.out, UReads.nil _ _ _, fun hn => absurd rfl hn, by decide⟩

def E_cstore : Eff := fun room win c x => ([], pT win x.ram (c.getD 1 0#32).toNat 1, ⟨x.s, x.r, pL x.ram (c.getD 1 0#32).toNat [UInt8.ofNat (c.getD 0 0#32).toNat]⟩)
set_option maxRecDepth 100000 in
set_option maxHeartbeats 400000 in
theorem cstore_does (gs gr gm : Nat) (W : World) (b : Nat) (hb2 : W.cell? ⟨b, 2, none⟩ = some (.pointer (some ⟨gm, 0, none⟩))) : Does gs gr gm 2 E_cstore W 101 #[] #[.pointer (some ⟨b, 0, none⟩)] := by
  refine ⟨entered_of Tryz.func101 (by kernel_rfl) rfl, fun w0 w κ room s r win ram M c hkw hL hr hc => ?_⟩
  obtain ⟨c0, c1, rfl⟩ := two_of hc
  have hcs := taken_cells hr (by simp)
  have h0 : w.cell? ⟨M, 0, none⟩ = some (.int .u32 (c0.toNat : Int)) := hcs 0 c0 rfl
  have l0 := c0.isLt
  have h1 : w.cell? ⟨M, 1, none⟩ = some (.int .u32 (c1.toNat : Int)) := hcs 1 c1 rfl
  have l1 := c1.isLt
  replace hb2 := hkw.cell hb2 (by simp)
  unfold E_cstore
  simp only [List.getD_cons_zero, List.getD_cons_succ]
  have HL := Lib.hid hL
  have hcb : (c0.toNat : Int) % 256 = ((UInt8.ofNat c0.toNat).toNat : Int) := by rw [UInt8.toNat_ofNat']; omega
  have HB := Lib.hid (fun W (hk : Keeps [] w W) => SetByte_lab (hL.next hk) (c1.toNat : Int) ((c0.toNat : Int) % 256) c1.toNat (UInt8.ofNat c0.toNat) rfl hcb l1 _ _ rfl rfl)
  generalize pL ram c1.toNat [UInt8.ofNat c0.toNat] = R at *
  generalize pT win ram c1.toNat 1 = T at *
  clear hcb
  clear hr hkw hL hc hcs
  show Calls _ _ #[.slice (some ⟨M, 0, none⟩) 2 2, .pointer (some ⟨b, 0, none⟩)] w _
  go_enter Tryz.func101, Tryz.ntmps101
  go_upto_region 1 with fail
  refine wp_region_tail 9 (by kernel_rfl) (by kernel_rfl) ?_
  intro wz hwz
  have kz : Keeps [] w wz := by rw [hwz]; exact Keeps.drew _ _
  replace h0 := kz.cell h0 (by simp)
  replace h1 := kz.cell h1 (by simp)
  replace hb2 := kz.cell hb2 (by simp)
  have KZ := Lib.hid kz
  clear kz hwz
  simp only [List.take_succ_cons, List.take_zero, List.drop_succ_cons, List.drop_zero]
  repeat still_step
  refine wpStill_nil ?_
  go_wp2_with (first
    | (go_at_call 102; refine (HB.out _ KZ.out).mono ?_; rintro e w1 ⟨rfl, κ1, hl1, hs1⟩; have HL1 := Lib.hid hl1; have HS1 := Lib.hid hs1; clear hl1 hs1))
  go_ret2
  exact ⟨_, 0, 0, κ1, rfl, HL1.out, (Step.of KZ.out).trans HS1.out, UReads.nil _ _ _, fun hn => absurd rfl hn, by decide⟩

def E_plusstore : Eff := fun room win c x => ([], addT win x.ram (c.getD 1 0#32).toNat, ⟨x.s, x.r, addL win x.ram (c.getD 1 0#32).toNat (c.getD 0 0#32).toNat⟩)
set_option maxRecDepth 100000 in
set_option maxHeartbeats 400000 in
theorem plusstore_does (gs gr gm : Nat) (W : World) (b : Nat) (hb0 : W.cell? ⟨b, 0, none⟩ = some (.pointer (some ⟨gs, 0, none⟩))) (hb1 : W.cell? ⟨b, 1, none⟩ = some (.pointer (some ⟨gr, 0, none⟩))) (hb2 : W.cell? ⟨b, 2, none⟩ = some (.pointer (some ⟨gm, 0, none⟩))) : Does gs gr gm 2 E_plusstore W 103 #[] #[.pointer (some ⟨b, 0, none⟩)] := by
  refine ⟨entered_of Tryz.func103 (by kernel_rfl) rfl, fun w0 w κ room s r win ram M c hkw hL hr hc => ?_⟩
  obtain ⟨c0, c1, rfl⟩ := two_of hc
  have hcs := taken_cells hr (by simp)
  have h0 : w.cell? ⟨M, 0, none⟩ = some (.int .u32 (c0.toNat : Int)) := hcs 0 c0 rfl
  have l0 := c0.isLt
  have h1 : w.cell? ⟨M, 1, none⟩ = some (.int .u32 (c1.toNat : Int)) := hcs 1 c1 rfl
  have l1 := c1.isLt
  replace hb0 := hkw.cell hb0 (by simp)
  replace hb1 := hkw.cell hb1 (by simp)
  replace hb2 := hkw.cell hb2 (by simp)
  unfold E_plusstore
  simp only [List.getD_cons_zero, List.getD_cons_succ]
  have HL := Lib.hid hL
  have HB := Lib.hid (fun W (hk : Keeps [] w W) => add_any (hL.next hk) c1.toNat c0.toNat l1 l0)
  generalize addL win ram c1.toNat c0.toNat = R at *
  generalize addT win ram c1.toNat = T at *
  clear hr hkw hL hc hcs
  show Calls _ _ #[.slice (some ⟨M, 0, none⟩) 2 2, .pointer (some ⟨b, 0, none⟩)] w _
  go_enter Tryz.func103, Tryz.ntmps103
  go_upto_region 1 with fail
  refine wp_region_tail 7 (by kernel_rfl) (by kernel_rfl) ?_
  intro wz hwz
  have kz : Keeps [] w wz := by rw [hwz]; exact Keeps.drew _ _
  replace h0 := kz.cell h0 (by simp)
  replace h1 := kz.cell h1 (by simp)
  replace hb0 := kz.cell hb0 (by simp)
  replace hb1 := kz.cell hb1 (by simp)
  replace hb2 := kz.cell hb2 (by simp)
  have KZ := Lib.hid kz
  clear kz hwz
  simp only [List.take_succ_cons, List.take_zero, List.drop_succ_cons, List.drop_zero]
  repeat still_step
  refine wpStill_nil ?_
  go_wp2_with (first
    | (go_at_call 104; refine (HB.out _ KZ.out).mono ?_; rintro e w1 ⟨rfl, κ1, hl1, hs1⟩; have HL1 := Lib.hid hl1; have HS1 := Lib.hid hs1; clear hl1 hs1))
  go_ret2
  exact ⟨_, 0, 0, κ1, rfl, HL1.out, (Step.of KZ.out).trans HS1.out, UReads.nil _ _ _, fun hn => absurd rfl hn, by decide⟩

def E_move : Eff := fun room win c x => ([], moveT win x.ram (c.getD 0 0#32).toNat (c.getD 1 0#32).toNat (c.getD 2 0#32).toNat, ⟨x.s, x.r, moveL win x.ram (c.getD 0 0#32).toNat (c.getD 1 0#32).toNat (c.getD 2 0#32).toNat⟩)
set_option maxRecDepth 100000 in
set_option maxHeartbeats 400000 in
theorem move_does (gs gr gm : Nat) (W : World) (b : Nat) (hb2 : W.cell? ⟨b, 2, none⟩ = some (.pointer (some ⟨gm, 0, none⟩))) : Does gs gr gm 3 E_move W 107 #[] #[.pointer (some ⟨b, 0, none⟩)] := by
  refine ⟨entered_of Tryz.func107 (by kernel_rfl) rfl, fun w0 w κ room s r win ram M c hkw hL hr hc => ?_⟩
  obtain ⟨c0, c1, c2, rfl⟩ := three_of hc
  have hcs := taken_cells hr (by simp)
  have h0 : w.cell? ⟨M, 0, none⟩ = some (.int .u32 (c0.toNat : Int)) := hcs 0 c0 rfl
  have l0 := c0.isLt
  have h1 : w.cell? ⟨M, 1, none⟩ = some (.int .u32 (c1.toNat : Int)) := hcs 1 c1 rfl
  have l1 := c1.isLt
  have h2 : w.cell? ⟨M, 2, none⟩ = some (.int .u32 (c2.toNat : Int)) := hcs 2 c2 rfl
  have l2 := c2.isLt
  replace hb2 := hkw.cell hb2 (by simp)
  unfold E_move
  simp only [List.getD_cons_zero, List.getD_cons_succ]
  have HL := Lib.hid hL
  have HB := Lib.hid (fun W (hk : Keeps [] w W) => Move_lab (hL.next hk) (c0.toNat : Int) (c1.toNat : Int) (c2.toNat : Int) c0.toNat c1.toNat c2.toNat rfl rfl rfl l0 l1 l2 _ _ rfl rfl)
  generalize moveL win ram c0.toNat c1.toNat c2.toNat = R at *
  generalize moveT win ram c0.toNat c1.toNat c2.toNat = T at *
  clear hr hkw hL hc hcs
  show Calls _ _ #[.slice (some ⟨M, 0, none⟩) 3 3, .pointer (some ⟨b, 0, none⟩)] w _
  go_enter Tryz.func107, Tryz.ntmps107
  go_upto_region 1 with fail
  refine wp_region_tail 11 (by kernel_rfl) (by kernel_rfl) ?_
  intro wz hwz
  have kz : Keeps [] w wz := by rw [hwz]; exact Keeps.drew _ _
  replace h0 := kz.cell h0 (by simp)
  replace h1 := kz.cell h1 (by simp)
  replace h2 := kz.cell h2 (by simp)
  replace hb2 := kz.cell hb2 (by simp)
  have KZ := Lib.hid kz
  clear kz hwz
  simp only [List.take_succ_cons, List.take_zero, List.drop_succ_cons, List.drop_zero]
  repeat still_step
  refine wpStill_nil ?_
  go_wp2_with (first
    | (go_at_call 108; refine (HB.out _ KZ.out).mono ?_; rintro e w1 ⟨rfl, κ1, hl1, hs1⟩; have HL1 := Lib.hid hl1; have HS1 := Lib.hid hs1; clear hl1 hs1))
  go_ret2
  exact ⟨_, 0, 0, κ1, rfl, HL1.out, (Step.of KZ.out).trans HS1.out, UReads.nil _ _ _, fun hn => absurd rfl hn, by decide⟩

def E_fill : Eff := fun room win c x => ([], pT win x.ram (c.getD 0 0#32).toNat (c.getD 1 0#32).toNat, ⟨x.s, x.r, pL x.ram (c.getD 0 0#32).toNat (List.replicate (c.getD 1 0#32).toNat (UInt8.ofNat (c.getD 2 0#32).toNat))⟩)
set_option maxRecDepth 100000 in
set_option maxHeartbeats 400000 in
theorem fill_does (gs gr gm : Nat) (W : World) (b : Nat) (hb2 : W.cell? ⟨b, 2, none⟩ = some (.pointer (some ⟨gm, 0, none⟩))) : Does gs gr gm 3 E_fill W 109 #[] #[.pointer (some ⟨b, 0, none⟩)] := by
  refine ⟨entered_of Tryz.func109 (by kernel_rfl) rfl, fun w0 w κ room s r win ram M c hkw hL hr hc => ?_⟩
  obtain ⟨c0, c1, c2, rfl⟩ := three_of hc
  have hcs := taken_cells hr (by simp)
  have h0 : w.cell? ⟨M, 0, none⟩ = some (.int .u32 (c0.toNat : Int)) := hcs 0 c0 rfl
  have l0 := c0.isLt
  have h1 : w.cell? ⟨M, 1, none⟩ = some (.int .u32 (c1.toNat : Int)) := hcs 1 c1 rfl
  have l1 := c1.isLt
  have h2 : w.cell? ⟨M, 2, none⟩ = some (.int .u32 (c2.toNat : Int)) := hcs 2 c2 rfl
  have l2 := c2.isLt
  replace hb2 := hkw.cell hb2 (by simp)
  unfold E_fill
  simp only [List.getD_cons_zero, List.getD_cons_succ]
  have HL := Lib.hid hL
  have hcb : (c2.toNat : Int) % 256 = ((UInt8.ofNat c2.toNat).toNat : Int) := by rw [UInt8.toNat_ofNat']; omega
  have HB := Lib.hid (fun W (hk : Keeps [] w W) => Fill_lab (hL.next hk) (c0.toNat : Int) (c1.toNat : Int) ((c2.toNat : Int) % 256) c0.toNat c1.toNat (UInt8.ofNat c2.toNat) rfl rfl hcb l0 l1 _ _ rfl rfl)
  generalize pL ram c0.toNat (List.replicate c1.toNat (UInt8.ofNat c2.toNat)) = R at *
  generalize pT win ram c0.toNat c1.toNat = T at *
  clear hcb
  clear hr hkw hL hc hcs
  show Calls _ _ #[.slice (some ⟨M, 0, none⟩) 3 3, .pointer (some ⟨b, 0, none⟩)] w _
  go_enter Tryz.func109, Tryz.ntmps109
  go_upto_region 1 with fail
  refine wp_region_tail 12 (by kernel_rfl) (by kernel_rfl) ?_
  intro wz hwz
  have kz : Keeps [] w wz := by rw [hwz]; exact Keeps.drew _ _
  replace h0 := kz.cell h0 (by simp)
  replace h1 := kz.cell h1 (by simp)
  replace h2 := kz.cell h2 (by simp)
  replace hb2 := kz.cell hb2 (by simp)
  have KZ := Lib.hid kz
  clear kz hwz
  simp only [List.take_succ_cons, List.take_zero, List.drop_succ_cons, List.drop_zero]
  repeat still_step
  refine wpStill_nil ?_
  go_wp2_with (first
    | (go_at_call 110; refine (HB.out _ KZ.out).mono ?_; rintro e w1 ⟨rfl, κ1, hl1, hs1⟩; have HL1 := Lib.hid hl1; have HS1 := Lib.hid hs1; clear hl1 hs1))
  go_ret2
  exact ⟨_, 0, 0, κ1, rfl, HL1.out, (Step.of KZ.out).trans HS1.out, UReads.nil _ _ _, fun hn => absurd rfl hn, by decide⟩

end Go.Proofs.YtfnjjanknfmibaaGreat
