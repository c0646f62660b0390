/-
  Plain primitives: their effects, in the order of their numbers. Written by draft/genpl7.py.
-/
import Derived.Test.YtfnjjanknfmibaaGreatPlYesD
import Derived.Test.YtfnjjanknfmibaaGreatPlDoA
namespace Go.Proofs.YtfnjjanknfmibaaGreat
open Go.RowKit
set_option linter.unusedVariables false

theorem lit_eq (l x : List UInt8) : ((ByteArray.mk l.toArray).toList == x) = (l == x) := by
  rw [show (ByteArray.mk l.toArray).toList = l by simp [ByteArray.toList_eq]]
theorem noneOf_lit (l : List UInt8) (L : List (List UInt8)) (h : L.all (fun x => !(l == x)) = true) : noneOf ⟨l.toArray⟩ L := by
  intro x hx
  rw [lit_eq]
  have := List.all_eq_true.1 h x hx
  simpa using this
def effL : List Eff := [
  (pureE fun c => (those [0, 0] c, 0)),
  (pureE fun c => (those [] c, 0)),
  (pureE fun c => (those [1, 0] c, 0)),
  (pureE fun c => (those [0, 1, 0] c, 0)),
  (pureE fun c => (those [1, 2, 0] c, 0)),
  (pureE E_qdup),
  (pureE fun c => (those [1] c, 0)),
  (pureE fun c => (those [1, 0, 1] c, 0)),
  (pureE fun c => (those [0, 1, 0, 1] c, 0)),
  (pureE fun c => (those [] c, 0)),
  (pureE fun c => (those [2, 3, 0, 1] c, 0)),
  (pureE fun c => (those [0, 1, 2, 3, 0, 1] c, 0)),
  E_depth,
  E_pick,
  E_roll,
  (pureE fun c => ([e_add (c.getD 0 0#32) (c.getD 1 0#32)], 0)),
  (pureE fun c => ([e_sub (c.getD 0 0#32) (c.getD 1 0#32)], 0)),
  (pureE fun c => ([e_mul (c.getD 0 0#32) (c.getD 1 0#32)], 0)),
  (pureE E_slash),
  (pureE E_mod),
  (pureE E_slashmod),
  (pureE E_starslash),
  (pureE E_starslashmod),
  (pureE fun c => ([e_neg (c.getD 0 0#32)], 0)),
  (pureE fun c => ([e_abs (c.getD 0 0#32)], 0)),
  (pureE fun c => ([e_min (c.getD 0 0#32) (c.getD 1 0#32)], 0)),
  (pureE fun c => ([e_max (c.getD 0 0#32) (c.getD 1 0#32)], 0)),
  (pureE fun c => ([e_inc (c.getD 0 0#32)], 0)),
  (pureE fun c => ([e_dec (c.getD 0 0#32)], 0)),
  (pureE fun c => ([e_dbl (c.getD 0 0#32)], 0)),
  (pureE fun c => ([e_half (c.getD 0 0#32)], 0)),
  (pureE E_umstar),
  (pureE E_mstar),
  (pureE E_ummod),
  (pureE E_fmmod),
  (pureE E_smrem),
  (pureE E_std),
  (pureE E_dplus),
  (pureE E_dnegate),
  (pureE fun c => ([e_and (c.getD 0 0#32) (c.getD 1 0#32)], 0)),
  (pureE fun c => ([e_or (c.getD 0 0#32) (c.getD 1 0#32)], 0)),
  (pureE fun c => ([e_xor (c.getD 0 0#32) (c.getD 1 0#32)], 0)),
  (pureE fun c => ([e_inv (c.getD 0 0#32)], 0)),
  (pureE fun c => ([e_lsh (c.getD 0 0#32) (c.getD 1 0#32)], 0)),
  (pureE fun c => ([e_rsh (c.getD 0 0#32) (c.getD 1 0#32)], 0)),
  (pureE fun c => ([e_eq (c.getD 0 0#32) (c.getD 1 0#32)], 0)),
  (pureE fun c => ([e_ne (c.getD 0 0#32) (c.getD 1 0#32)], 0)),
  (pureE fun c => ([e_lt (c.getD 0 0#32) (c.getD 1 0#32)], 0)),
  (pureE fun c => ([e_gt (c.getD 0 0#32) (c.getD 1 0#32)], 0)),
  (pureE fun c => ([e_ult (c.getD 0 0#32) (c.getD 1 0#32)], 0)),
  (pureE fun c => ([e_ugt (c.getD 0 0#32) (c.getD 1 0#32)], 0)),
  (pureE fun c => ([e_zeq (c.getD 0 0#32)], 0)),
  (pureE fun c => ([e_zlt (c.getD 0 0#32)], 0)),
  (pureE fun c => ([e_zgt (c.getD 0 0#32)], 0)),
  (pureE fun c => ([e_within (c.getD 0 0#32) (c.getD 1 0#32) (c.getD 2 0#32)], 0)),
  E_fetch,
  E_store,
  E_cfetch,
  E_cstore,
  E_plusstore,
  E_fetch2,
  E_store2,
  E_move,
  E_fill,
  (pureE fun c => ([e_cellp (c.getD 0 0#32)], 0)),
  (pureE fun c => ([e_cells (c.getD 0 0#32)], 0)),
  (pureE fun c => ([e_inc (c.getD 0 0#32)], 0)),
  (pureE fun c => ([e_chars (c.getD 0 0#32)], 0)),
  (pureE fun c => ([e_align (c.getD 0 0#32)], 0)),
  E_count,
  E_tor,
  E_rfrom,
  E_rfetch]
def effM (i : Nat) : Eff := effL.getD i (pureE fun _ => ([], 0))

/-- A function value, of which it is known what it does where there are two stacks and a memory. -/
def OfThree (a b c : Option Addr) (k : Nat) (E : Eff) (w' : World) (fn : Nat) (first cap : Array Value) : Prop :=
  ∀ gs gr gm, a = some ⟨gs, 0, none⟩ → b = some ⟨gr, 0, none⟩ → c = some ⟨gm, 0, none⟩ → Does gs gr gm k E w' fn first cap
def EffOK (a b c : Option Addr) (nm : List UInt8) (k : Nat) (E : Eff) : Prop := ∀ W, Calls Tryz.prog 20 #[.agg #[.pointer a, .pointer b, .pointer c], str nm] W fun e w' => ∃ fn first cap, e = .returned (.func (.func fn) first cap) ∧ Keeps [] W w' ∧ OfThree a b c k E w' fn first cap
theorem SaysYes.three {f : Nat} {args : Array Value} {k : Nat} {E : Eff} (a b c : Option Addr) (h : ∀ gs gr gm, SaysYes f args (Does gs gr gm k E)) : SaysYes f args (OfThree a b c k E) := by
  intro W
  by_cases hx : ∃ gs gr gm, a = some ⟨gs, 0, none⟩ ∧ b = some ⟨gr, 0, none⟩ ∧ c = some ⟨gm, 0, none⟩
  · obtain ⟨gs, gr, gm, rfl, rfl, rfl⟩ := hx
    refine (h gs gr gm W).mono ?_
    rintro e w' ⟨fn, first, cap, he, hk, hd⟩
    refine ⟨fn, first, cap, he, hk, ?_⟩
    intro g1 g2 g3 e1 e2 e3
    injection e1 with e1; injection e1 with e1; subst e1
    injection e2 with e2; injection e2 with e2; subst e2
    injection e3 with e3; injection e3 with e3; subst e3
    exact hd
  · refine (h 0 0 0 W).mono ?_
    rintro e w' ⟨fn, first, cap, he, hk, hd⟩
    exact ⟨fn, first, cap, he, hk, fun gs gr gm e1 e2 e3 => absurd ⟨gs, gr, gm, e1, e2, e3⟩ hx⟩
theorem SaysYes.boxed {f : Nat} {args : Array Value} {a b c : Option Addr} {n k : Nat} {E : Eff} (h : SaysYes f args (Boxed a b c n))
    (hd : ∀ gs gr gm W bl, W.cell? ⟨bl, 0, none⟩ = some (.pointer (some ⟨gs, 0, none⟩)) → W.cell? ⟨bl, 1, none⟩ = some (.pointer (some ⟨gr, 0, none⟩)) → W.cell? ⟨bl, 2, none⟩ = some (.pointer (some ⟨gm, 0, none⟩)) → Does gs gr gm k E W n #[] #[.pointer (some ⟨bl, 0, none⟩)]) : SaysYes f args (OfThree a b c k E) := by
  intro W
  refine (h W).mono ?_
  rintro e w' ⟨fn, first, cap, he, hk, rfl, rfl, bl, rfl, c0, c1, c2⟩
  refine ⟨_, _, _, he, hk, ?_⟩
  intro gs gr gm e1 e2 e3
  subst e1 e2 e3
  exact hd gs gr gm w' bl c0 c1 c2

section
variable (a b c : Option Addr) (l : List UInt8)
theorem no0 (h : namesMoved.all (fun x => !(l == x)) = true) : SaysNo 32 #[.string ⟨l.toArray⟩] := fun W => (moved_no W _ (noneOf_lit l _ h)).mono fun e w' ⟨he, hw⟩ => ⟨he, hw ▸ Keeps.refl [] W⟩
theorem no1 (h : namesOne.all (fun x => !(l == x)) = true) : SaysNo 33 #[.string ⟨l.toArray⟩] := fun W => ofOne_no W _ (noneOf_lit l _ h)
theorem no2 (h0 : (l == [87, 73, 84, 72, 73, 78]) = false) (h : namesTwo.all (fun x => !(l == x)) = true) : SaysNo 34 #[.string ⟨l.toArray⟩] := fun W => ofTwo_no W _ (by rw [lit_eq]; exact h0) (noneOf_lit l _ h)
theorem no3 (h : namesDivided.all (fun x => !(l == x)) = true) : SaysNo 35 #[.string ⟨l.toArray⟩] := fun W => (divided_no W _ (noneOf_lit l _ h)).mono fun e w' ⟨he, hw⟩ => ⟨he, hw ▸ Keeps.refl [] W⟩
theorem no4 (h : namesDoubled.all (fun x => !(l == x)) = true) : SaysNo 36 #[.string ⟨l.toArray⟩] := fun W => (doubled_no W _ (noneOf_lit l _ h)).mono fun e w' ⟨he, hw⟩ => ⟨he, hw ▸ Keeps.refl [] W⟩
theorem no5 (h : namesStacked.all (fun x => !(l == x)) = true) : SaysNo 37 #[.agg #[.pointer a, .pointer b, .pointer c], .string ⟨l.toArray⟩] := fun W => stacked_no W a b c _ (noneOf_lit l _ h)
theorem no6 (h : namesStored.all (fun x => !(l == x)) = true) : SaysNo 38 #[.agg #[.pointer a, .pointer b, .pointer c], .string ⟨l.toArray⟩] := fun W => stored_no W a b c _ (noneOf_lit l _ h)

theorem eff_0 : EffOK a b c [68, 85, 80] 1 (effM 0) := fun W => effect_0 W a b c ⟨[68, 85, 80].toArray⟩  (OfThree a b c 1 (effM 0)) (SaysYes.three a b c (fun gs gr gm => yes_dup gs gr gm _ (by rw [lit_eq]; decide) (noneOf_lit [68, 85, 80] _ (by decide))))
theorem eff_1 : EffOK a b c [68, 82, 79, 80] 1 (effM 1) := fun W => effect_0 W a b c ⟨[68, 82, 79, 80].toArray⟩  (OfThree a b c 1 (effM 1)) (SaysYes.three a b c (fun gs gr gm => yes_drop gs gr gm _ (by rw [lit_eq]; decide) (noneOf_lit [68, 82, 79, 80] _ (by decide))))
theorem eff_2 : EffOK a b c [83, 87, 65, 80] 2 (effM 2) := fun W => effect_0 W a b c ⟨[83, 87, 65, 80].toArray⟩  (OfThree a b c 2 (effM 2)) (SaysYes.three a b c (fun gs gr gm => yes_swap gs gr gm _ (by rw [lit_eq]; decide) (noneOf_lit [83, 87, 65, 80] _ (by decide))))
theorem eff_3 : EffOK a b c [79, 86, 69, 82] 2 (effM 3) := fun W => effect_0 W a b c ⟨[79, 86, 69, 82].toArray⟩  (OfThree a b c 2 (effM 3)) (SaysYes.three a b c (fun gs gr gm => yes_over gs gr gm _ (by rw [lit_eq]; decide) (noneOf_lit [79, 86, 69, 82] _ (by decide))))
theorem eff_4 : EffOK a b c [82, 79, 84] 3 (effM 4) := fun W => effect_0 W a b c ⟨[82, 79, 84].toArray⟩  (OfThree a b c 3 (effM 4)) (SaysYes.three a b c (fun gs gr gm => yes_rot gs gr gm _ (by rw [lit_eq]; decide) (noneOf_lit [82, 79, 84] _ (by decide))))
theorem eff_5 : EffOK a b c [63, 68, 85, 80] 1 (effM 5) := fun W => effect_5 W a b c ⟨[63, 68, 85, 80].toArray⟩ (no0 [63, 68, 85, 80] (by decide)) (no1 [63, 68, 85, 80] (by decide)) (no2 [63, 68, 85, 80] (by decide) (by decide)) (no3 [63, 68, 85, 80] (by decide)) (no4 [63, 68, 85, 80] (by decide)) (OfThree a b c 1 (effM 5)) (fun W => (says_qdup a b c _ (by rw [lit_eq]; decide) (noneOf_lit [63, 68, 85, 80] _ (by decide)) W).mono (by rintro e w' ⟨fn, first, cap, he, hk, rfl, rfl, rfl⟩; exact ⟨_, _, _, he, hk, fun gs gr gm _ _ _ => qdup_does gs gr gm w'⟩))
theorem eff_6 : EffOK a b c [78, 73, 80] 2 (effM 6) := fun W => effect_0 W a b c ⟨[78, 73, 80].toArray⟩  (OfThree a b c 2 (effM 6)) (SaysYes.three a b c (fun gs gr gm => yes_nip gs gr gm _ (by rw [lit_eq]; decide) (noneOf_lit [78, 73, 80] _ (by decide))))
theorem eff_7 : EffOK a b c [84, 85, 67, 75] 2 (effM 7) := fun W => effect_0 W a b c ⟨[84, 85, 67, 75].toArray⟩  (OfThree a b c 2 (effM 7)) (SaysYes.three a b c (fun gs gr gm => yes_tuck gs gr gm _ (by rw [lit_eq]; decide) (noneOf_lit [84, 85, 67, 75] _ (by decide))))
theorem eff_8 : EffOK a b c [50, 68, 85, 80] 2 (effM 8) := fun W => effect_0 W a b c ⟨[50, 68, 85, 80].toArray⟩  (OfThree a b c 2 (effM 8)) (SaysYes.three a b c (fun gs gr gm => yes_dup2 gs gr gm _ (by rw [lit_eq]; decide) (noneOf_lit [50, 68, 85, 80] _ (by decide))))
theorem eff_9 : EffOK a b c [50, 68, 82, 79, 80] 2 (effM 9) := fun W => effect_0 W a b c ⟨[50, 68, 82, 79, 80].toArray⟩  (OfThree a b c 2 (effM 9)) (SaysYes.three a b c (fun gs gr gm => yes_drop2 gs gr gm _ (by rw [lit_eq]; decide) (noneOf_lit [50, 68, 82, 79, 80] _ (by decide))))
theorem eff_10 : EffOK a b c [50, 83, 87, 65, 80] 4 (effM 10) := fun W => effect_0 W a b c ⟨[50, 83, 87, 65, 80].toArray⟩  (OfThree a b c 4 (effM 10)) (SaysYes.three a b c (fun gs gr gm => yes_swap2 gs gr gm _ (by rw [lit_eq]; decide) (noneOf_lit [50, 83, 87, 65, 80] _ (by decide))))
theorem eff_11 : EffOK a b c [50, 79, 86, 69, 82] 4 (effM 11) := fun W => effect_0 W a b c ⟨[50, 79, 86, 69, 82].toArray⟩  (OfThree a b c 4 (effM 11)) (SaysYes.three a b c (fun gs gr gm => yes_over2 gs gr gm _ (by rw [lit_eq]; decide) (noneOf_lit [50, 79, 86, 69, 82] _ (by decide))))
theorem eff_12 : EffOK a b c [68, 69, 80, 84, 72] 0 (effM 12) := fun W => effect_5 W a b c ⟨[68, 69, 80, 84, 72].toArray⟩ (no0 [68, 69, 80, 84, 72] (by decide)) (no1 [68, 69, 80, 84, 72] (by decide)) (no2 [68, 69, 80, 84, 72] (by decide) (by decide)) (no3 [68, 69, 80, 84, 72] (by decide)) (no4 [68, 69, 80, 84, 72] (by decide)) (OfThree a b c 0 (effM 12)) ((says_depth a b c _ (by rw [lit_eq]; decide) (noneOf_lit [68, 69, 80, 84, 72] _ (by decide))).boxed (fun gs gr gm W bl h0 h1 h2 => depth_does gs gr gm W bl h0))
theorem eff_13 : EffOK a b c [80, 73, 67, 75] 1 (effM 13) := fun W => effect_5 W a b c ⟨[80, 73, 67, 75].toArray⟩ (no0 [80, 73, 67, 75] (by decide)) (no1 [80, 73, 67, 75] (by decide)) (no2 [80, 73, 67, 75] (by decide) (by decide)) (no3 [80, 73, 67, 75] (by decide)) (no4 [80, 73, 67, 75] (by decide)) (OfThree a b c 1 (effM 13)) ((says_pick a b c _ (by rw [lit_eq]; decide) (noneOf_lit [80, 73, 67, 75] _ (by decide))).boxed (fun gs gr gm W bl h0 h1 h2 => pick_does gs gr gm W bl h0))
theorem eff_14 : EffOK a b c [82, 79, 76, 76] 1 (effM 14) := fun W => effect_5 W a b c ⟨[82, 79, 76, 76].toArray⟩ (no0 [82, 79, 76, 76] (by decide)) (no1 [82, 79, 76, 76] (by decide)) (no2 [82, 79, 76, 76] (by decide) (by decide)) (no3 [82, 79, 76, 76] (by decide)) (no4 [82, 79, 76, 76] (by decide)) (OfThree a b c 1 (effM 14)) ((says_roll a b c _ (by rw [lit_eq]; decide) (noneOf_lit [82, 79, 76, 76] _ (by decide))).boxed (fun gs gr gm W bl h0 h1 h2 => roll_does gs gr gm W bl h0 h1 h2))
theorem eff_15 : EffOK a b c [43] 2 (effM 15) := fun W => effect_2 W a b c ⟨[43].toArray⟩ (no0 [43] (by decide)) (no1 [43] (by decide)) (OfThree a b c 2 (effM 15)) (SaysYes.three a b c (fun gs gr gm => yes_add gs gr gm _ (by rw [lit_eq]; decide) (noneOf_lit [43] _ (by decide))))
theorem eff_16 : EffOK a b c [45] 2 (effM 16) := fun W => effect_2 W a b c ⟨[45].toArray⟩ (no0 [45] (by decide)) (no1 [45] (by decide)) (OfThree a b c 2 (effM 16)) (SaysYes.three a b c (fun gs gr gm => yes_sub gs gr gm _ (by rw [lit_eq]; decide) (noneOf_lit [45] _ (by decide))))
theorem eff_17 : EffOK a b c [42] 2 (effM 17) := fun W => effect_2 W a b c ⟨[42].toArray⟩ (no0 [42] (by decide)) (no1 [42] (by decide)) (OfThree a b c 2 (effM 17)) (SaysYes.three a b c (fun gs gr gm => yes_mul gs gr gm _ (by rw [lit_eq]; decide) (noneOf_lit [42] _ (by decide))))
theorem eff_18 : EffOK a b c [47] 2 (effM 18) := fun W => effect_3 W a b c ⟨[47].toArray⟩ (no0 [47] (by decide)) (no1 [47] (by decide)) (no2 [47] (by decide) (by decide)) (OfThree a b c 2 (effM 18)) (SaysYes.three a b c (fun gs gr gm => yes_slash gs gr gm _ (by rw [lit_eq]; decide) (noneOf_lit [47] _ (by decide))))
theorem eff_19 : EffOK a b c [77, 79, 68] 2 (effM 19) := fun W => effect_3 W a b c ⟨[77, 79, 68].toArray⟩ (no0 [77, 79, 68] (by decide)) (no1 [77, 79, 68] (by decide)) (no2 [77, 79, 68] (by decide) (by decide)) (OfThree a b c 2 (effM 19)) (SaysYes.three a b c (fun gs gr gm => yes_mod gs gr gm _ (by rw [lit_eq]; decide) (noneOf_lit [77, 79, 68] _ (by decide))))
theorem eff_20 : EffOK a b c [47, 77, 79, 68] 2 (effM 20) := fun W => effect_3 W a b c ⟨[47, 77, 79, 68].toArray⟩ (no0 [47, 77, 79, 68] (by decide)) (no1 [47, 77, 79, 68] (by decide)) (no2 [47, 77, 79, 68] (by decide) (by decide)) (OfThree a b c 2 (effM 20)) (SaysYes.three a b c (fun gs gr gm => yes_slashmod gs gr gm _ (by rw [lit_eq]; decide) (noneOf_lit [47, 77, 79, 68] _ (by decide))))
theorem eff_21 : EffOK a b c [42, 47] 3 (effM 21) := fun W => effect_3 W a b c ⟨[42, 47].toArray⟩ (no0 [42, 47] (by decide)) (no1 [42, 47] (by decide)) (no2 [42, 47] (by decide) (by decide)) (OfThree a b c 3 (effM 21)) (SaysYes.three a b c (fun gs gr gm => yes_starslash gs gr gm _ (by rw [lit_eq]; decide) (noneOf_lit [42, 47] _ (by decide))))
theorem eff_22 : EffOK a b c [42, 47, 77, 79, 68] 3 (effM 22) := fun W => effect_3 W a b c ⟨[42, 47, 77, 79, 68].toArray⟩ (no0 [42, 47, 77, 79, 68] (by decide)) (no1 [42, 47, 77, 79, 68] (by decide)) (no2 [42, 47, 77, 79, 68] (by decide) (by decide)) (OfThree a b c 3 (effM 22)) (SaysYes.three a b c (fun gs gr gm => yes_starslashmod gs gr gm _ (by rw [lit_eq]; decide) (noneOf_lit [42, 47, 77, 79, 68] _ (by decide))))
theorem eff_23 : EffOK a b c [78, 69, 71, 65, 84, 69] 1 (effM 23) := fun W => effect_1 W a b c ⟨[78, 69, 71, 65, 84, 69].toArray⟩ (no0 [78, 69, 71, 65, 84, 69] (by decide)) (OfThree a b c 1 (effM 23)) (SaysYes.three a b c (fun gs gr gm => yes_neg gs gr gm _ (by rw [lit_eq]; decide) (noneOf_lit [78, 69, 71, 65, 84, 69] _ (by decide))))
theorem eff_24 : EffOK a b c [65, 66, 83] 1 (effM 24) := fun W => effect_1 W a b c ⟨[65, 66, 83].toArray⟩ (no0 [65, 66, 83] (by decide)) (OfThree a b c 1 (effM 24)) (SaysYes.three a b c (fun gs gr gm => yes_abs gs gr gm _ (by rw [lit_eq]; decide) (noneOf_lit [65, 66, 83] _ (by decide))))
theorem eff_25 : EffOK a b c [77, 73, 78] 2 (effM 25) := fun W => effect_2 W a b c ⟨[77, 73, 78].toArray⟩ (no0 [77, 73, 78] (by decide)) (no1 [77, 73, 78] (by decide)) (OfThree a b c 2 (effM 25)) (SaysYes.three a b c (fun gs gr gm => yes_min gs gr gm _ (by rw [lit_eq]; decide) (noneOf_lit [77, 73, 78] _ (by decide))))
theorem eff_26 : EffOK a b c [77, 65, 88] 2 (effM 26) := fun W => effect_2 W a b c ⟨[77, 65, 88].toArray⟩ (no0 [77, 65, 88] (by decide)) (no1 [77, 65, 88] (by decide)) (OfThree a b c 2 (effM 26)) (SaysYes.three a b c (fun gs gr gm => yes_max gs gr gm _ (by rw [lit_eq]; decide) (noneOf_lit [77, 65, 88] _ (by decide))))
theorem eff_27 : EffOK a b c [49, 43] 1 (effM 27) := fun W => effect_1 W a b c ⟨[49, 43].toArray⟩ (no0 [49, 43] (by decide)) (OfThree a b c 1 (effM 27)) (SaysYes.three a b c (fun gs gr gm => yes_inc gs gr gm _ (by rw [lit_eq]; decide) (noneOf_lit [49, 43] _ (by decide))))
theorem eff_28 : EffOK a b c [49, 45] 1 (effM 28) := fun W => effect_1 W a b c ⟨[49, 45].toArray⟩ (no0 [49, 45] (by decide)) (OfThree a b c 1 (effM 28)) (SaysYes.three a b c (fun gs gr gm => yes_dec gs gr gm _ (by rw [lit_eq]; decide) (noneOf_lit [49, 45] _ (by decide))))
theorem eff_29 : EffOK a b c [50, 42] 1 (effM 29) := fun W => effect_1 W a b c ⟨[50, 42].toArray⟩ (no0 [50, 42] (by decide)) (OfThree a b c 1 (effM 29)) (SaysYes.three a b c (fun gs gr gm => yes_dbl gs gr gm _ (by rw [lit_eq]; decide) (noneOf_lit [50, 42] _ (by decide))))
theorem eff_30 : EffOK a b c [50, 47] 1 (effM 30) := fun W => effect_1 W a b c ⟨[50, 47].toArray⟩ (no0 [50, 47] (by decide)) (OfThree a b c 1 (effM 30)) (SaysYes.three a b c (fun gs gr gm => yes_half gs gr gm _ (by rw [lit_eq]; decide) (noneOf_lit [50, 47] _ (by decide))))
theorem eff_31 : EffOK a b c [85, 77, 42] 2 (effM 31) := fun W => effect_4 W a b c ⟨[85, 77, 42].toArray⟩ (no0 [85, 77, 42] (by decide)) (no1 [85, 77, 42] (by decide)) (no2 [85, 77, 42] (by decide) (by decide)) (no3 [85, 77, 42] (by decide)) (OfThree a b c 2 (effM 31)) (SaysYes.three a b c (fun gs gr gm => yes_umstar gs gr gm _ (by rw [lit_eq]; decide) (noneOf_lit [85, 77, 42] _ (by decide))))
theorem eff_32 : EffOK a b c [77, 42] 2 (effM 32) := fun W => effect_4 W a b c ⟨[77, 42].toArray⟩ (no0 [77, 42] (by decide)) (no1 [77, 42] (by decide)) (no2 [77, 42] (by decide) (by decide)) (no3 [77, 42] (by decide)) (OfThree a b c 2 (effM 32)) (SaysYes.three a b c (fun gs gr gm => yes_mstar gs gr gm _ (by rw [lit_eq]; decide) (noneOf_lit [77, 42] _ (by decide))))
theorem eff_33 : EffOK a b c [85, 77, 47, 77, 79, 68] 3 (effM 33) := fun W => effect_3 W a b c ⟨[85, 77, 47, 77, 79, 68].toArray⟩ (no0 [85, 77, 47, 77, 79, 68] (by decide)) (no1 [85, 77, 47, 77, 79, 68] (by decide)) (no2 [85, 77, 47, 77, 79, 68] (by decide) (by decide)) (OfThree a b c 3 (effM 33)) (SaysYes.three a b c (fun gs gr gm => yes_ummod gs gr gm _ (by rw [lit_eq]; decide) (noneOf_lit [85, 77, 47, 77, 79, 68] _ (by decide))))
theorem eff_34 : EffOK a b c [70, 77, 47, 77, 79, 68] 3 (effM 34) := fun W => effect_3 W a b c ⟨[70, 77, 47, 77, 79, 68].toArray⟩ (no0 [70, 77, 47, 77, 79, 68] (by decide)) (no1 [70, 77, 47, 77, 79, 68] (by decide)) (no2 [70, 77, 47, 77, 79, 68] (by decide) (by decide)) (OfThree a b c 3 (effM 34)) (SaysYes.three a b c (fun gs gr gm => yes_fmmod gs gr gm _ (by rw [lit_eq]; decide) (noneOf_lit [70, 77, 47, 77, 79, 68] _ (by decide))))
theorem eff_35 : EffOK a b c [83, 77, 47, 82, 69, 77] 3 (effM 35) := fun W => effect_3 W a b c ⟨[83, 77, 47, 82, 69, 77].toArray⟩ (no0 [83, 77, 47, 82, 69, 77] (by decide)) (no1 [83, 77, 47, 82, 69, 77] (by decide)) (no2 [83, 77, 47, 82, 69, 77] (by decide) (by decide)) (OfThree a b c 3 (effM 35)) (SaysYes.three a b c (fun gs gr gm => yes_smrem gs gr gm _ (by rw [lit_eq]; decide) (noneOf_lit [83, 77, 47, 82, 69, 77] _ (by decide))))
theorem eff_36 : EffOK a b c [83, 62, 68] 1 (effM 36) := fun W => effect_4 W a b c ⟨[83, 62, 68].toArray⟩ (no0 [83, 62, 68] (by decide)) (no1 [83, 62, 68] (by decide)) (no2 [83, 62, 68] (by decide) (by decide)) (no3 [83, 62, 68] (by decide)) (OfThree a b c 1 (effM 36)) (SaysYes.three a b c (fun gs gr gm => yes_std gs gr gm _ (by rw [lit_eq]; decide) (noneOf_lit [83, 62, 68] _ (by decide))))
theorem eff_37 : EffOK a b c [68, 43] 4 (effM 37) := fun W => effect_4 W a b c ⟨[68, 43].toArray⟩ (no0 [68, 43] (by decide)) (no1 [68, 43] (by decide)) (no2 [68, 43] (by decide) (by decide)) (no3 [68, 43] (by decide)) (OfThree a b c 4 (effM 37)) (SaysYes.three a b c (fun gs gr gm => yes_dplus gs gr gm _ (by rw [lit_eq]; decide) (noneOf_lit [68, 43] _ (by decide))))
theorem eff_38 : EffOK a b c [68, 78, 69, 71, 65, 84, 69] 2 (effM 38) := fun W => effect_4 W a b c ⟨[68, 78, 69, 71, 65, 84, 69].toArray⟩ (no0 [68, 78, 69, 71, 65, 84, 69] (by decide)) (no1 [68, 78, 69, 71, 65, 84, 69] (by decide)) (no2 [68, 78, 69, 71, 65, 84, 69] (by decide) (by decide)) (no3 [68, 78, 69, 71, 65, 84, 69] (by decide)) (OfThree a b c 2 (effM 38)) (SaysYes.three a b c (fun gs gr gm => yes_dnegate gs gr gm _ (by rw [lit_eq]; decide) (noneOf_lit [68, 78, 69, 71, 65, 84, 69] _ (by decide))))
theorem eff_39 : EffOK a b c [65, 78, 68] 2 (effM 39) := fun W => effect_2 W a b c ⟨[65, 78, 68].toArray⟩ (no0 [65, 78, 68] (by decide)) (no1 [65, 78, 68] (by decide)) (OfThree a b c 2 (effM 39)) (SaysYes.three a b c (fun gs gr gm => yes_and gs gr gm _ (by rw [lit_eq]; decide) (noneOf_lit [65, 78, 68] _ (by decide))))
theorem eff_40 : EffOK a b c [79, 82] 2 (effM 40) := fun W => effect_2 W a b c ⟨[79, 82].toArray⟩ (no0 [79, 82] (by decide)) (no1 [79, 82] (by decide)) (OfThree a b c 2 (effM 40)) (SaysYes.three a b c (fun gs gr gm => yes_or gs gr gm _ (by rw [lit_eq]; decide) (noneOf_lit [79, 82] _ (by decide))))
theorem eff_41 : EffOK a b c [88, 79, 82] 2 (effM 41) := fun W => effect_2 W a b c ⟨[88, 79, 82].toArray⟩ (no0 [88, 79, 82] (by decide)) (no1 [88, 79, 82] (by decide)) (OfThree a b c 2 (effM 41)) (SaysYes.three a b c (fun gs gr gm => yes_xor gs gr gm _ (by rw [lit_eq]; decide) (noneOf_lit [88, 79, 82] _ (by decide))))
theorem eff_42 : EffOK a b c [73, 78, 86, 69, 82, 84] 1 (effM 42) := fun W => effect_1 W a b c ⟨[73, 78, 86, 69, 82, 84].toArray⟩ (no0 [73, 78, 86, 69, 82, 84] (by decide)) (OfThree a b c 1 (effM 42)) (SaysYes.three a b c (fun gs gr gm => yes_inv gs gr gm _ (by rw [lit_eq]; decide) (noneOf_lit [73, 78, 86, 69, 82, 84] _ (by decide))))
theorem eff_43 : EffOK a b c [76, 83, 72, 73, 70, 84] 2 (effM 43) := fun W => effect_2 W a b c ⟨[76, 83, 72, 73, 70, 84].toArray⟩ (no0 [76, 83, 72, 73, 70, 84] (by decide)) (no1 [76, 83, 72, 73, 70, 84] (by decide)) (OfThree a b c 2 (effM 43)) (SaysYes.three a b c (fun gs gr gm => yes_lsh gs gr gm _ (by rw [lit_eq]; decide) (noneOf_lit [76, 83, 72, 73, 70, 84] _ (by decide))))
theorem eff_44 : EffOK a b c [82, 83, 72, 73, 70, 84] 2 (effM 44) := fun W => effect_2 W a b c ⟨[82, 83, 72, 73, 70, 84].toArray⟩ (no0 [82, 83, 72, 73, 70, 84] (by decide)) (no1 [82, 83, 72, 73, 70, 84] (by decide)) (OfThree a b c 2 (effM 44)) (SaysYes.three a b c (fun gs gr gm => yes_rsh gs gr gm _ (by rw [lit_eq]; decide) (noneOf_lit [82, 83, 72, 73, 70, 84] _ (by decide))))
theorem eff_45 : EffOK a b c [61] 2 (effM 45) := fun W => effect_2 W a b c ⟨[61].toArray⟩ (no0 [61] (by decide)) (no1 [61] (by decide)) (OfThree a b c 2 (effM 45)) (SaysYes.three a b c (fun gs gr gm => yes_eq gs gr gm _ (by rw [lit_eq]; decide) (noneOf_lit [61] _ (by decide))))
theorem eff_46 : EffOK a b c [60, 62] 2 (effM 46) := fun W => effect_2 W a b c ⟨[60, 62].toArray⟩ (no0 [60, 62] (by decide)) (no1 [60, 62] (by decide)) (OfThree a b c 2 (effM 46)) (SaysYes.three a b c (fun gs gr gm => yes_ne gs gr gm _ (by rw [lit_eq]; decide) (noneOf_lit [60, 62] _ (by decide))))
theorem eff_47 : EffOK a b c [60] 2 (effM 47) := fun W => effect_2 W a b c ⟨[60].toArray⟩ (no0 [60] (by decide)) (no1 [60] (by decide)) (OfThree a b c 2 (effM 47)) (SaysYes.three a b c (fun gs gr gm => yes_lt gs gr gm _ (by rw [lit_eq]; decide) (noneOf_lit [60] _ (by decide))))
theorem eff_48 : EffOK a b c [62] 2 (effM 48) := fun W => effect_2 W a b c ⟨[62].toArray⟩ (no0 [62] (by decide)) (no1 [62] (by decide)) (OfThree a b c 2 (effM 48)) (SaysYes.three a b c (fun gs gr gm => yes_gt gs gr gm _ (by rw [lit_eq]; decide) (noneOf_lit [62] _ (by decide))))
theorem eff_49 : EffOK a b c [85, 60] 2 (effM 49) := fun W => effect_2 W a b c ⟨[85, 60].toArray⟩ (no0 [85, 60] (by decide)) (no1 [85, 60] (by decide)) (OfThree a b c 2 (effM 49)) (SaysYes.three a b c (fun gs gr gm => yes_ult gs gr gm _ (by rw [lit_eq]; decide) (noneOf_lit [85, 60] _ (by decide))))
theorem eff_50 : EffOK a b c [85, 62] 2 (effM 50) := fun W => effect_2 W a b c ⟨[85, 62].toArray⟩ (no0 [85, 62] (by decide)) (no1 [85, 62] (by decide)) (OfThree a b c 2 (effM 50)) (SaysYes.three a b c (fun gs gr gm => yes_ugt gs gr gm _ (by rw [lit_eq]; decide) (noneOf_lit [85, 62] _ (by decide))))
theorem eff_51 : EffOK a b c [48, 61] 1 (effM 51) := fun W => effect_1 W a b c ⟨[48, 61].toArray⟩ (no0 [48, 61] (by decide)) (OfThree a b c 1 (effM 51)) (SaysYes.three a b c (fun gs gr gm => yes_zeq gs gr gm _ (by rw [lit_eq]; decide) (noneOf_lit [48, 61] _ (by decide))))
theorem eff_52 : EffOK a b c [48, 60] 1 (effM 52) := fun W => effect_1 W a b c ⟨[48, 60].toArray⟩ (no0 [48, 60] (by decide)) (OfThree a b c 1 (effM 52)) (SaysYes.three a b c (fun gs gr gm => yes_zlt gs gr gm _ (by rw [lit_eq]; decide) (noneOf_lit [48, 60] _ (by decide))))
theorem eff_53 : EffOK a b c [48, 62] 1 (effM 53) := fun W => effect_1 W a b c ⟨[48, 62].toArray⟩ (no0 [48, 62] (by decide)) (OfThree a b c 1 (effM 53)) (SaysYes.three a b c (fun gs gr gm => yes_zgt gs gr gm _ (by rw [lit_eq]; decide) (noneOf_lit [48, 62] _ (by decide))))
theorem eff_54 : EffOK a b c [87, 73, 84, 72, 73, 78] 3 (effM 54) := fun W => effect_2 W a b c ⟨[87, 73, 84, 72, 73, 78].toArray⟩ (no0 [87, 73, 84, 72, 73, 78] (by decide)) (no1 [87, 73, 84, 72, 73, 78] (by decide)) (OfThree a b c 3 (effM 54)) (SaysYes.three a b c (fun gs gr gm => yes_within gs gr gm _ (by rw [lit_eq]; decide)))
theorem eff_55 : EffOK a b c [64] 1 (effM 55) := fun W => effect_6 W a b c ⟨[64].toArray⟩ (no0 [64] (by decide)) (no1 [64] (by decide)) (no2 [64] (by decide) (by decide)) (no3 [64] (by decide)) (no4 [64] (by decide)) (no5 a b c [64] (by decide)) (OfThree a b c 1 (effM 55)) ((says_fetch a b c _ (by rw [lit_eq]; decide) (noneOf_lit [64] _ (by decide))).boxed (fun gs gr gm W bl h0 h1 h2 => fetch_does gs gr gm W bl h2))
theorem eff_56 : EffOK a b c [33] 2 (effM 56) := fun W => effect_6 W a b c ⟨[33].toArray⟩ (no0 [33] (by decide)) (no1 [33] (by decide)) (no2 [33] (by decide) (by decide)) (no3 [33] (by decide)) (no4 [33] (by decide)) (no5 a b c [33] (by decide)) (OfThree a b c 2 (effM 56)) ((says_store a b c _ (by rw [lit_eq]; decide) (noneOf_lit [33] _ (by decide))).boxed (fun gs gr gm W bl h0 h1 h2 => store_does gs gr gm W bl h2))
theorem eff_57 : EffOK a b c [67, 64] 1 (effM 57) := fun W => effect_6 W a b c ⟨[67, 64].toArray⟩ (no0 [67, 64] (by decide)) (no1 [67, 64] (by decide)) (no2 [67, 64] (by decide) (by decide)) (no3 [67, 64] (by decide)) (no4 [67, 64] (by decide)) (no5 a b c [67, 64] (by decide)) (OfThree a b c 1 (effM 57)) ((says_cfetch a b c _ (by rw [lit_eq]; decide) (noneOf_lit [67, 64] _ (by decide))).boxed (fun gs gr gm W bl h0 h1 h2 => cfetch_does gs gr gm W bl h2))
theorem eff_58 : EffOK a b c [67, 33] 2 (effM 58) := fun W => effect_6 W a b c ⟨[67, 33].toArray⟩ (no0 [67, 33] (by decide)) (no1 [67, 33] (by decide)) (no2 [67, 33] (by decide) (by decide)) (no3 [67, 33] (by decide)) (no4 [67, 33] (by decide)) (no5 a b c [67, 33] (by decide)) (OfThree a b c 2 (effM 58)) ((says_cstore a b c _ (by rw [lit_eq]; decide) (noneOf_lit [67, 33] _ (by decide))).boxed (fun gs gr gm W bl h0 h1 h2 => cstore_does gs gr gm W bl h2))
theorem eff_59 : EffOK a b c [43, 33] 2 (effM 59) := fun W => effect_6 W a b c ⟨[43, 33].toArray⟩ (no0 [43, 33] (by decide)) (no1 [43, 33] (by decide)) (no2 [43, 33] (by decide) (by decide)) (no3 [43, 33] (by decide)) (no4 [43, 33] (by decide)) (no5 a b c [43, 33] (by decide)) (OfThree a b c 2 (effM 59)) ((says_plusstore a b c _ (by rw [lit_eq]; decide) (noneOf_lit [43, 33] _ (by decide))).boxed (fun gs gr gm W bl h0 h1 h2 => plusstore_does gs gr gm W bl h0 h1 h2))
theorem eff_60 : EffOK a b c [50, 64] 1 (effM 60) := fun W => effect_6 W a b c ⟨[50, 64].toArray⟩ (no0 [50, 64] (by decide)) (no1 [50, 64] (by decide)) (no2 [50, 64] (by decide) (by decide)) (no3 [50, 64] (by decide)) (no4 [50, 64] (by decide)) (no5 a b c [50, 64] (by decide)) (OfThree a b c 1 (effM 60)) ((says_fetch2 a b c _ (by rw [lit_eq]; decide) (noneOf_lit [50, 64] _ (by decide))).boxed (fun gs gr gm W bl h0 h1 h2 => fetch2_does gs gr gm W bl h0 h1 h2))
theorem eff_61 : EffOK a b c [50, 33] 3 (effM 61) := fun W => effect_6 W a b c ⟨[50, 33].toArray⟩ (no0 [50, 33] (by decide)) (no1 [50, 33] (by decide)) (no2 [50, 33] (by decide) (by decide)) (no3 [50, 33] (by decide)) (no4 [50, 33] (by decide)) (no5 a b c [50, 33] (by decide)) (OfThree a b c 3 (effM 61)) ((says_store2 a b c _ (by rw [lit_eq]; decide) (noneOf_lit [50, 33] _ (by decide))).boxed (fun gs gr gm W bl h0 h1 h2 => store2_does gs gr gm W bl h0 h1 h2))
theorem eff_62 : EffOK a b c [77, 79, 86, 69] 3 (effM 62) := fun W => effect_6 W a b c ⟨[77, 79, 86, 69].toArray⟩ (no0 [77, 79, 86, 69] (by decide)) (no1 [77, 79, 86, 69] (by decide)) (no2 [77, 79, 86, 69] (by decide) (by decide)) (no3 [77, 79, 86, 69] (by decide)) (no4 [77, 79, 86, 69] (by decide)) (no5 a b c [77, 79, 86, 69] (by decide)) (OfThree a b c 3 (effM 62)) ((says_move a b c _ (by rw [lit_eq]; decide) (noneOf_lit [77, 79, 86, 69] _ (by decide))).boxed (fun gs gr gm W bl h0 h1 h2 => move_does gs gr gm W bl h2))
theorem eff_63 : EffOK a b c [70, 73, 76, 76] 3 (effM 63) := fun W => effect_6 W a b c ⟨[70, 73, 76, 76].toArray⟩ (no0 [70, 73, 76, 76] (by decide)) (no1 [70, 73, 76, 76] (by decide)) (no2 [70, 73, 76, 76] (by decide) (by decide)) (no3 [70, 73, 76, 76] (by decide)) (no4 [70, 73, 76, 76] (by decide)) (no5 a b c [70, 73, 76, 76] (by decide)) (OfThree a b c 3 (effM 63)) ((says_fill a b c _ (by rw [lit_eq]; decide) (noneOf_lit [70, 73, 76, 76] _ (by decide))).boxed (fun gs gr gm W bl h0 h1 h2 => fill_does gs gr gm W bl h2))
theorem eff_64 : EffOK a b c [67, 69, 76, 76, 43] 1 (effM 64) := fun W => effect_1 W a b c ⟨[67, 69, 76, 76, 43].toArray⟩ (no0 [67, 69, 76, 76, 43] (by decide)) (OfThree a b c 1 (effM 64)) (SaysYes.three a b c (fun gs gr gm => yes_cellp gs gr gm _ (by rw [lit_eq]; decide) (noneOf_lit [67, 69, 76, 76, 43] _ (by decide))))
theorem eff_65 : EffOK a b c [67, 69, 76, 76, 83] 1 (effM 65) := fun W => effect_1 W a b c ⟨[67, 69, 76, 76, 83].toArray⟩ (no0 [67, 69, 76, 76, 83] (by decide)) (OfThree a b c 1 (effM 65)) (SaysYes.three a b c (fun gs gr gm => yes_cells gs gr gm _ (by rw [lit_eq]; decide) (noneOf_lit [67, 69, 76, 76, 83] _ (by decide))))
theorem eff_66 : EffOK a b c [67, 72, 65, 82, 43] 1 (effM 66) := fun W => effect_1 W a b c ⟨[67, 72, 65, 82, 43].toArray⟩ (no0 [67, 72, 65, 82, 43] (by decide)) (OfThree a b c 1 (effM 66)) (SaysYes.three a b c (fun gs gr gm => yes_charp gs gr gm _ (by rw [lit_eq]; decide) (noneOf_lit [67, 72, 65, 82, 43] _ (by decide))))
theorem eff_67 : EffOK a b c [67, 72, 65, 82, 83] 1 (effM 67) := fun W => effect_1 W a b c ⟨[67, 72, 65, 82, 83].toArray⟩ (no0 [67, 72, 65, 82, 83] (by decide)) (OfThree a b c 1 (effM 67)) (SaysYes.three a b c (fun gs gr gm => yes_chars gs gr gm _ (by rw [lit_eq]; decide) (noneOf_lit [67, 72, 65, 82, 83] _ (by decide))))
theorem eff_68 : EffOK a b c [65, 76, 73, 71, 78, 69, 68] 1 (effM 68) := fun W => effect_1 W a b c ⟨[65, 76, 73, 71, 78, 69, 68].toArray⟩ (no0 [65, 76, 73, 71, 78, 69, 68] (by decide)) (OfThree a b c 1 (effM 68)) (SaysYes.three a b c (fun gs gr gm => yes_align gs gr gm _ (by rw [lit_eq]; decide) (noneOf_lit [65, 76, 73, 71, 78, 69, 68] _ (by decide))))
theorem eff_69 : EffOK a b c [67, 79, 85, 78, 84] 1 (effM 69) := fun W => effect_6 W a b c ⟨[67, 79, 85, 78, 84].toArray⟩ (no0 [67, 79, 85, 78, 84] (by decide)) (no1 [67, 79, 85, 78, 84] (by decide)) (no2 [67, 79, 85, 78, 84] (by decide) (by decide)) (no3 [67, 79, 85, 78, 84] (by decide)) (no4 [67, 79, 85, 78, 84] (by decide)) (no5 a b c [67, 79, 85, 78, 84] (by decide)) (OfThree a b c 1 (effM 69)) ((says_count a b c _ (by rw [lit_eq]; decide) (noneOf_lit [67, 79, 85, 78, 84] _ (by decide))).boxed (fun gs gr gm W bl h0 h1 h2 => count_does gs gr gm W bl h0 h1 h2))
theorem eff_70 : EffOK a b c [62, 82] 1 (effM 70) := fun W => effect_5 W a b c ⟨[62, 82].toArray⟩ (no0 [62, 82] (by decide)) (no1 [62, 82] (by decide)) (no2 [62, 82] (by decide) (by decide)) (no3 [62, 82] (by decide)) (no4 [62, 82] (by decide)) (OfThree a b c 1 (effM 70)) ((says_tor a b c _ (by rw [lit_eq]; decide) (noneOf_lit [62, 82] _ (by decide))).boxed (fun gs gr gm W bl h0 h1 h2 => tor_does gs gr gm W bl h1))
theorem eff_71 : EffOK a b c [82, 62] 0 (effM 71) := fun W => effect_5 W a b c ⟨[82, 62].toArray⟩ (no0 [82, 62] (by decide)) (no1 [82, 62] (by decide)) (no2 [82, 62] (by decide) (by decide)) (no3 [82, 62] (by decide)) (no4 [82, 62] (by decide)) (OfThree a b c 0 (effM 71)) ((says_rfrom a b c _ (by rw [lit_eq]; decide) (noneOf_lit [82, 62] _ (by decide))).boxed (fun gs gr gm W bl h0 h1 h2 => rfrom_does gs gr gm W bl h1))
theorem eff_72 : EffOK a b c [82, 64] 0 (effM 72) := fun W => effect_5 W a b c ⟨[82, 64].toArray⟩ (no0 [82, 64] (by decide)) (no1 [82, 64] (by decide)) (no2 [82, 64] (by decide) (by decide)) (no3 [82, 64] (by decide)) (no4 [82, 64] (by decide)) (OfThree a b c 0 (effM 72)) ((says_rfetch a b c _ (by rw [lit_eq]; decide) (noneOf_lit [82, 64] _ (by decide))).boxed (fun gs gr gm W bl h0 h1 h2 => rfetch_does gs gr gm W bl h1))
end
theorem all_succ {P : Nat → Prop} {n : Nat} (h : ∀ i, i < n → P i) (e : P n) : ∀ i, i < n + 1 → P i := fun i hi => by
  by_cases h1 : i = n
  · subst h1; exact e
  · exact h i (by omega)
set_option maxRecDepth 100000 in
theorem eff_any (a b c : Option Addr) : ∀ i, i < 73 → EffOK a b c (primI i).name (primI i).takes (effM i) := by
  refine all_succ (all_succ (all_succ (all_succ (all_succ (all_succ (all_succ (all_succ (all_succ (all_succ (all_succ (all_succ (all_succ (all_succ (all_succ (all_succ (all_succ (all_succ (all_succ (all_succ (all_succ (all_succ (all_succ (all_succ (all_succ (all_succ (all_succ (all_succ (all_succ (all_succ (all_succ (all_succ (all_succ (all_succ (all_succ (all_succ (all_succ (all_succ (all_succ (all_succ (all_succ (all_succ (all_succ (all_succ (all_succ (all_succ (all_succ (all_succ (all_succ (all_succ (all_succ (all_succ (all_succ (all_succ (all_succ (all_succ (all_succ (all_succ (all_succ (all_succ (all_succ (all_succ (all_succ (all_succ (all_succ (all_succ (all_succ (all_succ (all_succ (all_succ (all_succ (all_succ (all_succ (fun i hi => absurd hi (by omega)) (eff_0 a b c)) (eff_1 a b c)) (eff_2 a b c)) (eff_3 a b c)) (eff_4 a b c)) (eff_5 a b c)) (eff_6 a b c)) (eff_7 a b c)) (eff_8 a b c)) (eff_9 a b c)) (eff_10 a b c)) (eff_11 a b c)) (eff_12 a b c)) (eff_13 a b c)) (eff_14 a b c)) (eff_15 a b c)) (eff_16 a b c)) (eff_17 a b c)) (eff_18 a b c)) (eff_19 a b c)) (eff_20 a b c)) (eff_21 a b c)) (eff_22 a b c)) (eff_23 a b c)) (eff_24 a b c)) (eff_25 a b c)) (eff_26 a b c)) (eff_27 a b c)) (eff_28 a b c)) (eff_29 a b c)) (eff_30 a b c)) (eff_31 a b c)) (eff_32 a b c)) (eff_33 a b c)) (eff_34 a b c)) (eff_35 a b c)) (eff_36 a b c)) (eff_37 a b c)) (eff_38 a b c)) (eff_39 a b c)) (eff_40 a b c)) (eff_41 a b c)) (eff_42 a b c)) (eff_43 a b c)) (eff_44 a b c)) (eff_45 a b c)) (eff_46 a b c)) (eff_47 a b c)) (eff_48 a b c)) (eff_49 a b c)) (eff_50 a b c)) (eff_51 a b c)) (eff_52 a b c)) (eff_53 a b c)) (eff_54 a b c)) (eff_55 a b c)) (eff_56 a b c)) (eff_57 a b c)) (eff_58 a b c)) (eff_59 a b c)) (eff_60 a b c)) (eff_61 a b c)) (eff_62 a b c)) (eff_63 a b c)) (eff_64 a b c)) (eff_65 a b c)) (eff_66 a b c)) (eff_67 a b c)) (eff_68 a b c)) (eff_69 a b c)) (eff_70 a b c)) (eff_71 a b c)) (eff_72 a b c)
end Go.Proofs.YtfnjjanknfmibaaGreat
