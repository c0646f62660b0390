/-
  Plain primitives: the names that divide, and those of double cells. Written by draft/genpl4.py.
-/
import Derived.Test.YtfnjjanknfmibaaGreatPlYesB
import Derived.Test.YtfnjjanknfmibaaGreatPlGive
namespace Go.Proofs.YtfnjjanknfmibaaGreat
open Go.RowKit
set_option linter.unusedVariables false

/-- The quotient, the remainder, or both, and what is thrown. -/
def mkQ (X : Int × Int × Int) : List (BitVec 32) × Int := ([cI X.2.1], X.2.2)
def mkR (X : Int × Int × Int) : List (BitVec 32) × Int := ([cI X.1], X.2.2)
def mkB (X : Int × Int × Int) : List (BitVec 32) × Int := ([cI X.1, cI X.2.1], X.2.2)
theorem gives_mkQ (w : World) (fn : Nat) (args : Array Value) (X : Int × Int × Int) (h : Gives w fn args [cI X.2.1] X.2.2) : Gives w fn args (mkQ X).1 (mkQ X).2 := h
theorem gives_mkR (w : World) (fn : Nat) (args : Array Value) (X : Int × Int × Int) (h : Gives w fn args [cI X.1] X.2.2) : Gives w fn args (mkR X).1 (mkR X).2 := h
theorem gives_mkB (w : World) (fn : Nat) (args : Array Value) (X : Int × Int × Int) (h : Gives w fn args [cI X.1, cI X.2.1] X.2.2) : Gives w fn args (mkB X).1 (mkB X).2 := h

def E_slash (c : List (BitVec 32)) : List (BitVec 32) × Int := mkQ (divI true (sD (c.getD 0 0#32) (signB (c.getD 0 0#32))) (sC (c.getD 1 0#32)))
theorem len_slash (c : List (BitVec 32)) : (E_slash c).1.length ≤ 6 := Nat.le_of_ble_eq_true rfl
theorem does_slash (gs gr gm : Nat) (W : World) : Does gs gr gm 2 (pureE E_slash) W 50 #[] #[] := by
  refine Does.pure (k := 2) E_slash (entered_of Tryz.func50 (by kernel_rfl) rfl) (fun c _ => len_slash c) ?_
  intro w M c hkw hcl hcells
  obtain ⟨c0, c1, rfl⟩ := two_of hcl
  have hg := slash_gives w M 2 c0 c1 (Nat.le_refl _) (hcells 0 c0 rfl) (hcells 1 c1 rfl)
  have e : E_slash [c0, c1] = mkQ (divI true (sD c0 (signB c0)) (sC c1)) := rfl
  rw [e]
  exact gives_mkQ _ _ _ _ hg
set_option maxRecDepth 100000 in
theorem yes_slash (gs gr gm : Nat) (s : ByteArray) (hs : (s.toList == [47]) = true) (hn : noneOf s []) : SaysYes 35 #[.string s] (Does gs gr gm 2 (pureE E_slash)) := by
  intro W
  have HP := Lib.hid (does_slash gs gr gm W)
  clear hn
  go_enter Tryz.func35, Tryz.ntmps35
  go_wp2
  go_ret
  exact ⟨_, _, _, rfl, Keeps.refl [] W, HP.out⟩

def E_mod (c : List (BitVec 32)) : List (BitVec 32) × Int := mkR (divI true (sD (c.getD 0 0#32) (signB (c.getD 0 0#32))) (sC (c.getD 1 0#32)))
theorem len_mod (c : List (BitVec 32)) : (E_mod c).1.length ≤ 6 := Nat.le_of_ble_eq_true rfl
theorem does_mod (gs gr gm : Nat) (W : World) : Does gs gr gm 2 (pureE E_mod) W 54 #[] #[] := by
  refine Does.pure (k := 2) E_mod (entered_of Tryz.func54 (by kernel_rfl) rfl) (fun c _ => len_mod c) ?_
  intro w M c hkw hcl hcells
  obtain ⟨c0, c1, rfl⟩ := two_of hcl
  have hg := mod_gives w M 2 c0 c1 (Nat.le_refl _) (hcells 0 c0 rfl) (hcells 1 c1 rfl)
  have e : E_mod [c0, c1] = mkR (divI true (sD c0 (signB c0)) (sC c1)) := rfl
  rw [e]
  exact gives_mkR _ _ _ _ hg
set_option maxRecDepth 100000 in
theorem yes_mod (gs gr gm : Nat) (s : ByteArray) (hs : (s.toList == [77, 79, 68]) = true) (hn : noneOf s [[47]]) : SaysYes 35 #[.string s] (Does gs gr gm 2 (pureE E_mod)) := by
  intro W
  have HP := Lib.hid (does_mod gs gr gm W)
  have n0 := hn.at [47] (by simp)
  clear hn
  go_enter Tryz.func35, Tryz.ntmps35
  go_wp2
  go_ret
  exact ⟨_, _, _, rfl, Keeps.refl [] W, HP.out⟩

def E_slashmod (c : List (BitVec 32)) : List (BitVec 32) × Int := mkB (divI true (sD (c.getD 0 0#32) (signB (c.getD 0 0#32))) (sC (c.getD 1 0#32)))
theorem len_slashmod (c : List (BitVec 32)) : (E_slashmod c).1.length ≤ 6 := Nat.le_of_ble_eq_true rfl
theorem does_slashmod (gs gr gm : Nat) (W : World) : Does gs gr gm 2 (pureE E_slashmod) W 56 #[] #[] := by
  refine Does.pure (k := 2) E_slashmod (entered_of Tryz.func56 (by kernel_rfl) rfl) (fun c _ => len_slashmod c) ?_
  intro w M c hkw hcl hcells
  obtain ⟨c0, c1, rfl⟩ := two_of hcl
  have hg := slashmod_gives w M 2 c0 c1 (Nat.le_refl _) (hcells 0 c0 rfl) (hcells 1 c1 rfl)
  have e : E_slashmod [c0, c1] = mkB (divI true (sD c0 (signB c0)) (sC c1)) := rfl
  rw [e]
  exact gives_mkB _ _ _ _ hg
set_option maxRecDepth 100000 in
theorem yes_slashmod (gs gr gm : Nat) (s : ByteArray) (hs : (s.toList == [47, 77, 79, 68]) = true) (hn : noneOf s [[47], [77, 79, 68]]) : SaysYes 35 #[.string s] (Does gs gr gm 2 (pureE E_slashmod)) := by
  intro W
  have HP := Lib.hid (does_slashmod gs gr gm W)
  have n0 := hn.at [47] (by simp)
  have n1 := hn.at [77, 79, 68] (by simp)
  clear hn
  go_enter Tryz.func35, Tryz.ntmps35
  go_wp2
  go_ret
  exact ⟨_, _, _, rfl, Keeps.refl [] W, HP.out⟩

def E_starslash (c : List (BitVec 32)) : List (BitVec 32) × Int := mkQ (divI true (sD (loP (sC (c.getD 0 0#32) * sC (c.getD 1 0#32))) (hiP (sC (c.getD 0 0#32) * sC (c.getD 1 0#32)))) (sC (c.getD 2 0#32)))
theorem len_starslash (c : List (BitVec 32)) : (E_starslash c).1.length ≤ 6 := Nat.le_of_ble_eq_true rfl
theorem does_starslash (gs gr gm : Nat) (W : World) : Does gs gr gm 3 (pureE E_starslash) W 57 #[] #[] := by
  refine Does.pure (k := 3) E_starslash (entered_of Tryz.func57 (by kernel_rfl) rfl) (fun c _ => len_starslash c) ?_
  intro w M c hkw hcl hcells
  obtain ⟨c0, c1, c2, rfl⟩ := three_of hcl
  have hg := starslash_gives w M 3 c0 c1 c2 (Nat.le_refl _) (hcells 0 c0 rfl) (hcells 1 c1 rfl) (hcells 2 c2 rfl)
  have e : E_starslash [c0, c1, c2] = mkQ (divI true (sD (loP (sC c0 * sC c1)) (hiP (sC c0 * sC c1))) (sC c2)) := rfl
  rw [e]
  exact gives_mkQ _ _ _ _ hg
set_option maxRecDepth 100000 in
theorem yes_starslash (gs gr gm : Nat) (s : ByteArray) (hs : (s.toList == [42, 47]) = true) (hn : noneOf s [[47], [77, 79, 68], [47, 77, 79, 68]]) : SaysYes 35 #[.string s] (Does gs gr gm 3 (pureE E_starslash)) := by
  intro W
  have HP := Lib.hid (does_starslash gs gr gm W)
  have n0 := hn.at [47] (by simp)
  have n1 := hn.at [77, 79, 68] (by simp)
  have n2 := hn.at [47, 77, 79, 68] (by simp)
  clear hn
  go_enter Tryz.func35, Tryz.ntmps35
  go_wp2
  go_ret
  exact ⟨_, _, _, rfl, Keeps.refl [] W, HP.out⟩

def E_starslashmod (c : List (BitVec 32)) : List (BitVec 32) × Int := mkB (divI true (sD (loP (sC (c.getD 0 0#32) * sC (c.getD 1 0#32))) (hiP (sC (c.getD 0 0#32) * sC (c.getD 1 0#32)))) (sC (c.getD 2 0#32)))
theorem len_starslashmod (c : List (BitVec 32)) : (E_starslashmod c).1.length ≤ 6 := Nat.le_of_ble_eq_true rfl
theorem does_starslashmod (gs gr gm : Nat) (W : World) : Does gs gr gm 3 (pureE E_starslashmod) W 59 #[] #[] := by
  refine Does.pure (k := 3) E_starslashmod (entered_of Tryz.func59 (by kernel_rfl) rfl) (fun c _ => len_starslashmod c) ?_
  intro w M c hkw hcl hcells
  obtain ⟨c0, c1, c2, rfl⟩ := three_of hcl
  have hg := starslashmod_gives w M 3 c0 c1 c2 (Nat.le_refl _) (hcells 0 c0 rfl) (hcells 1 c1 rfl) (hcells 2 c2 rfl)
  have e : E_starslashmod [c0, c1, c2] = mkB (divI true (sD (loP (sC c0 * sC c1)) (hiP (sC c0 * sC c1))) (sC c2)) := rfl
  rw [e]
  exact gives_mkB _ _ _ _ hg
set_option maxRecDepth 100000 in
theorem yes_starslashmod (gs gr gm : Nat) (s : ByteArray) (hs : (s.toList == [42, 47, 77, 79, 68]) = true) (hn : noneOf s [[47], [77, 79, 68], [47, 77, 79, 68], [42, 47]]) : SaysYes 35 #[.string s] (Does gs gr gm 3 (pureE E_starslashmod)) := by
  intro W
  have HP := Lib.hid (does_starslashmod gs gr gm W)
  have n0 := hn.at [47] (by simp)
  have n1 := hn.at [77, 79, 68] (by simp)
  have n2 := hn.at [47, 77, 79, 68] (by simp)
  have n3 := hn.at [42, 47] (by simp)
  clear hn
  go_enter Tryz.func35, Tryz.ntmps35
  go_wp2
  go_ret
  exact ⟨_, _, _, rfl, Keeps.refl [] W, HP.out⟩

def E_ummod (c : List (BitVec 32)) : List (BitVec 32) × Int := mkB (divU (((c.getD 1 0#32).toNat : Int) * 4294967296 + ((c.getD 0 0#32).toNat : Int)) ((c.getD 2 0#32).toNat : Int))
theorem len_ummod (c : List (BitVec 32)) : (E_ummod c).1.length ≤ 6 := Nat.le_of_ble_eq_true rfl
theorem does_ummod (gs gr gm : Nat) (W : World) : Does gs gr gm 3 (pureE E_ummod) W 60 #[] #[] := by
  refine Does.pure (k := 3) E_ummod (entered_of Tryz.func60 (by kernel_rfl) rfl) (fun c _ => len_ummod c) ?_
  intro w M c hkw hcl hcells
  obtain ⟨c0, c1, c2, rfl⟩ := three_of hcl
  have hg := ummod_gives w M 3 c0 c1 c2 (Nat.le_refl _) (hcells 0 c0 rfl) (hcells 1 c1 rfl) (hcells 2 c2 rfl)
  have e : E_ummod [c0, c1, c2] = mkB (divU ((c1.toNat : Int) * 4294967296 + (c0.toNat : Int)) (c2.toNat : Int)) := rfl
  rw [e]
  exact gives_mkB _ _ _ _ hg
set_option maxRecDepth 100000 in
theorem yes_ummod (gs gr gm : Nat) (s : ByteArray) (hs : (s.toList == [85, 77, 47, 77, 79, 68]) = true) (hn : noneOf s [[47], [77, 79, 68], [47, 77, 79, 68], [42, 47], [42, 47, 77, 79, 68]]) : SaysYes 35 #[.string s] (Does gs gr gm 3 (pureE E_ummod)) := by
  intro W
  have HP := Lib.hid (does_ummod gs gr gm W)
  have n0 := hn.at [47] (by simp)
  have n1 := hn.at [77, 79, 68] (by simp)
  have n2 := hn.at [47, 77, 79, 68] (by simp)
  have n3 := hn.at [42, 47] (by simp)
  have n4 := hn.at [42, 47, 77, 79, 68] (by simp)
  clear hn
  go_enter Tryz.func35, Tryz.ntmps35
  go_wp2
  go_ret
  exact ⟨_, _, _, rfl, Keeps.refl [] W, HP.out⟩

def E_fmmod (c : List (BitVec 32)) : List (BitVec 32) × Int := mkB (divI true (sD (c.getD 0 0#32) (c.getD 1 0#32)) (sC (c.getD 2 0#32)))
theorem len_fmmod (c : List (BitVec 32)) : (E_fmmod c).1.length ≤ 6 := Nat.le_of_ble_eq_true rfl
theorem does_fmmod (gs gr gm : Nat) (W : World) : Does gs gr gm 3 (pureE E_fmmod) W 63 #[] #[] := by
  refine Does.pure (k := 3) E_fmmod (entered_of Tryz.func63 (by kernel_rfl) rfl) (fun c _ => len_fmmod c) ?_
  intro w M c hkw hcl hcells
  obtain ⟨c0, c1, c2, rfl⟩ := three_of hcl
  have hg := fmmod_gives w M 3 c0 c1 c2 (Nat.le_refl _) (hcells 0 c0 rfl) (hcells 1 c1 rfl) (hcells 2 c2 rfl)
  have e : E_fmmod [c0, c1, c2] = mkB (divI true (sD c0 c1) (sC c2)) := rfl
  rw [e]
  exact gives_mkB _ _ _ _ hg
set_option maxRecDepth 100000 in
theorem yes_fmmod (gs gr gm : Nat) (s : ByteArray) (hs : (s.toList == [70, 77, 47, 77, 79, 68]) = true) (hn : noneOf s [[47], [77, 79, 68], [47, 77, 79, 68], [42, 47], [42, 47, 77, 79, 68], [85, 77, 47, 77, 79, 68]]) : SaysYes 35 #[.string s] (Does gs gr gm 3 (pureE E_fmmod)) := by
  intro W
  have HP := Lib.hid (does_fmmod gs gr gm W)
  have n0 := hn.at [47] (by simp)
  have n1 := hn.at [77, 79, 68] (by simp)
  have n2 := hn.at [47, 77, 79, 68] (by simp)
  have n3 := hn.at [42, 47] (by simp)
  have n4 := hn.at [42, 47, 77, 79, 68] (by simp)
  have n5 := hn.at [85, 77, 47, 77, 79, 68] (by simp)
  clear hn
  go_enter Tryz.func35, Tryz.ntmps35
  go_wp2
  go_ret
  exact ⟨_, _, _, rfl, Keeps.refl [] W, HP.out⟩

def E_smrem (c : List (BitVec 32)) : List (BitVec 32) × Int := mkB (divI false (sD (c.getD 0 0#32) (c.getD 1 0#32)) (sC (c.getD 2 0#32)))
theorem len_smrem (c : List (BitVec 32)) : (E_smrem c).1.length ≤ 6 := Nat.le_of_ble_eq_true rfl
theorem does_smrem (gs gr gm : Nat) (W : World) : Does gs gr gm 3 (pureE E_smrem) W 64 #[] #[] := by
  refine Does.pure (k := 3) E_smrem (entered_of Tryz.func64 (by kernel_rfl) rfl) (fun c _ => len_smrem c) ?_
  intro w M c hkw hcl hcells
  obtain ⟨c0, c1, c2, rfl⟩ := three_of hcl
  have hg := smrem_gives w M 3 c0 c1 c2 (Nat.le_refl _) (hcells 0 c0 rfl) (hcells 1 c1 rfl) (hcells 2 c2 rfl)
  have e : E_smrem [c0, c1, c2] = mkB (divI false (sD c0 c1) (sC c2)) := rfl
  rw [e]
  exact gives_mkB _ _ _ _ hg
set_option maxRecDepth 100000 in
theorem yes_smrem (gs gr gm : Nat) (s : ByteArray) (hs : (s.toList == [83, 77, 47, 82, 69, 77]) = true) (hn : noneOf s [[47], [77, 79, 68], [47, 77, 79, 68], [42, 47], [42, 47, 77, 79, 68], [85, 77, 47, 77, 79, 68], [70, 77, 47, 77, 79, 68]]) : SaysYes 35 #[.string s] (Does gs gr gm 3 (pureE E_smrem)) := by
  intro W
  have HP := Lib.hid (does_smrem gs gr gm W)
  have n0 := hn.at [47] (by simp)
  have n1 := hn.at [77, 79, 68] (by simp)
  have n2 := hn.at [47, 77, 79, 68] (by simp)
  have n3 := hn.at [42, 47] (by simp)
  have n4 := hn.at [42, 47, 77, 79, 68] (by simp)
  have n5 := hn.at [85, 77, 47, 77, 79, 68] (by simp)
  have n6 := hn.at [70, 77, 47, 77, 79, 68] (by simp)
  clear hn
  go_enter Tryz.func35, Tryz.ntmps35
  go_wp2
  go_ret
  exact ⟨_, _, _, rfl, Keeps.refl [] W, HP.out⟩

def E_umstar (c : List (BitVec 32)) : List (BitVec 32) × Int := ([loP (((c.getD 0 0#32).toNat : Int) * ((c.getD 1 0#32).toNat : Int)), hiU (((c.getD 0 0#32).toNat : Int) * ((c.getD 1 0#32).toNat : Int))], 0)
theorem len_umstar (c : List (BitVec 32)) : (E_umstar c).1.length ≤ 6 := Nat.le_of_ble_eq_true rfl
theorem does_umstar (gs gr gm : Nat) (W : World) : Does gs gr gm 2 (pureE E_umstar) W 67 #[] #[] := by
  refine Does.pure (k := 2) E_umstar (entered_of Tryz.func67 (by kernel_rfl) rfl) (fun c _ => len_umstar c) ?_
  intro w M c hkw hcl hcells
  obtain ⟨c0, c1, rfl⟩ := two_of hcl
  have hg := umstar_gives w M 2 c0 c1 (Nat.le_refl _) (hcells 0 c0 rfl) (hcells 1 c1 rfl)
  have e : E_umstar [c0, c1] = ([loP ((c0.toNat : Int) * (c1.toNat : Int)), hiU ((c0.toNat : Int) * (c1.toNat : Int))], 0) := rfl
  rw [e]
  exact hg
set_option maxRecDepth 100000 in
theorem yes_umstar (gs gr gm : Nat) (s : ByteArray) (hs : (s.toList == [85, 77, 42]) = true) (hn : noneOf s []) : SaysYes 36 #[.string s] (Does gs gr gm 2 (pureE E_umstar)) := by
  intro W
  have HP := Lib.hid (does_umstar gs gr gm W)
  clear hn
  go_enter Tryz.func36, Tryz.ntmps36
  go_wp2
  go_ret
  exact ⟨_, _, _, rfl, Keeps.refl [] W, HP.out⟩

def E_mstar (c : List (BitVec 32)) : List (BitVec 32) × Int := ([loP (sC (c.getD 0 0#32) * sC (c.getD 1 0#32)), hiP (sC (c.getD 0 0#32) * sC (c.getD 1 0#32))], 0)
theorem len_mstar (c : List (BitVec 32)) : (E_mstar c).1.length ≤ 6 := Nat.le_of_ble_eq_true rfl
theorem does_mstar (gs gr gm : Nat) (W : World) : Does gs gr gm 2 (pureE E_mstar) W 70 #[] #[] := by
  refine Does.pure (k := 2) E_mstar (entered_of Tryz.func70 (by kernel_rfl) rfl) (fun c _ => len_mstar c) ?_
  intro w M c hkw hcl hcells
  obtain ⟨c0, c1, rfl⟩ := two_of hcl
  have hg := mstar_gives w M 2 c0 c1 (Nat.le_refl _) (hcells 0 c0 rfl) (hcells 1 c1 rfl)
  have e : E_mstar [c0, c1] = ([loP (sC c0 * sC c1), hiP (sC c0 * sC c1)], 0) := rfl
  rw [e]
  exact hg
set_option maxRecDepth 100000 in
theorem yes_mstar (gs gr gm : Nat) (s : ByteArray) (hs : (s.toList == [77, 42]) = true) (hn : noneOf s [[85, 77, 42]]) : SaysYes 36 #[.string s] (Does gs gr gm 2 (pureE E_mstar)) := by
  intro W
  have HP := Lib.hid (does_mstar gs gr gm W)
  have n0 := hn.at [85, 77, 42] (by simp)
  clear hn
  go_enter Tryz.func36, Tryz.ntmps36
  go_wp2
  go_ret
  exact ⟨_, _, _, rfl, Keeps.refl [] W, HP.out⟩

def E_std (c : List (BitVec 32)) : List (BitVec 32) × Int := ([(c.getD 0 0#32), signB (c.getD 0 0#32)], 0)
theorem len_std (c : List (BitVec 32)) : (E_std c).1.length ≤ 6 := Nat.le_of_ble_eq_true rfl
theorem does_std (gs gr gm : Nat) (W : World) : Does gs gr gm 1 (pureE E_std) W 73 #[] #[] := by
  refine Does.pure (k := 1) E_std (entered_of Tryz.func73 (by kernel_rfl) rfl) (fun c _ => len_std c) ?_
  intro w M c hkw hcl hcells
  obtain ⟨c0, rfl⟩ := List.length_eq_one_iff.1 hcl
  have hg := std_gives w M 1 c0 (Nat.le_refl _) (hcells 0 c0 rfl)
  have e : E_std [c0] = ([c0, signB c0], 0) := rfl
  rw [e]
  exact hg
set_option maxRecDepth 100000 in
theorem yes_std (gs gr gm : Nat) (s : ByteArray) (hs : (s.toList == [83, 62, 68]) = true) (hn : noneOf s [[85, 77, 42], [77, 42]]) : SaysYes 36 #[.string s] (Does gs gr gm 1 (pureE E_std)) := by
  intro W
  have HP := Lib.hid (does_std gs gr gm W)
  have n0 := hn.at [85, 77, 42] (by simp)
  have n1 := hn.at [77, 42] (by simp)
  clear hn
  go_enter Tryz.func36, Tryz.ntmps36
  go_wp2
  go_ret
  exact ⟨_, _, _, rfl, Keeps.refl [] W, HP.out⟩

def E_dplus (c : List (BitVec 32)) : List (BitVec 32) × Int := ([loP (((c.getD 1 0#32).toNat : Int) * 4294967296 + ((c.getD 0 0#32).toNat : Int) + (((c.getD 3 0#32).toNat : Int) * 4294967296 + ((c.getD 2 0#32).toNat : Int))), hiU (((c.getD 1 0#32).toNat : Int) * 4294967296 + ((c.getD 0 0#32).toNat : Int) + (((c.getD 3 0#32).toNat : Int) * 4294967296 + ((c.getD 2 0#32).toNat : Int)))], 0)
theorem len_dplus (c : List (BitVec 32)) : (E_dplus c).1.length ≤ 6 := Nat.le_of_ble_eq_true rfl
theorem does_dplus (gs gr gm : Nat) (W : World) : Does gs gr gm 4 (pureE E_dplus) W 74 #[] #[] := by
  refine Does.pure (k := 4) E_dplus (entered_of Tryz.func74 (by kernel_rfl) rfl) (fun c _ => len_dplus c) ?_
  intro w M c hkw hcl hcells
  obtain ⟨c0, c1, c2, c3, rfl⟩ := four_of hcl
  have hg := dplus_gives w M 4 c0 c1 c2 c3 (Nat.le_refl _) (hcells 0 c0 rfl) (hcells 1 c1 rfl) (hcells 2 c2 rfl) (hcells 3 c3 rfl)
  have e : E_dplus [c0, c1, c2, c3] = ([loP ((c1.toNat : Int) * 4294967296 + (c0.toNat : Int) + ((c3.toNat : Int) * 4294967296 + (c2.toNat : Int))), hiU ((c1.toNat : Int) * 4294967296 + (c0.toNat : Int) + ((c3.toNat : Int) * 4294967296 + (c2.toNat : Int)))], 0) := rfl
  rw [e]
  exact hg
set_option maxRecDepth 100000 in
theorem yes_dplus (gs gr gm : Nat) (s : ByteArray) (hs : (s.toList == [68, 43]) = true) (hn : noneOf s [[85, 77, 42], [77, 42], [83, 62, 68]]) : SaysYes 36 #[.string s] (Does gs gr gm 4 (pureE E_dplus)) := by
  intro W
  have HP := Lib.hid (does_dplus gs gr gm W)
  have n0 := hn.at [85, 77, 42] (by simp)
  have n1 := hn.at [77, 42] (by simp)
  have n2 := hn.at [83, 62, 68] (by simp)
  clear hn
  go_enter Tryz.func36, Tryz.ntmps36
  go_wp2
  go_ret
  exact ⟨_, _, _, rfl, Keeps.refl [] W, HP.out⟩

def E_dnegate (c : List (BitVec 32)) : List (BitVec 32) × Int := ([loP (-(((c.getD 1 0#32).toNat : Int) * 4294967296 + ((c.getD 0 0#32).toNat : Int))), hiU (-(((c.getD 1 0#32).toNat : Int) * 4294967296 + ((c.getD 0 0#32).toNat : Int)))], 0)
theorem len_dnegate (c : List (BitVec 32)) : (E_dnegate c).1.length ≤ 6 := Nat.le_of_ble_eq_true rfl
theorem does_dnegate (gs gr gm : Nat) (W : World) : Does gs gr gm 2 (pureE E_dnegate) W 76 #[] #[] := by
  refine Does.pure (k := 2) E_dnegate (entered_of Tryz.func76 (by kernel_rfl) rfl) (fun c _ => len_dnegate c) ?_
  intro w M c hkw hcl hcells
  obtain ⟨c0, c1, rfl⟩ := two_of hcl
  have hg := dnegate_gives w M 2 c0 c1 (Nat.le_refl _) (hcells 0 c0 rfl) (hcells 1 c1 rfl)
  have e : E_dnegate [c0, c1] = ([loP (-((c1.toNat : Int) * 4294967296 + (c0.toNat : Int))), hiU (-((c1.toNat : Int) * 4294967296 + (c0.toNat : Int)))], 0) := rfl
  rw [e]
  exact hg
set_option maxRecDepth 100000 in
theorem yes_dnegate (gs gr gm : Nat) (s : ByteArray) (hs : (s.toList == [68, 78, 69, 71, 65, 84, 69]) = true) (hn : noneOf s [[85, 77, 42], [77, 42], [83, 62, 68], [68, 43]]) : SaysYes 36 #[.string s] (Does gs gr gm 2 (pureE E_dnegate)) := by
  intro W
  have HP := Lib.hid (does_dnegate gs gr gm W)
  have n0 := hn.at [85, 77, 42] (by simp)
  have n1 := hn.at [77, 42] (by simp)
  have n2 := hn.at [83, 62, 68] (by simp)
  have n3 := hn.at [68, 43] (by simp)
  clear hn
  go_enter Tryz.func36, Tryz.ntmps36
  go_wp2
  go_ret
  exact ⟨_, _, _, rfl, Keeps.refl [] W, HP.out⟩

end Go.Proofs.YtfnjjanknfmibaaGreat
