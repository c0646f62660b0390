/-
  Plain primitives: what those give that make one cell of some, and those that give cells again.
-/
import Derived.Test.YtfnjjanknfmibaaGreatPlGivA
namespace Go.Proofs.YtfnjjanknfmibaaGreat
open Go.RowKit
set_option linter.unusedVariables false

/-- A function of the program that is entered when it is called. -/
def Entered (k : Nat) : Prop := ∀ (args : Array Value) (W : World), (callFunc k args).run Tryz.prog W = .ok (.enter k args) W

set_option maxRecDepth 100000 in
theorem ofOne1_gives (w : World) (b M cap k : Nat) (c g : BitVec 32) (hb : w.cell? ⟨b, 0, none⟩ = some (.func (.func k) #[] #[])) (h0 : w.cell? ⟨M, 0, none⟩ = some (.int .u32 (c.toNat : Int))) (hcap : 1 ≤ cap)
    (hE : Entered k) (hG : ∀ W, Calls Tryz.prog k #[.int .u32 (c.toNat : Int)] W fun e w' => e = .returned (.int .u32 (g.toNat : Int)) ∧ W = w') :
    Gives w 46 #[.slice (some ⟨M, 0, none⟩) 1 cap, .pointer (some ⟨b, 0, none⟩)] [g] 0 := by
  unfold Gives
  unfold Entered at hE
  have HG := Lib.hid hG
  clear hG
  go_enter Tryz.func46, Tryz.ntmps46
  go_upto_region 1 with fail
  go_region_with (refine (HG.out _).mono ?_; rintro e w' ⟨rfl, rfl⟩)
  all_goals (go_wp2; go_ret2; exact ⟨_, _, _, rfl, UReads.lit1 _ _ _ _ rfl, fun _ => Nat.le_refl _, by repeat' (first | exact Keeps.refl _ _ | refine Keeps.trans ?_ (Keeps.alloc [] _ _) | refine Keeps.trans ?_ (Keeps.drew [] _) | refine Keeps.trans ?_ (Keeps.drewN [] _ _))⟩)

set_option maxRecDepth 100000 in
set_option maxHeartbeats 1000000 in
theorem ofTwo1_gives (w : World) (b M cap k : Nat) (c d g : BitVec 32) (hb : w.cell? ⟨b, 0, none⟩ = some (.func (.func k) #[] #[])) (h0 : w.cell? ⟨M, 0, none⟩ = some (.int .u32 (c.toNat : Int))) (h1 : w.cell? ⟨M, 1, none⟩ = some (.int .u32 (d.toNat : Int))) (hcap : 2 ≤ cap)
    (hE : Entered k) (hG : ∀ W, Calls Tryz.prog k #[.int .u32 (c.toNat : Int), .int .u32 (d.toNat : Int)] W fun e w' => e = .returned (.int .u32 (g.toNat : Int)) ∧ W = w') :
    Gives w 49 #[.slice (some ⟨M, 0, none⟩) 2 cap, .pointer (some ⟨b, 0, none⟩)] [g] 0 := by
  unfold Gives
  unfold Entered at hE
  have HG := Lib.hid hG
  clear hG
  go_enter Tryz.func49, Tryz.ntmps49
  go_upto_region 1 with fail
  go_region_with (refine (HG.out _).mono ?_; rintro e w' ⟨rfl, rfl⟩)
  all_goals (go_wp2; go_ret2; exact ⟨_, _, _, rfl, UReads.lit1 _ _ _ _ rfl, fun _ => Nat.le_refl _, by repeat' (first | exact Keeps.refl _ _ | refine Keeps.trans ?_ (Keeps.alloc [] _ _) | refine Keeps.trans ?_ (Keeps.drew [] _) | refine Keeps.trans ?_ (Keeps.drewN [] _ _))⟩)

/-- Does a cell lie within two, the range going round? -/
def e_within (c d g : BitVec 32) : BitVec 32 := flB (decide (((c.toNat : Int) - d.toNat) % 4294967296 < ((g.toNat : Int) - d.toNat) % 4294967296))
set_option maxRecDepth 100000 in
theorem within_gives (w : World) (M cap : Nat) (c d g : BitVec 32) (hcap : 3 ≤ cap) (h0 : w.cell? ⟨M, 0, none⟩ = some (.int .u32 (c.toNat : Int))) (h1 : w.cell? ⟨M, 1, none⟩ = some (.int .u32 (d.toNat : Int))) (h2 : w.cell? ⟨M, 2, none⟩ = some (.int .u32 (g.toNat : Int))) :
    Gives w 47 #[.slice (some ⟨M, 0, none⟩) 3 cap] [e_within c d g] 0 := by
  unfold Gives e_within
  have b0 := c.isLt
  have b1 := d.isLt
  have b2 := g.isLt
  have HF := Lib.hid (fun W b => cFlag_any W b)
  have q0 := fun W (hk : Keeps [] w W) => hk.cell h0 (by simp)
  have q1 := fun W (hk : Keeps [] w W) => hk.cell h1 (by simp)
  have q2 := fun W (hk : Keeps [] w W) => hk.cell h2 (by simp)
  go_enter Tryz.func47, Tryz.ntmps47
  go_upto_region 1 with fail
  go_region_held3 (fun W0 => Keeps [] w W0) (first | assumption | exact Keeps.refl [] _ | exact Keeps.drew [] _) (fail)
  all_goals (go_wp2_with (refine (HF.out _ _).mono ?_; rintro e w1 ⟨rfl, rfl⟩))
  all_goals go_ret2
  all_goals exact ⟨_, _, _, rfl, UReads.lit1 _ _ _ _ rfl, fun _ => (by first | exact Nat.le_refl _ | exact Keeps.size (S := []) (by assumption)), by repeat' (first | assumption | exact Keeps.refl _ _ | refine Keeps.trans ?_ (Keeps.alloc [] _ _) | refine Keeps.trans ?_ (Keeps.drew [] _))⟩

set_option maxRecDepth 100000 in
theorem qdup_gives (w : World) (M cap : Nat) (c : BitVec 32) (hcap : 1 ≤ cap) (h0 : w.cell? ⟨M, 0, none⟩ = some (.int .u32 (c.toNat : Int))) :
    Gives w 78 #[.slice (some ⟨M, 0, none⟩) 1 cap] (if c = 0#32 then [c] else [c, c]) 0 := by
  unfold Gives
  by_cases hc : c = 0#32
  · rw [if_pos hc]
    subst hc
    have h0' : w.cell? ⟨M, 0, none⟩ = some (.int .u32 0) := h0
    clear h0
    go_enter Tryz.func78, Tryz.ntmps78
    go_wp2_with go_in
    go_ret2
    exact ⟨_, _, _, rfl, UReads.lit1 _ _ _ _ rfl, fun _ => Nat.le_refl _, Keeps.alloc [] _ _⟩
  · rw [if_neg hc]
    have hx : ¬ (c.toNat : Int) = 0 := fun h => hc (BitVec.eq_of_toNat_eq (by simpa using h))
    have hx2 : ((c.toNat : Int) == 0) = false := by simpa using hx
    go_enter Tryz.func78, Tryz.ntmps78
    go_wp2_with go_in
    go_ret2
    exact ⟨_, _, _, rfl, UReads.lit2 _ _ _ _ _ _ rfl rfl, fun _ => Nat.le_refl _, Keeps.alloc [] _ _⟩
end Go.Proofs.YtfnjjanknfmibaaGreat
