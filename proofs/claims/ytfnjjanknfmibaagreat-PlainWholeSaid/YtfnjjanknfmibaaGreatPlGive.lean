/-
  Plain primitives: what divisions, products and sums of double cells give. Written by draft/genpl3.py.
-/
import Derived.Test.YtfnjjanknfmibaaGreatPlGivA
namespace Go.Proofs.YtfnjjanknfmibaaGreat
open Go.RowKit
set_option linter.unusedVariables false

set_option maxRecDepth 100000 in
theorem slash_gives (w : World) (M cap : Nat) (c d : BitVec 32) (hcap : 2 ≤ cap) (h0 : w.cell? ⟨M, 0, none⟩ = some (.int .u32 (c.toNat : Int))) (h1 : w.cell? ⟨M, 1, none⟩ = some (.int .u32 (d.toNat : Int))) : Gives w 50 #[.slice (some ⟨M, 0, none⟩) 2 cap] [cI (divI true (sD c (signB c)) (sC d)).2.1] ((divI true (sD c (signB c)) (sC d)).2.2) := by
  unfold Gives
  have bc := c.isLt
  have bd := d.isLt
  have q0 := fun W (hk : Keeps [] w W) => hk.cell h0 (by simp)
  have q1 := fun W (hk : Keeps [] w W) => hk.cell h1 (by simp)
  go_enter Tryz.func50, Tryz.ntmps50
  go_upto_region 1 with fail
  go_region_held3 (fun W' => Keeps [] w W') (first | assumption | exact Keeps.refl [] _ | exact Keeps.drew [] _ | exact Keeps.trans (by assumption) (Keeps.alloc [] _ _) | exact (Keeps.drew [] _).trans (Keeps.alloc [] _ _) | exact Keeps.trans (by assumption) (by assumption) | exact (Keeps.drew [] _).trans (by assumption)) (first
    | (go_at_call 53; refine (sign_any _ c).mono ?_; rintro e w1 ⟨rfl, rfl⟩)
    | (go_at_call 52; refine (floored_any _ c (signB c) d).mono ?_; rintro e w2 ⟨v, rfl, ht⟩; obtain ⟨b, rfl, hb, hr, hk⟩ := ht)
    | (go_at_call 51; refine (quotient_any _ _ _ _ _ (by first | exact hr | exact hr.keeps (Keeps.drew [] _) (by simp) | exact hr.keeps (Keeps.drewN [] _ _) (by simp))).mono ?_; rintro e w3 ⟨v3, rfl, hr3, rfl⟩))
  all_goals (try go_wp2)
  all_goals go_ret2
  all_goals exact ⟨_, _, _, rfl, hr3, fun _ => hb, by first | assumption | exact (Keeps.drew [] _).trans (by assumption)⟩

set_option maxRecDepth 100000 in
theorem mod_gives (w : World) (M cap : Nat) (c d : BitVec 32) (hcap : 2 ≤ cap) (h0 : w.cell? ⟨M, 0, none⟩ = some (.int .u32 (c.toNat : Int))) (h1 : w.cell? ⟨M, 1, none⟩ = some (.int .u32 (d.toNat : Int))) : Gives w 54 #[.slice (some ⟨M, 0, none⟩) 2 cap] [cI (divI true (sD c (signB c)) (sC d)).1] ((divI true (sD c (signB c)) (sC d)).2.2) := by
  unfold Gives
  have bc := c.isLt
  have bd := d.isLt
  have q0 := fun W (hk : Keeps [] w W) => hk.cell h0 (by simp)
  have q1 := fun W (hk : Keeps [] w W) => hk.cell h1 (by simp)
  go_enter Tryz.func54, Tryz.ntmps54
  go_upto_region 1 with fail
  go_region_held3 (fun W' => Keeps [] w W') (first | assumption | exact Keeps.refl [] _ | exact Keeps.drew [] _ | exact Keeps.trans (by assumption) (Keeps.alloc [] _ _) | exact (Keeps.drew [] _).trans (Keeps.alloc [] _ _) | exact Keeps.trans (by assumption) (by assumption) | exact (Keeps.drew [] _).trans (by assumption)) (first
    | (go_at_call 53; refine (sign_any _ c).mono ?_; rintro e w1 ⟨rfl, rfl⟩)
    | (go_at_call 52; refine (floored_any _ c (signB c) d).mono ?_; rintro e w2 ⟨v, rfl, ht⟩; obtain ⟨b, rfl, hb, hr, hk⟩ := ht)
    | (go_at_call 55; refine (remainder_any _ _ _ _ _ (by first | exact hr | exact hr.keeps (Keeps.drew [] _) (by simp) | exact hr.keeps (Keeps.drewN [] _ _) (by simp))).mono ?_; rintro e w3 ⟨v3, rfl, hr3, rfl⟩))
  all_goals (try go_wp2)
  all_goals go_ret2
  all_goals exact ⟨_, _, _, rfl, hr3, fun _ => hb, by first | assumption | exact (Keeps.drew [] _).trans (by assumption)⟩

set_option maxRecDepth 100000 in
theorem slashmod_gives (w : World) (M cap : Nat) (c d : BitVec 32) (hcap : 2 ≤ cap) (h0 : w.cell? ⟨M, 0, none⟩ = some (.int .u32 (c.toNat : Int))) (h1 : w.cell? ⟨M, 1, none⟩ = some (.int .u32 (d.toNat : Int))) : Gives w 56 #[.slice (some ⟨M, 0, none⟩) 2 cap] [cI (divI true (sD c (signB c)) (sC d)).1, cI (divI true (sD c (signB c)) (sC d)).2.1] ((divI true (sD c (signB c)) (sC d)).2.2) := by
  unfold Gives
  have bc := c.isLt
  have bd := d.isLt
  have q0 := fun W (hk : Keeps [] w W) => hk.cell h0 (by simp)
  have q1 := fun W (hk : Keeps [] w W) => hk.cell h1 (by simp)
  go_enter Tryz.func56, Tryz.ntmps56
  go_upto_region 1 with fail
  go_region_held3 (fun W' => Keeps [] w W') (first | assumption | exact Keeps.refl [] _ | exact Keeps.drew [] _ | exact Keeps.trans (by assumption) (Keeps.alloc [] _ _) | exact (Keeps.drew [] _).trans (Keeps.alloc [] _ _) | exact Keeps.trans (by assumption) (by assumption) | exact (Keeps.drew [] _).trans (by assumption)) (first
    | (go_at_call 53; refine (sign_any _ c).mono ?_; rintro e w1 ⟨rfl, rfl⟩)
    | (go_at_call 52; refine (floored_any _ c (signB c) d).mono ?_; rintro e w2 ⟨v, rfl, ht⟩; obtain ⟨b, rfl, hb, hr, hk⟩ := ht))
  all_goals (try go_wp2)
  all_goals go_ret2
  all_goals exact ⟨_, _, _, rfl, hr, fun _ => hb, by first | assumption | exact (Keeps.drew [] _).trans (by assumption)⟩

set_option maxRecDepth 100000 in
theorem starslash_gives (w : World) (M cap : Nat) (c d g : BitVec 32) (hcap : 3 ≤ cap) (h0 : w.cell? ⟨M, 0, none⟩ = some (.int .u32 (c.toNat : Int))) (h1 : w.cell? ⟨M, 1, none⟩ = some (.int .u32 (d.toNat : Int))) (h2 : w.cell? ⟨M, 2, none⟩ = some (.int .u32 (g.toNat : Int))) : Gives w 57 #[.slice (some ⟨M, 0, none⟩) 3 cap] [cI (divI true (sD (loP (sC c * sC d)) (hiP (sC c * sC d))) (sC g)).2.1] ((divI true (sD (loP (sC c * sC d)) (hiP (sC c * sC d))) (sC g)).2.2) := by
  unfold Gives
  have bc := c.isLt
  have bd := d.isLt
  have bg := g.isLt
  have q0 := fun W (hk : Keeps [] w W) => hk.cell h0 (by simp)
  have q1 := fun W (hk : Keeps [] w W) => hk.cell h1 (by simp)
  have q2 := fun W (hk : Keeps [] w W) => hk.cell h2 (by simp)
  go_enter Tryz.func57, Tryz.ntmps57
  go_upto_region 1 with fail
  go_region_held3 (fun W' => Keeps [] w W') (first | assumption | exact Keeps.refl [] _ | exact Keeps.drew [] _ | exact Keeps.trans (by assumption) (Keeps.alloc [] _ _) | exact (Keeps.drew [] _).trans (Keeps.alloc [] _ _) | exact Keeps.trans (by assumption) (by assumption) | exact (Keeps.drew [] _).trans (by assumption)) (first
    | (go_at_call 58; refine (scaled_any _ c d g).mono ?_; rintro e w2 ⟨v, rfl, ht⟩; obtain ⟨b, rfl, hb, hr, hk⟩ := ht)
    | (go_at_call 51; refine (quotient_any _ _ _ _ _ (by first | exact hr | exact hr.keeps (Keeps.drew [] _) (by simp) | exact hr.keeps (Keeps.drewN [] _ _) (by simp))).mono ?_; rintro e w3 ⟨v3, rfl, hr3, rfl⟩))
  all_goals (try go_wp2)
  all_goals go_ret2
  all_goals exact ⟨_, _, _, rfl, hr3, fun _ => hb, by first | assumption | exact (Keeps.drew [] _).trans (by assumption)⟩

set_option maxRecDepth 100000 in
theorem starslashmod_gives (w : World) (M cap : Nat) (c d g : BitVec 32) (hcap : 3 ≤ cap) (h0 : w.cell? ⟨M, 0, none⟩ = some (.int .u32 (c.toNat : Int))) (h1 : w.cell? ⟨M, 1, none⟩ = some (.int .u32 (d.toNat : Int))) (h2 : w.cell? ⟨M, 2, none⟩ = some (.int .u32 (g.toNat : Int))) : Gives w 59 #[.slice (some ⟨M, 0, none⟩) 3 cap] [cI (divI true (sD (loP (sC c * sC d)) (hiP (sC c * sC d))) (sC g)).1, cI (divI true (sD (loP (sC c * sC d)) (hiP (sC c * sC d))) (sC g)).2.1] ((divI true (sD (loP (sC c * sC d)) (hiP (sC c * sC d))) (sC g)).2.2) := by
  unfold Gives
  have bc := c.isLt
  have bd := d.isLt
  have bg := g.isLt
  have q0 := fun W (hk : Keeps [] w W) => hk.cell h0 (by simp)
  have q1 := fun W (hk : Keeps [] w W) => hk.cell h1 (by simp)
  have q2 := fun W (hk : Keeps [] w W) => hk.cell h2 (by simp)
  go_enter Tryz.func59, Tryz.ntmps59
  go_upto_region 1 with fail
  go_region_held3 (fun W' => Keeps [] w W') (first | assumption | exact Keeps.refl [] _ | exact Keeps.drew [] _ | exact Keeps.trans (by assumption) (Keeps.alloc [] _ _) | exact (Keeps.drew [] _).trans (Keeps.alloc [] _ _) | exact Keeps.trans (by assumption) (by assumption) | exact (Keeps.drew [] _).trans (by assumption)) (first
    | (go_at_call 58; refine (scaled_any _ c d g).mono ?_; rintro e w2 ⟨v, rfl, ht⟩; obtain ⟨b, rfl, hb, hr, hk⟩ := ht))
  all_goals (try go_wp2)
  all_goals go_ret2
  all_goals exact ⟨_, _, _, rfl, hr, fun _ => hb, by first | assumption | exact (Keeps.drew [] _).trans (by assumption)⟩

theorem mul_lt' (c d : BitVec 32) : 0 ≤ (c.toNat : Int) * (d.toNat : Int) ∧ (c.toNat : Int) * (d.toNat : Int) < 18446744073709551616 := by
  have h1 := c.isLt
  have h2 := d.isLt
  refine ⟨Int.mul_nonneg (by omega) (by omega), ?_⟩
  have := Int.mul_le_mul (show (c.toNat : Int) ≤ 4294967295 by omega) (show (d.toNat : Int) ≤ 4294967295 by omega) (by omega) (by decide)
  omega
theorem signed_all (w : World) (x y : BitVec 32) :
    Calls Tryz.prog 72 #[.int .i32 (sC x), .int .i32 (sC y)] w fun e w' => e = .returned (.tuple #[.int .u32 ((loP (sC x * sC y)).toNat : Int), .int .i32 (wrap32 (sC x * sC y % 18446744073709551616 / 4294967296))]) ∧ w = w' := by
  have hS := cSigned_any w (sC x) (sC y) (sC_bounds x).1 (sC_bounds x).2 (sC_bounds y).1 (sC_bounds y).2
  unfold loP; rw [cI_toNat]; exact hS
theorem divU_lo (D n : Int) (h0 : 0 ≤ n) (hn : n < 4294967296) : (divU D n).1 % 4294967296 = (divU D n).1 := by
  unfold divU
  split
  · rfl
  · split
    · rfl
    · next h1 h2 =>
      have := Int.emod_nonneg D h1
      have := Int.emod_lt_of_pos D (show 0 < n by omega)
      show D % n % 4294967296 = D % n
      omega
theorem divU_hi (D n : Int) (hD : 0 ≤ D) (h0 : 0 ≤ n) : (divU D n).2.1 % 4294967296 = (divU D n).2.1 := by
  unfold divU
  split
  · rfl
  · split
    · rfl
    · next h1 h2 =>
      have := Int.ediv_nonneg hD h0
      show D / n % 4294967296 = D / n
      omega

set_option maxRecDepth 100000 in
theorem ummod_gives (w : World) (M cap : Nat) (c d g : BitVec 32) (hcap : 3 ≤ cap) (h0 : w.cell? ⟨M, 0, none⟩ = some (.int .u32 (c.toNat : Int))) (h1 : w.cell? ⟨M, 1, none⟩ = some (.int .u32 (d.toNat : Int))) (h2 : w.cell? ⟨M, 2, none⟩ = some (.int .u32 (g.toNat : Int))) : Gives w 60 #[.slice (some ⟨M, 0, none⟩) 3 cap] [cI (divU ((d.toNat : Int) * 4294967296 + (c.toNat : Int)) (g.toNat : Int)).1, cI (divU ((d.toNat : Int) * 4294967296 + (c.toNat : Int)) (g.toNat : Int)).2.1] ((divU ((d.toNat : Int) * 4294967296 + (c.toNat : Int)) (g.toNat : Int)).2.2) := by
  unfold Gives
  have bc := c.isLt
  have bd := d.isLt
  have bg := g.isLt
  have hu := divU_is ((d.toNat : Int) * 4294967296 + (c.toNat : Int)) (g.toNat : Int) (by omega)
  have HU := Lib.hid (fun W => cDivide_is W (c.toNat : Int) (d.toNat : Int) (g.toNat : Int) _ _ _ (by omega) (by omega) (by omega) (by omega) (by omega) hu)
  have HE : Hid (((cI (divU ((d.toNat : Int) * 4294967296 + (c.toNat : Int)) (g.toNat : Int)).1).toNat : Int) = (divU ((d.toNat : Int) * 4294967296 + (c.toNat : Int)) (g.toNat : Int)).1 ∧ ((cI (divU ((d.toNat : Int) * 4294967296 + (c.toNat : Int)) (g.toNat : Int)).2.1).toNat : Int) = (divU ((d.toNat : Int) * 4294967296 + (c.toNat : Int)) (g.toNat : Int)).2.1) := ⟨by rw [cI_toNat]; exact divU_lo _ _ (by omega) (by omega), by rw [cI_toNat]; exact divU_hi _ _ (by omega) (by omega)⟩
  clear hu
  generalize cI (divU ((d.toNat : Int) * 4294967296 + (c.toNat : Int)) (g.toNat : Int)).1 = R at *
  generalize cI (divU ((d.toNat : Int) * 4294967296 + (c.toNat : Int)) (g.toNat : Int)).2.1 = Q at *
  generalize (divU ((d.toNat : Int) * 4294967296 + (c.toNat : Int)) (g.toNat : Int)).1 = r at *
  generalize (divU ((d.toNat : Int) * 4294967296 + (c.toNat : Int)) (g.toNat : Int)).2.1 = q at *
  generalize (divU ((d.toNat : Int) * 4294967296 + (c.toNat : Int)) (g.toNat : Int)).2.2 = E at *
  have q0 := fun W (hk : Keeps [] w W) => hk.cell h0 (by simp)
  have q1 := fun W (hk : Keeps [] w W) => hk.cell h1 (by simp)
  have q2 := fun W (hk : Keeps [] w W) => hk.cell h2 (by simp)
  go_enter Tryz.func60, Tryz.ntmps60
  go_upto_region 1 with fail
  go_region_held3 (fun W' => Keeps [] w W') (first | assumption | exact Keeps.refl [] _ | exact Keeps.drew [] _ | exact Keeps.trans (by assumption) (Keeps.alloc [] _ _) | exact (Keeps.drew [] _).trans (Keeps.alloc [] _ _) | exact Keeps.trans (by assumption) (by assumption) | exact (Keeps.drew [] _).trans (by assumption)) (first
    | (go_at_call 62; refine (HU.out _).mono ?_; rintro e w2 ⟨rfl, hk⟩)
    | (go_at_call 61; refine (bothU_any _ _ _ _).mono ?_; rintro e w3 ⟨rfl, rfl⟩))
  all_goals (try go_wp2)
  all_goals go_ret2
  all_goals exact ⟨_, _, _, rfl, UReads.lit2 _ _ _ _ _ _ (HE.out.1.symm) (HE.out.2.symm), fun _ => (by first | exact Nat.le_refl _ | exact Keeps.size (S := []) (by assumption) | exact Keeps.size (S := []) ((Keeps.drew [] w).trans (by assumption))), by first | assumption | exact Keeps.alloc [] _ _ | exact Keeps.trans (by assumption) (Keeps.alloc [] _ _)⟩

set_option maxRecDepth 100000 in
theorem fmmod_gives (w : World) (M cap : Nat) (c d g : BitVec 32) (hcap : 3 ≤ cap) (h0 : w.cell? ⟨M, 0, none⟩ = some (.int .u32 (c.toNat : Int))) (h1 : w.cell? ⟨M, 1, none⟩ = some (.int .u32 (d.toNat : Int))) (h2 : w.cell? ⟨M, 2, none⟩ = some (.int .u32 (g.toNat : Int))) : Gives w 63 #[.slice (some ⟨M, 0, none⟩) 3 cap] [cI (divI true (sD c d) (sC g)).1, cI (divI true (sD c d) (sC g)).2.1] ((divI true (sD c d) (sC g)).2.2) := by
  unfold Gives
  have bc := c.isLt
  have bd := d.isLt
  have bg := g.isLt
  have q0 := fun W (hk : Keeps [] w W) => hk.cell h0 (by simp)
  have q1 := fun W (hk : Keeps [] w W) => hk.cell h1 (by simp)
  have q2 := fun W (hk : Keeps [] w W) => hk.cell h2 (by simp)
  go_enter Tryz.func63, Tryz.ntmps63
  go_upto_region 1 with fail
  go_region_held3 (fun W' => Keeps [] w W') (first | assumption | exact Keeps.refl [] _ | exact Keeps.drew [] _ | exact Keeps.trans (by assumption) (Keeps.alloc [] _ _) | exact (Keeps.drew [] _).trans (Keeps.alloc [] _ _) | exact Keeps.trans (by assumption) (by assumption) | exact (Keeps.drew [] _).trans (by assumption)) (first
    | (go_at_call 52; refine (floored_any _ c d g).mono ?_; rintro e w2 ⟨v, rfl, ht⟩; obtain ⟨b, rfl, hb, hr, hk⟩ := ht))
  all_goals (try go_wp2)
  all_goals go_ret2
  all_goals exact ⟨_, _, _, rfl, hr, fun _ => hb, by first | assumption | exact (Keeps.drew [] _).trans (by assumption)⟩

set_option maxRecDepth 100000 in
theorem smrem_gives (w : World) (M cap : Nat) (c d g : BitVec 32) (hcap : 3 ≤ cap) (h0 : w.cell? ⟨M, 0, none⟩ = some (.int .u32 (c.toNat : Int))) (h1 : w.cell? ⟨M, 1, none⟩ = some (.int .u32 (d.toNat : Int))) (h2 : w.cell? ⟨M, 2, none⟩ = some (.int .u32 (g.toNat : Int))) : Gives w 64 #[.slice (some ⟨M, 0, none⟩) 3 cap] [cI (divI false (sD c d) (sC g)).1, cI (divI false (sD c d) (sC g)).2.1] ((divI false (sD c d) (sC g)).2.2) := by
  unfold Gives
  have bc := c.isLt
  have bd := d.isLt
  have bg := g.isLt
  have hY := fun W => cSymmetric_is W (c.toNat : Int) (sC d) (sC g) _ _ _ (by omega) (by omega) (sC_bounds d).1 (sC_bounds d).2 (sC_bounds g).1 (sC_bounds g).2 (divI_is false (sD c d) (sC g))
  have HY := Lib.hid hY
  have HQ := Lib.hid (And.intro (cI_toNat (divI false (sD c d) (sC g)).1) (cI_toNat (divI false (sD c d) (sC g)).2.1))
  clear hY
  generalize (divI false (sD c d) (sC g)).1 = R at *
  generalize (divI false (sD c d) (sC g)).2.1 = Q at *
  generalize (divI false (sD c d) (sC g)).2.2 = E at *
  have e1 : IntKind.i32.wrap (d.toNat : Int) = sC d := by rw [IntKind.wrap_i32]; unfold sC wrap32; omega
  have e2 : IntKind.i32.wrap (g.toNat : Int) = sC g := by rw [IntKind.wrap_i32]; unfold sC wrap32; omega
  generalize sC d = Y at *
  generalize sC g = Z at *
  have q0 := fun W (hk : Keeps [] w W) => hk.cell h0 (by simp)
  have q1 := fun W (hk : Keeps [] w W) => hk.cell h1 (by simp)
  have q2 := fun W (hk : Keeps [] w W) => hk.cell h2 (by simp)
  go_enter Tryz.func64, Tryz.ntmps64
  go_upto_region 1 with fail
  go_region_held3 (fun W' => Keeps [] w W') (first | assumption | exact Keeps.refl [] _ | exact Keeps.drew [] _ | exact Keeps.trans (by assumption) (Keeps.alloc [] _ _) | exact (Keeps.drew [] _).trans (Keeps.alloc [] _ _) | exact Keeps.trans (by assumption) (by assumption) | exact (Keeps.drew [] _).trans (by assumption)) (first
    | (go_at_call 66; refine (HY.out _).mono ?_; rintro e w2 ⟨rfl, hk⟩)
    | (go_at_call 65; refine (bothI_any _ _ _ _).mono ?_; rintro e w3 ⟨rfl, rfl⟩))
  all_goals (try go_wp2)
  all_goals go_ret2
  all_goals exact ⟨_, _, _, rfl, UReads.lit2 _ _ _ _ _ _ (HQ.out.1.symm) (HQ.out.2.symm), fun _ => (by first | exact Nat.le_refl _ | exact Keeps.size (S := []) (by assumption) | exact Keeps.size (S := []) ((Keeps.drew [] w).trans (by assumption))), by first | assumption | exact Keeps.alloc [] _ _ | exact Keeps.trans (by assumption) (Keeps.alloc [] _ _)⟩

def hiU (P : Int) : BitVec 32 := cI (P % 18446744073709551616 / 4294967296)
theorem hiU_ok (P : Int) : P % 18446744073709551616 / 4294967296 % 4294967296 = P % 18446744073709551616 / 4294967296 := by omega

set_option maxRecDepth 100000 in
theorem umstar_gives (w : World) (M cap : Nat) (c d : BitVec 32) (hcap : 2 ≤ cap) (h0 : w.cell? ⟨M, 0, none⟩ = some (.int .u32 (c.toNat : Int))) (h1 : w.cell? ⟨M, 1, none⟩ = some (.int .u32 (d.toNat : Int))) : Gives w 67 #[.slice (some ⟨M, 0, none⟩) 2 cap] [loP ((c.toNat : Int) * (d.toNat : Int)), hiU ((c.toNat : Int) * (d.toNat : Int))] (0) := by
  unfold Gives
  have bc := c.isLt
  have bd := d.isLt
  obtain ⟨A, hA⟩ : ∃ A : Int, A = ((loP ((c.toNat : Int) * (d.toNat : Int))).toNat : Int) := ⟨_, rfl⟩
  obtain ⟨B, hB⟩ : ∃ B : Int, B = ((hiU ((c.toNat : Int) * (d.toNat : Int))).toNat : Int) := ⟨_, rfl⟩
  have HC : Hid (∀ W, Calls Tryz.prog 69 #[.int .u32 (c.toNat : Int), .int .u32 (d.toNat : Int)] W fun e w' => e = .returned (.tuple #[.int .u32 A, .int .u32 B]) ∧ W = w') := by
    intro W
    rw [hA, hB]
    unfold loP hiU
    rw [cI_toNat, cI_toNat]
    have hm := mul_lt' c d
    have k := cProduct_any W (c.toNat : Int) (d.toNat : Int) (by omega) (by omega) (by omega) (by omega)
    generalize (c.toNat : Int) * (d.toNat : Int) = P at *
    rw [hiU_ok, show P % 18446744073709551616 = P by omega]
    exact k
  have HA := Lib.hid hA
  have HB := Lib.hid hB
  clear hA hB
  have q0 := fun W (hk : Keeps [] w W) => hk.cell h0 (by simp)
  have q1 := fun W (hk : Keeps [] w W) => hk.cell h1 (by simp)
  go_enter Tryz.func67, Tryz.ntmps67
  go_upto_region 1 with fail
  go_region_held3 (fun W' => Keeps [] w W') (first | assumption | exact Keeps.refl [] _ | exact Keeps.drew [] _ | exact Keeps.trans (by assumption) (Keeps.alloc [] _ _) | exact (Keeps.drew [] _).trans (Keeps.alloc [] _ _) | exact Keeps.trans (by assumption) (by assumption) | exact (Keeps.drew [] _).trans (by assumption)) (first
    | (go_at_call 69; refine (HC.out _).mono ?_; rintro e w2 ⟨rfl, rfl⟩)
    | (go_at_call 68; refine (doubleU_any _ _ _).mono ?_; rintro e w3 ⟨rfl, rfl⟩))
  all_goals (try go_wp2)
  all_goals go_ret2
  all_goals exact ⟨_, _, _, rfl, UReads.lit2 _ _ _ _ _ _ (HA.out) (HB.out), fun _ => (by first | exact Nat.le_refl _ | exact Keeps.size (S := []) (by assumption)), by first | assumption | exact Keeps.alloc [] _ _ | exact (Keeps.drew [] _).trans (Keeps.alloc [] _ _) | exact Keeps.trans (by assumption) (Keeps.alloc [] _ _)⟩

set_option maxRecDepth 100000 in
theorem mstar_gives (w : World) (M cap : Nat) (c d : BitVec 32) (hcap : 2 ≤ cap) (h0 : w.cell? ⟨M, 0, none⟩ = some (.int .u32 (c.toNat : Int))) (h1 : w.cell? ⟨M, 1, none⟩ = some (.int .u32 (d.toNat : Int))) : Gives w 70 #[.slice (some ⟨M, 0, none⟩) 2 cap] [loP (sC c * sC d), hiP (sC c * sC d)] (0) := by
  unfold Gives
  have bc := c.isLt
  have bd := d.isLt
  have HS := Lib.hid (fun W => signed_all W c d)
  have e1 : IntKind.i32.wrap (c.toNat : Int) = sC c := by rw [IntKind.wrap_i32]; unfold sC wrap32; omega
  have e2 : IntKind.i32.wrap (d.toNat : Int) = sC d := by rw [IntKind.wrap_i32]; unfold sC wrap32; omega
  obtain ⟨A, hA⟩ : ∃ A : Int, A = ((loP (sC c * sC d)).toNat : Int) := ⟨_, rfl⟩
  obtain ⟨h, hh⟩ : ∃ h : Int, h = wrap32 (sC c * sC d % 18446744073709551616 / 4294967296) := ⟨_, rfl⟩
  have HB : Hid (h % 4294967296 = ((hiP (sC c * sC d)).toNat : Int)) := by show _ = _; rw [hh, wrap32_mod]; unfold hiP; rw [cI_toNat]
  have HA := Lib.hid hA
  rw [← hA, ← hh] at HS
  clear hA hh
  generalize sC c = X at *
  generalize sC d = Y at *
  have q0 := fun W (hk : Keeps [] w W) => hk.cell h0 (by simp)
  have q1 := fun W (hk : Keeps [] w W) => hk.cell h1 (by simp)
  go_enter Tryz.func70, Tryz.ntmps70
  go_upto_region 1 with fail
  go_region_held3 (fun W' => Keeps [] w W') (first | assumption | exact Keeps.refl [] _ | exact Keeps.drew [] _ | exact Keeps.trans (by assumption) (Keeps.alloc [] _ _) | exact (Keeps.drew [] _).trans (Keeps.alloc [] _ _) | exact Keeps.trans (by assumption) (by assumption) | exact (Keeps.drew [] _).trans (by assumption)) (first
    | (go_at_call 72; refine (HS.out _).mono ?_; rintro e w2 ⟨rfl, rfl⟩)
    | (go_at_call 71; refine (doubleI_any _ _ _).mono ?_; rintro e w3 ⟨rfl, rfl⟩))
  all_goals (try go_wp2)
  all_goals go_ret2
  all_goals exact ⟨_, _, _, rfl, UReads.lit2 _ _ _ _ _ _ (HA.out) (HB.out), fun _ => (by first | exact Nat.le_refl _ | exact Keeps.size (S := []) (by assumption)), by first | assumption | exact Keeps.alloc [] _ _ | exact (Keeps.drew [] _).trans (Keeps.alloc [] _ _) | exact Keeps.trans (by assumption) (Keeps.alloc [] _ _)⟩

set_option maxRecDepth 100000 in
theorem std_gives (w : World) (M cap : Nat) (c : BitVec 32) (hcap : 1 ≤ cap) (h0 : w.cell? ⟨M, 0, none⟩ = some (.int .u32 (c.toNat : Int))) : Gives w 73 #[.slice (some ⟨M, 0, none⟩) 1 cap] [c, signB c] (0) := by
  unfold Gives
  have bc := c.isLt
  have q0 := fun W (hk : Keeps [] w W) => hk.cell h0 (by simp)
  go_enter Tryz.func73, Tryz.ntmps73
  go_upto_region 1 with fail
  go_region_held3 (fun W' => Keeps [] w W') (first | assumption | exact Keeps.refl [] _ | exact Keeps.drew [] _ | exact Keeps.trans (by assumption) (Keeps.alloc [] _ _) | exact (Keeps.drew [] _).trans (Keeps.alloc [] _ _) | exact Keeps.trans (by assumption) (by assumption) | exact (Keeps.drew [] _).trans (by assumption)) (first
    | (go_at_call 53; refine (sign_any _ c).mono ?_; rintro e w1 ⟨rfl, rfl⟩)
    | (go_at_call 68; refine (doubleU_any _ _ _).mono ?_; rintro e w3 ⟨rfl, rfl⟩))
  all_goals (try go_wp2)
  all_goals go_ret2
  all_goals exact ⟨_, _, _, rfl, UReads.lit2 _ _ _ _ _ _ (rfl) (rfl), fun _ => (by first | exact Nat.le_refl _ | exact Keeps.size (S := []) (by assumption)), by first | assumption | exact Keeps.alloc [] _ _ | exact (Keeps.drew [] _).trans (Keeps.alloc [] _ _) | exact Keeps.trans (by assumption) (Keeps.alloc [] _ _)⟩

set_option maxRecDepth 100000 in
theorem dplus_gives (w : World) (M cap : Nat) (a c b d : BitVec 32) (hcap : 4 ≤ cap) (h0 : w.cell? ⟨M, 0, none⟩ = some (.int .u32 (a.toNat : Int))) (h1 : w.cell? ⟨M, 1, none⟩ = some (.int .u32 (c.toNat : Int))) (h2 : w.cell? ⟨M, 2, none⟩ = some (.int .u32 (b.toNat : Int))) (h3 : w.cell? ⟨M, 3, none⟩ = some (.int .u32 (d.toNat : Int))) : Gives w 74 #[.slice (some ⟨M, 0, none⟩) 4 cap] [loP ((c.toNat : Int) * 4294967296 + (a.toNat : Int) + ((d.toNat : Int) * 4294967296 + (b.toNat : Int))), hiU ((c.toNat : Int) * 4294967296 + (a.toNat : Int) + ((d.toNat : Int) * 4294967296 + (b.toNat : Int)))] (0) := by
  unfold Gives
  have ba := a.isLt
  have bc := c.isLt
  have bb := b.isLt
  have bd := d.isLt
  obtain ⟨A, hA⟩ : ∃ A : Int, A = ((loP ((c.toNat : Int) * 4294967296 + (a.toNat : Int) + ((d.toNat : Int) * 4294967296 + (b.toNat : Int)))).toNat : Int) := ⟨_, rfl⟩
  obtain ⟨B, hB⟩ : ∃ B : Int, B = ((hiU ((c.toNat : Int) * 4294967296 + (a.toNat : Int) + ((d.toNat : Int) * 4294967296 + (b.toNat : Int)))).toNat : Int) := ⟨_, rfl⟩
  have HC : Hid (∀ W, Calls Tryz.prog 75 #[.int .u32 (a.toNat : Int), .int .u32 (c.toNat : Int), .int .u32 (b.toNat : Int), .int .u32 (d.toNat : Int)] W fun e w' => e = .returned (.tuple #[.int .u32 A, .int .u32 B]) ∧ W = w') := by
    intro W
    rw [hA, hB]
    unfold loP hiU
    rw [cI_toNat, cI_toNat]
    have k := cSum_any W (a.toNat : Int) (c.toNat : Int) (b.toNat : Int) (d.toNat : Int) (by omega) (by omega) (by omega) (by omega) (by omega) (by omega) (by omega) (by omega)
    rw [hiU_ok]
    exact k
  have HA := Lib.hid hA
  have HB := Lib.hid hB
  clear hA hB
  have q0 := fun W (hk : Keeps [] w W) => hk.cell h0 (by simp)
  have q1 := fun W (hk : Keeps [] w W) => hk.cell h1 (by simp)
  have q2 := fun W (hk : Keeps [] w W) => hk.cell h2 (by simp)
  have q3 := fun W (hk : Keeps [] w W) => hk.cell h3 (by simp)
  go_enter Tryz.func74, Tryz.ntmps74
  go_upto_region 1 with fail
  go_region_held3 (fun W' => Keeps [] w W') (first | assumption | exact Keeps.refl [] _ | exact Keeps.drew [] _ | exact Keeps.trans (by assumption) (Keeps.alloc [] _ _) | exact (Keeps.drew [] _).trans (Keeps.alloc [] _ _) | exact Keeps.trans (by assumption) (by assumption) | exact (Keeps.drew [] _).trans (by assumption)) (first
    | (go_at_call 75; refine (HC.out _).mono ?_; rintro e w2 ⟨rfl, rfl⟩)
    | (go_at_call 68; refine (doubleU_any _ _ _).mono ?_; rintro e w3 ⟨rfl, rfl⟩))
  all_goals (try go_wp2)
  all_goals go_ret2
  all_goals exact ⟨_, _, _, rfl, UReads.lit2 _ _ _ _ _ _ (HA.out) (HB.out), fun _ => (by first | exact Nat.le_refl _ | exact Keeps.size (S := []) (by assumption)), by first | assumption | exact Keeps.alloc [] _ _ | exact (Keeps.drew [] _).trans (Keeps.alloc [] _ _) | exact Keeps.trans (by assumption) (Keeps.alloc [] _ _)⟩

set_option maxRecDepth 100000 in
theorem dnegate_gives (w : World) (M cap : Nat) (c d : BitVec 32) (hcap : 2 ≤ cap) (h0 : w.cell? ⟨M, 0, none⟩ = some (.int .u32 (c.toNat : Int))) (h1 : w.cell? ⟨M, 1, none⟩ = some (.int .u32 (d.toNat : Int))) : Gives w 76 #[.slice (some ⟨M, 0, none⟩) 2 cap] [loP (-((d.toNat : Int) * 4294967296 + (c.toNat : Int))), hiU (-((d.toNat : Int) * 4294967296 + (c.toNat : Int)))] (0) := by
  unfold Gives
  have bc := c.isLt
  have bd := d.isLt
  obtain ⟨A, hA⟩ : ∃ A : Int, A = ((loP (-((d.toNat : Int) * 4294967296 + (c.toNat : Int)))).toNat : Int) := ⟨_, rfl⟩
  obtain ⟨B, hB⟩ : ∃ B : Int, B = ((hiU (-((d.toNat : Int) * 4294967296 + (c.toNat : Int)))).toNat : Int) := ⟨_, rfl⟩
  have HC : Hid (∀ W, Calls Tryz.prog 77 #[.int .u32 (c.toNat : Int), .int .u32 (d.toNat : Int)] W fun e w' => e = .returned (.tuple #[.int .u32 A, .int .u32 B]) ∧ W = w') := by
    intro W
    rw [hA, hB]
    unfold loP hiU
    rw [cI_toNat, cI_toNat]
    have k := cNegative_any W (c.toNat : Int) (d.toNat : Int) (by omega) (by omega) (by omega) (by omega)
    rw [hiU_ok]
    exact k
  have HA := Lib.hid hA
  have HB := Lib.hid hB
  clear hA hB
  have q0 := fun W (hk : Keeps [] w W) => hk.cell h0 (by simp)
  have q1 := fun W (hk : Keeps [] w W) => hk.cell h1 (by simp)
  go_enter Tryz.func76, Tryz.ntmps76
  go_upto_region 1 with fail
  go_region_held3 (fun W' => Keeps [] w W') (first | assumption | exact Keeps.refl [] _ | exact Keeps.drew [] _ | exact Keeps.trans (by assumption) (Keeps.alloc [] _ _) | exact (Keeps.drew [] _).trans (Keeps.alloc [] _ _) | exact Keeps.trans (by assumption) (by assumption) | exact (Keeps.drew [] _).trans (by assumption)) (first
    | (go_at_call 77; refine (HC.out _).mono ?_; rintro e w2 ⟨rfl, rfl⟩)
    | (go_at_call 68; refine (doubleU_any _ _ _).mono ?_; rintro e w3 ⟨rfl, rfl⟩))
  all_goals (try go_wp2)
  all_goals go_ret2
  all_goals exact ⟨_, _, _, rfl, UReads.lit2 _ _ _ _ _ _ (HA.out) (HB.out), fun _ => (by first | exact Nat.le_refl _ | exact Keeps.size (S := []) (by assumption)), by first | assumption | exact Keeps.alloc [] _ _ | exact (Keeps.drew [] _).trans (Keeps.alloc [] _ _) | exact Keeps.trans (by assumption) (Keeps.alloc [] _ _)⟩

end Go.Proofs.YtfnjjanknfmibaaGreat
