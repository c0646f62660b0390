/-
  Contracts of sha: a round on the circle.
-/
import Derived.Test.YtlnmbfddhdjioaaDoorShaC
namespace Go.Proofs.YtlnmbfddhdjioaaDoor
open Go.RowKit

/-- The cells of a circle behind t rounds. -/
def circ (t : Nat) (s : W8) : List Value := tab 8 (fun j => s.get ((j + t) % 8)) ++ [.int .i64 ((7 * t % 8 : Nat) : Int)]

theorem circ_first (t : Nat) (s : W8) : (circ t s)[8]? = some (.int .i64 ((7 * t % 8 : Nat) : Int)) := by
  unfold circ
  rw [List.getElem?_append_right (by simp [tab_length]), tab_length]; rfl

theorem circ_get (t i : Nat) (s : W8) (hi : i < 8) : (circ t s)[(7 * t % 8 + i) % 8]? = some (uv (s.get i)) := by
  unfold circ
  rw [List.getElem?_append_left (by rw [tab_length]; omega), tab_get _ _ _ (by omega)]
  congr 4
  omega

theorem circ_step (t : Nat) (s : W8) (k w : BitVec 32) :
    (((circ t s).set ((7 * t % 8 + 3) % 8) (uv (s.d + rt s k w))).set ((7 * t % 8 + 7) % 8) (uv (rt s k w + ru s))).set 8 (.int .i64 ((7 * (t + 1) % 8 : Nat) : Int)) = circ (t + 1) (rnd s k w) := by
  unfold circ
  rw [List.set_append_left _ _ (by rw [tab_length]; omega), List.set_append_left _ _ (by rw [List.length_set, tab_length]; omega)]
  rw [List.set_append_right _ _ (by simp [tab_length]), List.length_set, List.length_set, tab_length]
  congr 1
  rw [tab_set (g := fun j => if j = (7 * t % 8 + 3) % 8 then s.d + rt s k w else s.get ((j + t) % 8)) _ _ (fun i _ => rfl)]
  apply tab_set
  intro i hi
  have key : ∀ j, j < 8 → (rnd s k w).get j = if j = 0 then rt s k w + ru s else if j = 4 then s.d + rt s k w else s.get (j - 1) := by
    intro j hj
    match j, hj with
    | 0, _ | 1, _ | 2, _ | 3, _ | 4, _ | 5, _ | 6, _ | 7, _ => rfl
  rw [key _ (by omega)]
  by_cases h0 : (i + (t + 1)) % 8 = 0
  · rw [if_pos h0, if_pos (by omega)]
  · rw [if_neg h0, if_neg (show ¬ i = (7 * t % 8 + 7) % 8 by omega)]
    by_cases h4 : (i + (t + 1)) % 8 = 4
    · rw [if_pos h4, if_pos (by omega)]
    · rw [if_neg h4, if_neg (show ¬ i = (7 * t % 8 + 3) % 8 by omega)]
      congr 1
      omega

set_option maxHeartbeats 4000000 in
theorem circRound_any (w : World) (b t : Nat) (s : W8) (k wd : BitVec 32) (hw : Whole w b 62 (circ t s)) :
    Calls Tryd.prog 30 #[.pointer (some ⟨b, 0, none⟩), uv k, uv wd] w fun e w' => (∃ v, e = .returned v) ∧ Whole w' b 62 (circ (t + 1) (rnd s k wd)) ∧ Keeps [b] w w' := by
  have HW := Lib.hid hw
  obtain ⟨P, hP⟩ : ∃ P : Int → Nat, ∀ x, P x = (7 * t % 8 + x.toNat) % 8 := ⟨_, fun _ => rfl⟩
  have cf := (hw.cell 8).trans (circ_first t s)
  have c0 : w.cell? ⟨b, P 0, none⟩ = some (uv (s.get 0)) := by rw [hP]; exact (hw.cell _).trans (circ_get t 0 s (by omega))
  have c1 : w.cell? ⟨b, P 1, none⟩ = some (uv (s.get 1)) := by rw [hP]; exact (hw.cell _).trans (circ_get t 1 s (by omega))
  have c2 : w.cell? ⟨b, P 2, none⟩ = some (uv (s.get 2)) := by rw [hP]; exact (hw.cell _).trans (circ_get t 2 s (by omega))
  have c3 : w.cell? ⟨b, P 3, none⟩ = some (uv (s.get 3)) := by rw [hP]; exact (hw.cell _).trans (circ_get t 3 s (by omega))
  have c4 : w.cell? ⟨b, P 4, none⟩ = some (uv (s.get 4)) := by rw [hP]; exact (hw.cell _).trans (circ_get t 4 s (by omega))
  have c5 : w.cell? ⟨b, P 5, none⟩ = some (uv (s.get 5)) := by rw [hP]; exact (hw.cell _).trans (circ_get t 5 s (by omega))
  have c6 : w.cell? ⟨b, P 6, none⟩ = some (uv (s.get 6)) := by rw [hP]; exact (hw.cell _).trans (circ_get t 6 s (by omega))
  have c7 : w.cell? ⟨b, P 7, none⟩ = some (uv (s.get 7)) := by rw [hP]; exact (hw.cell _).trans (circ_get t 7 s (by omega))
  have f3 := hw.frozen (P 3)
  have f7 := hw.frozen (P 7)
  have f8 := hw.frozen 8
  have hs : (((circ t s).set (P 3) (uv (s.d + rt s k wd))).set (P 7) (uv (rt s k wd + ru s))).set 8 (.int .i64 ((7 * (t + 1) % 8 : Nat) : Int)) = circ (t + 1) (rnd s k wd) := by
    rw [hP, hP]; exact circ_step t s k wd
  have HS := Lib.hid hs
  have hnext : (((7 * t % 8 : Nat) : Int) + 7) % 8 = ((7 * (t + 1) % 8 : Nat) : Int) := by omega
  have hnw : IntKind.i64.wrap (((7 * t % 8 : Nat) : Int) + 7) = ((7 * t % 8 : Nat) : Int) + 7 := IntWalk.i64_in _ (by omega)
  have hfi : 0 ≤ ((7 * t % 8 : Nat) : Int) := by omega
  have hfi8 : ((7 * t % 8 : Nat) : Int) < 8 := by omega
  have HCA := Lib.hid (show ∀ (w' : World) (x : Int), 0 ≤ x → x < 8 → w'.cell? ⟨b, 8, none⟩ = some (.int .i64 ((7 * t % 8 : Nat) : Int)) → Calls Tryd.prog 31 #[.pointer (some ⟨b, 0, none⟩), .int .i64 x] w' fun e w'' => e = .returned (.pointer (some ⟨b, P x, none⟩)) ∧ ∃ n, w'' = w'.drewN n from by
    intro w' x hx0 hx8 hc
    obtain ⟨i, rfl⟩ := Int.eq_ofNat_of_zero_le hx0
    exact circAt_any w' b _ i _ (by omega) (by omega) (by rw [hP]; rfl) hc)
  have n38 : P 3 ≠ 8 := by rw [hP]; omega
  have n78 : P 7 ≠ 8 := by rw [hP]; omega
  have n37 : P 3 ≠ P 7 := by rw [hP, hP]; omega
  have n73 : P 7 ≠ P 3 := n37.symm
  have n83 : 8 ≠ P 3 := n38.symm
  have n87 : 8 ≠ P 7 := n78.symm
  clear hP hs hw
  generalize ((7 * t % 8 : Nat) : Int) = fi at *
  generalize ((7 * (t + 1) % 8 : Nat) : Int) = fi' at *
  have ht := show rt s k wd = s.get 7 + mixE (s.get 4) (s.get 5) (s.get 6) + k + wd from rfl
  have hu := show ru s = mixA (s.get 0) (s.get 1) (s.get 2) from rfl
  have hd := show s.d = s.get 3 from rfl
  rw [ht, hu, hd] at HS
  clear ht hu hd
  generalize s.get 0 = v0 at *
  generalize s.get 1 = v1 at *
  generalize s.get 2 = v2 at *
  generalize s.get 3 = v3 at *
  generalize s.get 4 = v4 at *
  generalize s.get 5 = v5 at *
  generalize s.get 6 = v6 at *
  generalize s.get 7 = v7 at *
  have ME := Lib.hid (fun w' => mixedE_any w' v4 v5 v6)
  have MA := Lib.hid (fun w' => mixedA_any w' v0 v1 v2)
  have a1 := add32m v7 (mixE v4 v5 v6)
  have a2 := add32m (v7 + mixE v4 v5 v6) k
  have a3 := add32m (v7 + mixE v4 v5 v6 + k) wd
  have a4 := add32m v3 (v7 + mixE v4 v5 v6 + k + wd)
  have a5 := add32m (v7 + mixE v4 v5 v6 + k + wd) (mixA v0 v1 v2)
  have b1 := add32 v7 (mixE v4 v5 v6)
  have b2 := add32 (v7 + mixE v4 v5 v6) k
  have b3 := add32 (v7 + mixE v4 v5 v6 + k) wd
  have b4 := add32 v3 (v7 + mixE v4 v5 v6 + k + wd)
  have b5 := add32 (v7 + mixE v4 v5 v6 + k + wd) (mixA v0 v1 v2)
  generalize mixE v4 v5 v6 = me at *
  generalize mixA v0 v1 v2 = ma at *
  generalize v7 + me = t1 at *
  generalize t1 + k = t2 at *
  generalize t2 + wd = t3 at *
  generalize v3 + t3 = t4 at *
  generalize t3 + ma = t5 at *
  go_enter Tryd.func30, Tryd.ntmps30
  go_wp2_with (go_at_call 31; refine (HCA.out _ 7 (by decide) (by decide) (by go_simp)).mono ?_; rintro e w' ⟨rfl, nn, rfl⟩)
  go_quiet (first | (go_at_call 31; exact quiet_more (HCA.out _ _ (by decide) (by decide) (by go_simp))) | (go_at_call 35; exact quiet_none (ME.out _)))
  go_wp2
  go_quiet (first | (go_at_call 31; exact quiet_more (HCA.out _ _ (by decide) (by decide) (by go_simp))) | (go_at_call 36; exact quiet_none (MA.out _)))
  go_wp2_with (go_at_call 31; refine (HCA.out _ 3 (by decide) (by decide) (by go_simp)).mono ?_; rintro e w' ⟨rfl, nn2, rfl⟩)
  go_end0
  have hW := fun m => (((HW.out.keeps (Keeps.drewN [] _ m) (by simp)).set (P 3) (uv t4)).set (P 7) (uv t5)).set 8 (.int .i64 fi')
  simp only [HS.out] at hW
  exact ⟨⟨_, rfl⟩, hW _, (((Keeps.drewN [b] _ _).trans (Keeps.setCell _ (by simp) _)).trans (Keeps.setCell _ (by simp) _)).trans (Keeps.setCell _ (by simp) _)⟩
end Go.Proofs.YtlnmbfddhdjioaaDoor
