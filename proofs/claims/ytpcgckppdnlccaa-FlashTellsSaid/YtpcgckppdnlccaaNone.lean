/-
  FlashNone answers true, whatever it is given.
-/
import Derived.Test.YtpcgckppdnlccaaAwakeB
namespace Go.Proofs.Ytpcgckppdnlccaa
open Go.RowKit

theorem NotMade.keeps {S : List Nat} {w w' : World} {p : Option Addr} (h : NotMade w p) (hk : Keeps S w w') (hp : ∀ a, p = some a → a.block ∉ S) : NotMade w' p := by
  rcases h with rfl | ⟨F, rfl, hc⟩
  · exact .inl rfl
  · exact .inr ⟨F, rfl, hk.cell hc (hp _ rfl)⟩

set_option maxHeartbeats 2000000 in
theorem FlashNone_any (w : World) (a n : Int) (ao : Option Addr) (k c : Nat) :
    Calls Try.prog 9 #[.int .i64 a, .int .i64 n, .slice ao k c] w fun e w' => e = .returned (.bool true) ∧ Keeps [] w w' := by
  go_enter Try.func9, Try.ntmps9
  go_wp2
  generalize hw0 : (w.alloc (.cells #[.pointer none, .slice none 0 0, .slice none 0 0, .bool false, .bool false, .int .i64 0, .slice none 0 0] 66)).alloc (.cells #[.pointer none, .pointer (some ⟨w.heap.size, 0, none⟩)] 24) = w0
  have hk0 : Keeps [] w w0 := by rw [← hw0]; exact (Keeps.alloc [] w _).trans (Keeps.alloc [] _ _)
  have cells : ∀ j : Nat, j < 2 → ∃ p, w0.cell? ⟨w.heap.size + 1, j, none⟩ = some (.pointer p) ∧ NotMade w0 p := by
    have hz : w0.cell? ⟨w.heap.size, 0, none⟩ = some (.pointer none) := by
      rw [← hw0]; exact (Keeps.alloc [] _ _).cell (by rw [cell_alloc_new]; rfl) (by simp)
    intro j hj
    match j, hj with
    | 0, _ => exact ⟨none, by rw [← hw0, show w.heap.size + 1 = (w.alloc (.cells #[.pointer none, .slice none 0 0, .slice none 0 0, .bool false, .bool false, .int .i64 0, .slice none 0 0] 66)).heap.size by simp, cell_alloc_new]; rfl, .inl rfl⟩
    | 1, _ => exact ⟨some ⟨w.heap.size, 0, none⟩, by rw [← hw0, show w.heap.size + 1 = (w.alloc (.cells #[.pointer none, .slice none 0 0, .slice none 0 0, .bool false, .bool false, .int .i64 0, .slice none 0 0] 66)).heap.size by simp, cell_alloc_new]; rfl, .inr ⟨_, rfl, hz⟩⟩
  have HC := Lib.hid cells
  have HK0 := Lib.hid hk0
  clear cells hk0 hw0
  go_loopw [17] (fun i wr => ∃ j : Nat, j ≤ 2 ∧ i = .int .i64 j ∧ Keeps [] w0 wr) (fun i _ => 2 - (intOf i).toNat)
  case atStart => exact ⟨0, by omega, rfl, Keeps.refl _ _⟩
  case round =>
    obtain ⟨j, hj, rfl, kp⟩ := hrel
    by_cases hlt : j < 2
    · have hlt' : (j : Int) < 2 := by omega
      obtain ⟨p, hp, hn0⟩ := HC.out j hlt
      have hp' := kp.cell hp (by simp)
      have hn1 := hn0.keeps kp (by simp)
      have HN := Lib.hid hn1
      have HKP := Lib.hid kp
      clear hp hn0 hn1 kp
      go_wp2_with (first | (go_at_call 19; refine (Read_not p _ HN.out _ _).mono ?_; rintro e w' ⟨rfl, rfl⟩) | (go_at_call 26; refine (Program_not p _ HN.out _ _ _ _).mono ?_; rintro e w1 ⟨rfl, hk1⟩; have HN1 := Lib.hid (HN.out.keeps hk1 (by simp)); have HK1 := Lib.hid hk1; clear hk1) | (go_at_call 29; refine (Erase_not p _ HN1.out _).mono ?_; rintro e w' ⟨rfl, rfl⟩) | (go_at_call 27; refine (Arm_not p _ HN1.out _ _).mono ?_; rintro e w' ⟨rfl, rfl⟩) | (go_at_call 17; refine (Up_not p _ HN1.out).mono ?_; rintro e w' ⟨rfl, rfl⟩) | (go_at_call 20; refine (Sectors_not p _ HN1.out).mono ?_; rintro e w' ⟨rfl, rfl⟩) | (go_at_call 21; refine (Wear_not p _ HN1.out _).mono ?_; rintro e w' ⟨rfl, rfl⟩) | (go_at_call 16; refine (Down_not p _ HN1.out).mono ?_; rintro e w' ⟨rfl, rfl⟩) | (go_at_call 25; refine (Copy_not p _ HN1.out).mono ?_; rintro e w' ⟨rfl, rfl⟩) | fail)
      go_roundw
      case rel => exact ⟨j + 1, by omega, by go_num, HKP.out.trans HK1.out⟩
      case measure => simp [intOf]; omega
    · have hj2 : ¬ (j : Int) < 2 := by omega
      have HKP := Lib.hid kp
      clear kp
      go_wp2_with (go_at_call 10; refine (awake_any _).mono ?_; rintro e w1 ⟨rfl, hk1⟩)
      go_ret
      exact ⟨rfl, (HK0.out.trans HKP.out).trans hk1⟩
end Go.Proofs.Ytpcgckppdnlccaa
