/-
  StackNone, walked.
-/
import Derived.Test.YtdeiehcblfiepaaStkF
namespace Go.Proofs.Ytdeiehcblfiepaa
open Go.RowKit
set_option linter.unusedVariables false

set_option maxRecDepth 100000 in
set_option maxHeartbeats 4000000 in
theorem StackNone_any (w : World) (x i : Int) (x0 : 0 ≤ x) (x1 : x < 4294967296) (i0 : -9223372036854775808 ≤ i) (i1 : i ≤ 9223372036854775807) :
    Calls Try.prog 8 #[.int .u32 x, .int .i64 i] w fun e w' => e = .returned (.bool true) ∧ Keeps [] w w' := by
  go_enter Try.func8, Try.ntmps8
  go_upto_region 2 with (fail)
  generalize hV : World.alloc _ _ = V
  have kV : Keeps [] w V := by rw [← hV]; exact (Keeps.alloc [] _ _).trans (Keeps.alloc [] _ _)
  have hz : V.cell? ⟨w.heap.size, 0, none⟩ = some (.pointer none) := by
    rw [← hV]; exact (Keeps.alloc [] _ _).cell ((cell_alloc_new w _ _ 0).trans rfl) (by simp)
  have hl : ∀ (i : Nat) (p : Option Addr), [(none : Option Addr), some ⟨w.heap.size, 0, none⟩][i]? = some p → V.cell? ⟨w.heap.size + 1, i, none⟩ = some (.pointer p) ∧ NotStack V p := by
    have e : ∀ i, V.cell? ⟨w.heap.size + 1, i, none⟩ = ([Value.pointer none, .pointer (some ⟨w.heap.size, 0, none⟩)])[i]? := by
      intro i
      rw [← hV]
      have h1 := Whole.new_at (w.alloc (.cells #[Value.pointer none, .slice none 0 0, .int .i64 0, .int .i32 0, .int .i32 0] 54)) 23 [Value.pointer none, .pointer (some ⟨w.heap.size, 0, none⟩)] (w.heap.size + 1) (by simp)
      exact h1.cell i
    intro i p hp
    match i, hp with
    | 0, hp => simp at hp; subst hp; exact ⟨(e 0).trans rfl, .inl rfl⟩
    | 1, hp => simp at hp; subst hp; exact ⟨(e 1).trans rfl, .inr ⟨_, rfl, hz⟩⟩
    | i + 2, hp => simp at hp
  have HL := Lib.hid hl
  have KV := Lib.hid kV
  clear hV hz hl kV
  go_loopw [6, 7, 8, 9, 10, 15] (fun _ _ _ _ _ i wr => ∃ j : Nat, j ≤ 2 ∧ i = .int .i64 j ∧ Hid (Keeps [] V wr)) (fun _ _ _ _ _ i _ => 2 - (intOf i).toNat)
  case atStart => exact ⟨0, by omega, rfl, Keeps.refl _ _⟩
  case round =>
    obtain ⟨j, hj, rfl, hkw⟩ := hrel
    by_cases hlt : j < 2
    · obtain ⟨p, hp⟩ : ∃ p, [(none : Option Addr), some ⟨w.heap.size, 0, none⟩][j]? = some p := ⟨_, List.getElem?_eq_getElem (by simpa using hlt)⟩
      obtain ⟨q0, hnm⟩ := HL.out j p hp
      have q0 := hkw.out.cell q0 (by simp)
      have HNM := Lib.hid (hnm.keeps hkw.out)
      have hji : (j : Int) < 2 := by omega
      clear hnm hp
      go_wp2_with (first
        | (go_at_call 15; refine (Pop_not _ p HNM.out).mono ?_; rintro e w' ⟨rfl, rfl⟩)
        | (go_at_call 21; refine (Peek_not _ p HNM.out _).mono ?_; rintro e w' ⟨rfl, rfl⟩)
        | fail)
      refine (Push_not _ p (HNM.out.keeps (Keeps.alloc [] _ _)) _ _ _).mono ?_
      rintro e w2 ⟨rfl, k2⟩
      have K2 := Lib.hid (k2 ▸ Keeps.alloc [] wr _)
      have HNM2 := Lib.hid (HNM.out.keeps K2.out)
      clear k2
      go_wp2_with (first
        | (go_at_call 24; refine (May_not _ p HNM2.out _ _).mono ?_; rintro e w' ⟨rfl, rfl⟩)
        | (go_at_call 18; refine (Roll_not _ p HNM2.out _).mono ?_; rintro e w' ⟨rfl, rfl⟩)
        | (go_at_call 20; refine (Cut_not _ p HNM2.out _).mono ?_; rintro e w' ⟨rfl, rfl⟩)
        | (go_at_call 11; refine (Len_not _ p HNM2.out).mono ?_; rintro e w' ⟨rfl, rfl⟩)
        | (go_at_call 23; refine (All_not _ p HNM2.out).mono ?_; rintro e w' ⟨rfl, rfl⟩)
        | fail)
      go_roundw
      case rel => exact ⟨j + 1, by omega, by go_num, Lib.hid (hkw.out.trans K2.out)⟩
      case measure => simp [intOf]; omega
    · obtain rfl : j = 2 := by omega
      have K0 := Lib.hid (KV.out.trans hkw.out)
      clear hkw HL
      go_wp2_with (go_at_call 12; refine (awake8_any _).mono ?_; rintro e w' ⟨rfl, hk⟩; have HK := Lib.hid hk; clear hk)
      go_ret
      exact ⟨rfl, K0.out.trans HK.out⟩
end Go.Proofs.Ytdeiehcblfiepaa
