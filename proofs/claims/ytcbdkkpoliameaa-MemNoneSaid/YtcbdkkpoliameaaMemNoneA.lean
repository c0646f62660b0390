/-
  MemNone, walked.
-/
import Derived.Test.YtcbdkkpoliameaaMemF
namespace Go.Proofs.Ytcbdkkpoliameaa
open Go.RowKit
set_option linter.unusedVariables false

/-- Bytes that are made, the list a letter. -/
theorem zeros_letter (n : Nat) (hn : n ≤ 1000000) : ∃ Z : List UInt8, Z.length = n ∧ ∀ w, (Instr.makeSlice 22 (.int .i64 n) (.int .i64 n)).run Try.prog w = .ok (.slice (some ⟨w.heap.size, 0, none⟩) n n) (w.alloc (.cells (Z.map bv).toArray 5)) :=
  ⟨List.replicate n 0, List.length_replicate, fun w => run_zeros w n hn⟩

set_option maxRecDepth 100000 in
set_option maxHeartbeats 4000000 in
theorem MemNone_any (w : World) (A n : Int) (a0 : 0 ≤ A) (a1 : A < 4294967296) (n0 : 0 ≤ n) (n1 : n < 4294967296) :
    Calls Try.prog 7 #[.int .u32 A, .int .u32 n] w fun e w' => e = .returned (.bool true) ∧ Keeps [] w w' := by
  obtain ⟨Z, hZ, hmk⟩ := zeros_letter 65536 (by decide)
  obtain ⟨Y, hY, hmk2⟩ := zeros_letter 65537 (by decide)
  have HZ := Lib.hid hZ
  have HY := Lib.hid hY
  clear hZ hY
  rw [show ((65536 : Nat) : Int) = 65536 from rfl] at hmk
  rw [show ((65537 : Nat) : Int) = 65537 from rfl] at hmk2
  generalize hzz : (Z.map bv).toArray = ZV at *
  generalize hyy : (Y.map bv).toArray = YV at *
  have HZV := Lib.hid hzz
  clear hzz hyy
  go_enter Try.func7, Try.ntmps7
  go_upto_region 2 with (fail)
  generalize hV : World.alloc _ _ = V
  have kV : Keeps [] w V := by rw [← hV]; exact (Keeps.alloc [] _ _).trans (Keeps.alloc [] _ _)
  have hz : V.cell? ⟨w.heap.size, 0, none⟩ = some (.pointer none) := by
    rw [← hV]; exact (Keeps.alloc [] _ _).cell ((cell_alloc_new w _ _ 0).trans rfl) (by simp)
  have hl : ∀ (i : Nat) (p : Option Addr), [(none : Option Addr), some ⟨w.heap.size, 0, none⟩][i]? = some p → V.cell? ⟨w.heap.size + 1, i, none⟩ = some (.pointer p) ∧ NotMem V p := by
    have e : ∀ i, V.cell? ⟨w.heap.size + 1, i, none⟩ = ([Value.pointer none, .pointer (some ⟨w.heap.size, 0, none⟩)])[i]? := by
      intro i
      rw [← hV]
      have h1 := Whole.new_at (w.alloc (.cells #[Value.pointer none, .int .u32 0, .slice none 0 0, .int .u32 0, .slice none 0 0] 64)) 25 [Value.pointer none, .pointer (some ⟨w.heap.size, 0, none⟩)] (w.heap.size + 1) (by simp)
      exact h1.cell i
    intro i p hp
    match i, hp with
    | 0, hp => simp at hp; subst hp; exact ⟨(e 0).trans rfl, .inl rfl⟩
    | 1, hp => simp at hp; subst hp; exact ⟨(e 1).trans rfl, .inr ⟨_, rfl, hz⟩⟩
    | i + 2, hp => simp at hp
  have HL := Lib.hid hl
  have KV := Lib.hid kV
  clear hV hz hl kV
  go_loopw [6, 7, 8, 9, 10, 11, 12, 23] (fun _ _ _ _ _ _ _ i wr => ∃ j : Nat, j ≤ 2 ∧ i = .int .i64 j ∧ Hid (Keeps [] V wr)) (fun _ _ _ _ _ _ _ i _ => 2 - (intOf i).toNat)
  case atStart => exact ⟨0, by omega, rfl, Keeps.refl _ _⟩
  case round =>
    obtain ⟨j, hj, rfl, hkw⟩ := hrel
    by_cases hlt : j < 2
    · obtain ⟨p, hp⟩ : ∃ p, [(none : Option Addr), some ⟨w.heap.size, 0, none⟩][j]? = some p := ⟨_, List.getElem?_eq_getElem (by simpa using hlt)⟩
      obtain ⟨q0, hnm⟩ := HL.out j p hp
      have q0 := hkw.out.cell q0 (by simp)
      have HNM := Lib.hid (hnm.keeps hkw.out)
      have hji : (j : Int) < 2 := by omega
      clear hnm hp
      go_wp2_with (first
        | (go_at_call 21; refine (Load_not _ p HNM.out _).mono ?_; rintro e w' ⟨rfl, rfl⟩)
        | (go_at_call 22; refine (Byte_not _ p HNM.out _).mono ?_; rintro e w' ⟨rfl, rfl⟩)
        | (go_at_call 23; refine (Bytes_not _ p HNM.out _ _).mono ?_; rintro e w' ⟨rfl, rfl⟩)
        | (go_at_call 10; refine (Ram_not _ p HNM.out).mono ?_; rintro e w' ⟨rfl, rfl⟩)
        | (go_at_call 11; refine (Store_not _ p HNM.out _ _).mono ?_; rintro e w' ⟨rfl, rfl⟩)
        | (go_at_call 13; refine (SetByte_not _ p HNM.out _ _).mono ?_; rintro e w' ⟨rfl, rfl⟩)
        | (go_at_call 15; refine (Move_not _ p HNM.out _ _ _).mono ?_; rintro e w' ⟨rfl, rfl⟩)
        | (go_at_call 17; refine (Fill_not _ p HNM.out _ _ _).mono ?_; rintro e w' ⟨rfl, rfl⟩)
        | (go_at_call 19; refine (Show_not _ p HNM.out _ _ _).mono ?_; rintro e w' ⟨rfl, rfl⟩)
        | fail)
      go_roundw
      case rel => exact ⟨j + 1, by omega, by go_num, hkw⟩
      case measure => simp [intOf]; omega
    · obtain rfl : j = 2 := by omega
      have K0 := Lib.hid (KV.out.trans hkw.out)
      clear hkw HL
      go_wp2_with fail
      refine (New_my _ _ (Keeps.refl _ _) 65536 65536 rfl (by decide) (by decide) (by decide) _ Z wr.heap.size (Reads.lit wr Z _ _ 65536 (0, 0) HZV.out.symm HZ.out.symm) (by rw [HZ.out]; decide)).mono ?_
      rintro e w1 ⟨g, rb, rfl, _, hk⟩
      have K1 := Lib.hid ((K0.out.trans (Keeps.alloc [] _ _)).trans hk)
      clear hk
      go_wp2_with fail
      refine (New9_err _ 65540 none 0 0 (.inr (.inl (by decide))) (by decide)).mono ?_
      rintro e w2 ⟨rfl, rfl⟩
      go_wp2_with fail
      refine (New9_err _ 4 _ 65537 65537 (.inr (.inr (.inr (by decide)))) (by decide)).mono ?_
      rintro e w3 ⟨rfl, hk⟩
      have K3 := Lib.hid (hk ▸ K1.out.trans (Keeps.alloc [] _ _))
      clear hk
      go_wp2_with (go_at_call 8; refine (awake9_any _).mono ?_; rintro e w' ⟨rfl, hk⟩; have HK := Lib.hid hk; clear hk)
      go_ret
      exact ⟨rfl, K3.out.trans HK.out⟩
end Go.Proofs.Ytcbdkkpoliameaa
