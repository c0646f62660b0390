/-
  RingNone, walked.
-/
import Derived.Test.YtdcfcljgennipaaRingI
import Derived.Test.YtdcfcljgennipaaArgs
namespace Go.Proofs.Ytdcfcljgennipaa
open Go.RowKit

theorem NotMade.keeps {w w' : World} {p : Option Addr} (h : NotMade w p) (hk : Keeps [] w w') : NotMade w' p := by
  rcases h with rfl | ⟨F, rfl, hc⟩
  · exact .inl rfl
  · exact .inr ⟨F, rfl, hk.cell hc (by simp)⟩

theorem clear_out {s : FS} (k : Int) (hd : s.down = false) (hk : ¬ (0 ≤ k ∧ k < s.wear.length)) : s.clear k = (s, 10) := by
  unfold FS.clear; rw [if_neg (by simp [hd]), if_pos hk]
theorem opened_out {s : FS} (k : Int) (x : BitVec 32) (hd : s.down = false) (hk : ¬ (0 ≤ k ∧ k < s.wear.length)) : s.opened k x = (s, 10) := by
  unfold FS.opened; rw [if_neg (by simp [hd]), if_pos hk]

set_option maxRecDepth 100000 in
set_option maxHeartbeats 2000000 in
theorem RingNone_any (w : World) (k : Int) (x : BitVec 32) (hk1 : k ≤ 9223372036854775807) :
    Calls Try.prog 9 #[.int .i64 k, uv x] w fun e w' => e = .returned (.bool true) ∧ Keeps [] w w' := by
  have hfld := fld_hkind
  have hgd := hdr_guard
  have hsm := hdr_equal
  have HX := Lib.hid (show ∀ (U : World) (p : Option Addr), NotMade U p → Calls Try.prog 38 #[.pointer p, .int .i64 k, uv x] U fun e w' => e = .returned (.int .i64 1) ∧ U = w' from fun U p hp => Open_not U p hp k x)
  have HO := Lib.hid (show ∀ (U : World) (F B W M : Nat) (s : FS), FlashAt U F B W M s → Calls Try.prog 38 #[.pointer (some ⟨F, 0, none⟩), .int .i64 k, uv x] U fun e w' => e = .returned (.int .i64 (s.opened k x).2) ∧ FlashAt w' F B W M (s.opened k x).1 ∧ Keeps [F, B] U w' from fun U F B W M s h => Open_any U h k hk1 x)
  unfold uv at *
  generalize (x.toNat : Int) = y at *
  go_enter Try.func9, Try.ntmps9
  go_upto_region 3 with (fail)
  generalize hV : World.alloc _ _ = V
  have kV : Keeps [] w V := by rw [← hV]; exact (Keeps.alloc [] _ _).trans (Keeps.alloc [] _ _)
  have hz : V.cell? ⟨w.heap.size, 0, none⟩ = some (.pointer none) := by
    rw [← hV]; exact (Keeps.alloc [] _ _).cell ((cell_alloc_new w _ _ 0).trans rfl) (by simp)
  have hl : ∀ (i : Nat) (p : Option Addr), [(none : Option Addr), some ⟨w.heap.size, 0, none⟩][i]? = some p → V.cell? ⟨w.heap.size + 1, i, none⟩ = some (.pointer p) ∧ NotMade V p := by
    have e : ∀ i, V.cell? ⟨w.heap.size + 1, i, none⟩ = ([Value.pointer none, .pointer (some ⟨w.heap.size, 0, none⟩)])[i]? := by
      intro i
      rw [← hV]
      have h1 := Whole.new_at (w.alloc (.cells #[Value.pointer none, .slice none 0 0, .slice none 0 0, .bool false, .bool false, .int .i64 0, .slice none 0 0] 79)) 36 [Value.pointer none, .pointer (some ⟨w.heap.size, 0, none⟩)] (w.heap.size + 1) (by simp)
      exact h1.cell i
    intro i p hp
    match i, hp with
    | 0, hp => simp at hp; subst hp; exact ⟨(e 0).trans rfl, .inl rfl⟩
    | 1, hp => simp at hp; subst hp; exact ⟨(e 1).trans rfl, .inr ⟨_, rfl, hz⟩⟩
    | i + 2, hp => simp at hp
  have HL := Lib.hid hl
  have KV := Lib.hid kV
  clear hV hz hl kV
  go_loopw [7, 8, 9, 10, 11, 23] (fun _ _ _ _ _ i wr => ∃ j : Nat, j ≤ 2 ∧ i = .int .i64 j ∧ Keeps [] V wr) (fun _ _ _ _ _ i _ => 2 - (intOf i).toNat)
  case atStart => exact ⟨0, by omega, rfl, Keeps.refl _ _⟩
  case round =>
    obtain ⟨j, hj, rfl, hkw⟩ := hrel
    by_cases hlt : j < 2
    · obtain ⟨p, hp⟩ : ∃ p, [(none : Option Addr), some ⟨w.heap.size, 0, none⟩][j]? = some p := ⟨_, List.getElem?_eq_getElem (by simpa using hlt)⟩
      obtain ⟨q0, hnm⟩ := HL.out j p hp
      have q0 := hkw.cell q0 (by simp)
      have HNM := Lib.hid (hnm.keeps hkw)
      have KW := Lib.hid hkw
      have hji : (j : Int) < 2 := by omega
      clear hnm hkw hp
      go_wp2_with (go_at_call 28; refine (Look_not _ p HNM.out 0 3).mono ?_; rintro e w' ⟨rfl, rfl⟩)
      refine (Pick_not _ p (HNM.out.keeps (Keeps.alloc [] _ _)) _ 0).mono ?_
      rintro e w2 ⟨rfl, k2⟩
      have K2 := Lib.hid ((Keeps.alloc [] wr _).trans k2)
      have HNM2 := Lib.hid (HNM.out.keeps K2.out)
      clear k2
      go_wp2_with fail
      refine (Clear_not _ p HNM2.out k).mono ?_
      rintro e w' ⟨rfl, rfl⟩
      go_wp2_with fail
      refine (HX.out _ p HNM2.out).mono ?_
      rintro e w' ⟨rfl, rfl⟩
      go_wp2
      go_roundw
      case rel => exact ⟨j + 1, by omega, by go_num, KW.out.trans K2.out⟩
      case measure => simp [intOf]; omega
    · obtain rfl : j = 2 := by omega
      have K0 := Lib.hid (KV.out.trans hkw)
      clear hkw HL
      go_wp2_with fail
      refine (New_ok wr 8 (by decide) (by decide)).mono ?_
      rintro e w1 ⟨F, B, W, M, rfl, hF0, hB0, hW0, hF, k1⟩
      have hs0 := newN 8
      generalize FS.new 8 = s at *
      have HF := Lib.hid hF
      have K1 := Lib.hid (K0.out.trans k1)
      have hsz := K0.out.size
      have HE := Lib.hid hs0
      have hlen8 : s.wear.length = 8 := by rw [hs0.wear]; rfl
      have hwr : ∀ x ∈ s.wear, 0 ≤ x ∧ x < 9223372036854775807 := by rw [hs0.wear]; decide
      have HWR := Lib.hid hwr
      have HLN := Lib.hid hlen8
      clear hF k1 hs0 hlen8 hwr
      -- behind the errors of sectors that are not there
      have rest : ∀ (U : World), FlashAt U F B W M s → Keeps [] w U → Hid (FlashAt U F B W M s ∧ Keeps [] w U) := fun U h1 h2 => Lib.hid ⟨h1, h2⟩
      have hnl : newestL [] = none := rfl
      have hpl : s.pick 0 [] = none := rfl
      by_cases hin : 0 ≤ k ∧ k < 8
      · obtain ⟨i0, i1⟩ := hin
        have i2 : ¬ 7 < k := by omega
        have i3 : ¬ k < 0 := by omega
        have HN := Newest_any w1 _ [] (HdrsAt.nil _) (by simp)
        rw [hnl] at HN
        dsimp only [Option.getD, Option.isSome, hdrCells] at HN
        have HN := Lib.hid HN
        clear rest
        go_wp2_with fail
        refine HN.out.mono ?_
        rintro e w2 ⟨rfl, k2⟩
        have HF2 := Lib.hid (HF.out.keeps k2 (by simp) (by simp) (by simp) (by simp))
        have K2 := Lib.hid (K1.out.trans k2)
        clear k2 HN
        go_upto_region 17 with (fail)
        generalize hU : World.alloc w2 _ = U
        have wU : Whole U w2.heap.size 56 [.int .i64 0, .int .u8 0, .int .u32 0] := by rw [← hU]; exact Whole.new w2 56 [_, _, _]
        have kU : Keeps [] w2 U := by rw [← hU]; exact Keeps.alloc [] _ _
        have q0 := (wU.cell 0).trans (show _ = some (Value.int .i64 0) from rfl)
        have q1 := (wU.cell 1).trans (show _ = some (Value.int .u8 0) from rfl)
        have q2 := (wU.cell 2).trans (show _ = some (Value.int .u32 0) from rfl)
        have HP := Pick_any U (HF2.out.keeps kU (by simp) (by simp) (by simp) (by simp)) (by rw [HLN.out]; decide) _ [] (HdrsAt.nil _) (by simp) 0
        rw [hpl] at HP
        dsimp only [Option.getD, Option.isSome] at HP
        have HP := Lib.hid HP
        have KU := Lib.hid (K2.out.trans kU)
        clear hU wU kU
        go_wp2_with fail
        refine HP.out.mono ?_
        rintro e w3 ⟨rfl, k3⟩
        have q0 := k3.cell q0 (by simp)
        have q1 := k3.cell q1 (by simp)
        have q2 := k3.cell q2 (by simp)
        have K3 := Lib.hid (KU.out.trans k3)
        clear k3 HP
        go_wp2_with (go_at_call 29; refine (awake5_any _).mono ?_; rintro e w4 ⟨rfl, k4⟩; have K4 := Lib.hid k4; clear k4)
        go_ret
        exact ⟨rfl, K3.out.trans K4.out⟩
      · have hC := Clear_any w1 HF.out k hk1 HWR.out
        rw [clear_out k HE.out.down (by rw [HLN.out]; exact hin)] at hC
        have HC := Lib.hid hC
        have hO := fun U hF => HO.out U F B W M s hF
        have e2 : ∀ x, s.opened k x = (s, 10) := fun x => opened_out k x HE.out.down (by rw [HLN.out]; exact hin)
        have HO2 := Lib.hid (show ∀ (U : World), FlashAt U F B W M s → Calls Try.prog 38 #[.pointer (some ⟨F, 0, none⟩), .int .i64 k, .int .u32 y] U fun e w' => e = .returned (.int .i64 10) ∧ FlashAt w' F B W M s ∧ Keeps [F, B] U w' from fun U h => by
          have := hO U h
          rw [e2] at this
          exact this)
        have HN := Lib.hid (show ∀ U, _ from fun U => Newest_any U _ [] (HdrsAt.nil _) (by simp))
        rw [hnl] at HN
        dsimp only [Option.getD, Option.isSome, hdrCells] at HN
        clear hC hO e2 rest
        have HSZ := Lib.hid hsz
        have hcase : k < 0 ∨ (¬ k < 0 ∧ 7 < k) := by omega
        clear hin
        rcases hcase with i1 | ⟨i1, i2⟩
        all_goals
          go_wp2_with fail
          refine HC.out.mono ?_
          rintro e w2 ⟨rfl, hF2, k2⟩
          have HF2 := Lib.hid hF2
          have K2 := Lib.hid (K1.out.then k2 (fun x hx => .inr (by simp at hx; omega)))
          clear hF2 k2 HC
          go_wp2_with fail
          refine (HO2.out _ HF2.out).mono ?_
          rintro e w3 ⟨rfl, hF3, k3⟩
          have HF3 := Lib.hid hF3
          have K3 := Lib.hid (K2.out.then k3 (fun x hx => .inr (by simp at hx; omega)))
          clear hF3 k3 HO2
          go_wp2_with fail
          refine (HN.out _).mono ?_
          rintro e w4 ⟨rfl, k4⟩
          have HF4 := Lib.hid (HF3.out.keeps k4 (by simp) (by simp) (by simp) (by simp))
          have K4 := Lib.hid (K3.out.trans k4)
          clear k4 HN
          go_upto_region 17 with (fail)
          generalize hU : World.alloc w4 _ = U
          have wU : Whole U w4.heap.size 56 [.int .i64 0, .int .u8 0, .int .u32 0] := by rw [← hU]; exact Whole.new w4 56 [_, _, _]
          have kU : Keeps [] w4 U := by rw [← hU]; exact Keeps.alloc [] _ _
          have q0 := (wU.cell 0).trans (show _ = some (Value.int .i64 0) from rfl)
          have q1 := (wU.cell 1).trans (show _ = some (Value.int .u8 0) from rfl)
          have q2 := (wU.cell 2).trans (show _ = some (Value.int .u32 0) from rfl)
          have HP := Pick_any U (HF4.out.keeps kU (by simp) (by simp) (by simp) (by simp)) (by rw [HLN.out]; decide) _ [] (HdrsAt.nil _) (by simp) 0
          rw [hpl] at HP
          dsimp only [Option.getD, Option.isSome] at HP
          have HP := Lib.hid HP
          have KU := Lib.hid (K4.out.trans kU)
          clear hU wU kU
          go_wp2_with fail
          refine HP.out.mono ?_
          rintro e w5 ⟨rfl, k5⟩
          have q0 := k5.cell q0 (by simp)
          have q1 := k5.cell q1 (by simp)
          have q2 := k5.cell q2 (by simp)
          have K5 := Lib.hid (KU.out.trans k5)
          clear k5 HP
          go_wp2_with (go_at_call 29; refine (awake5_any _).mono ?_; rintro e w6 ⟨rfl, k6⟩; have K6 := Lib.hid k6; clear k6)
          go_ret
          exact ⟨rfl, K5.out.trans K6.out⟩

/-- A number of 32 bits that came in. -/
theorem u32_of_wf {n : Int} (h : (Lit.int .u32 n).wf = true) : ∃ x : BitVec 32, n = (x.toNat : Int) := by
  have hb := bounds_u32 h
  exact ⟨BitVec.ofNat 32 n.toNat, by rw [BitVec.toNat_ofNat]; omega⟩

theorem RingNone_all (w : World) (k y : Int) (hk : (Lit.int .i64 k).wf = true) (hy : (Lit.int .u32 y).wf = true) :
    Calls Try.prog 9 #[.int .i64 k, .int .u32 y] w fun e w' => e = .returned (.bool true) ∧ Keeps [] w w' := by
  obtain ⟨x, rfl⟩ := u32_of_wf hy
  exact RingNone_any w k x (by have := bounds_i64 hk; omega)
end Go.Proofs.Ytdcfcljgennipaa
