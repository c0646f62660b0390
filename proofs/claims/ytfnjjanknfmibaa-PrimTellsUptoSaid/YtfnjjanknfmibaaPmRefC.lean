/-
  The document's All: the walk.
-/
import Derived.Test.YtfnjjanknfmibaaPmRefB
namespace Go.Proofs.Ytfnjjanknfmibaa
open Go.RowKit Go.Deep
set_option linter.unusedVariables false

structure AllRel (k : Nat) (B : Nat) (L : List Value) (base : Nat) (w0 : World) (f : Nat → Pm) (n0 : Nat) (pre : List Value) (m : Nat) (x y : Value) (wr : World) : Prop where
  out : ∃ (j : Nat) (v : Value), v = x ∧ j ≤ m ∧ y = .int .i64 ((2 * j : Nat) : Int) ∧ wr.ownsRow base 27 7 v (n0 + j) (pre ++ cellsP ((List.range j).map f)) ∧ Whole wr B 9 L ∧ Keeps [] w0 wr

theorem Keeps.seven {w V : World} (h : Keeps [] w V) {b : Nat} (hb : w.heap.size ≤ b) (x0 x1 x2 x3 x4 x5 x6 : Value) : Keeps [] w (((((((V.setCell ⟨b, 0, none⟩ x0).setCell ⟨b, 1, none⟩ x1).setCell ⟨b, 2, none⟩ x2).setCell ⟨b, 3, none⟩ x3).setCell ⟨b, 4, none⟩ x4).setCell ⟨b, 5, none⟩ x5).setCell ⟨b, 6, none⟩ x6) := by
  have k : ∀ (w : World) i v, Keeps [b] w (w.setCell ⟨b, i, none⟩ v) := fun w i v => Keeps.setCell w (by simp) v
  exact h.then (((((((k _ _ _).trans (k _ _ _)).trans (k _ _ _)).trans (k _ _ _)).trans (k _ _ _)).trans (k _ _ _)).trans (k _ _ _)) (fun x hx => .inr (by simp at hx; omega))

set_option maxRecDepth 100000 in
set_option maxHeartbeats 8000000 in
theorem r11All_any (w : World) : Calls Try.prog 21 #[] w fun e w' => ∃ v, e = .returned v ∧ w'.ownsRow w.heap.size 27 7 v 113 (cellsP tabL) ∧ Keeps [] w w' := by
  have HPL := Lib.hid r11plain_any
  have HCT := Lib.hid r11control_any
  go_enter Try.func21, Try.ntmps21
  go_wp2_with (go_at_call 40; refine (HPL.out _).mono ?_; rintro e w1 ⟨rfl, hW1, hk1⟩; have W1 := Lib.hid hW1; have K1 := Lib.hid hk1; clear hW1 hk1)
  generalize hB : w.heap.size = B at *
  have HB := Lib.hid hB
  clear hB
  go_loopw [1, 3] (fun x y wr => AllRel 0 B plainV B w plainP 0 [] 73 x y wr) (fun _ y _ => 146 - (intOf y).toNat)
  case atStart => exact ⟨0, _, rfl, by omega, rfl, ⟨rfl, .inl ⟨rfl, rfl⟩⟩, W1.out, K1.out⟩
  case round =>
    obtain ⟨j, v, rfl, hj, rfl, hown, hwl, hkr⟩ := hrel.out
    have HO := Lib.hid hown
    have HWL := Lib.hid hwl
    have HK := Lib.hid hkr
    obtain ⟨i, hi⟩ : ∃ i, i = 2 * j := ⟨_, rfl⟩
    rw [← hi]
    have HI := Lib.hid hi
    by_cases hlt : j < 73
    · have hlt' : (i : Int) < 146 := by omega
      have e1 : ((i : Int)).tdiv 2 = (j : Int) := by rw [Int.tdiv_eq_ediv_of_nonneg (by omega)]; omega
      obtain ⟨c0, c1, hc, h0, h0', h1, h1'⟩ := plain_text hlt
      have hnm : plainL[2 * j]? = some (plainL.getD (2 * j) []) := by
        rw [List.getD_eq_getElem?_getD, List.getElem?_eq_getElem (by rw [plainL_length]; omega)]; rfl
      have x0 : wr.cell? ⟨B, i, none⟩ = some (str (plainL.getD (2 * j) [])) := by rw [hwl.cell, hi]; unfold plainV; rw [List.getElem?_map, hnm]; rfl
      have x1 : wr.cell? ⟨B, i + 1, none⟩ = some (str [c0, c1]) := by rw [hwl.cell, hi]; unfold plainV; rw [List.getElem?_map, hc]; rfl
      have HD0 := Lib.hid fun W => r11digit_any W [c0, c1] 0 c0 rfl h0
      have HD1 := Lib.hid fun W => r11digit_any W [c0, c1] 1 c1 rfl h1
      have hpp : plainP j = ⟨1 + j, plainL.getD (2 * j) [], c0.toNat - 48, c1.toNat - 48, 0, false, false⟩ := by
        unfold plainP digL
        rw [show plainL.getD (2 * j + 1) [] = [c0, c1] by rw [List.getD_eq_getElem?_getD, hc]; rfl]
        rfl
      generalize c0.toNat - 48 = d0 at *
      generalize c1.toNat - 48 = d1 at *
      generalize plainL.getD (2 * j) [] = nm at *
      obtain ⟨q, hq⟩ : ∃ q, q = 1 + j := ⟨_, rfl⟩
      have hpc : (plainP j).cells = [.int .u32 (q : Int), str nm, .int .i64 (d0 : Int), .int .i64 (d1 : Int), .int .i64 ((0 : Nat) : Int), .bool false, .bool false] := by rw [hpp, hq]; rfl
      have eq1 : (1 : Int) + (j : Int) = (q : Int) := by omega
      have eq2 : IntKind.i64.wrap (q : Int) = (q : Int) := IntWalk.i64_in _ (by omega)
      have eq3 : IntKind.u32.wrap (q : Int) = (q : Int) := IntWalk.u32_in _ (by omega)
      have eq4 : IntKind.i64.wrap (j : Int) = (j : Int) := IntWalk.i64_in (j : Int) (by clear e1; omega)
      clear hq
      have HSZ := Lib.hid (show B ≤ wr.heap.size from Nat.le_of_lt hwl.lt)
      clear hc hnm hpp hown hwl hkr hrel hi
      unfold str at *
      generalize ByteArray.mk nm.toArray = t0 at *
      generalize ByteArray.mk [c0, c1].toArray = t1 at *
      have HPC := Lib.hid hpc
      clear hpc
      have ew1 : IntKind.i64.wrap ((i : Int) + 1) = (i : Int) + 1 := IntWalk.i64_in _ (by omega)
      have hb1 : (i : Int) + 1 < 146 := by have := HI.out; omega
      have hb2 : i + 1 < 146 := by have := HI.out; omega
      have hb3 : i < 146 := by omega
      have hb4 : ¬ (i : Int) + 1 < 0 := by omega
      have hb5 : ((i : Int) + 1).toNat = i + 1 := by omega
      have hb6 : (0 : Int) ≤ (i : Int) + 1 := by omega
      go_upto_region 6 with fail
      go_region_law (first
          | (refine step_prim rfl (.tmp 13) (.tmp 35) rfl B v (0 + j) ([] ++ cellsP ((List.range j).map plainP)) rfl ?own (plainP j) _ rfl ?wh (by omega) ?le ?_
             case own => repeat' (first | exact HO.out | refine World.ownsRow.keeps ?_ (Keeps.alloc [] _ _) (fun _ _ => List.not_mem_nil) | refine World.ownsRow.keeps ?_ (Keeps.drew [] _) (fun _ _ => List.not_mem_nil))
             case wh =>
               rw [HPC.out]
               repeat' (first | exact Whole.new_at _ 27 _ _ (by first | rfl | (simp; done)) | refine Whole.keeps (S := []) ?_ (Keeps.drew [] _) (by simp))
             case le => have := HSZ.out; simp; omega
             intro v2 V2 ho2 hk2
             have KR := Lib.hid (show Keeps v.ownBlock.toList wr V2 by
               refine Keeps.trans ?_ hk2
               repeat' (first | exact Keeps.refl _ _ | refine Keeps.trans ?_ (Keeps.alloc _ _ _) | refine Keeps.trans ?_ (Keeps.drew _ _)))
             have HO2 := Lib.hid ho2
             clear ho2 hk2)
          | (go_simp
             go_wp2_with (first
               | (go_at_call_of 41 (#[Value.string t1, Value.int .i64 0]); refine (HD0.out _).mono ?_; rintro e w2 ⟨rfl, rfl⟩)
               | (go_at_call_of 41 (#[Value.string t1, Value.int .i64 1]); refine (HD1.out _).mono ?_; rintro e w2 ⟨rfl, rfl⟩))))
      all_goals
        go_wp2_with fail
        go_roundw
        case rel =>
          have hH := HB.out
          exact ⟨⟨j + 1, _, rfl, by omega, by have := HI.out; go_num, by have := HO2.out; rw [List.range_succ]; simpa [cellsP] using this, HWL.out.keeps KR.out (own_apart HO.out HWL.out (by decide)), HK.out.then KR.out (fun g hg => .inr (by have := (HO.out.lt g (by simpa using hg)).1; omega))⟩⟩
        case measure => simp [intOf]; omega
    · obtain rfl : j = 73 := by omega
      have hlt' : ¬ (i : Int) < 146 := by have := HI.out; omega
      have hlt2 : decide ((i : Int) < 146) = false := decide_eq_false hlt'
      clear hown hwl hkr hrel hi hlt
      go_wp2_with (go_at_call 42; refine (HCT.out _).mono ?_; rintro e w2 ⟨rfl, hW2, hk2⟩; have W2 := Lib.hid hW2; have K2 := Lib.hid hk2; clear hW2 hk2)
      have HO0 := Lib.hid (show w2.ownsRow B 27 7 v (73 + 0) (cellsP ((List.range 73).map plainP) ++ cellsP ((List.range 0).map controlP)) by
        have h := World.ownsRow.keeps HO.out K2.out (fun _ _ => List.not_mem_nil)
        simpa [cellsP] using h)
      have hS2 : B ≤ wr.heap.size := by have := HK.out.size; have := HB.out; omega
      have HS2 := Lib.hid hS2
      clear hlt' hlt2 hS2
      generalize hB2 : wr.heap.size = B2 at *
      clear hB2
      go_loopw [1, 4] (fun x y wq => AllRel 0 B2 controlV B w controlP 73 (cellsP ((List.range 73).map plainP)) 40 x y wq) (fun _ y _ => 80 - (intOf y).toNat)
      case atStart => exact ⟨0, _, rfl, by omega, rfl, HO0.out, W2.out, HK.out.trans K2.out⟩
      case round =>
        obtain ⟨j, v, rfl, hj, rfl, hown, hwl, hkr⟩ := hrel.out
        have HO := Lib.hid hown
        have HWL := Lib.hid hwl
        have HK := Lib.hid hkr
        obtain ⟨i, hi⟩ : ∃ i, i = 2 * j := ⟨_, rfl⟩
        rw [← hi]
        have HI := Lib.hid hi
        generalize hPRE : (cellsP ((List.range 73).map plainP)) = PRE at *
        have HPRE := Lib.hid hPRE.symm
        clear hPRE
        by_cases hlt : j < 40
        · have hlt' : (i : Int) < 80 := by omega
          have e1 : ((i : Int)).tdiv 2 = (j : Int) := by rw [Int.tdiv_eq_ediv_of_nonneg (by omega)]; omega
          obtain ⟨c0, c1, c2, hc, h0, h0', h1, h1', h2⟩ := control_text hlt
          have hnm : controlL[2 * j]? = some (controlL.getD (2 * j) []) := by
            rw [List.getD_eq_getElem?_getD, List.getElem?_eq_getElem (by rw [controlL_length]; omega)]; rfl
          have HX0 := Lib.hid (show ∀ W, Keeps [] wr W → W.cell? ⟨B2, i, none⟩ = some (str (controlL.getD (2 * j) [])) from fun W hW => (hwl.keeps hW (by simp)).cell _ |>.trans (by rw [hi]; unfold controlV; rw [List.getElem?_map, hnm]; rfl))
          have HX1 := Lib.hid (show ∀ W, Keeps [] wr W → W.cell? ⟨B2, i + 1, none⟩ = some (str [c0, c1, c2]) from fun W hW => (hwl.keeps hW (by simp)).cell _ |>.trans (by rw [hi]; unfold controlV; rw [List.getElem?_map, hc]; rfl))
          have HD0 := Lib.hid fun W => r11digit_any W [c0, c1, c2] 0 c0 rfl h0
          have HD1 := Lib.hid fun W => r11digit_any W [c0, c1, c2] 1 c1 rfl h1
          have HPP := Lib.hid (show controlP j = ⟨101 + j, controlL.getD (2 * j) [], c0.toNat - 48, c1.toNat - 48, if c2 = 116 ∨ c2 = 112 then 1 else c2.toNat - 48, c2 == 116, c2 == 112⟩ by
            unfold controlP digL
            rw [show controlL.getD (2 * j + 1) [] = [c0, c1, c2] by rw [List.getD_eq_getElem?_getD, hc]; rfl]
            rfl)
          have x0 := HX0.out
          have x1 := HX1.out
          have HD2 := Lib.hid fun (h48 : 48 ≤ c2.toNat) W => r11digit_any W [c0, c1, c2] 2 c2 rfl h48
          have hix2 : ∀ W, (Instr.index 9 (.string ⟨[c0, c1, c2].toArray⟩) (.int .i64 2)).run Try.prog W = .ok (bv c2) W := fun W => run_str_at W [c0, c1, c2] 2 c2 rfl
          have hb2lt : B2 < wr.heap.size := hwl.lt
          generalize c0.toNat - 48 = d0 at *
          generalize c1.toNat - 48 = d1 at *
          generalize controlL.getD (2 * j) [] = nm at *
          obtain ⟨q, hq⟩ : ∃ q, q = 101 + j := ⟨_, rfl⟩
          have HQ := Lib.hid hq
          have eq1 : (101 : Int) + (j : Int) = (q : Int) := by omega
          have eq2 : IntKind.i64.wrap (q : Int) = (q : Int) := IntWalk.i64_in _ (by omega)
          have eq3 : IntKind.u32.wrap (q : Int) = (q : Int) := IntWalk.u32_in _ (by omega)
          have eq4 : IntKind.i64.wrap (j : Int) = (j : Int) := IntWalk.i64_in (j : Int) (by clear e1; omega)
          have HC2 := Lib.hid h2
          have HSZ := Lib.hid (show B ≤ wr.heap.size from Nat.le_of_lt (Nat.lt_of_le_of_lt HS2.out hwl.lt))
          clear hq hc hnm hown hwl hkr hrel hi h0 h0' h1 h1' h2
          unfold str at *
          generalize hT0 : ByteArray.mk nm.toArray = t0 at *
          have HT0 := Lib.hid hT0
          clear hT0
          generalize ByteArray.mk [c0, c1, c2].toArray = t1 at *
          have ew1 : IntKind.i64.wrap ((i : Int) + 1) = (i : Int) + 1 := IntWalk.i64_in _ (by omega)
          have hb1 : (i : Int) + 1 < 80 := by have := HI.out; omega
          have hb2 : i + 1 < 80 := by have := HI.out; omega
          have hb3 : i < 80 := by omega
          have hb4 : ¬ (i : Int) + 1 < 0 := by omega
          have hb5 : ((i : Int) + 1).toNat = i + 1 := by omega
          have hb6 : (0 : Int) ≤ (i : Int) + 1 := by omega
          go_upto_region 11 with fail
          go_cut [5] from 44 to 64 (fun v5 wc => v5 = .pointer (some ⟨wr.heap.size, 0, none⟩) ∧ wc = (wr.alloc (.cells #[.int .u32 (q : Int), .string t0, .int .i64 (d0 : Int), .int .i64 (d1 : Int), .int .i64 0, .bool false, .bool false] 27)).drew)
          case first =>
            go_region_held3 (fun W' => Keeps [] wr W') (first | assumption | exact Keeps.refl [] _ | exact Keeps.drew [] _ | exact Keeps.trans (by assumption) (Keeps.alloc [] _ _) | exact (Keeps.drew [] _).trans (Keeps.alloc [] _ _) | exact ((Keeps.drew [] _).trans (Keeps.alloc [] _ _)).seven (Nat.le_refl _) _ _ _ _ _ _ _ | exact Keeps.trans (by assumption) (by assumption)) (first
              | (go_at_call_of 41 (#[Value.string t1, Value.int .i64 0]); refine (HD0.out _).mono ?_; rintro e w2 ⟨rfl, rfl⟩)
              | (go_at_call_of 41 (#[Value.string t1, Value.int .i64 1]); refine (HD1.out _).mono ?_; rintro e w2 ⟨rfl, rfl⟩))
            all_goals
              go_wp2_with fail
              go_meet
              exact ⟨rfl, rfl⟩
          case rest =>
            obtain ⟨rfl, rfl⟩ := hcut
            have HV := Lib.hid (show Whole ((wr.alloc (.cells #[.int .u32 (q : Int), .string t0, .int .i64 (d0 : Int), .int .i64 (d1 : Int), .int .i64 0, .bool false, .bool false] 27)).drew) wr.heap.size 27 [.int .u32 (q : Int), .string t0, .int .i64 (d0 : Int), .int .i64 (d1 : Int), .int .i64 0, .bool false, .bool false] from (Whole.new wr 27 _).keeps (Keeps.drew [] _) (by simp))
            have KV := Lib.hid (show Keeps [] wr ((wr.alloc (.cells #[.int .u32 (q : Int), .string t0, .int .i64 (d0 : Int), .int .i64 (d1 : Int), .int .i64 0, .bool false, .bool false] 27)).drew) from (Keeps.alloc [] wr _).trans (Keeps.drew [] _))
            have hKV : wr.heap.size < ((wr.alloc (.cells #[.int .u32 (q : Int), .string t0, .int .i64 (d0 : Int), .int .i64 (d1 : Int), .int .i64 0, .bool false, .bool false] 27)).drew).heap.size := HV.out.lt
            have hB2V : B2 < ((wr.alloc (.cells #[.int .u32 (q : Int), .string t0, .int .i64 (d0 : Int), .int .i64 (d1 : Int), .int .i64 0, .bool false, .bool false] 27)).drew).heap.size := Nat.lt_trans hb2lt hKV
            have y1 := HX1.out _ KV.out
            have HSV := Lib.hid (show B ≤ wr.heap.size from HSZ.out)
            clear x0 x1
            generalize (wr.alloc (.cells #[.int .u32 (q : Int), .string t0, .int .i64 (d0 : Int), .int .i64 (d1 : Int), .int .i64 0, .bool false, .bool false] 27)).drew = V at *
            generalize hKK : wr.heap.size = K at *
            have HKK := Lib.hid hKK
            have hne : B2 ≠ K := by omega
            have hne2 : K ≠ B2 := by omega
            clear hKK hb2lt
            obtain ⟨g0, g1, g2, g3, g4, g5, g6⟩ := HV.out.prim
            obtain ⟨f0, f1, f2, f3, f4, f5, f6⟩ := HV.out.frozen7
            rcases HC2.out with hc2 | hc2 | ⟨hc2, hc3⟩
            · subst hc2
              have i2 : ∀ W, (Instr.index 9 (.string t1) (.int .i64 2)).run Try.prog W = .ok (.int .u8 116) W := hix2
              clear hix2
              have HPC := Lib.hid (show (controlP j).cells = [.int .u32 (q : Int), .string t0, .int .i64 (d0 : Int), .int .i64 (d1 : Int), .int .i64 1, .bool true, .bool false] by rw [HPP.out, ← HT0.out]; rw [HQ.out]; rfl)
              have KU := Lib.hid (show Keeps [] wr ((V.setCell ⟨K, 4, none⟩ (.int .i64 1)).setCell ⟨K, 5, none⟩ (.bool true)) from ((KV.out.then (Keeps.setCell (S := [K]) _ (by simp) _) (fun x hx => .inr (by simp at hx; have := HKK.out; omega))).then (Keeps.setCell (S := [K]) _ (by simp) _) (fun x hx => .inr (by simp at hx; have := HKK.out; omega))))
              go_wp2_with (first
                | (at_builtin; refine wpList_append_prim rfl _ _ rfl B v (73 + j) (PRE ++ cellsP ((List.range j).map controlP)) rfl (World.ownsRow.keeps HO.out (KU.out.trans (Keeps.alloc [] _ _)) (fun _ _ => List.not_mem_nil)) (controlP j) _ rfl (by rw [HPC.out]; exact Whole.new_at _ 27 _ _ (by first | rfl | simp)) (by omega) (by have := HSV.out; have := KU.out.size; simp at this ⊢; omega) ?_; intro v2 V2 ho2 hk2; have HO2 := Lib.hid ho2; have KR := Lib.hid ((KU.out.trans (Keeps.alloc [] _ _)).mono (T := v.ownBlock.toList) (by simp) |>.trans hk2); clear ho2 hk2))
              go_roundw
              case rel =>
                exact ⟨⟨j + 1, _, rfl, by omega, by have := HI.out; go_num, by have := HO2.out; rw [List.range_succ]; simpa [cellsP, Nat.add_assoc] using this, HWL.out.keeps KR.out (own_apart HO.out HWL.out (by decide)), HK.out.then KR.out (fun g hg => .inr (by have := (HO.out.lt g (by simpa using hg)).1; have := HB.out; omega))⟩⟩
              case measure => simp [intOf]; omega
            · subst hc2
              have i2 : ∀ W, (Instr.index 9 (.string t1) (.int .i64 2)).run Try.prog W = .ok (.int .u8 112) W := hix2
              clear hix2
              have HPC := Lib.hid (show (controlP j).cells = [.int .u32 (q : Int), .string t0, .int .i64 (d0 : Int), .int .i64 (d1 : Int), .int .i64 1, .bool false, .bool true] by rw [HPP.out, ← HT0.out]; rw [HQ.out]; rfl)
              have KU := Lib.hid (show Keeps [] wr ((V.setCell ⟨K, 4, none⟩ (.int .i64 1)).setCell ⟨K, 6, none⟩ (.bool true)) from ((KV.out.then (Keeps.setCell (S := [K]) _ (by simp) _) (fun x hx => .inr (by simp at hx; have := HKK.out; omega))).then (Keeps.setCell (S := [K]) _ (by simp) _) (fun x hx => .inr (by simp at hx; have := HKK.out; omega))))
              go_wp2_with (first
                | (at_builtin; refine wpList_append_prim rfl _ _ rfl B v (73 + j) (PRE ++ cellsP ((List.range j).map controlP)) rfl (World.ownsRow.keeps HO.out (KU.out.trans (Keeps.alloc [] _ _)) (fun _ _ => List.not_mem_nil)) (controlP j) _ rfl (by rw [HPC.out]; exact Whole.new_at _ 27 _ _ (by first | rfl | simp)) (by omega) (by have := HSV.out; have := KU.out.size; simp at this ⊢; omega) ?_; intro v2 V2 ho2 hk2; have HO2 := Lib.hid ho2; have KR := Lib.hid ((KU.out.trans (Keeps.alloc [] _ _)).mono (T := v.ownBlock.toList) (by simp) |>.trans hk2); clear ho2 hk2))
              go_roundw
              case rel =>
                exact ⟨⟨j + 1, _, rfl, by omega, by have := HI.out; go_num, by have := HO2.out; rw [List.range_succ]; simpa [cellsP, Nat.add_assoc] using this, HWL.out.keeps KR.out (own_apart HO.out HWL.out (by decide)), HK.out.then KR.out (fun g hg => .inr (by have := (HO.out.lt g (by simpa using hg)).1; have := HB.out; omega))⟩⟩
              case measure => simp [intOf]; omega
            · have HDD := Lib.hid (HD2.out hc2)
              have n1 : c2 ≠ 116 := by rintro rfl; revert hc3; decide
              have n2 : c2 ≠ 112 := by rintro rfl; revert hc3; decide
              have hcN : c2.toNat ≤ 57 := hc3
              have q1 : ((c2.toNat : Int) == 116) = false := by simp; omega
              have q2 : ((c2.toNat : Int) == 112) = false := by simp; omega
              have b1 : (c2 == 116) = false := by simpa using n1
              have b2 : (c2 == 112) = false := by simpa using n2
              have HIF := Lib.hid (show (if c2 = 116 ∨ c2 = 112 then 1 else c2.toNat - 48) = c2.toNat - 48 from if_neg (fun h => by rcases h with h | h; exact n1 h; exact n2 h))
              have HBB := Lib.hid (And.intro b1 b2)
              unfold bv at hix2
              clear hc2 hc3 n1 n2 b1 b2
              have HPC := Lib.hid (show (controlP j).cells = [.int .u32 (q : Int), .string t0, .int .i64 (d0 : Int), .int .i64 (d1 : Int), .int .i64 ((c2.toNat - 48 : Nat) : Int), .bool false, .bool false] by rw [HPP.out, ← HT0.out]; rw [HQ.out, HIF.out, HBB.out.1, HBB.out.2]; rfl)
              have KU := Lib.hid (show Keeps [] wr (V.setCell ⟨K, 4, none⟩ (.int .i64 ((c2.toNat - 48 : Nat) : Int))) from (KV.out.then (Keeps.setCell (S := [K]) _ (by simp) _) (fun x hx => .inr (by simp at hx; have := HKK.out; omega))))
              go_wp2_with (first
                | (go_at_call 41; refine (HDD.out _).mono ?_; rintro e w5 ⟨rfl, rfl⟩)
                | (at_builtin; refine wpList_append_prim rfl _ _ rfl B v (73 + j) (PRE ++ cellsP ((List.range j).map controlP)) rfl (World.ownsRow.keeps HO.out (KU.out.trans (Keeps.alloc [] _ _)) (fun _ _ => List.not_mem_nil)) (controlP j) _ rfl (by rw [HPC.out]; exact Whole.new_at _ 27 _ _ (by first | rfl | simp)) (by omega) (by have := HSV.out; have := KU.out.size; simp at this ⊢; omega) ?_; intro v2 V2 ho2 hk2; have HO2 := Lib.hid ho2; have KR := Lib.hid ((KU.out.trans (Keeps.alloc [] _ _)).mono (T := v.ownBlock.toList) (by simp) |>.trans hk2); clear ho2 hk2))
              go_roundw
              case rel =>
                exact ⟨⟨j + 1, _, rfl, by omega, by have := HI.out; go_num, by have := HO2.out; rw [List.range_succ]; simpa [cellsP, Nat.add_assoc] using this, HWL.out.keeps KR.out (own_apart HO.out HWL.out (by decide)), HK.out.then KR.out (fun g hg => .inr (by have := (HO.out.lt g (by simpa using hg)).1; have := HB.out; omega))⟩⟩
              case measure => simp [intOf]; omega
        · obtain rfl : j = 40 := by omega
          have hlt' : ¬ (i : Int) < 80 := by have := HI.out; omega
          have HTD := Lib.hid (show w2.heap.size ≤ w2.heap.size by omega)
          have HEND := Lib.hid (show wr.ownsRow B 27 7 v 113 (cellsP tabL) by
            have h := HO.out
            rw [show PRE = cellsP ((List.range 73).map plainP) from HPRE.out] at h
            have e : cellsP ((List.range 73).map plainP) ++ cellsP ((List.range 40).map controlP) = cellsP tabL := by
              rw [tab_told]; simp [cellsP]
            rw [e] at h
            exact h)
          clear hown hwl hkr hrel hi hlt
          go_wp2
          go_ret
          exact ⟨_, rfl, by rw [HB.out]; exact HEND.out, HK.out⟩
end Go.Proofs.Ytfnjjanknfmibaa
