/-
  The document's Get and Named. Written by draft/genpr.py.
-/
import Derived.Test.YtfnjjanknfmibaaPmRefC
import Derived.Test.YtfnjjanknfmibaaPmNamed
import Derived.Laws.OwnMore
namespace Go.Proofs.Ytfnjjanknfmibaa
open Go.RowKit Go.Deep
set_option linter.unusedVariables false

theorem own_tab {w : World} {base : Nat} {v : Value} (h : w.ownsRow base 27 7 v 113 (cellsP tabL)) : ∃ g cap, v = .slice (some ⟨g, 0, none⟩) 113 cap ∧ base ≤ g ∧ TabAt w g := by
  rcases h.2 with ⟨_, h0⟩ | ⟨g, cap, cur, rfl, hb, _⟩
  · exact absurd h0 (by decide)
  · refine ⟨g, cap, rfl, hb, fun k u hk => ?_⟩
    have hl : k < 791 := by
      have := (List.getElem?_eq_some_iff.1 hk).1
      rw [cellsP_length, tabL_length] at this
      exact this
    rw [h.cellAt k (by omega), hk]

set_option maxRecDepth 100000 in
set_option maxHeartbeats 4000000 in
theorem r11Get_any (w : World) (n : Nat) : Calls Try.prog 11 #[.int .u32 (n : Int)] w fun e w' => e = .returned (.tuple #[pmv (pOf (getP n)), .bool (getP n).isSome]) ∧ Keeps [] w w' := by
  have HALL := Lib.hid r11All_any
  have HZ := Lib.hid fun W (hk : Keeps [] (w.alloc (.cells zeroP.toArray 27)) W) => Whole.keeps (Whole.new w 27 zeroP) hk (by simp)
  have HY := Lib.hid fun (k : Nat) (hk : k < 113) (h : (primI k).num = n) => show getP n = some (primI k) from by rw [← h]; exact getP_at hk
  have HN := Lib.hid (getP_none (n := n))
  generalize hpo : getP n = po at *
  clear hpo
  go_enter Try.func11, Try.ntmps11
  go_wp2_with (go_at_call 21; refine (HALL.out _).mono ?_; rintro e w3 ⟨v, rfl, ho, hk3⟩; have HO := Lib.hid ho; have HK3 := Lib.hid hk3; clear ho hk3)
  obtain ⟨B, cap, rfl, hB, hT⟩ := own_tab HO.out
  have HT := Lib.hid hT
  have HB := Lib.hid hB
  clear hT hB
  go_loopw [5] (fun i wr => ∃ k : Nat, k ≤ 113 ∧ i = .int .i64 (k : Int) ∧ Hid (∀ j, j < k → (primI j).num ≠ n) ∧ Hid (Keeps [] w3 wr)) (fun i _ => 113 - (intOf i).toNat)
  case atStart => exact ⟨0, by omega, rfl, fun j hj => by omega, Keeps.refl _ _⟩
  case round =>
    obtain ⟨k, hk, rfl, HNO, HKR⟩ := hrel
    by_cases hlt : k < 113
    · have hlt' : (k : Int) < 113 := by omega
      obtain ⟨d0, d1, d2, d3, d4, d5, d6⟩ := (HT.out.keeps HKR.out (by simp)).prim hlt
      have HV := Lib.hid (pmv_lit (primI k))
      by_cases hq : (primI k).num = n
      rotate_left
      · have q : (((primI k).num : Int) == (n : Int)) = false := by simp; omega
        have q2 : (((primI k).num : Nat) == n) = false := by simp; omega
        have HQ := Lib.hid hq
        clear hq
        unfold str at d1
        have y7 : B < wr.heap.size := (HT.out.keeps HKR.out (by simp)).lt

        generalize ((primI k).num : Int) = a at *
        generalize ByteArray.mk (primI k).name.toArray = st at *
        generalize ((primI k).takes : Int) = t at *
        generalize ((primI k).gives : Int) = g at *
        generalize ((primI k).ops : Int) = o at *
        generalize (primI k).text = tx at *
        generalize (primI k).jump = jp at *
        go_wp2
        go_roundw
        case rel => exact ⟨k + 1, by omega, by go_num, (fun j hj => by
          by_cases he : j = k
          · subst he; exact HQ.out
          · exact HNO.out j (by omega)), HKR.out⟩
        case measure => simp [intOf]; omega
      · have HPO := Lib.hid (HY.out k hlt hq)
        subst hq
        unfold str at d1
        have hw5 := HZ.out wr (HK3.out.trans HKR.out)
        have HW5 := Lib.hid hw5
        obtain ⟨c0, c1, c2, c3, c4, c5, c6⟩ := hw5.prim
        obtain ⟨f0, f1, f2, f3, f4, f5, f6⟩ := hw5.frozen7
        clear hw5

        generalize ((primI k).num : Int) = a at *
        generalize ByteArray.mk (primI k).name.toArray = st at *
        generalize ((primI k).takes : Int) = t at *
        generalize ((primI k).gives : Int) = g at *
        generalize ((primI k).ops : Int) = o at *
        generalize (primI k).text = tx at *
        generalize (primI k).jump = jp at *
        go_wp2
        have hs7 := set7_whole HW5.out rfl a t g o st tx jp
        change bodyPost _ _ _ _ _ (set7 (wr) w.heap.size a t g o st tx jp)
        generalize set7 (wr) w.heap.size a t g o st tx jp = V at *
        obtain ⟨g0, g1, g2, g3, g4, g5, g6⟩ := hs7.1.prim
        refine bodyPost_ret (v := .tuple #[.agg #[.int .u32 a, .string st, .int .i64 t, .int .i64 g, .int .i64 o, .bool tx, .bool jp], .bool true]) (by simp [results, Try.results11, go_sem, g0, g1, g2, g3, g4, g5, g6]) rfl ⟨by rw [HPO.out]; exact congrArg Ending.returned (congrArg Value.tuple (by rw [pOf, Option.getD_some, HV.out]; rfl)), (((Keeps.alloc [] w _).trans HK3.out).trans (HKR.out)).then hs7.2 (fun x hx => .inr (by simp at hx; omega))⟩
    · obtain rfl : k = 113 := by omega
      have HPO := Lib.hid (HN.out (fun i hi => HNO.out i hi))
      have hw5 := HZ.out wr (HK3.out.trans HKR.out)
      have HW5 := Lib.hid hw5
      obtain ⟨c0, c1, c2, c3, c4, c5, c6⟩ := hw5.prim
      obtain ⟨f0, f1, f2, f3, f4, f5, f6⟩ := hw5.frozen7
      clear hw5 hlt
      go_wp2
      have hs7 := set7_whole HW5.out rfl 0 0 0 0 ⟨#[]⟩ false false
      change bodyPost _ _ _ _ _ (set7 wr w.heap.size 0 0 0 0 ⟨#[]⟩ false false)
      generalize set7 wr w.heap.size 0 0 0 0 ⟨#[]⟩ false false = V at *
      obtain ⟨g0, g1, g2, g3, g4, g5, g6⟩ := hs7.1.prim
      refine bodyPost_ret (v := .tuple #[.agg #[.int .u32 0, .string ⟨#[]⟩, .int .i64 0, .int .i64 0, .int .i64 0, .bool false, .bool false], .bool false]) (by simp [results, Try.results11, go_sem, g0, g1, g2, g3, g4, g5, g6]) rfl ⟨by rw [HPO.out]; rfl, (((Keeps.alloc [] w _).trans HK3.out).trans HKR.out).then hs7.2 (fun x hx => .inr (by simp at hx; omega))⟩

set_option maxRecDepth 100000 in
set_option maxHeartbeats 4000000 in
theorem r11Named_any (w : World) (nm : List UInt8) : Calls Try.prog 13 #[str nm] w fun e w' => e = .returned (.tuple #[pmv (pOf (namedP nm)), .bool (namedP nm).isSome]) ∧ Keeps [] w w' := by
  have HALL := Lib.hid r11All_any
  have HZ := Lib.hid fun W (hk : Keeps [] (w.alloc (.cells zeroP.toArray 27)) W) => Whole.keeps (Whole.new w 27 zeroP) hk (by simp)
  have HY := Lib.hid fun i h1 h2 h3 => namedP_at (nm := nm) (i := i) h1 h2 h3
  have HN := Lib.hid fun h1 => namedP_none (nm := nm) h1
  have HA := Lib.hid fun (w : World) (i : Nat) (h : i < 113) => r10Alike_any w (primI i).name nm (name_len i h)
  generalize hpo : namedP nm = po at *
  clear hpo
  unfold str at *
  generalize ByteArray.mk nm.toArray = sn at *
  go_enter Try.func13, Try.ntmps13
  go_wp2_with (go_at_call 21; refine (HALL.out _).mono ?_; rintro e w3 ⟨v, rfl, ho, hk3⟩; have HO := Lib.hid ho; have HK3 := Lib.hid hk3; clear ho hk3)
  obtain ⟨B, cap, rfl, hB, hT⟩ := own_tab HO.out
  have HT := Lib.hid hT
  have HB := Lib.hid hB
  clear hT hB
  go_loopw [5] (fun i wr => ∃ k : Nat, k ≤ 113 ∧ i = .int .i64 (k : Int) ∧ Hid (∀ j, j < k → alikeB (primI j).name nm = false) ∧ Hid (Keeps [] w3 wr)) (fun i _ => 113 - (intOf i).toNat)
  case atStart => exact ⟨0, by omega, rfl, fun j hj => by omega, Keeps.refl _ _⟩
  case round =>
    obtain ⟨k, hk, rfl, HNO, HKR⟩ := hrel
    by_cases hlt : k < 113
    · have hlt' : (k : Int) < 113 := by omega
      obtain ⟨d0, d1, d2, d3, d4, d5, d6⟩ := (HT.out.keeps HKR.out (by simp)).prim hlt
      have HV := Lib.hid (pmv_lit (primI k))
      have ha := Lib.hid fun W => HA.out W k hlt
      have HYk := Lib.hid fun h => HY.out k hlt h HNO.out
      unfold str at d1
      have y7 : B < wr.heap.size := (HT.out.keeps HKR.out (by simp)).lt
      cases hq : alikeB (primI k).name nm with
      | false =>
        rw [hq] at ha
        have HQ := Lib.hid hq
        clear hq

        generalize ((primI k).num : Int) = a at *
        generalize ByteArray.mk (primI k).name.toArray = st at *
        generalize ((primI k).takes : Int) = t at *
        generalize ((primI k).gives : Int) = g at *
        generalize ((primI k).ops : Int) = o at *
        generalize (primI k).text = tx at *
        generalize (primI k).jump = jp at *
        go_wp2_with (go_at_call 35; refine (ha.out _).mono ?_; rintro e w4 ⟨rfl, m4, rfl⟩)
        go_roundw
        case rel => exact ⟨k + 1, by omega, by go_num, (fun j hj => by
          by_cases he : j = k
          · subst he; exact HQ.out
          · exact HNO.out j (by omega)), HKR.out.trans (Keeps.drewN [] _ _)⟩
        case measure => simp [intOf]; omega
      | true =>
        rw [hq] at ha
        have HPO := Lib.hid (HYk.out hq)
        clear hq

        generalize ((primI k).num : Int) = a at *
        generalize ByteArray.mk (primI k).name.toArray = st at *
        generalize ((primI k).takes : Int) = t at *
        generalize ((primI k).gives : Int) = g at *
        generalize ((primI k).ops : Int) = o at *
        generalize (primI k).text = tx at *
        generalize (primI k).jump = jp at *
        go_wp2_with (go_at_call 35; refine (ha.out _).mono ?_; rintro e w4 ⟨rfl, m4, rfl⟩; have hw5 := HZ.out _ ((HK3.out.trans HKR.out).trans (Keeps.drewN [] _ m4)); have HW5 := Lib.hid hw5; obtain ⟨c0, c1, c2, c3, c4, c5, c6⟩ := hw5.prim; obtain ⟨f0, f1, f2, f3, f4, f5, f6⟩ := hw5.frozen7; clear hw5)
        have hs7 := set7_whole HW5.out rfl a t g o st tx jp
        change bodyPost _ _ _ _ _ (set7 (wr.drewN m4) w.heap.size a t g o st tx jp)
        generalize set7 (wr.drewN m4) w.heap.size a t g o st tx jp = V at *
        obtain ⟨g0, g1, g2, g3, g4, g5, g6⟩ := hs7.1.prim
        refine bodyPost_ret (v := .tuple #[.agg #[.int .u32 a, .string st, .int .i64 t, .int .i64 g, .int .i64 o, .bool tx, .bool jp], .bool true]) (by simp [results, Try.results13, go_sem, g0, g1, g2, g3, g4, g5, g6]) rfl ⟨by rw [HPO.out]; exact congrArg Ending.returned (congrArg Value.tuple (by rw [pOf, Option.getD_some, HV.out]; rfl)), (((Keeps.alloc [] w _).trans HK3.out).trans (HKR.out.trans (Keeps.drewN [] _ m4))).then hs7.2 (fun x hx => .inr (by simp at hx; omega))⟩
    · obtain rfl : k = 113 := by omega
      have HPO := Lib.hid (HN.out (fun i hi => HNO.out i hi))
      have hw5 := HZ.out wr (HK3.out.trans HKR.out)
      have HW5 := Lib.hid hw5
      obtain ⟨c0, c1, c2, c3, c4, c5, c6⟩ := hw5.prim
      obtain ⟨f0, f1, f2, f3, f4, f5, f6⟩ := hw5.frozen7
      clear hw5 hlt
      go_wp2
      have hs7 := set7_whole HW5.out rfl 0 0 0 0 ⟨#[]⟩ false false
      change bodyPost _ _ _ _ _ (set7 wr w.heap.size 0 0 0 0 ⟨#[]⟩ false false)
      generalize set7 wr w.heap.size 0 0 0 0 ⟨#[]⟩ false false = V at *
      obtain ⟨g0, g1, g2, g3, g4, g5, g6⟩ := hs7.1.prim
      refine bodyPost_ret (v := .tuple #[.agg #[.int .u32 0, .string ⟨#[]⟩, .int .i64 0, .int .i64 0, .int .i64 0, .bool false, .bool false], .bool false]) (by simp [results, Try.results13, go_sem, g0, g1, g2, g3, g4, g5, g6]) rfl ⟨by rw [HPO.out]; rfl, (((Keeps.alloc [] w _).trans HK3.out).trans HKR.out).then hs7.2 (fun x hx => .inr (by simp at hx; omega))⟩

end Go.Proofs.Ytfnjjanknfmibaa
