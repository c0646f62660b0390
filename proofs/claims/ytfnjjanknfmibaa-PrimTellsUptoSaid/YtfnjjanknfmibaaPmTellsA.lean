/-
  PrimTells: its walk.
-/
import Derived.Test.YtfnjjanknfmibaaPmRefH
import Derived.Test.YtfnjjanknfmibaaPmAw
namespace Go.Proofs.Ytfnjjanknfmibaa
open Go.RowKit Go.Deep
set_option linter.unusedVariables false

set_option maxRecDepth 100000 in
set_option maxHeartbeats 4000000 in
theorem PrimTells_any (w : World) (n : Nat) (nm : List UInt8) (vc : Value) (c : List (BitVec 32)) (M off : Nat) (hc : UReads w vc c M off) (hcm : c.length ≤ maxLen)
    (vl : Value) (l : List Wd) (hl : WordsIn w (fun k => k < w.heap.size) vl l) (hb : ∀ x ∈ l, x.code.length ≤ 2000000) (z : Int) :
    Calls Try.prog 3 #[.int .u32 (n : Int), str nm, vc, vl, .int .i64 z] w fun e w' => e = .returned (.bool true) ∧ Keeps [] w w' := by
  have HAW := Lib.hid awake11_any
  by_cases h4 : 400 < c.length
  · obtain ⟨ca, ccap, rfl, _⟩ := hc.shape
    have h4' : (400 : Int) < (c.length : Int) := by omega
    clear hc hl hb
    generalize c.length = cl at *
    go_enter Try.func3, Try.ntmps3
    go_wp2_with (go_at_call 9; refine (HAW.out _).mono ?_; rintro e w9 ⟨rfl, hk9⟩; have HK9 := Lib.hid hk9; clear hk9)
    go_ret
    exact ⟨rfl, HK9.out⟩
  by_cases h12 : 12 < l.length
  · obtain ⟨ca, ccap, rfl, _⟩ := hc.shape
    obtain ⟨la, lcap, rfl, _⟩ := hl.shape
    have h4' : ¬ (400 : Int) < (c.length : Int) := by omega
    have h12' : (12 : Int) < (l.length : Int) := by omega
    clear hc hl hb
    generalize c.length = cl at *
    generalize l.length = ll at *
    go_enter Try.func3, Try.ntmps3
    go_wp2_with (go_at_call 9; refine (HAW.out _).mono ?_; rintro e w9 ⟨rfl, hk9⟩; have HK9 := Lib.hid hk9; clear hk9)
    go_ret
    exact ⟨rfl, HK9.out⟩
  have HG1 := Lib.hid (fun W => Get_any W n)
  have HG2 := Lib.hid (fun W => r11Get_any W n)
  have HN1 := Lib.hid (fun W => Named_any W nm)
  have HN2 := Lib.hid (fun W => r11Named_any W nm)
  have HL1 := Lib.hid (fun W (hk : Keeps [] w W) => Long_any W vc c M off (hc.keeps hk (by simp)) hcm z)
  have HL2 := Lib.hid (fun W (hk : Keeps [] w W) => r11Long_any W vc c M off (hc.keeps hk (by simp)) hcm z)
  have HC1 := Lib.hid (fun W (hk : Keeps [] w W) => Check_any W vl l ((hl.next hk).imp (fun k _ h => Nat.lt_of_lt_of_le h hk.size)) (by omega) _ rfl)
  have HC2 := Lib.hid (fun W (hk : Keeps [] w W) => r11Check_any W _ vl l (hl.next hk) (by omega) hb _ rfl)
  have HS1 := Lib.hid (fun W (hk : Keeps [] w W) => Starts_any W vc c M off (hc.keeps hk (by simp)) (by omega))
  have HS2 := Lib.hid (fun W (hk : Keeps [] w W) => r11Starts_any W vc c M off (hc.keeps hk (by simp)) (by omega))
  have HA1 := Lib.hid All_any
  have HA2 := Lib.hid r11All_any
  have HSL := Lib.hid (show (startsD c).length ≤ 4000000 by
    unfold startsD
    cases hs : startsC c with
    | none => simp
    | some s => have := went_length (starts_went hs); simp; omega)
  rw [pmv_lit] at HG1 HG2 HN1 HN2
  obtain ⟨ca, ccap, rfl, _⟩ := hc.shape
  obtain ⟨la, lcap, rfl, _⟩ := hl.shape
  have h4' : ¬ (400 : Int) < (c.length : Int) := by omega
  have h12' : ¬ (12 : Int) < (l.length : Int) := by omega
  clear hc hl hb
  have hq1 := fun W => prim_neq_self W ((pOf (getP n)).num : Int) ((pOf (getP n)).takes : Int) ((pOf (getP n)).gives : Int) ((pOf (getP n)).ops : Int) ⟨(pOf (getP n)).name.toArray⟩ (pOf (getP n)).text (pOf (getP n)).jump
  have hq2 := fun W => prim_neq_self W ((pOf (namedP nm)).num : Int) ((pOf (namedP nm)).takes : Int) ((pOf (namedP nm)).gives : Int) ((pOf (namedP nm)).ops : Int) ⟨(pOf (namedP nm)).name.toArray⟩ (pOf (namedP nm)).text (pOf (namedP nm)).jump
  generalize ((pOf (getP n)).num : Int) = pn at *
  generalize ((pOf (getP n)).takes : Int) = pt at *
  generalize ((pOf (getP n)).gives : Int) = pg at *
  generalize ((pOf (getP n)).ops : Int) = po at *
  generalize ByteArray.mk (pOf (getP n)).name.toArray = ps at *
  generalize (pOf (getP n)).text = px at *
  generalize (pOf (getP n)).jump = pj at *
  generalize (getP n).isSome = pk at *
  generalize ((pOf (namedP nm)).num : Int) = rn at *
  generalize ((pOf (namedP nm)).takes : Int) = rt at *
  generalize ((pOf (namedP nm)).gives : Int) = rg at *
  generalize ((pOf (namedP nm)).ops : Int) = ro at *
  generalize ByteArray.mk (pOf (namedP nm)).name.toArray = rs at *
  generalize (pOf (namedP nm)).text = rx at *
  generalize (pOf (namedP nm)).jump = rj at *
  generalize (namedP nm).isSome = rk at *
  generalize (longAt c z : Int) = lg at *
  generalize checkL l = ck at *
  have HWH := Lib.hid (show ∀ (w0 : World) (w' : World) (v' : Value) (q : Bool), startsV w' w0.heap.size c v' q → Ints w' w0.heap.size v' (startsD c) ∧ q = (startsC c).isSome from fun w0 w' v' q hs => startsV_ints hs)
  generalize (startsC c).isSome = wh at *
  unfold str at *
  generalize ByteArray.mk nm.toArray = nmv at *
  generalize c.length = cl at *
  generalize l.length = ll at *
  go_enter Try.func3, Try.ntmps3
  go_upto_region 4 with (go_at_call 10; refine (HG1.out _).mono ?_; rintro e w1 ⟨rfl, hk1⟩; have K1 := Lib.hid hk1; clear hk1)
  generalize hV : World.alloc w1 _ = V1
  have W1 := Lib.hid (show Whole V1 w1.heap.size 27 [.int .u32 pn, .string ps, .int .i64 pt, .int .i64 pg, .int .i64 po, .bool px, .bool pj] by rw [← hV]; exact Whole.new w1 27 _)
  have KV1 := Lib.hid (show Keeps [] w V1 by rw [← hV]; exact K1.out.trans (Keeps.alloc [] _ _))
  clear hV
  generalize w1.heap.size = B1 at *
  go_upto_region 5 with (go_at_call 11; refine (HG2.out _).mono ?_; rintro e w2 ⟨rfl, hk2⟩; have K2 := Lib.hid hk2; clear hk2)
  generalize hV : World.alloc w2 _ = V2
  have W2 := Lib.hid (show Whole V2 w2.heap.size 27 [.int .u32 pn, .string ps, .int .i64 pt, .int .i64 pg, .int .i64 po, .bool px, .bool pj] by rw [← hV]; exact Whole.new w2 27 _)
  have KV2 := Lib.hid (show Keeps [] V1 V2 by rw [← hV]; exact K2.out.trans (Keeps.alloc [] _ _))
  clear hV
  generalize w2.heap.size = B2 at *
  go_upto_region 6 with (go_at_call 12; refine (HN1.out _).mono ?_; rintro e w3 ⟨rfl, hk3⟩; have K3 := Lib.hid hk3; clear hk3)
  generalize hV : World.alloc w3 _ = V3
  have W3 := Lib.hid (show Whole V3 w3.heap.size 27 [.int .u32 rn, .string rs, .int .i64 rt, .int .i64 rg, .int .i64 ro, .bool rx, .bool rj] by rw [← hV]; exact Whole.new w3 27 _)
  have KV3 := Lib.hid (show Keeps [] V2 V3 by rw [← hV]; exact K3.out.trans (Keeps.alloc [] _ _))
  clear hV
  generalize w3.heap.size = B3 at *
  go_upto_region 7 with (go_at_call 13; refine (HN2.out _).mono ?_; rintro e w4 ⟨rfl, hk4⟩; have K4 := Lib.hid hk4; clear hk4)
  generalize hV : World.alloc w4 _ = V4
  have W4 := Lib.hid (show Whole V4 w4.heap.size 27 [.int .u32 rn, .string rs, .int .i64 rt, .int .i64 rg, .int .i64 ro, .bool rx, .bool rj] by rw [← hV]; exact Whole.new w4 27 _)
  have KV4 := Lib.hid (show Keeps [] V3 V4 by rw [← hV]; exact K4.out.trans (Keeps.alloc [] _ _))
  clear hV
  generalize w4.heap.size = B4 at *
  obtain ⟨c0, c1, c2, c3, c4, c5, c6⟩ := (W1.out.keeps ((KV2.out.trans KV3.out).trans KV4.out) (by simp)).prim
  obtain ⟨d0, d1, d2, d3, d4, d5, d6⟩ := (W2.out.keeps (KV3.out.trans KV4.out) (by simp)).prim
  obtain ⟨e0, e1, e2, e3, e4, e5, e6⟩ := (W3.out.keeps KV4.out (by simp)).prim
  obtain ⟨g0, g1, g2, g3, g4, g5, g6⟩ := W4.out.prim
  have KW4 := Lib.hid (((KV1.out.trans KV2.out).trans KV3.out).trans KV4.out)
  clear W1 W2 W3 W4 KV1 KV2 KV3 KV4 K1 K2 K3 K4 HG1 HG2 HN1 HN2
  go_upto_region 9 with (first
    | (go_at_call 14; refine (HL1.out _ KW4.out).mono ?_; rintro e w5 ⟨rfl, hk5⟩; have K5 := Lib.hid (KW4.out.trans hk5); clear hk5)
    | (go_at_call 15; refine (HL2.out _ K5.out).mono ?_; rintro e w6 ⟨rfl, hk6⟩; have K6 := Lib.hid (K5.out.trans hk6); clear hk6)
    | (go_at_call 16; refine (HC1.out _ K6.out).mono ?_; rintro e w7 ⟨rfl, hk7⟩; have K7 := Lib.hid (K6.out.trans hk7); clear hk7)
    | (go_at_call 17; refine (HC2.out _ K7.out).mono ?_; rintro e w8 ⟨rfl, hk8⟩; have K8 := Lib.hid (K7.out.trans hk8); clear hk8))
  clear c0 c1 c2 c3 c4 c5 c6 d0 d1 d2 d3 d4 d5 d6 e0 e1 e2 e3 e4 e5 e6 g0 g1 g2 g3 g4 g5 g6 hq1 hq2 K5 K6 K7 KW4 HL1 HL2 HC1 HC2
  go_upto_region 10 with (go_at_call 18; refine (HS1.out _ K8.out).mono ?_; rintro e w9 ⟨v9, q9, rfl, hs9, hk9⟩; have HI9 := Lib.hid (HWH.out _ _ _ _ hs9); have K9 := Lib.hid (K8.out.trans hk9); clear hs9 hk9)
  obtain rfl : q9 = wh := HI9.out.2
  go_upto_region 11 with (go_at_call 19; refine (HS2.out _ K9.out).mono ?_; rintro e w10 ⟨v10, q10, rfl, hs10, hk10⟩; have HI10 := Lib.hid (HWH.out _ _ _ _ hs10); have K10 := Lib.hid hk10; clear hs10 hk10)
  obtain rfl : q10 = q9 := HI10.out.2
  go_upto_region 12 with (first
    | (go_at_call 20; refine (HA1.out _).mono ?_; rintro e w11 ⟨bA, rfl, hbA, hwA, hk11⟩; have HWA := Lib.hid hwA; have K11 := Lib.hid hk11; clear hbA hwA hk11)
    | (go_at_call 21; refine (HA2.out _).mono ?_; rintro e w12 ⟨vB, rfl, hoB, hk12⟩; have HOB := Lib.hid hoB; have K12 := Lib.hid hk12; clear hoB hk12))
  obtain ⟨bB, capB, rfl, hB, hT⟩ := own_tab HOB.out
  have HTB := Lib.hid hT
  have HTA := Lib.hid (HWA.out.tab.keeps K12.out (by simp))
  obtain ⟨M9, r9, _⟩ := (HI9.out.1.next ((K10.out.trans K11.out).trans K12.out)).reads
  obtain ⟨M10, r10, _⟩ := (HI10.out.1.next (K11.out.trans K12.out)).reads
  have HIN := Lib.hid (show Calls Try.prog 22 #[v9, v10] w12 fun e w' => e = .returned (.bool true) ∧ Keeps [] w12 w' from by
    have := ints_any w12 v9 v10 _ _ _ _ r9 r10 HSL.out
    simpa using this)
  have KW := Lib.hid (((K9.out.trans K10.out).trans K11.out).trans K12.out)
  clear hB hT r9 r10 HI9 HI10 HOB HWA HWH HS1 HS2 HA1 HA2 K8 K9 K10 K11 K12 HSL
  go_wp2_with (go_at_call 22; refine HIN.out.mono ?_; rintro e w13 ⟨rfl, hk13⟩; have K13 := Lib.hid hk13; clear hk13)
  go_loopw [119] (fun x wr => ∃ k : Nat, k ≤ 113 ∧ x = .int .i64 (k : Int) ∧ Hid (Keeps [] w12 wr)) (fun x _ => 113 - (intOf x).toNat)
  case atStart => exact ⟨0, by omega, rfl, K13.out⟩
  case round =>
    obtain ⟨k, hk, rfl, HKR⟩ := hrel
    by_cases hlt : k < 113
    · have hlt' : (k : Int) < 113 := by omega
      obtain ⟨c0, c1, c2, c3, c4, c5, c6⟩ := (HTA.out.keeps HKR.out (by simp)).prim hlt
      obtain ⟨d0, d1, d2, d3, d4, d5, d6⟩ := (HTB.out.keeps HKR.out (by simp)).prim hlt
      have y6 : bA < wr.heap.size := (HTA.out.keeps HKR.out (by simp)).lt
      have y7 : bB < wr.heap.size := (HTB.out.keeps HKR.out (by simp)).lt
      have hneq := fun W => prim_neq_self W ((primI k).num : Int) ((primI k).takes : Int) ((primI k).gives : Int) ((primI k).ops : Int) ⟨(primI k).name.toArray⟩ (primI k).text (primI k).jump
      unfold str at c1 d1
      generalize ((primI k).num : Int) = a at *
      generalize ByteArray.mk (primI k).name.toArray = st at *
      generalize ((primI k).takes : Int) = t at *
      generalize ((primI k).gives : Int) = g at *
      generalize ((primI k).ops : Int) = o at *
      generalize (primI k).text = tx at *
      generalize (primI k).jump = jp at *
      go_wp2_with (go_quiet (fail))
      go_roundw
      case rel => exact ⟨k + 1, by omega, by go_num, HKR.out.trans (Keeps.drewN _ _ _)⟩
      case measure => simp [intOf]; omega
    · obtain rfl : k = 113 := by omega
      clear hlt
      go_wp2_with (go_at_call 9; refine (HAW.out _).mono ?_; rintro e w14 ⟨rfl, hk14⟩; have HK14 := Lib.hid hk14; clear hk14)
      go_ret
      exact ⟨rfl, (KW.out.trans HKR.out).trans HK14.out⟩
end Go.Proofs.Ytfnjjanknfmibaa
