/-
  CfgQuiet, walked.
-/
import Derived.Test.YtcmjecnbmdhjlaaGreatCfgAre
namespace Go.Proofs.YtcmjecnbmdhjlaaGreat
open Go.RowKit Go.Deep

theorem Cfg.wear_in {N first n k i t : Nat} {es : List Ent} {s : FS} (h : Cfg N first n k i t es s) (ht : t ≤ 1000000) (q : Nat) : 0 ≤ s.wearOf q ∧ s.wearOf q ≤ 1000000 := by
  by_cases hq : q < s.wear.length
  · rw [wearOf_nat s q hq, List.getD_eq_getElem?_getD, List.getElem?_eq_getElem hq]
    have := h.wears _ (List.getElem_mem hq)
    simp only [Option.getD_some]
    omega
  · unfold FS.wearOf
    rw [if_neg (by omega)]
    omega

theorem All_is {F B W N first n k i t m : Nat} {es : List Ent} {s : FS} (w : World) (hF : FlashE w F B W s) (hc : Cfg N first n k i t es s) (hm : m = es.length) :
    Calls Tryz.prog 17 #[.pointer (some ⟨F, 0, none⟩), .agg #[.int .i64 first, .int .i64 n]] w fun e w' => ∃ ao cp, e = .returned (.tuple #[.slice ao m cp, .int .i64 0]) ∧ EntsAt 0 w' (.slice ao m cp) es ∧ m ≤ cp ∧ Keeps [] w w' := by
  refine (All_ok w hF hc).mono ?_
  rintro e w' ⟨v, rfl, he, k⟩
  obtain ⟨ao, cp, rfl, hcp⟩ := he.shape
  rw [← hm] at hcp he ⊢
  exact ⟨ao, cp, rfl, he.mono (Nat.zero_le _), hcp, k⟩

theorem ringS {w : World} {b : Nat} (h : Whole w b 25 [.int .i64 1, .int .i64 3]) : w.cell? ⟨b, 0, none⟩ = some (.int .i64 1) ∧ w.cell? ⟨b, 1, none⟩ = some (.int .i64 3) := ⟨(h.cell 0).trans rfl, (h.cell 1).trans rfl⟩

theorem Good.weight {es : List Ent} (h : Good es) {e : Ent} (he : e ∈ es) : weightL e.1 e.2 ≠ 0 := by
  rw [weightL_ok (k := e.1) (v := e.2) (h.ok e he)]
  have := wE_pos e
  show wE e ≠ 0
  omega

set_option maxRecDepth 100000 in
set_option maxHeartbeats 4000000 in
theorem CfgQuiet_any (w : World) (lv kv : Value) (n0 : Nat) (hl : Ops6 w w.heap.size lv n0) (ky : List UInt8) (Mk : Nat) (hk : Reads w kv ky Mk) (hkl : ky.length ≤ maxLen) (hkb : ky ≠ [] → Mk < w.heap.size) :
    Calls Tryz.prog 7 #[lv, kv] w fun e w' => e = .returned (.bool true) ∧ Keeps [] w w' := by
  obtain ⟨ao, cap, rfl, hn⟩ := hl.shape
  have HL := Lib.hid hl
  have HK := Lib.hid hk
  have HKB := Lib.hid hkb
  have HBG := Lib.hid (fun U => begun6_ok U 1 3 (by omega) (by omega))
  clear hl hk hkb
  go_enter Tryz.func7, Tryz.ntmps7
  go_upto_region 2 with (fail)
  generalize hV : World.alloc w _ = V
  have kV : Keeps [] w V := by rw [← hV]; exact Keeps.alloc [] _ _
  have wV : Whole V w.heap.size 25 [.int .i64 1, .int .i64 3] := by rw [← hV]; exact Whole.new w 25 [_, _]
  have v0 := (wV.cell 0).trans (show _ = some (Value.int .i64 1) from rfl)
  have v1 := (wV.cell 1).trans (show _ = some (Value.int .i64 3) from rfl)
  have KV := Lib.hid kV
  have WV := Lib.hid wV
  have hRV := wV.lt
  clear hV kV wV
  go_upto_region 3 with (go_at_call 9; refine (HBG.out _).mono ?_; rintro e w1 ⟨F, B, W, s0, rfl, f1, f2, f3, hF1, ha1, hc1, k1⟩; have HF1 := Lib.hid hF1; have HC1 := Lib.hid hc1; have HA1 := Lib.hid ha1; have W1 := Lib.hid (WV.out.keeps k1 (by simp)); have K1 := Lib.hid (KV.out.trans k1); clear hF1 hc1 ha1 k1)
  clear v0 v1
  have f4 : w.heap.size < F ∧ w.heap.size < B ∧ w.heap.size < W := by omega
  clear f1 f2 f3
  go_wp2
  go_loopw [8] (fun ix wr => ∃ (j : Nat) (s : FS) (k i : Nat) (es : List Ent), j ≤ n0 ∧ j ≤ 30 ∧ ix = .int .i64 j ∧ i ≤ j + 1 ∧ Hid (FlashE wr F B W s) ∧ Hid (Cfg 16 1 3 k i j es s) ∧ Hid (s.armed = false) ∧ Hid (Whole wr w.heap.size 25 [.int .i64 1, .int .i64 3]) ∧ Hid (Keeps [] w wr)) (fun ix _ => 30 - (intOf ix).toNat)
  case atStart => exact ⟨0, s0, 1, 1, [], by omega, by omega, rfl, by omega, HF1, HC1, HA1, W1, K1⟩
  case round =>
    obtain ⟨j, s, k, i, es, hjn, hj30, rfl, hij, HF, HC, HA, WR, HKW⟩ := hrel
    clear HF1 HC1 HA1 W1 K1 WV KV HBG
    have r0 := (WR.out.cell 0).trans (show _ = some (Value.int .i64 1) from rfl)
    have r1 := (WR.out.cell 1).trans (show _ = some (Value.int .i64 3) from rfl)
    by_cases hlt : j < n0 ∧ j < 30
    · obtain ⟨h1, h2⟩ := hlt
      have hji : (j : Int) < (n0 : Int) := by omega
      have hj3 : (j : Int) < 30 := by omega
      obtain ⟨b, off, rfl, hops⟩ := HL.out.spot (by omega)
      obtain ⟨d, ar, kv1, vv1, mv1, ky1, vl1, ml1, Mk1, Mv1, Mm1, hop⟩ := hops j h1
      obtain ⟨hd1, _, hk1, hv1, _, rk1, bk1, rv1, bv1, _, _, _, c0, c1, c2, c3, c4⟩ := hop.keeps HKW.out (by simp)
      have hsz := HKW.out.size
      simp only [Addr.add_off, ← Nat.add_assoc] at c0 c1 c2 c3 c4
      obtain ⟨s', k', i', q1, q2, q3, q4⟩ := HC.out.op_whole HA.out (by omega) d ky1 vl1
      have HCH := Lib.hid (fun U (hU : Keeps [] wr U) => by
        have h := changed6_any U (HF.out.keeps hU (by simp) (by simp) (by simp) (by simp)) HC.out (by omega) (by omega) d ar hd1 kv1 vv1 mv1 ky1 vl1 ((BytesAt.of rk1 bk1 hsz).keeps hU (by simp)) ((BytesAt.of rv1 bv1 hsz).keeps hU (by simp))
        rw [q1] at h
        exact h)
      have HC2 := Lib.hid q3
      have HA2 := Lib.hid q2
      generalize (opE es d ky1 vl1).2 = er at *
      generalize (opE es d ky1 vl1).1 = es' at *
      clear q1 q2 q3 hop hops
      go_wp2
      refine wp_region_tail 6 (by kernel_rfl) (by kernel_rfl) ?_
      intro wz hwz
      have kz : Keeps [] wr wz := by rw [hwz]; exact Keeps.drew _ _
      have c0 := kz.cell c0 (by simp)
      have c1 := kz.cell c1 (by simp)
      have c2 := kz.cell c2 (by simp)
      have c3 := kz.cell c3 (by simp)
      have c4 := kz.cell c4 (by simp)
      have r0 := kz.cell r0 (by simp)
      have r1 := kz.cell r1 (by simp)
      have WZ := Lib.hid (WR.out.keeps kz (by simp))
      have HCZ := Lib.hid (HCH.out wz kz)
      have KZ := Lib.hid (HKW.out.trans kz)
      clear kz hwz rk1 bk1 rv1 bv1 HCH
      simp only [List.take_succ_cons, List.take_zero, List.drop_succ_cons, List.drop_zero]
      repeat still_step
      refine wpStill_nil ?_
      go_wp2_with (go_at_call 13; refine HCZ.out.mono ?_; rintro e w2 ⟨rfl, hf2, k2⟩; have HF2 := Lib.hid hf2; have K2 := Lib.hid (KZ.out.then k2 (S := []) (T := [F, B, W]) (fun x hx => by simp at hx; right; rcases hx with rfl | rfl | rfl <;> omega)); have W2 := Lib.hid (WZ.out.keeps k2 (by simp; omega)); clear hf2 k2)
      go_roundw
      case rel => exact ⟨j + 1, s', k', i', es', by omega, by omega, by go_num, by omega, HF2, HC2, HA2, W2, K2⟩
      case measure => simp [intOf]; omega
    · have hex : (n0 ≤ j) ∨ (j < n0 ∧ ¬ j < 30) := by omega
      clear hlt
      obtain ⟨M, hFM, _⟩ := HF.out
      have HRD := Lib.hid (fun U (hU : Keeps [] wr U) => Read_ok U (hFM.keeps hU (by simp) (by simp) (by simp) (by simp)) 0 4096 HC.out.down (by unfold FS.has; have := HC.out.len; omega))
      have HWE := Lib.hid (fun U (hU : Keeps [] wr U) => wears6_any U (hFM.keeps hU (by simp) (by simp) (by simp) (by simp)) 1 3 (by omega) (by omega) (HC.out.wear_in (by omega)))
      obtain ⟨m, hm⟩ : ∃ m, m = es.length := ⟨_, rfl⟩
      have HAL := Lib.hid (fun U (hU : Keeps [] wr U) => All_is U (HF.out.keeps hU (by simp) (by simp) (by simp) (by simp)) HC.out hm)
      have HGT := Lib.hid (fun U (hU : Keeps [] wr U) => Get_ok U (HF.out.keeps hU (by simp) (by simp) (by simp) (by simp)) HC.out kv ky Mk (HK.out.keeps (HKW.out.trans hU) (by simp)) hkl)
      have HMK := Lib.hid (fun U (hU : Keeps [] wr U) => Make_has U (HF.out.keeps hU (by simp) (by simp) (by simp) (by simp)) HC.out)
      have HSS := Lib.hid (fun U (hU : Keeps [] wr U) => fun (kv vv : Value) (e : Ent) (h1 : BytesAt 0 U kv e.1) (h2 : BytesAt 0 U vv e.2) (he : e ∈ es) => Set_same U (HF.out.keeps hU (by simp) (by simp) (by simp) (by simp)) HC.out kv vv e.1 e.2 h1 h2 (HC.out.good.weight he) (get_of_mem HC.out.good.rise.ne he))
      have HSA := Lib.hid (fun U (hU : Keeps [] wr U) => fun (kv vv : Value) (a b : List UInt8) (h1 : BytesAt 0 U kv a) (h2 : BytesAt 0 U vv b) (h0 : weightL a b = 0) => show Calls Tryz.prog 30 #[.pointer (some ⟨F, 0, none⟩), .agg #[.int .i64 1, .int .i64 3], kv, vv] U (fun e w' => e = .returned (.int .i64 2) ∧ Keeps [] U w') from Set_arg U (HF.out.keeps hU (by simp) (by simp) (by simp) (by simp)) HC.out kv vv a b h1 h2 h0)
      have HDL := Lib.hid (fun (h0 : getK ky es = none) U (hU : Keeps [] wr U) => show Calls Tryz.prog 32 #[.pointer (some ⟨F, 0, none⟩), .agg #[.int .i64 1, .int .i64 3], kv] U fun e w' => (∃ er : Int, e = .returned (.int .i64 er) ∧ er ≠ 0) ∧ Keeps [] U w' from by
        have hkU : BytesAt 0 U kv ky := (BytesAt.of HK.out HKB.out (Nat.le_refl _)).keeps (HKW.out.trans hU) (by simp)
        by_cases hl : 1 ≤ ky.length ∧ ky.length ≤ 16
        · exact (Del_key U (HF.out.keeps hU (by simp) (by simp) (by simp) (by simp)) HC.out kv ky hkU hl h0).mono fun e w' h => ⟨⟨60, h.1, by decide⟩, h.2⟩
        · exact (Del_arg U (HF.out.keeps hU (by simp) (by simp) (by simp) (by simp)) HC.out kv ky hkU hl).mono fun e w' h => ⟨⟨2, h.1, by decide⟩, h.2⟩)
      have hpl : (s.part 0 4096).length = 4096 := FS.part_length _ _ _ (by unfold FS.has; have := HC.out.len; omega)
      have HPL := Lib.hid hpl
      have hesl : es.length ≤ 100 := by have := wtL_length es; have := HC.out.room.1; omega
      have HM := Lib.hid hm
      rw [← hm] at hesl
      clear hm hpl hFM
      generalize s.part 0 4096 = pt at *
      generalize sumW s 1 3 = sw at *
      have hgx : (j < n0 → (j : Int) < n0) := by omega
      rcases hex with hx | ⟨hx, hx'⟩
      · have dd1 : decide ((j : Int) < (n0 : Int)) = false := by simp; omega
        have dd2 : decide (j < n0) = false := by simp; omega
        clear hgx
        go_upto_region 9 with (fail)
        go_wp2_with (first
          | (go_at_call 29; refine (HRD.out _ (Keeps.refl _ _)).mono ?_; rintro e w2 ⟨b1, c1, rfl, hb1, hr1, k2⟩; have KR2 := Lib.hid k2; have RD2 := Lib.hid hr1; have WR2 := Lib.hid (WR.out.keeps k2 (by simp)); have a0 := (WR2.out.cell 0).trans (show _ = some (Value.int .i64 1) from rfl); have a1 := (WR2.out.cell 1).trans (show _ = some (Value.int .i64 3) from rfl); clear k2 hr1)
          | (go_at_call 22; refine (HWE.out _ KR2.out).mono ?_; rintro e w3 ⟨dd, rfl, _, k3⟩; have KR3 := Lib.hid (KR2.out.trans k3); have RD3 := Lib.hid (RD2.out.keeps k3 (by simp)); have WR3 := Lib.hid (WR2.out.keeps k3 (by simp)); have b0 := (WR3.out.cell 0).trans (show _ = some (Value.int .i64 1) from rfl); have b01 := (WR3.out.cell 1).trans (show _ = some (Value.int .i64 3) from rfl); clear k3)
          | (go_at_call 17; refine (HAL.out _ KR3.out).mono ?_; rintro e w4 ⟨ao2, cap2, rfl, he4, hcap2, k4⟩; have KR4 := Lib.hid (KR3.out.trans k4); have RD4 := Lib.hid (RD3.out.keeps k4 (by simp)); have EA4 := Lib.hid he4; have WR4 := Lib.hid (WR3.out.keeps k4 (by simp)); have d0 := (WR4.out.cell 0).trans (show _ = some (Value.int .i64 1) from rfl); have d1 := (WR4.out.cell 1).trans (show _ = some (Value.int .i64 3) from rfl); clear k4 he4)
          | (go_at_call 19; refine (HGT.out _ KR4.out).mono ?_; rintro e w5 ⟨vb, vn, vc, rfl, _, k5⟩; have KR5 := Lib.hid (KR4.out.trans k5); have RD5 := Lib.hid (RD4.out.keeps k5 (by simp)); have EA5 := Lib.hid (EA4.out.keeps k5 (by simp)); have WR5 := Lib.hid (WR4.out.keeps k5 (by simp)); clear k5))
        have HKO := HKW
        clear a0 a1 b0 b01 d0 d1 RD2 RD3 RD4 WR2 WR3 WR4 KR2 KR3 KR4 EA4 HAL HGT
        go_loopw [16, 71] (fun _ ix wq => ∃ q : Nat, q ≤ m ∧ ix = .int .i64 q ∧ Hid (Keeps [] w5 wq)) (fun _ ix _ => m - (intOf ix).toNat)
        case atStart => exact ⟨0, by omega, rfl, Lib.hid (Keeps.refl _ _)⟩
        case round =>
          obtain ⟨q, hq, rfl, HKQ⟩ := hrel
          have WRQ := Lib.hid (WR5.out.keeps HKQ.out (by simp))
          have KRQ := Lib.hid (KR5.out.trans HKQ.out)
          by_cases hqm : q < m
          · have hqi : (q : Int) < (m : Int) := by omega
            obtain ⟨x, hx⟩ : ∃ x, es[q]? = some x := ⟨es[q]'(by have := HM.out; omega), List.getElem?_eq_getElem _⟩
            have HMEM := Lib.hid (List.mem_of_getElem? hx)
            obtain ⟨g, k1, v1, rfl, _, hgl, c0, c1, b0, b1⟩ := (EA5.out.keeps HKQ.out (by simp)).at q x hx
            obtain ⟨p1, y1, rfl, _⟩ := b0.shape
            obtain ⟨p2, y2, rfl, _⟩ := b1.shape
            have HB0 := Lib.hid b0
            have HB1 := Lib.hid b1
            clear b0 b1 hx
            obtain ⟨xk, xv⟩ := x
            simp only at HB0 HB1 c0 c1
            generalize xk.length = xn at *
            generalize xv.length = vn at *
            go_upto_region 16 with (fail)
            generalize hX : World.alloc wr _ = X
            have kX : Keeps [] wr X := by rw [← hX]; exact Keeps.alloc [] _ _
            have wX : Whole X wr.heap.size 60 [.slice p1 xn y1, .slice p2 vn y2] := by rw [← hX]; exact Whole.new wr 60 [_, _]
            have x0 := (wX.cell 0).trans (show _ = some (Value.slice p1 xn y1) from rfl)
            have x1 := (wX.cell 1).trans (show _ = some (Value.slice p2 vn y2) from rfl)
            have WRX := Lib.hid (WRQ.out.keeps kX (by simp))
            have a0 := (WRX.out.cell 0).trans (show _ = some (Value.int .i64 1) from rfl)
            have a1 := (WRX.out.cell 1).trans (show _ = some (Value.int .i64 3) from rfl)
            have HSX := Lib.hid (HSS.out X (KRQ.out.trans kX) _ _ (xk, xv) (HB0.out.keeps kX (by simp)) (HB1.out.keeps kX (by simp)) HMEM.out)
            have KQX := Lib.hid (HKQ.out.trans kX)
            clear hX kX wX c0 c1
            go_wp2_with (go_at_call 30; refine HSX.out.mono ?_; rintro e w6 ⟨rfl, k6⟩; have K6 := Lib.hid (KQX.out.trans k6); clear k6)
            go_roundw
            case rel => exact ⟨q + 1, by omega, by go_num, K6⟩
            case measure => simp [intOf]; omega
          · have hqi : ¬ (q : Int) < (m : Int) := by omega
            have HV6 := Lib.hid (value6_any wr (.slice ao2 m cap2) kv es ky Mk (EA5.out.keeps HKQ.out (by simp)) (by have := HM.out; omega) (HK.out.keeps (HKW.out.trans KRQ.out) (by simp)))
            have RDQ := Lib.hid (RD5.out.keeps HKQ.out (by simp))
            clear HSS RD5 WR5 EA5 KR5 HKQ
            cases hgk : getK ky es with
            | some u =>
              rw [hgk] at HV6
              simp only [Option.isSome_some, Option.getD_some] at HV6
              clear hgk
              go_upto_region 20 with (go_at_call 31; refine HV6.out.mono ?_; rintro e w7 ⟨rfl, k7⟩; have KR7 := Lib.hid (KRQ.out.trans k7); have RD7 := Lib.hid (RDQ.out.keeps k7 (by simp)); have WR7 := Lib.hid (WRQ.out.keeps k7 (by simp)); clear k7)
              go_upto_region 22 with (fail)
              have W7D := Lib.hid (WR7.out.keeps (Keeps.drew [] w7) (by simp))
              have HA17 := Lib.hid (fun U => lowAll_any U 1 17 (by decide) (by decide))
              obtain ⟨C, hCC, hC⟩ : ∃ C : Array Value, C = ((List.replicate 65 (0 : UInt8)).map bv).toArray ∧ ∀ w, (Instr.makeSlice 23 (.int .i64 65) (.int .i64 65)).run Tryz.prog w = .ok (.slice (some ⟨w.heap.size, 0, none⟩) 65 65) (w.alloc (.cells C 5)) := ⟨_, by rw [List.map_replicate], fun w => made_bytes w 65 65 65 65 rfl rfl (by decide) (by decide)⟩
              have HCC := Lib.hid hCC
              clear hCC
              go_region_held3 (fun w' => w'.cell? ⟨w.heap.size, 0, none⟩ = some (.int .i64 1) ∧ w'.cell? ⟨w.heap.size, 1, none⟩ = some (.int .i64 3))
                (first
                  | exact ringS W7D.out
                  | exact ringS W9.out
                  | exact ringS W10.out
                  | exact ringS W11.out
                  | exact ringS (W11.out.keeps (Keeps.alloc [] _ _) (by simp))
                  | exact ringS ((W11.out.keeps (Keeps.alloc [] _ _) (by simp)).keeps (Keeps.alloc [] _ _) (by simp))
                  | exact ringS W12.out)
                (first
                  | (go_at_call 10; refine (HMK.out _ (KR7.out.trans (Keeps.drew [] _))).mono ?_; rintro e w9 ⟨rfl, k9⟩; have K9 := Lib.hid ((KR7.out.trans (Keeps.drew [] _)).trans k9); have W9 := Lib.hid (W7D.out.keeps k9 (by simp)); have RD9 := Lib.hid ((RD7.out.keeps (Keeps.drew [] _) (by simp)).keeps k9 (by simp)); clear k9)
                  | (go_at_call 33; refine (HA17.out _).mono ?_; rintro e w10 ⟨bL, kL, rfl, hbL, rL, k10⟩; have K10 := Lib.hid (K9.out.trans k10); have W10 := Lib.hid (W9.out.keeps k10 (by simp)); have RD10 := Lib.hid (RD9.out.keeps k10 (by simp)); have hL := BytesAt.ofRow rL; rw [List.length_replicate] at hL; have HL10 := Lib.hid hL; clear k10 rL hL)
                  | (go_at_call_of 30 kv; refine (HSA.out _ K10.out _ _ (List.replicate 17 1) ky HL10.out ((BytesAt.of HK.out HKB.out (Nat.le_refl _)).keeps (HKW.out.trans K10.out) (by simp)) rfl).mono ?_; rintro e w11 ⟨rfl, k11⟩; have K11 := Lib.hid (K10.out.trans k11); have W11 := Lib.hid (W10.out.keeps k11 (by simp)); have RD11 := Lib.hid (RD10.out.keeps k11 (by simp)); clear k11)
                  | (go_at_call 30; (have hkk := (BytesAt.lit w11 [1] #[.int .u8 1] 5 (0, 0) 1 rfl rfl).keeps (Keeps.alloc [] _ (.cells C 5)) (by simp); have hvv := BytesAt.lit (w11.alloc (.cells #[.int .u8 1] 5)) (List.replicate 65 0) C 5 (0, 0) 65 HCC.out (by simp); rw [World.size_alloc] at hvv); (with_reducible refine (HSA.out _ (K11.out.trans ((Keeps.alloc [] w11 (.cells #[.int .u8 1] 5)).trans (Keeps.alloc [] _ (.cells C 5)))) _ _ [1] (List.replicate 65 0) hkk hvv rfl).mono ?_); rintro e w12 ⟨rfl, k12⟩; (have kk := ((Keeps.alloc [] w11 (.cells #[.int .u8 1] 5)).trans (Keeps.alloc [] _ (.cells C 5))).trans k12; have K12 := Lib.hid (K11.out.trans kk); have W12 := Lib.hid (W11.out.keeps kk (by simp)); have RD12 := Lib.hid (RD11.out.keeps kk (by simp)); clear kk k12 hkk hvv))
                  | (go_at_call 30; (have hvv := (BytesAt.lit w11 (List.replicate 65 0) C 5 (0, 0) 65 HCC.out (by simp)).keeps (Keeps.alloc [] _ (.cells #[.int .u8 1] 5)) (by simp); have hkk := BytesAt.lit (w11.alloc (.cells C 5)) [1] #[.int .u8 1] 5 (0, 0) 1 rfl rfl; rw [World.size_alloc] at hkk); (with_reducible refine (HSA.out _ (K11.out.trans ((Keeps.alloc [] w11 (.cells C 5)).trans (Keeps.alloc [] _ (.cells #[.int .u8 1] 5)))) _ _ [1] (List.replicate 65 0) hkk hvv rfl).mono ?_); rintro e w12 ⟨rfl, k12⟩; (have kk := ((Keeps.alloc [] w11 (.cells C 5)).trans (Keeps.alloc [] _ (.cells #[.int .u8 1] 5))).trans k12; have K12 := Lib.hid (K11.out.trans kk); have W12 := Lib.hid (W11.out.keeps kk (by simp)); have RD12 := Lib.hid (RD11.out.keeps kk (by simp)); clear kk k12 hkk hvv)))
              all_goals
                have HIS := Lib.hid (show ∀ U b2 c2, Row U b1 5 (pt.map bv) c1 → Row U b2 5 (pt.map bv) c2 → Calls Tryz.prog 14 #[.slice (some ⟨b1, 0, none⟩) 4096 c1, .slice (some ⟨b2, 0, none⟩) 4096 c2] U fun e w' => e = .returned (.bool true) ∧ U = w' from fun U b2 c2 h1 h2 => by
                  have h1 := h1.reads
                  have h2 := h2.reads
                  rw [HPL.out] at h1 h2
                  have := Is_any U _ _ pt pt b1 b2 h1 h2
                  rw [beq_self_eq_true] at this
                  exact this)
                have g0 := (W12.out.cell 0).trans (show _ = some (Value.int .i64 1) from rfl)
                go_wp2_with (first
                  | (go_at_call 29; refine (HRD.out _ K12.out).mono ?_; rintro e w13 ⟨b2, c2, rfl, hb2, hr2, k13⟩; have K13 := Lib.hid (K12.out.trans k13); have RD13 := Lib.hid (RD12.out.keeps k13 (by simp)); have RB13 := Lib.hid hr2; have W13 := Lib.hid (W12.out.keeps k13 (by simp)); have l0 := (W13.out.cell 0).trans (show _ = some (Value.int .i64 1) from rfl); have l1 := (W13.out.cell 1).trans (show _ = some (Value.int .i64 3) from rfl); clear k13 hr2)
                  | (go_at_call 22; refine (HWE.out _ K13.out).mono ?_; rintro e w14 ⟨dd2, rfl, _, k14⟩; have K14 := Lib.hid (K13.out.trans k14); have RD14 := Lib.hid (RD13.out.keeps k14 (by simp)); have RB14 := Lib.hid (RB13.out.keeps k14 (by simp)); clear k14)
                  | (go_at_call 14; refine (HIS.out _ b2 c2 RD14.out RB14.out).mono ?_; rintro e w' ⟨rfl, rfl⟩)
                  | (go_at_call 21; refine (awake6_any _).mono ?_; rintro e w15 ⟨rfl, k15⟩; have K15 := Lib.hid (K14.out.trans k15); clear k15))
                go_ret
                exact ⟨rfl, HKO.out.trans K15.out⟩
            | none =>
              rw [hgk] at HV6
              simp only [Option.isSome_none, Option.getD_none] at HV6
              have HDK := Lib.hid (HDL.out hgk)
              clear hgk
              go_upto_region 20 with (go_at_call 31; refine HV6.out.mono ?_; rintro e w7 ⟨rfl, k7⟩; have KR7 := Lib.hid (KRQ.out.trans k7); have RD7 := Lib.hid (RDQ.out.keeps k7 (by simp)); have WR7 := Lib.hid (WRQ.out.keeps k7 (by simp)); clear k7)
              have e0 := (WR7.out.cell 0).trans (show _ = some (Value.int .i64 1) from rfl)
              have e1 := (WR7.out.cell 1).trans (show _ = some (Value.int .i64 3) from rfl)
              go_upto_region 22 with (go_loud (go_at_call 32; refine (HDK.out _ KR7.out).mono ?_; rintro e w8 ⟨⟨er, rfl, her⟩, k8⟩; have KR8 := Lib.hid (KR7.out.trans k8); have RD8 := Lib.hid (RD7.out.keeps k8 (by simp)); have WR8 := Lib.hid (WR7.out.keeps k8 (by simp)); clear KR7 RD7 WR7 e0 e1 k8))
              have KR7 := KR8
              have RD7 := RD8
              have WR7 := WR8
              obtain ⟨w7, rfl⟩ : ∃ w7', w7' = w8 := ⟨_, rfl⟩
              have W7D := Lib.hid (WR7.out.keeps (Keeps.drew [] w7) (by simp))
              have HA17 := Lib.hid (fun U => lowAll_any U 1 17 (by decide) (by decide))
              obtain ⟨C, hCC, hC⟩ : ∃ C : Array Value, C = ((List.replicate 65 (0 : UInt8)).map bv).toArray ∧ ∀ w, (Instr.makeSlice 23 (.int .i64 65) (.int .i64 65)).run Tryz.prog w = .ok (.slice (some ⟨w.heap.size, 0, none⟩) 65 65) (w.alloc (.cells C 5)) := ⟨_, by rw [List.map_replicate], fun w => made_bytes w 65 65 65 65 rfl rfl (by decide) (by decide)⟩
              have HCC := Lib.hid hCC
              clear hCC
              go_region_held3 (fun w' => w'.cell? ⟨w.heap.size, 0, none⟩ = some (.int .i64 1) ∧ w'.cell? ⟨w.heap.size, 1, none⟩ = some (.int .i64 3))
                (first
                  | exact ringS W7D.out
                  | exact ringS W9.out
                  | exact ringS W10.out
                  | exact ringS W11.out
                  | exact ringS (W11.out.keeps (Keeps.alloc [] _ _) (by simp))
                  | exact ringS ((W11.out.keeps (Keeps.alloc [] _ _) (by simp)).keeps (Keeps.alloc [] _ _) (by simp))
                  | exact ringS W12.out)
                (first
                  | (go_at_call 10; refine (HMK.out _ (KR7.out.trans (Keeps.drew [] _))).mono ?_; rintro e w9 ⟨rfl, k9⟩; have K9 := Lib.hid ((KR7.out.trans (Keeps.drew [] _)).trans k9); have W9 := Lib.hid (W7D.out.keeps k9 (by simp)); have RD9 := Lib.hid ((RD7.out.keeps (Keeps.drew [] _) (by simp)).keeps k9 (by simp)); clear k9)
                  | (go_at_call 33; refine (HA17.out _).mono ?_; rintro e w10 ⟨bL, kL, rfl, hbL, rL, k10⟩; have K10 := Lib.hid (K9.out.trans k10); have W10 := Lib.hid (W9.out.keeps k10 (by simp)); have RD10 := Lib.hid (RD9.out.keeps k10 (by simp)); have hL := BytesAt.ofRow rL; rw [List.length_replicate] at hL; have HL10 := Lib.hid hL; clear k10 rL hL)
                  | (go_at_call_of 30 kv; refine (HSA.out _ K10.out _ _ (List.replicate 17 1) ky HL10.out ((BytesAt.of HK.out HKB.out (Nat.le_refl _)).keeps (HKW.out.trans K10.out) (by simp)) rfl).mono ?_; rintro e w11 ⟨rfl, k11⟩; have K11 := Lib.hid (K10.out.trans k11); have W11 := Lib.hid (W10.out.keeps k11 (by simp)); have RD11 := Lib.hid (RD10.out.keeps k11 (by simp)); clear k11)
                  | (go_at_call 30; (have hkk := (BytesAt.lit w11 [1] #[.int .u8 1] 5 (0, 0) 1 rfl rfl).keeps (Keeps.alloc [] _ (.cells C 5)) (by simp); have hvv := BytesAt.lit (w11.alloc (.cells #[.int .u8 1] 5)) (List.replicate 65 0) C 5 (0, 0) 65 HCC.out (by simp); rw [World.size_alloc] at hvv); (with_reducible refine (HSA.out _ (K11.out.trans ((Keeps.alloc [] w11 (.cells #[.int .u8 1] 5)).trans (Keeps.alloc [] _ (.cells C 5)))) _ _ [1] (List.replicate 65 0) hkk hvv rfl).mono ?_); rintro e w12 ⟨rfl, k12⟩; (have kk := ((Keeps.alloc [] w11 (.cells #[.int .u8 1] 5)).trans (Keeps.alloc [] _ (.cells C 5))).trans k12; have K12 := Lib.hid (K11.out.trans kk); have W12 := Lib.hid (W11.out.keeps kk (by simp)); have RD12 := Lib.hid (RD11.out.keeps kk (by simp)); clear kk k12 hkk hvv))
                  | (go_at_call 30; (have hvv := (BytesAt.lit w11 (List.replicate 65 0) C 5 (0, 0) 65 HCC.out (by simp)).keeps (Keeps.alloc [] _ (.cells #[.int .u8 1] 5)) (by simp); have hkk := BytesAt.lit (w11.alloc (.cells C 5)) [1] #[.int .u8 1] 5 (0, 0) 1 rfl rfl; rw [World.size_alloc] at hkk); (with_reducible refine (HSA.out _ (K11.out.trans ((Keeps.alloc [] w11 (.cells C 5)).trans (Keeps.alloc [] _ (.cells #[.int .u8 1] 5)))) _ _ [1] (List.replicate 65 0) hkk hvv rfl).mono ?_); rintro e w12 ⟨rfl, k12⟩; (have kk := ((Keeps.alloc [] w11 (.cells C 5)).trans (Keeps.alloc [] _ (.cells #[.int .u8 1] 5))).trans k12; have K12 := Lib.hid (K11.out.trans kk); have W12 := Lib.hid (W11.out.keeps kk (by simp)); have RD12 := Lib.hid (RD11.out.keeps kk (by simp)); clear kk k12 hkk hvv)))
              all_goals
                have HIS := Lib.hid (show ∀ U b2 c2, Row U b1 5 (pt.map bv) c1 → Row U b2 5 (pt.map bv) c2 → Calls Tryz.prog 14 #[.slice (some ⟨b1, 0, none⟩) 4096 c1, .slice (some ⟨b2, 0, none⟩) 4096 c2] U fun e w' => e = .returned (.bool true) ∧ U = w' from fun U b2 c2 h1 h2 => by
                  have h1 := h1.reads
                  have h2 := h2.reads
                  rw [HPL.out] at h1 h2
                  have := Is_any U _ _ pt pt b1 b2 h1 h2
                  rw [beq_self_eq_true] at this
                  exact this)
                have g0 := (W12.out.cell 0).trans (show _ = some (Value.int .i64 1) from rfl)
                go_wp2_with (first
                  | (go_at_call 29; refine (HRD.out _ K12.out).mono ?_; rintro e w13 ⟨b2, c2, rfl, hb2, hr2, k13⟩; have K13 := Lib.hid (K12.out.trans k13); have RD13 := Lib.hid (RD12.out.keeps k13 (by simp)); have RB13 := Lib.hid hr2; have W13 := Lib.hid (W12.out.keeps k13 (by simp)); have l0 := (W13.out.cell 0).trans (show _ = some (Value.int .i64 1) from rfl); have l1 := (W13.out.cell 1).trans (show _ = some (Value.int .i64 3) from rfl); clear k13 hr2)
                  | (go_at_call 22; refine (HWE.out _ K13.out).mono ?_; rintro e w14 ⟨dd2, rfl, _, k14⟩; have K14 := Lib.hid (K13.out.trans k14); have RD14 := Lib.hid (RD13.out.keeps k14 (by simp)); have RB14 := Lib.hid (RB13.out.keeps k14 (by simp)); clear k14)
                  | (go_at_call 14; refine (HIS.out _ b2 c2 RD14.out RB14.out).mono ?_; rintro e w' ⟨rfl, rfl⟩)
                  | (go_at_call 21; refine (awake6_any _).mono ?_; rintro e w15 ⟨rfl, k15⟩; have K15 := Lib.hid (K14.out.trans k15); clear k15))
                go_ret
                exact ⟨rfl, HKO.out.trans K15.out⟩
      · have hji := hgx hx
        have dd1 : decide ((j : Int) < (30 : Int)) = false := by simp; omega
        have dd2 : decide (j < 30) = false := by simp; omega
        clear hgx
        go_upto_region 9 with (fail)
        go_wp2_with (first
          | (go_at_call 29; refine (HRD.out _ (Keeps.refl _ _)).mono ?_; rintro e w2 ⟨b1, c1, rfl, hb1, hr1, k2⟩; have KR2 := Lib.hid k2; have RD2 := Lib.hid hr1; have WR2 := Lib.hid (WR.out.keeps k2 (by simp)); have a0 := (WR2.out.cell 0).trans (show _ = some (Value.int .i64 1) from rfl); have a1 := (WR2.out.cell 1).trans (show _ = some (Value.int .i64 3) from rfl); clear k2 hr1)
          | (go_at_call 22; refine (HWE.out _ KR2.out).mono ?_; rintro e w3 ⟨dd, rfl, _, k3⟩; have KR3 := Lib.hid (KR2.out.trans k3); have RD3 := Lib.hid (RD2.out.keeps k3 (by simp)); have WR3 := Lib.hid (WR2.out.keeps k3 (by simp)); have b0 := (WR3.out.cell 0).trans (show _ = some (Value.int .i64 1) from rfl); have b01 := (WR3.out.cell 1).trans (show _ = some (Value.int .i64 3) from rfl); clear k3)
          | (go_at_call 17; refine (HAL.out _ KR3.out).mono ?_; rintro e w4 ⟨ao2, cap2, rfl, he4, hcap2, k4⟩; have KR4 := Lib.hid (KR3.out.trans k4); have RD4 := Lib.hid (RD3.out.keeps k4 (by simp)); have EA4 := Lib.hid he4; have WR4 := Lib.hid (WR3.out.keeps k4 (by simp)); have d0 := (WR4.out.cell 0).trans (show _ = some (Value.int .i64 1) from rfl); have d1 := (WR4.out.cell 1).trans (show _ = some (Value.int .i64 3) from rfl); clear k4 he4)
          | (go_at_call 19; refine (HGT.out _ KR4.out).mono ?_; rintro e w5 ⟨vb, vn, vc, rfl, _, k5⟩; have KR5 := Lib.hid (KR4.out.trans k5); have RD5 := Lib.hid (RD4.out.keeps k5 (by simp)); have EA5 := Lib.hid (EA4.out.keeps k5 (by simp)); have WR5 := Lib.hid (WR4.out.keeps k5 (by simp)); clear k5))
        have HKO := HKW
        clear a0 a1 b0 b01 d0 d1 RD2 RD3 RD4 WR2 WR3 WR4 KR2 KR3 KR4 EA4 HAL HGT
        go_loopw [16, 71] (fun _ ix wq => ∃ q : Nat, q ≤ m ∧ ix = .int .i64 q ∧ Hid (Keeps [] w5 wq)) (fun _ ix _ => m - (intOf ix).toNat)
        case atStart => exact ⟨0, by omega, rfl, Lib.hid (Keeps.refl _ _)⟩
        case round =>
          obtain ⟨q, hq, rfl, HKQ⟩ := hrel
          have WRQ := Lib.hid (WR5.out.keeps HKQ.out (by simp))
          have KRQ := Lib.hid (KR5.out.trans HKQ.out)
          by_cases hqm : q < m
          · have hqi : (q : Int) < (m : Int) := by omega
            obtain ⟨x, hx⟩ : ∃ x, es[q]? = some x := ⟨es[q]'(by have := HM.out; omega), List.getElem?_eq_getElem _⟩
            have HMEM := Lib.hid (List.mem_of_getElem? hx)
            obtain ⟨g, k1, v1, rfl, _, hgl, c0, c1, b0, b1⟩ := (EA5.out.keeps HKQ.out (by simp)).at q x hx
            obtain ⟨p1, y1, rfl, _⟩ := b0.shape
            obtain ⟨p2, y2, rfl, _⟩ := b1.shape
            have HB0 := Lib.hid b0
            have HB1 := Lib.hid b1
            clear b0 b1 hx
            obtain ⟨xk, xv⟩ := x
            simp only at HB0 HB1 c0 c1
            generalize xk.length = xn at *
            generalize xv.length = vn at *
            go_upto_region 16 with (fail)
            generalize hX : World.alloc wr _ = X
            have kX : Keeps [] wr X := by rw [← hX]; exact Keeps.alloc [] _ _
            have wX : Whole X wr.heap.size 60 [.slice p1 xn y1, .slice p2 vn y2] := by rw [← hX]; exact Whole.new wr 60 [_, _]
            have x0 := (wX.cell 0).trans (show _ = some (Value.slice p1 xn y1) from rfl)
            have x1 := (wX.cell 1).trans (show _ = some (Value.slice p2 vn y2) from rfl)
            have WRX := Lib.hid (WRQ.out.keeps kX (by simp))
            have a0 := (WRX.out.cell 0).trans (show _ = some (Value.int .i64 1) from rfl)
            have a1 := (WRX.out.cell 1).trans (show _ = some (Value.int .i64 3) from rfl)
            have HSX := Lib.hid (HSS.out X (KRQ.out.trans kX) _ _ (xk, xv) (HB0.out.keeps kX (by simp)) (HB1.out.keeps kX (by simp)) HMEM.out)
            have KQX := Lib.hid (HKQ.out.trans kX)
            clear hX kX wX c0 c1
            go_wp2_with (go_at_call 30; refine HSX.out.mono ?_; rintro e w6 ⟨rfl, k6⟩; have K6 := Lib.hid (KQX.out.trans k6); clear k6)
            go_roundw
            case rel => exact ⟨q + 1, by omega, by go_num, K6⟩
            case measure => simp [intOf]; omega
          · have hqi : ¬ (q : Int) < (m : Int) := by omega
            have HV6 := Lib.hid (value6_any wr (.slice ao2 m cap2) kv es ky Mk (EA5.out.keeps HKQ.out (by simp)) (by have := HM.out; omega) (HK.out.keeps (HKW.out.trans KRQ.out) (by simp)))
            have RDQ := Lib.hid (RD5.out.keeps HKQ.out (by simp))
            clear HSS RD5 WR5 EA5 KR5 HKQ
            cases hgk : getK ky es with
            | some u =>
              rw [hgk] at HV6
              simp only [Option.isSome_some, Option.getD_some] at HV6
              clear hgk
              go_upto_region 20 with (go_at_call 31; refine HV6.out.mono ?_; rintro e w7 ⟨rfl, k7⟩; have KR7 := Lib.hid (KRQ.out.trans k7); have RD7 := Lib.hid (RDQ.out.keeps k7 (by simp)); have WR7 := Lib.hid (WRQ.out.keeps k7 (by simp)); clear k7)
              go_upto_region 22 with (fail)
              have W7D := Lib.hid (WR7.out.keeps (Keeps.drew [] w7) (by simp))
              have HA17 := Lib.hid (fun U => lowAll_any U 1 17 (by decide) (by decide))
              obtain ⟨C, hCC, hC⟩ : ∃ C : Array Value, C = ((List.replicate 65 (0 : UInt8)).map bv).toArray ∧ ∀ w, (Instr.makeSlice 23 (.int .i64 65) (.int .i64 65)).run Tryz.prog w = .ok (.slice (some ⟨w.heap.size, 0, none⟩) 65 65) (w.alloc (.cells C 5)) := ⟨_, by rw [List.map_replicate], fun w => made_bytes w 65 65 65 65 rfl rfl (by decide) (by decide)⟩
              have HCC := Lib.hid hCC
              clear hCC
              go_region_held3 (fun w' => w'.cell? ⟨w.heap.size, 0, none⟩ = some (.int .i64 1) ∧ w'.cell? ⟨w.heap.size, 1, none⟩ = some (.int .i64 3))
                (first
                  | exact ringS W7D.out
                  | exact ringS W9.out
                  | exact ringS W10.out
                  | exact ringS W11.out
                  | exact ringS (W11.out.keeps (Keeps.alloc [] _ _) (by simp))
                  | exact ringS ((W11.out.keeps (Keeps.alloc [] _ _) (by simp)).keeps (Keeps.alloc [] _ _) (by simp))
                  | exact ringS W12.out)
                (first
                  | (go_at_call 10; refine (HMK.out _ (KR7.out.trans (Keeps.drew [] _))).mono ?_; rintro e w9 ⟨rfl, k9⟩; have K9 := Lib.hid ((KR7.out.trans (Keeps.drew [] _)).trans k9); have W9 := Lib.hid (W7D.out.keeps k9 (by simp)); have RD9 := Lib.hid ((RD7.out.keeps (Keeps.drew [] _) (by simp)).keeps k9 (by simp)); clear k9)
                  | (go_at_call 33; refine (HA17.out _).mono ?_; rintro e w10 ⟨bL, kL, rfl, hbL, rL, k10⟩; have K10 := Lib.hid (K9.out.trans k10); have W10 := Lib.hid (W9.out.keeps k10 (by simp)); have RD10 := Lib.hid (RD9.out.keeps k10 (by simp)); have hL := BytesAt.ofRow rL; rw [List.length_replicate] at hL; have HL10 := Lib.hid hL; clear k10 rL hL)
                  | (go_at_call_of 30 kv; refine (HSA.out _ K10.out _ _ (List.replicate 17 1) ky HL10.out ((BytesAt.of HK.out HKB.out (Nat.le_refl _)).keeps (HKW.out.trans K10.out) (by simp)) rfl).mono ?_; rintro e w11 ⟨rfl, k11⟩; have K11 := Lib.hid (K10.out.trans k11); have W11 := Lib.hid (W10.out.keeps k11 (by simp)); have RD11 := Lib.hid (RD10.out.keeps k11 (by simp)); clear k11)
                  | (go_at_call 30; (have hkk := (BytesAt.lit w11 [1] #[.int .u8 1] 5 (0, 0) 1 rfl rfl).keeps (Keeps.alloc [] _ (.cells C 5)) (by simp); have hvv := BytesAt.lit (w11.alloc (.cells #[.int .u8 1] 5)) (List.replicate 65 0) C 5 (0, 0) 65 HCC.out (by simp); rw [World.size_alloc] at hvv); (with_reducible refine (HSA.out _ (K11.out.trans ((Keeps.alloc [] w11 (.cells #[.int .u8 1] 5)).trans (Keeps.alloc [] _ (.cells C 5)))) _ _ [1] (List.replicate 65 0) hkk hvv rfl).mono ?_); rintro e w12 ⟨rfl, k12⟩; (have kk := ((Keeps.alloc [] w11 (.cells #[.int .u8 1] 5)).trans (Keeps.alloc [] _ (.cells C 5))).trans k12; have K12 := Lib.hid (K11.out.trans kk); have W12 := Lib.hid (W11.out.keeps kk (by simp)); have RD12 := Lib.hid (RD11.out.keeps kk (by simp)); clear kk k12 hkk hvv))
                  | (go_at_call 30; (have hvv := (BytesAt.lit w11 (List.replicate 65 0) C 5 (0, 0) 65 HCC.out (by simp)).keeps (Keeps.alloc [] _ (.cells #[.int .u8 1] 5)) (by simp); have hkk := BytesAt.lit (w11.alloc (.cells C 5)) [1] #[.int .u8 1] 5 (0, 0) 1 rfl rfl; rw [World.size_alloc] at hkk); (with_reducible refine (HSA.out _ (K11.out.trans ((Keeps.alloc [] w11 (.cells C 5)).trans (Keeps.alloc [] _ (.cells #[.int .u8 1] 5)))) _ _ [1] (List.replicate 65 0) hkk hvv rfl).mono ?_); rintro e w12 ⟨rfl, k12⟩; (have kk := ((Keeps.alloc [] w11 (.cells C 5)).trans (Keeps.alloc [] _ (.cells #[.int .u8 1] 5))).trans k12; have K12 := Lib.hid (K11.out.trans kk); have W12 := Lib.hid (W11.out.keeps kk (by simp)); have RD12 := Lib.hid (RD11.out.keeps kk (by simp)); clear kk k12 hkk hvv)))
              all_goals
                have HIS := Lib.hid (show ∀ U b2 c2, Row U b1 5 (pt.map bv) c1 → Row U b2 5 (pt.map bv) c2 → Calls Tryz.prog 14 #[.slice (some ⟨b1, 0, none⟩) 4096 c1, .slice (some ⟨b2, 0, none⟩) 4096 c2] U fun e w' => e = .returned (.bool true) ∧ U = w' from fun U b2 c2 h1 h2 => by
                  have h1 := h1.reads
                  have h2 := h2.reads
                  rw [HPL.out] at h1 h2
                  have := Is_any U _ _ pt pt b1 b2 h1 h2
                  rw [beq_self_eq_true] at this
                  exact this)
                have g0 := (W12.out.cell 0).trans (show _ = some (Value.int .i64 1) from rfl)
                go_wp2_with (first
                  | (go_at_call 29; refine (HRD.out _ K12.out).mono ?_; rintro e w13 ⟨b2, c2, rfl, hb2, hr2, k13⟩; have K13 := Lib.hid (K12.out.trans k13); have RD13 := Lib.hid (RD12.out.keeps k13 (by simp)); have RB13 := Lib.hid hr2; have W13 := Lib.hid (W12.out.keeps k13 (by simp)); have l0 := (W13.out.cell 0).trans (show _ = some (Value.int .i64 1) from rfl); have l1 := (W13.out.cell 1).trans (show _ = some (Value.int .i64 3) from rfl); clear k13 hr2)
                  | (go_at_call 22; refine (HWE.out _ K13.out).mono ?_; rintro e w14 ⟨dd2, rfl, _, k14⟩; have K14 := Lib.hid (K13.out.trans k14); have RD14 := Lib.hid (RD13.out.keeps k14 (by simp)); have RB14 := Lib.hid (RB13.out.keeps k14 (by simp)); clear k14)
                  | (go_at_call 14; refine (HIS.out _ b2 c2 RD14.out RB14.out).mono ?_; rintro e w' ⟨rfl, rfl⟩)
                  | (go_at_call 21; refine (awake6_any _).mono ?_; rintro e w15 ⟨rfl, k15⟩; have K15 := Lib.hid (K14.out.trans k15); clear k15))
                go_ret
                exact ⟨rfl, HKO.out.trans K15.out⟩
            | none =>
              rw [hgk] at HV6
              simp only [Option.isSome_none, Option.getD_none] at HV6
              have HDK := Lib.hid (HDL.out hgk)
              clear hgk
              go_upto_region 20 with (go_at_call 31; refine HV6.out.mono ?_; rintro e w7 ⟨rfl, k7⟩; have KR7 := Lib.hid (KRQ.out.trans k7); have RD7 := Lib.hid (RDQ.out.keeps k7 (by simp)); have WR7 := Lib.hid (WRQ.out.keeps k7 (by simp)); clear k7)
              have e0 := (WR7.out.cell 0).trans (show _ = some (Value.int .i64 1) from rfl)
              have e1 := (WR7.out.cell 1).trans (show _ = some (Value.int .i64 3) from rfl)
              go_upto_region 22 with (go_loud (go_at_call 32; refine (HDK.out _ KR7.out).mono ?_; rintro e w8 ⟨⟨er, rfl, her⟩, k8⟩; have KR8 := Lib.hid (KR7.out.trans k8); have RD8 := Lib.hid (RD7.out.keeps k8 (by simp)); have WR8 := Lib.hid (WR7.out.keeps k8 (by simp)); clear KR7 RD7 WR7 e0 e1 k8))
              have KR7 := KR8
              have RD7 := RD8
              have WR7 := WR8
              obtain ⟨w7, rfl⟩ : ∃ w7', w7' = w8 := ⟨_, rfl⟩
              have W7D := Lib.hid (WR7.out.keeps (Keeps.drew [] w7) (by simp))
              have HA17 := Lib.hid (fun U => lowAll_any U 1 17 (by decide) (by decide))
              obtain ⟨C, hCC, hC⟩ : ∃ C : Array Value, C = ((List.replicate 65 (0 : UInt8)).map bv).toArray ∧ ∀ w, (Instr.makeSlice 23 (.int .i64 65) (.int .i64 65)).run Tryz.prog w = .ok (.slice (some ⟨w.heap.size, 0, none⟩) 65 65) (w.alloc (.cells C 5)) := ⟨_, by rw [List.map_replicate], fun w => made_bytes w 65 65 65 65 rfl rfl (by decide) (by decide)⟩
              have HCC := Lib.hid hCC
              clear hCC
              go_region_held3 (fun w' => w'.cell? ⟨w.heap.size, 0, none⟩ = some (.int .i64 1) ∧ w'.cell? ⟨w.heap.size, 1, none⟩ = some (.int .i64 3))
                (first
                  | exact ringS W7D.out
                  | exact ringS W9.out
                  | exact ringS W10.out
                  | exact ringS W11.out
                  | exact ringS (W11.out.keeps (Keeps.alloc [] _ _) (by simp))
                  | exact ringS ((W11.out.keeps (Keeps.alloc [] _ _) (by simp)).keeps (Keeps.alloc [] _ _) (by simp))
                  | exact ringS W12.out)
                (first
                  | (go_at_call 10; refine (HMK.out _ (KR7.out.trans (Keeps.drew [] _))).mono ?_; rintro e w9 ⟨rfl, k9⟩; have K9 := Lib.hid ((KR7.out.trans (Keeps.drew [] _)).trans k9); have W9 := Lib.hid (W7D.out.keeps k9 (by simp)); have RD9 := Lib.hid ((RD7.out.keeps (Keeps.drew [] _) (by simp)).keeps k9 (by simp)); clear k9)
                  | (go_at_call 33; refine (HA17.out _).mono ?_; rintro e w10 ⟨bL, kL, rfl, hbL, rL, k10⟩; have K10 := Lib.hid (K9.out.trans k10); have W10 := Lib.hid (W9.out.keeps k10 (by simp)); have RD10 := Lib.hid (RD9.out.keeps k10 (by simp)); have hL := BytesAt.ofRow rL; rw [List.length_replicate] at hL; have HL10 := Lib.hid hL; clear k10 rL hL)
                  | (go_at_call_of 30 kv; refine (HSA.out _ K10.out _ _ (List.replicate 17 1) ky HL10.out ((BytesAt.of HK.out HKB.out (Nat.le_refl _)).keeps (HKW.out.trans K10.out) (by simp)) rfl).mono ?_; rintro e w11 ⟨rfl, k11⟩; have K11 := Lib.hid (K10.out.trans k11); have W11 := Lib.hid (W10.out.keeps k11 (by simp)); have RD11 := Lib.hid (RD10.out.keeps k11 (by simp)); clear k11)
                  | (go_at_call 30; (have hkk := (BytesAt.lit w11 [1] #[.int .u8 1] 5 (0, 0) 1 rfl rfl).keeps (Keeps.alloc [] _ (.cells C 5)) (by simp); have hvv := BytesAt.lit (w11.alloc (.cells #[.int .u8 1] 5)) (List.replicate 65 0) C 5 (0, 0) 65 HCC.out (by simp); rw [World.size_alloc] at hvv); (with_reducible refine (HSA.out _ (K11.out.trans ((Keeps.alloc [] w11 (.cells #[.int .u8 1] 5)).trans (Keeps.alloc [] _ (.cells C 5)))) _ _ [1] (List.replicate 65 0) hkk hvv rfl).mono ?_); rintro e w12 ⟨rfl, k12⟩; (have kk := ((Keeps.alloc [] w11 (.cells #[.int .u8 1] 5)).trans (Keeps.alloc [] _ (.cells C 5))).trans k12; have K12 := Lib.hid (K11.out.trans kk); have W12 := Lib.hid (W11.out.keeps kk (by simp)); have RD12 := Lib.hid (RD11.out.keeps kk (by simp)); clear kk k12 hkk hvv))
                  | (go_at_call 30; (have hvv := (BytesAt.lit w11 (List.replicate 65 0) C 5 (0, 0) 65 HCC.out (by simp)).keeps (Keeps.alloc [] _ (.cells #[.int .u8 1] 5)) (by simp); have hkk := BytesAt.lit (w11.alloc (.cells C 5)) [1] #[.int .u8 1] 5 (0, 0) 1 rfl rfl; rw [World.size_alloc] at hkk); (with_reducible refine (HSA.out _ (K11.out.trans ((Keeps.alloc [] w11 (.cells C 5)).trans (Keeps.alloc [] _ (.cells #[.int .u8 1] 5)))) _ _ [1] (List.replicate 65 0) hkk hvv rfl).mono ?_); rintro e w12 ⟨rfl, k12⟩; (have kk := ((Keeps.alloc [] w11 (.cells C 5)).trans (Keeps.alloc [] _ (.cells #[.int .u8 1] 5))).trans k12; have K12 := Lib.hid (K11.out.trans kk); have W12 := Lib.hid (W11.out.keeps kk (by simp)); have RD12 := Lib.hid (RD11.out.keeps kk (by simp)); clear kk k12 hkk hvv)))
              all_goals
                have HIS := Lib.hid (show ∀ U b2 c2, Row U b1 5 (pt.map bv) c1 → Row U b2 5 (pt.map bv) c2 → Calls Tryz.prog 14 #[.slice (some ⟨b1, 0, none⟩) 4096 c1, .slice (some ⟨b2, 0, none⟩) 4096 c2] U fun e w' => e = .returned (.bool true) ∧ U = w' from fun U b2 c2 h1 h2 => by
                  have h1 := h1.reads
                  have h2 := h2.reads
                  rw [HPL.out] at h1 h2
                  have := Is_any U _ _ pt pt b1 b2 h1 h2
                  rw [beq_self_eq_true] at this
                  exact this)
                have g0 := (W12.out.cell 0).trans (show _ = some (Value.int .i64 1) from rfl)
                go_wp2_with (first
                  | (go_at_call 29; refine (HRD.out _ K12.out).mono ?_; rintro e w13 ⟨b2, c2, rfl, hb2, hr2, k13⟩; have K13 := Lib.hid (K12.out.trans k13); have RD13 := Lib.hid (RD12.out.keeps k13 (by simp)); have RB13 := Lib.hid hr2; have W13 := Lib.hid (W12.out.keeps k13 (by simp)); have l0 := (W13.out.cell 0).trans (show _ = some (Value.int .i64 1) from rfl); have l1 := (W13.out.cell 1).trans (show _ = some (Value.int .i64 3) from rfl); clear k13 hr2)
                  | (go_at_call 22; refine (HWE.out _ K13.out).mono ?_; rintro e w14 ⟨dd2, rfl, _, k14⟩; have K14 := Lib.hid (K13.out.trans k14); have RD14 := Lib.hid (RD13.out.keeps k14 (by simp)); have RB14 := Lib.hid (RB13.out.keeps k14 (by simp)); clear k14)
                  | (go_at_call 14; refine (HIS.out _ b2 c2 RD14.out RB14.out).mono ?_; rintro e w' ⟨rfl, rfl⟩)
                  | (go_at_call 21; refine (awake6_any _).mono ?_; rintro e w15 ⟨rfl, k15⟩; have K15 := Lib.hid (K14.out.trans k15); clear k15))
                go_ret
                exact ⟨rfl, HKO.out.trans K15.out⟩
end Go.Proofs.YtcmjecnbmdhjlaaGreat
