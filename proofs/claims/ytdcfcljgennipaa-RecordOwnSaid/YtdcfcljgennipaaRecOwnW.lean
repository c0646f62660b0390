/-
  RecordOwn, walked.
-/
import Derived.Test.YtdcfcljgennipaaRecOwnA
import Derived.Test.YtdcfcljgennipaaArgs
namespace Go.Proofs.Ytdcfcljgennipaa
open Go.RowKit

set_option maxRecDepth 100000 in
set_option maxHeartbeats 1000000 in
theorem RecordOwn_long (w : World) (x : Option Addr) (n cap : Nat) (hn : 1000 < n) :
    Calls Try.prog 4 #[.slice x n cap] w fun e w' => e = .returned (.bool true) ∧ Keeps [] w w' := by
  go_enter Try.func4, Try.ntmps4
  go_wp2_with fail
  refine (New_ok w 8 (by decide) (by decide)).mono ?_
  rintro e w1 ⟨F, B, W, M, rfl, hF0, hB0, hW0, hF, k1⟩
  have K1 := Lib.hid k1
  clear hF k1
  go_wp2_with (go_at_call 10; refine (awake4_any _).mono ?_; rintro e w2 ⟨rfl, k2⟩; have K2 := Lib.hid k2; clear k2)
  go_ret
  exact ⟨rfl, K1.out.trans K2.out⟩

set_option maxRecDepth 100000 in
set_option maxHeartbeats 4000000 in
theorem RecordOwn_short (w : World) (v : Value) (p : List UInt8) (Mp : Nat) (rp : Reads w v p Mp) (hp : p.length ≤ 1000) (hMp : p ≠ [] → Mp < w.heap.size) :
    Calls Try.prog 4 #[v] w fun e w' => e = .returned (.bool true) ∧ Keeps [] w w' := by
  obtain ⟨i0, hi, hz0, hz1, hz2⟩ := info_parts infoRecord
  obtain ⟨a, cap, rfl, hcap⟩ := rp.shape
  have RP := Lib.hid rp
  have HMP := Lib.hid hMp
  obtain ⟨P, hP⟩ : ∃ P, P = p.length := ⟨_, rfl⟩
  have HP := Lib.hid hP
  rw [← hP] at RP hp hcap ⊢
  clear hP rp hMp
  go_enter Try.func4, Try.ntmps4
  go_wp2_with fail
  refine (New_ok w 8 (by decide) (by decide)).mono ?_
  rintro e w1 ⟨F, B, W, M, rfl, hF0, hB0, hW0, hF, k1⟩
  have HF8 := fresh8
  generalize FS.new 8 = s at *
  have hFr : ∀ y ∈ [F, B], w.heap.size ≤ y := fun y hy => by
    simp at hy
    rcases hy with rfl | rfl
    · exact hF0
    · exact hB0
  obtain ⟨M', hrp', hM'⟩ := (RP.out.keeps k1 (by simp)).away (base := w.heap.size) HMP.out [F, B] hFr
  have HFR := Lib.hid hFr
  have RP1 := Lib.hid hrp'
  have HMN := Lib.hid hM'
  have hz := fillN_lt P
  have hsz : sizeN P = 12 + fillN P := rfl
  have hws := write_room (s := s) 4 p (by rw [← HP.out]; omega) HF8.down HF8.armed (by decide) (by rw [← HP.out, HF8.len]; omega) (room.of_blank (HF8.from 4) (by rw [← HP.out, HF8.len]; omega))
  have hw := Write_any w1 hF 4 _ p M' hrp' (by rw [← HP.out]; omega)
  rw [show ((4 : Int)) = ((4 : Nat) : Int) from rfl, hws] at hw
  have hlen : (put s.bs 4 (recB p)).length = 2048 := by rw [put_length _ _ _ (by rw [recB_length, ← HP.out, HF8.len]; omega), HF8.len]
  obtain ⟨s1, hs1⟩ : ∃ s1 : FS, s1 = { s with bs := put s.bs 4 (recB p) } := ⟨_, rfl⟩
  have hd1 : s1.down = false := by rw [hs1]; exact HF8.down
  have hl1 : s1.bs.length = 2048 := by rw [hs1]; exact hlen
  rw [← hs1] at hw
  have HW := Lib.hid hw
  have HD1 := Lib.hid hd1
  have HL1 := Lib.hid hl1
  have K1 := Lib.hid k1
  clear hF k1 hrp' hM' hws hw hs1 hlen HF8 hF0 hB0 hW0 hd1 hl1 hz hsz hFr
  go_wp2_with fail
  refine HW.out.mono ?_
  rintro e w2 ⟨rfl, hF2, k2⟩
  have HF2 := Lib.hid hF2
  have K2 := Lib.hid (K1.out.then k2 (fun x hx => .inr (HFR.out x hx)))
  have RP2 := Lib.hid (RP1.out.keeps k2 HMN.out)
  clear hF2 k2 HW RP1 K1
  go_wp2_with fail
  refine (all4_any _ HF2.out HD1.out HL1.out).mono ?_
  rintro e w3 ⟨Bb, cb, rfl, hBb, hr3, k3⟩
  have R3 := Lib.hid hr3
  have K3 := Lib.hid (K2.out.trans k3)
  have HF3 := Lib.hid (HF2.out.keeps k3 (by simp) (by simp) (by simp) (by simp))
  have RP3 := Lib.hid (RP2.out.keeps k3 (by simp))
  clear hr3 k3 HF2 RP2 K2
  have hrd3 := R3.out.reads
  rw [HL1.out] at hrd3
  go_wp2_with fail
  refine (Fresh_any _ _ _ Bb hrd3 (by rw [HL1.out]; decide)).mono ?_
  rintro e w4 ⟨Bk, ck, rfl, hBk, hr4, k4⟩
  rw [HL1.out]
  have RB4 := Lib.hid (R3.out.keeps k4 (by simp))
  have RK4 := Lib.hid hr4
  have K4 := Lib.hid (K3.out.trans k4)
  have HF4 := Lib.hid (HF3.out.keeps k4 (by simp) (by simp) (by simp) (by simp))
  have RP4 := Lib.hid (RP3.out.keeps k4 (by simp))
  clear hr4 k4 hrd3 R3 K3 HF3 RP3
  have lt4 : Bb < w4.heap.size := RB4.out.lt
  have hcb : 2048 ≤ cb := by have := RB4.out.room; rw [List.length_map, HL1.out] at this; exact this
  have hcb4 : ¬ cb = 4 := by omega
  -- all that stands there, and what stands at 4
  have hrd := RB4.out.reads
  rw [HL1.out] at hrd
  have HRD := Lib.hid hrd
  have hrq : Reads w4 (.slice (some ⟨Bb, 4, none⟩) 2044 (cb - 4)) (s1.bs.drop 4) Bb := by
    have hdl : (s1.bs.drop 4).length = 2044 := by have := HL1.out; simp; omega
    refine .inr ⟨⟨Bb, 4, none⟩, cb - 4, by rw [hdl], by omega, fun _ => rfl, fun i c hc => ?_⟩
    rw [Addr.add_off]
    rw [List.getElem?_drop] at hc
    exact RB4.out.cell (4 + i) (by rw [List.getElem?_map, hc]; rfl)
  have HRQ := Lib.hid hrq
  have HCN := Lib.hid (rowL_count s1.bs)
  have HSC := Lib.hid (fun U (hU : Keeps [] w4 U) => Scan_any U _ s1.bs Bb (HRD.out.keeps hU (by simp)) (by rw [HL1.out]; decide) (fun _ => by have := hU.size; omega))
  have HAT := Lib.hid (fun U (hU : Keeps [] w4 U) => At_any U _ (s1.bs.drop 4) Bb (HRQ.out.keeps hU (by simp)) (by have := HL1.out; simp; omega))
  obtain ⟨rs, hrs⟩ : ∃ rs, rs = rowL s1.bs := ⟨_, rfl⟩
  obtain ⟨r4, hr4⟩ : ∃ r4, r4 = atL (s1.bs.drop 4) := ⟨_, rfl⟩
  rw [← hrs] at HSC HCN
  rw [← hr4] at HAT
  have hrl : rs.length ≤ 2048 := by rw [← HL1.out]; exact HCN.out
  obtain ⟨ln, hln⟩ : ∃ ln, ln = rs.length := ⟨_, rfl⟩
  have HLN := Lib.hid hln
  rw [← hln] at HSC hrl
  clear hrd hrq hrs hr4 hln
  obtain ⟨z, kd, py⟩ := r4
  go_upto_region 10 with (fail)
  go_cut [40, 41, 42] from 34 (fun v40 v41 v42 wc => ∃ (ao : Option Addr) (cp : Nat) (vs : List Value), v40 = .slice ao (ln + 1) cp ∧ v41 = .int .i64 (ln + 1 : Nat) ∧ v42 = .int .i64 0 ∧
    Hid (wc.ownsRow w4.heap.size 29 4 (.slice ao (ln + 1) cp) (ln + 1) (recsCells (rs ++ [(0, ⟨z, kd, py⟩)]) vs)) ∧ Hid (RecsIn w4.heap.size wc (rs ++ [(0, ⟨z, kd, py⟩)]) vs) ∧ Hid (Keeps [] w4 wc))
  case first =>
    go_region_law (first
      | (refine step_append_lies _ rfl _ _ 25 rfl w4.heap.size 29 i0 (.agg #[.int .i64 0, .int .i64 0, .int .u8 0, .slice none 0 0]) 4 48 Try.underlying25 hi hz0 hz1 hz2 rfl (by decide) (.slice aoS ln cpS) ln (recsCells rs vsS) rfl (HOA.out.alloc _) ⟨wA.heap.size, 0, none⟩ 1 1 [.int .i64 0, .int .i64 z, .int .u8 (kd.toNat : Int), .slice paA pnA pcA] rfl rfl ?c1 ?c2 (by decide) ?c3 ?c4 ?c5 _ rfl ?_
         case c1 =>
           intro i u hu
           rw [Addr.add_off, Nat.zero_add, cell_alloc_new]
           simpa using hu
         case c2 => intro u hu; simp at hu; rcases hu with rfl | rfl | rfl | rfl <;> rfl
         case c3 => unfold maxLen; omega
         case c4 => omega
         case c5 => have := KA.out.size; simp; omega
         intro gL cL wL hownL hgL _ _
         have HOL := Lib.hid hownL
         have HGL := Lib.hid hgL
         clear hownL hgL)
      | (go_simp
         go_wp2_with (first
           | (go_at_call 16; refine (HSC.out _ (Keeps.drew [] w4)).mono ?_; rintro e wS ⟨aoS, cpS, vsS, rfl, hoS, hrS, kS, _⟩; have KS := Lib.hid ((Keeps.drew [] w4).trans kS); have HOS := Lib.hid (show wS.ownsRow w4.heap.size 29 4 (.slice aoS ln cpS) ln (recsCells rs vsS) from World.ownsRow.mono hoS (Nat.le_refl _)); have HRS := Lib.hid (show RecsIn w4.heap.size wS rs vsS from hrS); clear hoS hrS kS)
           | (go_at_call 13; refine (HAT.out _ KS.out).mono ?_; rintro e wA ⟨paA, pnA, pcA, rfl, hoA, kA⟩; dsimp only [recCells]; have KA := Lib.hid (KS.out.trans kA); have HOA := Lib.hid (World.ownsRow.keeps HOS.out kA (by simp)); have HRA := Lib.hid (HRS.out.keeps kA (by simp)); have HPA := Lib.hid (World.ownsRow.mono hoA (KS.out.size)); clear hoA kA))))
    all_goals
      have k13 : Keeps (Value.slice aoS ln cpS).ownBlock.toList wA wL := ((Keeps.alloc [] wA _).mono (by simp)).trans (Keeps.grown (S := (Value.slice aoS ln cpS).ownBlock.toList) HGL.out (fun j hj => .inl (by rw [hj]; simp)))
      have hS : ∀ x ∈ (Value.slice aoS ln cpS).ownBlock.toList, x < w4.heap.size ∨ ∃ cur T', wA.heap[x]? = some (.cells cur T' (0, 0)) ∧ T' ≠ 5 := by
        intro x hx
        obtain ⟨cur, hcur⟩ := owns_heap HOA.out (g := x) (by simpa using hx)
        exact .inr ⟨cur, _, hcur, by decide⟩
      have HO1 := Lib.hid (show wL.ownsRow w4.heap.size 29 4 (.slice (some ⟨gL, 0, none⟩) (ln + 1) cL) (ln + 1) (recsCells (rs ++ [(0, ⟨z, kd, py⟩)]) (vsS ++ [.slice paA pnA pcA])) by
        rw [recsCells_snoc _ _ _ _ HRA.out.len]
        exact HOL.out)
      have HR1 := Lib.hid (show RecsIn w4.heap.size wL (rs ++ [(0, ⟨z, kd, py⟩)]) (vsS ++ [.slice paA pnA pcA]) from
        RecsIn.snoc ⟨HRA.out.len, fun i x v hx hv => owns_keepsT (HRA.out.pay i x v hx hv) k13 hS⟩ _ _ (owns_keepsT HPA.out k13 hS))
      have K1 := Lib.hid (KA.out.then k13 (fun x hx => .inr (HOA.out.lt x (by simpa using hx)).1))
      clear k13 hS HGL HOL HOA HPA HRA KA KS HOS HRS
      go_wp2_with fail
      go_meet
      case rel => exact ⟨_, _, _, rfl, by go_num, rfl, HO1, HR1, K1⟩
  case rest =>
    obtain ⟨ao, cp, vs, rfl, rfl, rfl, HO, HR, KL⟩ := hcut
    obtain ⟨rs', hrs'⟩ : ∃ rs', rs' = rs ++ [(0, (⟨z, kd, py⟩ : R4))] := ⟨_, rfl⟩
    rw [← hrs'] at HO HR
    have hl' : ln + 1 = rs'.length := by rw [hrs', List.length_append, ← HLN.out]; rfl
    obtain ⟨g, curL, hba, hao, hcp, hcur⟩ := Bares.ofOwns HO.out HR.out hl'
    obtain rfl := hao (by rw [hrs']; simp)
    have HBA := Lib.hid hba
    have HCU := Lib.hid (fun (k : Nat) (hk : k < ln + 1) => show ∃ (x : Nat × R4) (pv : Value), pv ∈ vs ∧ curL[k * 4]? = some (.int .i64 x.1) ∧ curL[k * 4 + 1]? = some (.int .i64 x.2.size) ∧ curL[k * 4 + 2]? = some (.int .u8 (x.2.kind.toNat : Int)) ∧ curL[k * 4 + 3]? = some pv from by
      have hkr : k < rs'.length := by omega
      have hkv : k < vs.length := by rw [HR.out.len]; exact hkr
      have e := fun j hj => recsCells_get rs' vs k rs'[k] vs[k] j (List.getElem?_eq_getElem hkr) (List.getElem?_eq_getElem hkv) hj
      exact ⟨rs'[k], vs[k], List.getElem_mem hkv, hcur _ _ ((e 0 (by decide)).trans rfl), hcur _ _ ((e 1 (by decide)).trans rfl), hcur _ _ ((e 2 (by decide)).trans rfl), hcur _ _ ((e 3 (by decide)).trans rfl)⟩)
    have HNE := Lib.hid (show rs' ≠ [] by rw [hrs']; simp)
    clear hrs' hl' hba hao hcur HO HR
    go_wp2
    go_loopw [8, 9, 42] (fun _ _ ix wr => ∃ k : Nat, k ≤ ln + 1 ∧ ix = .int .i64 k ∧ Hid (Bares w4.heap.size wr g curL rs' vs) ∧ Hid (Keeps [] w4 wr)) (fun _ _ ix _ => ln + 1 - (intOf ix).toNat)
    case atStart => exact ⟨0, Nat.zero_le _, rfl, HBA, KL⟩
    case round =>
      obtain ⟨k, hk, rfl, HB, KP⟩ := hrel
      by_cases hlt : k < ln + 1
      · have hki : (k : Int) < ((ln + 1 : Nat) : Int) := by omega
        have hki2 : (k : Int) < (ln : Int) + 1 := by omega
        obtain ⟨x, pv, hmem, e0, e1, e2, e3⟩ := HCU.out k hlt
        have HWL : Whole wr g 29 curL.toList := by have := HB.out.list HNE.out; simpa [Whole] using this
        have c0 : wr.cell? ⟨g, k * 4, none⟩ = some (.int .i64 x.1) := by rw [HWL.cell, Array.getElem?_toList]; exact e0
        have c1 : wr.cell? ⟨g, k * 4 + 1, none⟩ = some (.int .i64 x.2.size) := by rw [HWL.cell, Array.getElem?_toList]; exact e1
        have c2 : wr.cell? ⟨g, k * 4 + 2, none⟩ = some (.int .u8 (x.2.kind.toNat : Int)) := by rw [HWL.cell, Array.getElem?_toList]; exact e2
        have c3 : wr.cell? ⟨g, k * 4 + 3, none⟩ = some pv := by rw [HWL.cell, Array.getElem?_toList]; exact e3
        have hg := HWL.lt
        obtain ⟨pa, pn, pc, rfl, hpm, _⟩ := HB.out.bare pv hmem
        have HMEM := Lib.hid hmem
        obtain ⟨t, z', kd', py'⟩ := x
        dsimp only at c0 c1 c2 c3
        clear e0 e1 e2 e3 HWL hmem
        have s4 := KP.out.size
        have HA0 := Lib.hid (HB.out.keeps (Keeps.alloc [] wr (.cells #[.int .i64 t, .int .i64 z', .int .u8 (kd'.toNat : Int), .slice pa pn pc] 29)))
        have KA0 := Lib.hid (KP.out.trans (Keeps.alloc [] wr (.cells #[.int .i64 t, .int .i64 z', .int .u8 (kd'.toNat : Int), .slice pa pn pc] 29)))
        have WA0 := Lib.hid (Whole.new wr 29 [.int .i64 t, .int .i64 z', .int .u8 (kd'.toNat : Int), .slice pa pn pc])
        obtain ⟨rb, hrb⟩ : ∃ rb, rb = wr.heap.size := ⟨_, rfl⟩
        have hpm2 : (pn : Int) ≤ 9223372036854775807 := by unfold maxLen at hpm; omega
        go_wp2
        obtain ⟨wo, rfl⟩ : ∃ wo : World, wo = wr := ⟨_, rfl⟩
        go_loopw [9, 49] (fun _ ix wr => ∃ i : Nat, i ≤ pn ∧ ix = .int .i64 i ∧ Hid (Bares w4.heap.size wr g curL rs' vs) ∧ Hid (Keeps [] w4 wr) ∧ Hid (Whole wr wo.heap.size 29 [.int .i64 t, .int .i64 z', .int .u8 (kd'.toNat : Int), .slice pa pn pc])) (fun _ ix _ => pn - (intOf ix).toNat)
        case atStart => exact ⟨0, Nat.zero_le _, rfl, HA0, KA0, WA0⟩
        case round =>
          obtain ⟨i, hi2, rfl, HB2, KP2, HW2⟩ := hrel
          by_cases hlt2 : i < pn
          · have hii : (i : Int) < (pn : Int) := by omega
            obtain ⟨pa', pn', pc', hv', _, hb'⟩ := HB2.out.bare _ HMEM.out
            simp only [Value.slice.injEq] at hv'
            obtain ⟨rfl, rfl, rfl⟩ := hv'
            obtain ⟨gp, cur, rfl, hgp, hcell, hsz⟩ := hb' (by omega)
            have HWP : Whole wr gp 5 cur.toList := by simpa [Whole] using hcell
            have d0 : wr.cell? ⟨gp, i, none⟩ = some (cur[i]'(by omega)) := by rw [HWP.cell, Array.getElem?_toList]; exact Array.getElem?_eq_getElem (by omega)
            have fz := HWP.frozen i
            have d3 := (HW2.out.cell 3).trans (show _ = some (Value.slice (some ⟨gp, 0, none⟩) pn pc) from rfl)
            have HS := Lib.hid (HB2.out.set gp i (.int .u8 1) cur hcell)
            have kS : Keeps [gp] wr (wr.setCell ⟨gp, i, none⟩ (.int .u8 1)) := Keeps.setCell _ (by simp) _
            have KS := Lib.hid (KP2.out.then kS (fun x hx => .inr (by simp at hx; omega)))
            have WS := Lib.hid (HW2.out.keeps kS (by
              simp only [List.mem_singleton]
              intro e
              have h2 := HW2.out
              unfold Whole at h2
              rw [e, hcell] at h2
              cases h2))
            generalize cur[i] = old at d0
            have hgl := HWP.lt
            have hrl2 := HW2.out.lt
            clear hcell hsz HWP kS hb'
            go_wp2
            go_roundw
            case rel => exact ⟨i + 1, by omega, by go_num, HS, KS, WS⟩
            case measure => simp [intOf]; omega
          · obtain rfl : i = pn := by omega
            go_wp2
            go_roundw
            case rel => exact ⟨k + 1, by omega, by go_num, HB2, KP2⟩
            case measure => simp [intOf]; omega
      · obtain rfl : k = ln + 1 := by omega
        have hno : ¬ ((ln + 1 : Nat) : Int) < ((ln + 1 : Nat) : Int) := by omega
        have hno2 : ¬ (ln : Int) + 1 < (ln : Int) + 1 := by omega
        have hrk := RK4.out.reads
        rw [HL1.out] at hrk
        have HRK := Lib.hid (hrk.keeps KP.out (by simp))
        have HRB := Lib.hid (HRD.out.keeps KP.out (by simp))
        have HFR0 := Lib.hid (HF4.out.keeps KP.out (by simp) (by simp) (by simp) (by simp))
        have RP5 := Lib.hid (RP4.out.keeps KP.out (by simp))
        have K5 := Lib.hid (K4.out.trans KP.out)
        have hpp : p.length ≤ 4080 := by rw [← HP.out]; omega
        have H1 := Lib.hid (write_align (s := s1) p hpp HD1.out HL1.out)
        have H2 := Lib.hid (write_out (s := s1) 2048 p hpp HD1.out (by decide) (fun h => by
          have h1 := h.2.2
          rw [HL1.out] at h1
          unfold sizeN at h1
          omega))
        have H3 := Lib.hid (write_out (s := s1) (-4) p hpp HD1.out (by decide) (fun h => by have h1 := h.1; omega))
        have HPP := Lib.hid (show p.length ≤ 9223372036854775807 by omega)
        have HP8 := Lib.hid (show P ≤ 4080 by omega)
        clear hrk hpp HB KP HF4 RP4 K4 RB4 RK4 HRD HCU HBA HSC HAT HRQ HCN KL
        go_wp2_with fail
        refine (Is_any _ _ _ s1.bs s1.bs Bb Bk HRB.out HRK.out).mono ?_
        rintro e w' ⟨rfl, rfl⟩
        rw [beq_self_eq_true]
        have hw1 := Write_any wr HFR0.out 2 _ p M' RP5.out HPP.out
        rw [H1.out] at hw1
        have HW1 := Lib.hid hw1
        clear hw1
        go_wp2_with fail
        refine HW1.out.mono ?_
        rintro e w6 ⟨rfl, hf6, k6⟩
        have RP6 := Lib.hid (RP5.out.keeps k6 HMN.out)
        have K6 := Lib.hid (K5.out.then k6 (fun x hx => .inr (HFR.out x hx)))
        have hw2 := Write_any w6 hf6 2048 _ p M' RP6.out HPP.out
        rw [H2.out] at hw2
        have HW2 := Lib.hid hw2
        clear hw2 hf6 k6 HW1 RP5 K5
        go_wp2_with fail
        refine HW2.out.mono ?_
        rintro e w7 ⟨rfl, hf7, k7⟩
        have RP7 := Lib.hid (RP6.out.keeps k7 HMN.out)
        have K7 := Lib.hid (K6.out.then k7 (fun x hx => .inr (HFR.out x hx)))
        have hw3 := Write_any w7 hf7 (-4) _ p M' RP7.out HPP.out
        rw [H3.out] at hw3
        have HW3 := Lib.hid hw3
        clear hw3 hf7 k7 HW2 RP6 K6
        go_wp2_with fail
        refine HW3.out.mono ?_
        rintro e w8 ⟨rfl, hf8, k8⟩
        have K8 := Lib.hid (K7.out.then k8 (fun x hx => .inr (HFR.out x hx)))
        clear hf8 k8 HW3 RP7 K7
        go_wp2_with fail
        refine (Write_none _ _ _ _ HP8.out).mono ?_
        rintro e w9 ⟨rfl, k9⟩
        have K9 := Lib.hid (K8.out.trans k9)
        clear k9
        go_wp2_with (go_at_call 10; refine (awake4_any _).mono ?_; rintro e wf ⟨rfl, kf⟩; have KF := Lib.hid kf; clear kf)
        go_ret
        exact ⟨rfl, K9.out.trans KF.out⟩

theorem RecordOwn_any (w : World) (v : Value) (p : List UInt8) (Mp : Nat) (rp : Reads w v p Mp) (hMp : p ≠ [] → Mp < w.heap.size) :
    Calls Try.prog 4 #[v] w fun e w' => e = .returned (.bool true) ∧ Keeps [] w w' := by
  by_cases h : 1000 < p.length
  · obtain ⟨a, cap, rfl, _⟩ := rp.shape
    exact RecordOwn_long w a _ cap h
  · exact RecordOwn_short w v p Mp rp (by omega) hMp
end Go.Proofs.Ytdcfcljgennipaa
