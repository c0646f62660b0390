/-
  RecordTorn, walked.
-/
import Derived.Test.YtjdjjcpglcoojaaRecTornA
namespace Go.Proofs.Ytjdjjcpglcoojaa
open Go.RowKit

theorem run_cutR (w : World) (a : Option Addr) (len cap hi : Nat) (h : hi ≤ cap) : (Instr.sliceAt 25 (.slice a len cap) none (some (.int .i64 hi)) none).run Try.prog w = .ok (.slice a hi cap) w := by
  have hel : Try.prog.elem 25 = 29 := by kernel_rfl
  have hu : Try.prog.underlying 25 = some (.slice (Try.prog.elem 25)) := by rw [hel]; exact Try.underlying25
  have hsz : (sizeOf 29).run Try.prog w = .ok 4 w := by kernel_rfl
  rw [run_sliceAt_slice _ _ _ _ _ _ hu, run_slice_h _ _ _ _ _ hu _ _ (by omega) (by omega), hel, hsz]
  simp only [Result.andThen, sliced, Int.toNat_natCast]
  by_cases hc : cap = 0
  · rw [if_pos hc]; simp
  · rw [if_neg hc]
    cases a with
    | none => rfl
    | some ad => simp [Addr.add]

set_option maxRecDepth 100000 in
set_option maxHeartbeats 20000000 in
theorem RecordTorn_short (w : World) (a : Option Addr) (n c B o m : Nat) (ls : List (List UInt8)) (p next mask : List UInt8) (vp vn vm : Value) (Mp Mn Mm : Nat) (at' : Int)
    (hm : m = min n 6) (hml : m = ls.length) (hn : n ≤ 9223372036854775807) (ha : ls ≠ [] → a = some ⟨B, o, none⟩) (hP : PartsAt w B o ls) (hc : n ≤ c)
    (rp : Reads w vp p Mp) (rn : Reads w vn next Mn) (rm : Reads w vm mask Mm) (hp : p.length ≤ 200) (hnx : next.length ≤ 200) (hmk : mask.length ≤ 300) (hat : 0 ≤ at' ∧ at' ≤ 255) :
    Calls Try.prog 4 #[.slice a n c, vp, vn, .int .u8 at', vm] w fun e w' => e = .returned (.bool true) ∧ Keeps [] w w' := by
  obtain ⟨xp, cp, rfl, _⟩ := rp.shape
  obtain ⟨xn, cn, rfl, _⟩ := rn.shape
  obtain ⟨xm, cm, rfl, _⟩ := rm.shape
  have hmin := fun w ts t => run_min2 w ts t (n : Int) 6 m (by omega)
  have hcut := fun w => run_cutP w a n c m (by omega)
  have HWT := Lib.hid (written4_any w a c B o ls ha hP (by unfold maxLen; omega) (by omega))
  rw [← hml] at HWT
  have HML := Lib.hid hml
  obtain ⟨k, hk⟩ : ∃ k : Nat, at' % 3 = (k : Int) := ⟨(at' % 3).toNat, by omega⟩
  have hk3 : k < 3 := by omega
  have hk2 : at'.tmod 3 = (k : Int) := by rw [Int.tmod_eq_emod_of_nonneg (by omega)]; exact hk
  have hwr : IntKind.i64.wrap at' = at' := IntWalk.i64_in _ (by omega)
  have hcl := cutP_length ls
  have hcl2 : (cutP ls).length = m := by rw [hcl]; omega
  have HCL := Lib.hid hcl2
  obtain ⟨q, hq⟩ : ∃ q, q = sizes (cutP ls) := ⟨_, rfl⟩
  have hq4 := sizes_mod (cutP ls)
  have hq2 := sizes_le (cutP ls) (cutP_short ls)
  rw [hcl2] at hq2
  rw [← hq] at HWT hq4 hq2
  have HQ := Lib.hid hq
  have RP := Lib.hid rp
  have RN := Lib.hid rn
  have RM := Lib.hid rm
  have m6 : m ≤ 6 := by omega
  have lp1 : ¬ (200 : Int) < (p.length : Int) := by omega
  have ln1 : ¬ (200 : Int) < (next.length : Int) := by omega
  have lm1 : ¬ (300 : Int) < (mask.length : Int) := by omega
  obtain ⟨np, hnp⟩ : ∃ x, x = p.length := ⟨_, rfl⟩
  obtain ⟨nn, hnn⟩ : ∃ x, x = next.length := ⟨_, rfl⟩
  obtain ⟨nm, hnm⟩ : ∃ x, x = mask.length := ⟨_, rfl⟩
  rw [← hnp] at RP hp lp1 ⊢
  rw [← hnn] at RN hnx ln1 ⊢
  rw [← hnm] at RM hmk lm1 ⊢
  have HNP := Lib.hid hnp
  have HNN := Lib.hid hnn
  have HNM := Lib.hid hnm
  clear hm hml ha hP rp rn rm hcl hcl2 hq hnp hnn hnm
  go_enter Try.func4, Try.ntmps4
  go_wp2_with fail
  refine HWT.out.mono ?_
  rintro e w1 ⟨F, Bb, Wb, M, s, rfl, hF, hWr, k1, hF0, hB0, hW0⟩
  obtain ⟨hHas, hsum⟩ := hWr.has (cutP_short ls)
  obtain ⟨xs, hxs⟩ : ∃ xs, xs = (cutP ls).map recItem := ⟨_, rfl⟩
  rw [← hxs] at hHas hsum
  rw [← HQ.out] at hsum
  have hxl : xs.length = m := by rw [hxs, List.length_map, HCL.out]
  have HX := Lib.hid hxl
  have HH := Lib.hid hHas
  have HS := Lib.hid hsum
  have HF := Lib.hid hF
  have K1 := Lib.hid k1
  have HALL := Lib.hid (all4_any w1 hF hHas.down hHas.len)
  have hFl := hF.lt
  clear hF hWr k1 hHas hsum hxs hxl HWT
  go_wp2_with fail
  refine HALL.out.mono ?_
  rintro e w2 ⟨b, cb, rfl, hb2, hr2, k2⟩
  have HSC := Lib.hid (scan_has HH.out w2 b cb hr2)
  have HF2 := Lib.hid (HF.out.keeps k2 (by simp) (by simp) (by simp) (by simp))
  have K2 := Lib.hid (K1.out.trans k2)
  have hs2 := k2.size
  clear hr2 k2 HALL HF
  go_wp2_with fail
  refine HSC.out.mono ?_
  rintro e w3 ⟨v3, rfl, hL, k3, hw3⟩
  obtain ⟨ao, cc, rfl, hcc⟩ := hL.shape
  have hrl : (rowI 0 xs).length = m := by rw [rowI_length, HX.out]
  rw [hrl] at hL hcc ⊢
  have HL := Lib.hid hL
  have HF3 := Lib.hid (HF2.out.keeps k3 (by simp) (by simp) (by simp) (by simp))
  have K3 := Lib.hid (K2.out.trans k3)
  have hs3 := k3.size
  clear hL k3 hrl HF2 HSC
  -- armed
  have HAR := Lib.hid (Arm_any w3 HF3.out k _ mask Mm (RM.out.keeps K3.out (by simp)) HH.out.down (by omega) (by rw [← HNM.out]; omega))

  go_wp2_with fail
  refine HAR.out.mono ?_
  rintro e w4 ⟨rfl, M4, hF4, k4⟩
  obtain ⟨s5, ys, hws, hHas5, hcase⟩ := HH.out.torn p mask k hk3 (by rw [← HNP.out]; exact hp) (by rw [HS.out]; exact hq4) (by rw [HS.out]; omega)
  rw [HS.out] at hws
  have hkw4 : Keeps [] w w4 := K3.out.then k4 (fun x hx => .inr (by simp at hx; omega))
  have HW := Lib.hid (Write_any w4 hF4 q _ p Mp (RP.out.keeps hkw4 (by simp)) (by rw [← HNP.out]; omega))
  rw [hws] at HW
  have HL4 := Lib.hid (HL.out.keeps k4 (fun x hx => by simp at hx; subst hx; exact .inl (by omega)))
  have K4 := Lib.hid hkw4
  have HH5 := Lib.hid hHas5
  have HC := Lib.hid hcase
  have hs4 := k4.size
  clear hF4 k4 hws hHas5 hkw4 HAR HL HF3
  go_wp2_with fail
  refine HW.out.mono ?_
  rintro e w5 ⟨rfl, hF5, k5⟩
  have HUP := Lib.hid (Up_yes w5 hF5)
  have HL5 := Lib.hid (HL4.out.keeps k5 (fun x hx => by simp at hx; rcases hx with rfl | rfl <;> exact .inl (by omega)))
  have K5 := Lib.hid (K4.out.then k5 (fun x hx => .inr (by simp at hx; rcases hx with rfl | rfl <;> omega)))
  have hs5 := k5.size
  clear hF5 k5 HW HL4
  go_wp2_with fail
  refine HUP.out.mono ?_
  rintro e w6 ⟨rfl, hF6, k6⟩
  have HL6 := Lib.hid (HL5.out.keeps k6 (fun x hx => by simp at hx; subst hx; exact .inl (by omega)))
  have K6 := Lib.hid (K5.out.then k6 (fun x hx => .inr (by simp at hx; omega)))
  have HF6 := Lib.hid hF6
  have hs6 := k6.size
  clear hF6 k6 HUP HL5
  generalize s5.up = s6 at *
  have HALL := Lib.hid (all4_any w6 HF6.out HH5.out.down HH5.out.len)
  go_wp2_with fail
  refine HALL.out.mono ?_
  rintro e w7 ⟨b7, cb7, rfl, hb7, hr7, k7⟩
  have HSC := Lib.hid (scan_has HH5.out w7 b7 cb7 hr7)
  have HF7 := Lib.hid (HF6.out.keeps k7 (by simp) (by simp) (by simp) (by simp))
  have HL7 := Lib.hid (HL6.out.keeps k7 (by simp))
  have K7 := Lib.hid (K6.out.trans k7)
  have hs7 := k7.size
  clear hr7 k7 HALL HF6 HL6
  go_wp2_with fail
  refine HSC.out.mono ?_
  rintro e w8 ⟨v8, rfl, hN, k8, hw8⟩
  obtain ⟨ao8, cc8, rfl, hcc8⟩ := hN.shape
  have hrl : (rowI 0 (xs ++ ys)).length = m + ys.length := by rw [rowI_length, List.length_append, HX.out]
  rw [hrl] at hN hcc8 ⊢
  have HN8 := Lib.hid hN
  have HL8 := Lib.hid (HL7.out.keeps k8 (by simp))
  have HF8 := Lib.hid (HF7.out.keeps k8 (by simp) (by simp) (by simp) (by simp))
  have K8 := Lib.hid (K7.out.trans k8)
  have hs8 := k8.size
  clear hN k8 hrl HL7 HF7 HSC
  have hz8 : 0 < w8.heap.size := hw8
  have RW := Lib.hid (HL8.out.recs hz8)
  have RNW := Lib.hid (HN8.out.recs hz8)
  have HYL : ys.length = 0 ∨ ys.length = 1 := by
    rcases HC.out with ⟨h, _⟩ | ⟨⟨y, h⟩, _⟩ | ⟨y, h⟩ | ⟨h, _⟩ <;> simp [h]
  have hcutR := fun w => run_cutR w ao8 (m + ys.length) cc8 m (by omega)
  have RT := RNW.out.take m (by rw [rowI_length, List.length_append, HX.out]; omega)
  have htk := rowI_take 0 xs ys
  rw [HX.out] at htk
  rw [htk] at RT
  have HAE := Lib.hid (AreRecords_same w8 _ _ _ RT RW.out (by rw [rowI_length, HX.out]; omega))
  have hLS := HH5.out
  obtain ⟨E, hE⟩ : ∃ E, E = sumI (xs ++ ys) := ⟨_, rfl⟩
  have hEE : E % 4 = 0 ∧ E + 300 ≤ 2048 := by
    rw [hE, sumI_append, HS.out]
    have hz4 := sizeN_mod p.length
    have hzp := HNP.out
    have hzf := fillN_lt p.length
    have hzd : sizeN p.length = 12 + fillN p.length := rfl
    rcases HC.out with ⟨h, _⟩ | ⟨⟨y, h⟩, _⟩ | ⟨y, h⟩ | ⟨h, _⟩
    · subst h; simp [sumI]; omega
    · subst h; simp [sumI]; omega
    · subst h; simp [sumI, -List.length_flatten]; omega
    · subst h; simp [sumI, recItem, -List.length_flatten]; omega
  have HE := Lib.hid hE
  clear RT htk hcc hcc8 hLS hE
  obtain ⟨nl, hnl⟩ : ∃ nl, nl = m + ys.length := ⟨_, rfl⟩
  rw [← hnl] at hcutR HN8 ⊢
  have HCELL : ∀ x, ys = [x] → ∃ (g : Nat) (pv : Value) (M : Nat), ao8 = some ⟨g, 0, none⟩ ∧ w8.cell? ⟨g, m * 4, none⟩ = some (.int .i64 q) ∧ w8.cell? ⟨g, m * 4 + 1, none⟩ = some (.int .i64 x.2.size) ∧ w8.cell? ⟨g, m * 4 + 2, none⟩ = some (.int .u8 (x.2.kind.toNat : Int)) ∧ w8.cell? ⟨g, m * 4 + 3, none⟩ = some pv ∧ Reads w8 pv x.2.pay M := by
    intro x hx
    obtain ⟨ao', cap', hv', _, hcells⟩ := RNW.out
    have hg := rowI_get 0 xs x []
    rw [HX.out, HS.out, Nat.zero_add, ← hx] at hg
    obtain ⟨g, pv, M, h1, _, c0, c1, c2, c3, hr, _⟩ := hcells m _ hg
    have : ao8 = ao' := by simp at hv'; exact hv'.1
    exact ⟨g, pv, M, by rw [this]; exact h1, c0, c1, c2, c3, hr⟩
  have HCL2 := Lib.hid HCELL
  have HNL := Lib.hid hnl
  have hnlb : m ≤ nl ∧ nl ≤ m + 1 := by omega
  obtain ⟨hnl1, hnl2⟩ := hnlb
  clear HCELL HYL hnl
  go_wp2_with fail
  refine HAE.out.mono ?_
  rintro e w9 ⟨rfl, k9⟩
  have HF9 := Lib.hid (HF8.out.keeps k9 (by simp) (by simp) (by simp) (by simp))
  have HN9 := Lib.hid (HN8.out.keeps k9 (by simp))
  have K9 := Lib.hid (K8.out.trans k9)
  have KL := Lib.hid k9
  have hs9 := k9.size
  clear k9 HAE HF8 HN8 RW RNW HL8
  have HZ : ∃ z, z = sizeN np := ⟨_, rfl⟩
  obtain ⟨z, hz⟩ := HZ
  have HZ := Lib.hid hz
  clear hz
  rcases HC.out with ⟨hy, hk0⟩ | ⟨⟨y, hy⟩, hk0⟩ | ⟨y, hy⟩ | ⟨hy, hk0⟩
  · obtain rfl : nl = m := by rw [HNL.out, hy]; rfl
    subst hk0
    have HH := HH
    go_wp2_with fail
    have KE := Lib.hid (Keeps.refl [] w9)
    have HFE := Lib.hid (HF9.out.keeps KE.out (by simp) (by simp) (by simp) (by simp))
    have HNE := Lib.hid (HN9.out.keeps KE.out (by simp))
    have KWE := Lib.hid (K9.out.trans KE.out)
    have hsE := KE.out.size
    have HALL := Lib.hid (all4_any _ HFE.out HH5.out.down HH5.out.len)
    refine HALL.out.mono ?_
    rintro e w10 ⟨b10, cb10, rfl, hb10, hr10, k10⟩
    have HEN := Lib.hid (end_has HH5.out w10 b10 cb10 hr10)
    rw [← HE.out] at HEN
    have HF10 := Lib.hid (HFE.out.keeps k10 (by simp) (by simp) (by simp) (by simp))
    have HN10 := Lib.hid (HNE.out.keeps k10 (by simp))
    have K10 := Lib.hid (KWE.out.trans k10)
    have hs10 := k10.size
    clear hr10 k10 HALL HFE HNE
    go_wp2_with fail
    refine HEN.out.mono ?_
    rintro e w11 ⟨rfl, k11⟩
    have HF11 := Lib.hid (HF10.out.keeps k11 (by simp) (by simp) (by simp) (by simp))
    have HN11 := Lib.hid (HN10.out.keeps k11 (by simp))
    have K11 := Lib.hid (K10.out.trans k11)
    have hs11 := k11.size
    obtain ⟨s7, hws7, hH7⟩ := HH5.out.more next (by rw [← HNN.out]; exact hnx) (by rw [← HE.out]; exact hEE.1) (by rw [← HE.out]; exact hEE.2)
    rw [← HE.out] at hws7
    have HW := Lib.hid (Write_any w11 HF11.out E _ next Mn (RN.out.keeps K11.out (by simp)) (by rw [← HNN.out]; omega))
    rw [hws7] at HW
    have HH7 := Lib.hid hH7
    clear k11 hws7 hH7 HEN HF10 HN10
    go_wp2_with fail
    refine HW.out.mono ?_
    rintro e w12 ⟨rfl, hF12, k12⟩
    have HN12 := Lib.hid (HN11.out.keeps k12 (fun x hx => by simp at hx; rcases hx with rfl | rfl <;> exact .inl (by omega)))
    have K12 := Lib.hid (K11.out.then k12 (fun x hx => .inr (by simp at hx; rcases hx with rfl | rfl <;> omega)))
    have hs12 := k12.size
    have HALL := Lib.hid (all4_any w12 hF12 HH7.out.down HH7.out.len)
    clear hF12 k12 HW HN11 HF11
    go_wp2_with fail
    refine HALL.out.mono ?_
    rintro e w13 ⟨b13, cb13, rfl, hb13, hr13, k13⟩
    have HSC := Lib.hid (scan_has HH7.out w13 b13 cb13 hr13)
    have HN13 := Lib.hid (HN12.out.keeps k13 (by simp))
    have K13 := Lib.hid (K12.out.trans k13)
    have hs13 := k13.size
    clear hr13 k13 HALL HN12
    go_wp2_with fail
    refine HSC.out.mono ?_
    rintro e w14 ⟨v14, rfl, hT, k14, hw14⟩
    have HN14 := Lib.hid (HN13.out.keeps k14 (by simp))
    have K14 := Lib.hid (K13.out.trans k14)
    have hs14 := k14.size
    have hzl : (rowI 0 (xs ++ ys)).length = nl := by rw [rowI_length, List.length_append, HX.out]; exact HNL.out.symm
    have hRT := hT.recs hw14
    obtain ⟨ao14, cc14, rfl, hcc14⟩ := hT.shape
    have hzt : (rowI 0 (xs ++ ys ++ [recItem next])).length = nl + 1 := by
      rw [rowI_length, List.length_append, ← rowI_length 0 (xs ++ ys), hzl]; rfl
    rw [hzt] at hRT hcc14 ⊢
    have hcut14 := fun w => run_cutR w ao14 (nl + 1) cc14 nl (by omega)
    have hR2 := hRT.take nl (by omega)
    have htk := rowI_take 0 (xs ++ ys) [recItem next]
    rw [show (xs ++ ys).length = nl from by rw [← rowI_length 0 (xs ++ ys), hzl]] at htk
    rw [htk] at hR2
    have HAE := Lib.hid (AreRecords_same w14 _ _ _ hR2 (HN14.out.recs (by omega)) (by rw [hzl]; omega))
    obtain ⟨ao', cap', hv', _, hcells⟩ := hRT
    have hgt := rowI_get 0 (xs ++ ys) (recItem next) []
    rw [show (xs ++ ys).length = nl from by rw [← rowI_length 0 (xs ++ ys), hzl]] at hgt
    obtain ⟨g14, pv14, M14, h14, _, e0, e1, e2, e3, hrn, _⟩ := hcells _ _ hgt
    obtain rfl : ao14 = ao' := by simp at hv'; exact hv'.1
    subst h14
    dsimp only [recItem] at e2 hrn
    have HRN := Lib.hid hrn
    obtain ⟨pn14, pc14, rfl, _⟩ := hrn.shape
    rw [← HNN.out] at e3
    clear hT k14 hzl hzt hR2 htk hcells hgt hrn e0 e1 HSC HN13 hv'
    go_wp2_with fail
    refine HAE.out.mono ?_
    rintro e w15 ⟨rfl, k15⟩
    have e2 := k15.cell e2 (by simp)
    have e3 := k15.cell e3 (by simp)
    have HIN := Lib.hid (show Calls Try.prog 17 #[.slice pn14 nn pc14, .slice xn nn cn] w15 fun e w' => e = .returned (.bool true) ∧ w' = w15 by
      have := Is_any w15 _ _ _ _ _ _ (HRN.out.keeps k15 (by simp)) (RN.out.keeps (K14.out.trans k15) (by simp))
      rw [beq_self_eq_true, ← HNN.out] at this
      exact this.mono fun _ _ h => ⟨h.1, h.2.symm⟩)
    have K15 := Lib.hid (K14.out.trans k15)
    clear k15 HAE
    go_wp2_with fail
    refine HIN.out.mono ?_
    rintro e w16 ⟨rfl, rfl⟩
    go_wp2_with fail
    refine (awake4_any _).mono ?_
    rintro e w17 ⟨rfl, k17⟩
    have K17 := Lib.hid k17
    clear k17
    go_wp2
    go_ret
    exact ⟨rfl, K15.out.trans K17.out⟩
  · have hnm1 : m < nl := by have := HNL.out; rw [hy] at this; simp at this; omega
    obtain ⟨g, pv, Mx, rfl, c0, c1, c2, c3, hrx⟩ := HCL2.out _ hy
    subst hk0
    dsimp only at c1 c2 hrx
    obtain ⟨px, cx, rfl, _⟩ := hrx.shape
    have c0 := KL.out.cell c0 (by simp)
    have c1 := KL.out.cell c1 (by simp)
    have c2 := KL.out.cell c2 (by simp)
    have c3 := KL.out.cell c3 (by simp)
    have HRX := Lib.hid (hrx.keeps KL.out (by simp))
    clear hrx
    go_upto_region 14 with (fail)
    have wN := Whole.new w9 29 [.int .i64 q, .int .i64 4, .int .u8 3, .slice px 0 cx]
    have kN : Keeps [] w9 (w9.alloc (.cells #[.int .i64 q, .int .i64 4, .int .u8 3, .slice px 0 cx] 29)) := Keeps.alloc [] _ _
    generalize hV : World.alloc w9 _ = V
    have wV : Whole V w9.heap.size 29 [.int .i64 q, .int .i64 4, .int .u8 3, .slice px 0 cx] := by rw [← hV]; exact wN
    have kV : Keeps [] w9 V := by rw [← hV]; exact kN
    have d0 := (wV.cell 0).trans (show _ = some (Value.int .i64 (q : Int)) from rfl)
    have d1 := (wV.cell 1).trans (show _ = some (Value.int .i64 4) from rfl)
    have d2 := (wV.cell 2).trans (show _ = some (Value.int .u8 3) from rfl)
    have d3 := (wV.cell 3).trans (show _ = some (Value.slice px 0 cx) from rfl)
    have KV := Lib.hid kV
    clear wN kN hV wV kV c0 c1 c2 c3
    go_quiet (fail)
    go_wp2
    have kD : Keeps [] V (V.drewN nq) := Keeps.drewN _ _ _
    generalize V.drewN nq = U at *
    have d0 := kD.cell d0 (by simp)
    have d1 := kD.cell d1 (by simp)
    have d2 := kD.cell d2 (by simp)
    have d3 := kD.cell d3 (by simp)
    have KU := Lib.hid (KV.out.trans kD)
    clear kD KV
    go_quiet (fail)
    go_wp2_with fail
    have KE := Lib.hid (KU.out.trans (show Keeps [] U (U.drewN nq) from Keeps.drewN _ _ _))
    have HFE := Lib.hid (HF9.out.keeps KE.out (by simp) (by simp) (by simp) (by simp))
    have HNE := Lib.hid (HN9.out.keeps KE.out (by simp))
    have KWE := Lib.hid (K9.out.trans KE.out)
    have hsE := KE.out.size
    have HALL := Lib.hid (all4_any _ HFE.out HH5.out.down HH5.out.len)
    refine HALL.out.mono ?_
    rintro e w10 ⟨b10, cb10, rfl, hb10, hr10, k10⟩
    have HEN := Lib.hid (end_has HH5.out w10 b10 cb10 hr10)
    rw [← HE.out] at HEN
    have HF10 := Lib.hid (HFE.out.keeps k10 (by simp) (by simp) (by simp) (by simp))
    have HN10 := Lib.hid (HNE.out.keeps k10 (by simp))
    have K10 := Lib.hid (KWE.out.trans k10)
    have hs10 := k10.size
    clear hr10 k10 HALL HFE HNE
    go_wp2_with fail
    refine HEN.out.mono ?_
    rintro e w11 ⟨rfl, k11⟩
    have HF11 := Lib.hid (HF10.out.keeps k11 (by simp) (by simp) (by simp) (by simp))
    have HN11 := Lib.hid (HN10.out.keeps k11 (by simp))
    have K11 := Lib.hid (K10.out.trans k11)
    have hs11 := k11.size
    obtain ⟨s7, hws7, hH7⟩ := HH5.out.more next (by rw [← HNN.out]; exact hnx) (by rw [← HE.out]; exact hEE.1) (by rw [← HE.out]; exact hEE.2)
    rw [← HE.out] at hws7
    have HW := Lib.hid (Write_any w11 HF11.out E _ next Mn (RN.out.keeps K11.out (by simp)) (by rw [← HNN.out]; omega))
    rw [hws7] at HW
    have HH7 := Lib.hid hH7
    clear k11 hws7 hH7 HEN HF10 HN10
    go_wp2_with fail
    refine HW.out.mono ?_
    rintro e w12 ⟨rfl, hF12, k12⟩
    have HN12 := Lib.hid (HN11.out.keeps k12 (fun x hx => by simp at hx; rcases hx with rfl | rfl <;> exact .inl (by omega)))
    have K12 := Lib.hid (K11.out.then k12 (fun x hx => .inr (by simp at hx; rcases hx with rfl | rfl <;> omega)))
    have hs12 := k12.size
    have HALL := Lib.hid (all4_any w12 hF12 HH7.out.down HH7.out.len)
    clear hF12 k12 HW HN11 HF11
    go_wp2_with fail
    refine HALL.out.mono ?_
    rintro e w13 ⟨b13, cb13, rfl, hb13, hr13, k13⟩
    have HSC := Lib.hid (scan_has HH7.out w13 b13 cb13 hr13)
    have HN13 := Lib.hid (HN12.out.keeps k13 (by simp))
    have K13 := Lib.hid (K12.out.trans k13)
    have hs13 := k13.size
    clear hr13 k13 HALL HN12
    go_wp2_with fail
    refine HSC.out.mono ?_
    rintro e w14 ⟨v14, rfl, hT, k14, hw14⟩
    have HN14 := Lib.hid (HN13.out.keeps k14 (by simp))
    have K14 := Lib.hid (K13.out.trans k14)
    have hs14 := k14.size
    have hzl : (rowI 0 (xs ++ ys)).length = nl := by rw [rowI_length, List.length_append, HX.out]; exact HNL.out.symm
    have hRT := hT.recs hw14
    obtain ⟨ao14, cc14, rfl, hcc14⟩ := hT.shape
    have hzt : (rowI 0 (xs ++ ys ++ [recItem next])).length = nl + 1 := by
      rw [rowI_length, List.length_append, ← rowI_length 0 (xs ++ ys), hzl]; rfl
    rw [hzt] at hRT hcc14 ⊢
    have hcut14 := fun w => run_cutR w ao14 (nl + 1) cc14 nl (by omega)
    have hR2 := hRT.take nl (by omega)
    have htk := rowI_take 0 (xs ++ ys) [recItem next]
    rw [show (xs ++ ys).length = nl from by rw [← rowI_length 0 (xs ++ ys), hzl]] at htk
    rw [htk] at hR2
    have HAE := Lib.hid (AreRecords_same w14 _ _ _ hR2 (HN14.out.recs (by omega)) (by rw [hzl]; omega))
    obtain ⟨ao', cap', hv', _, hcells⟩ := hRT
    have hgt := rowI_get 0 (xs ++ ys) (recItem next) []
    rw [show (xs ++ ys).length = nl from by rw [← rowI_length 0 (xs ++ ys), hzl]] at hgt
    obtain ⟨g14, pv14, M14, h14, _, e0, e1, e2, e3, hrn, _⟩ := hcells _ _ hgt
    obtain rfl : ao14 = ao' := by simp at hv'; exact hv'.1
    subst h14
    dsimp only [recItem] at e2 hrn
    have HRN := Lib.hid hrn
    obtain ⟨pn14, pc14, rfl, _⟩ := hrn.shape
    rw [← HNN.out] at e3
    clear hT k14 hzl hzt hR2 htk hcells hgt hrn e0 e1 HSC HN13 hv'
    go_wp2_with fail
    refine HAE.out.mono ?_
    rintro e w15 ⟨rfl, k15⟩
    have e2 := k15.cell e2 (by simp)
    have e3 := k15.cell e3 (by simp)
    have HIN := Lib.hid (show Calls Try.prog 17 #[.slice pn14 nn pc14, .slice xn nn cn] w15 fun e w' => e = .returned (.bool true) ∧ w' = w15 by
      have := Is_any w15 _ _ _ _ _ _ (HRN.out.keeps k15 (by simp)) (RN.out.keeps (K14.out.trans k15) (by simp))
      rw [beq_self_eq_true, ← HNN.out] at this
      exact this.mono fun _ _ h => ⟨h.1, h.2.symm⟩)
    have K15 := Lib.hid (K14.out.trans k15)
    clear k15 HAE
    go_wp2_with fail
    refine HIN.out.mono ?_
    rintro e w16 ⟨rfl, rfl⟩
    go_wp2_with fail
    refine (awake4_any _).mono ?_
    rintro e w17 ⟨rfl, k17⟩
    have K17 := Lib.hid k17
    clear k17
    go_wp2
    go_ret
    exact ⟨rfl, K15.out.trans K17.out⟩
  · have hnm1 : m < nl := by have := HNL.out; rw [hy] at this; simp at this; omega
    obtain ⟨g, pv, Mx, rfl, c0, c1, c2, c3, hrx⟩ := HCL2.out _ hy
    dsimp only at c1
    rw [← HNP.out, ← HZ.out] at c1
    have HS2 := Lib.hid (show ∀ U, Calls Try.prog 18 #[.int .i64 np] U fun e w' => e = .returned (.int .i64 z) ∧ w' = U from fun U => by
        have := Size_ok U np (by omega)
        rw [← HZ.out] at this
        exact this.mono fun _ _ h => ⟨h.1, h.2.symm⟩)
    obtain rfl | rfl | rfl : k = 0 ∨ k = 1 ∨ k = 2 := by omega
    · dsimp only at c1 c2 hrx
      obtain ⟨px, cx, rfl, _⟩ := hrx.shape
      have c0 := KL.out.cell c0 (by simp)
      have c1 := KL.out.cell c1 (by simp)
      have c2 := KL.out.cell c2 (by simp)
      have c3 := KL.out.cell c3 (by simp)
      have HRX := Lib.hid (hrx.keeps KL.out (by simp))
      clear hrx
      go_upto_region 14 with (fail)
      have wN := Whole.new w9 29 [.int .i64 q, .int .i64 z, .int .u8 2, .slice px 0 cx]
      have kN : Keeps [] w9 (w9.alloc (.cells #[.int .i64 q, .int .i64 z, .int .u8 2, .slice px 0 cx] 29)) := Keeps.alloc [] _ _
      generalize hV : World.alloc w9 _ = V
      have wV : Whole V w9.heap.size 29 [.int .i64 q, .int .i64 z, .int .u8 2, .slice px 0 cx] := by rw [← hV]; exact wN
      have kV : Keeps [] w9 V := by rw [← hV]; exact kN
      have d0 := (wV.cell 0).trans (show _ = some (Value.int .i64 (q : Int)) from rfl)
      have d1 := (wV.cell 1).trans (show _ = some (Value.int .i64 z) from rfl)
      have d2 := (wV.cell 2).trans (show _ = some (Value.int .u8 2) from rfl)
      have d3 := (wV.cell 3).trans (show _ = some (Value.slice px 0 cx) from rfl)
      have KV := Lib.hid kV
      clear wN kN hV wV kV c0 c1 c2 c3
      go_quiet (fail)
      go_wp2
      have kD : Keeps [] V (V.drewN nq) := Keeps.drewN _ _ _
      generalize V.drewN nq = U at *
      have d0 := kD.cell d0 (by simp)
      have d1 := kD.cell d1 (by simp)
      have d2 := kD.cell d2 (by simp)
      have d3 := kD.cell d3 (by simp)
      have KU := Lib.hid (KV.out.trans kD)
      clear kD KV
      go_quiet ((go_at_call 18; exact Calls.quiet_of_same (HS2.out _)))
      go_wp2_with fail
      have KE := Lib.hid (KU.out.trans (show Keeps [] U (U.drewN nq) from Keeps.drewN _ _ _))
      have HFE := Lib.hid (HF9.out.keeps KE.out (by simp) (by simp) (by simp) (by simp))
      have HNE := Lib.hid (HN9.out.keeps KE.out (by simp))
      have KWE := Lib.hid (K9.out.trans KE.out)
      have hsE := KE.out.size
      have HALL := Lib.hid (all4_any _ HFE.out HH5.out.down HH5.out.len)
      refine HALL.out.mono ?_
      rintro e w10 ⟨b10, cb10, rfl, hb10, hr10, k10⟩
      have HEN := Lib.hid (end_has HH5.out w10 b10 cb10 hr10)
      rw [← HE.out] at HEN
      have HF10 := Lib.hid (HFE.out.keeps k10 (by simp) (by simp) (by simp) (by simp))
      have HN10 := Lib.hid (HNE.out.keeps k10 (by simp))
      have K10 := Lib.hid (KWE.out.trans k10)
      have hs10 := k10.size
      clear hr10 k10 HALL HFE HNE
      go_wp2_with fail
      refine HEN.out.mono ?_
      rintro e w11 ⟨rfl, k11⟩
      have HF11 := Lib.hid (HF10.out.keeps k11 (by simp) (by simp) (by simp) (by simp))
      have HN11 := Lib.hid (HN10.out.keeps k11 (by simp))
      have K11 := Lib.hid (K10.out.trans k11)
      have hs11 := k11.size
      obtain ⟨s7, hws7, hH7⟩ := HH5.out.more next (by rw [← HNN.out]; exact hnx) (by rw [← HE.out]; exact hEE.1) (by rw [← HE.out]; exact hEE.2)
      rw [← HE.out] at hws7
      have HW := Lib.hid (Write_any w11 HF11.out E _ next Mn (RN.out.keeps K11.out (by simp)) (by rw [← HNN.out]; omega))
      rw [hws7] at HW
      have HH7 := Lib.hid hH7
      clear k11 hws7 hH7 HEN HF10 HN10
      go_wp2_with fail
      refine HW.out.mono ?_
      rintro e w12 ⟨rfl, hF12, k12⟩
      have HN12 := Lib.hid (HN11.out.keeps k12 (fun x hx => by simp at hx; rcases hx with rfl | rfl <;> exact .inl (by omega)))
      have K12 := Lib.hid (K11.out.then k12 (fun x hx => .inr (by simp at hx; rcases hx with rfl | rfl <;> omega)))
      have hs12 := k12.size
      have HALL := Lib.hid (all4_any w12 hF12 HH7.out.down HH7.out.len)
      clear hF12 k12 HW HN11 HF11
      go_wp2_with fail
      refine HALL.out.mono ?_
      rintro e w13 ⟨b13, cb13, rfl, hb13, hr13, k13⟩
      have HSC := Lib.hid (scan_has HH7.out w13 b13 cb13 hr13)
      have HN13 := Lib.hid (HN12.out.keeps k13 (by simp))
      have K13 := Lib.hid (K12.out.trans k13)
      have hs13 := k13.size
      clear hr13 k13 HALL HN12
      go_wp2_with fail
      refine HSC.out.mono ?_
      rintro e w14 ⟨v14, rfl, hT, k14, hw14⟩
      have HN14 := Lib.hid (HN13.out.keeps k14 (by simp))
      have K14 := Lib.hid (K13.out.trans k14)
      have hs14 := k14.size
      have hzl : (rowI 0 (xs ++ ys)).length = nl := by rw [rowI_length, List.length_append, HX.out]; exact HNL.out.symm
      have hRT := hT.recs hw14
      obtain ⟨ao14, cc14, rfl, hcc14⟩ := hT.shape
      have hzt : (rowI 0 (xs ++ ys ++ [recItem next])).length = nl + 1 := by
        rw [rowI_length, List.length_append, ← rowI_length 0 (xs ++ ys), hzl]; rfl
      rw [hzt] at hRT hcc14 ⊢
      have hcut14 := fun w => run_cutR w ao14 (nl + 1) cc14 nl (by omega)
      have hR2 := hRT.take nl (by omega)
      have htk := rowI_take 0 (xs ++ ys) [recItem next]
      rw [show (xs ++ ys).length = nl from by rw [← rowI_length 0 (xs ++ ys), hzl]] at htk
      rw [htk] at hR2
      have HAE := Lib.hid (AreRecords_same w14 _ _ _ hR2 (HN14.out.recs (by omega)) (by rw [hzl]; omega))
      obtain ⟨ao', cap', hv', _, hcells⟩ := hRT
      have hgt := rowI_get 0 (xs ++ ys) (recItem next) []
      rw [show (xs ++ ys).length = nl from by rw [← rowI_length 0 (xs ++ ys), hzl]] at hgt
      obtain ⟨g14, pv14, M14, h14, _, e0, e1, e2, e3, hrn, _⟩ := hcells _ _ hgt
      obtain rfl : ao14 = ao' := by simp at hv'; exact hv'.1
      subst h14
      dsimp only [recItem] at e2 hrn
      have HRN := Lib.hid hrn
      obtain ⟨pn14, pc14, rfl, _⟩ := hrn.shape
      rw [← HNN.out] at e3
      clear hT k14 hzl hzt hR2 htk hcells hgt hrn e0 e1 HSC HN13 hv'
      go_wp2_with fail
      refine HAE.out.mono ?_
      rintro e w15 ⟨rfl, k15⟩
      have e2 := k15.cell e2 (by simp)
      have e3 := k15.cell e3 (by simp)
      have HIN := Lib.hid (show Calls Try.prog 17 #[.slice pn14 nn pc14, .slice xn nn cn] w15 fun e w' => e = .returned (.bool true) ∧ w' = w15 by
        have := Is_any w15 _ _ _ _ _ _ (HRN.out.keeps k15 (by simp)) (RN.out.keeps (K14.out.trans k15) (by simp))
        rw [beq_self_eq_true, ← HNN.out] at this
        exact this.mono fun _ _ h => ⟨h.1, h.2.symm⟩)
      have K15 := Lib.hid (K14.out.trans k15)
      clear k15 HAE
      go_wp2_with fail
      refine HIN.out.mono ?_
      rintro e w16 ⟨rfl, rfl⟩
      go_wp2_with fail
      refine (awake4_any _).mono ?_
      rintro e w17 ⟨rfl, k17⟩
      have K17 := Lib.hid k17
      clear k17
      go_wp2
      go_ret
      exact ⟨rfl, K15.out.trans K17.out⟩
    · dsimp only at c1 c2 hrx
      obtain ⟨px, cx, rfl, _⟩ := hrx.shape
      have c0 := KL.out.cell c0 (by simp)
      have c1 := KL.out.cell c1 (by simp)
      have c2 := KL.out.cell c2 (by simp)
      have c3 := KL.out.cell c3 (by simp)
      have HRX := Lib.hid (hrx.keeps KL.out (by simp))
      clear hrx
      go_upto_region 14 with (fail)
      have wN := Whole.new w9 29 [.int .i64 q, .int .i64 z, .int .u8 2, .slice px 0 cx]
      have kN : Keeps [] w9 (w9.alloc (.cells #[.int .i64 q, .int .i64 z, .int .u8 2, .slice px 0 cx] 29)) := Keeps.alloc [] _ _
      generalize hV : World.alloc w9 _ = V
      have wV : Whole V w9.heap.size 29 [.int .i64 q, .int .i64 z, .int .u8 2, .slice px 0 cx] := by rw [← hV]; exact wN
      have kV : Keeps [] w9 V := by rw [← hV]; exact kN
      have d0 := (wV.cell 0).trans (show _ = some (Value.int .i64 (q : Int)) from rfl)
      have d1 := (wV.cell 1).trans (show _ = some (Value.int .i64 z) from rfl)
      have d2 := (wV.cell 2).trans (show _ = some (Value.int .u8 2) from rfl)
      have d3 := (wV.cell 3).trans (show _ = some (Value.slice px 0 cx) from rfl)
      have KV := Lib.hid kV
      clear wN kN hV wV kV c0 c1 c2 c3
      go_quiet (fail)
      go_wp2
      have kD : Keeps [] V (V.drewN nq) := Keeps.drewN _ _ _
      generalize V.drewN nq = U at *
      have d0 := kD.cell d0 (by simp)
      have d1 := kD.cell d1 (by simp)
      have d2 := kD.cell d2 (by simp)
      have d3 := kD.cell d3 (by simp)
      have KU := Lib.hid (KV.out.trans kD)
      clear kD KV
      go_quiet ((go_at_call 18; exact Calls.quiet_of_same (HS2.out _)))
      go_wp2_with fail
      have KE := Lib.hid (KU.out.trans (show Keeps [] U (U.drewN nq) from Keeps.drewN _ _ _))
      have HFE := Lib.hid (HF9.out.keeps KE.out (by simp) (by simp) (by simp) (by simp))
      have HNE := Lib.hid (HN9.out.keeps KE.out (by simp))
      have KWE := Lib.hid (K9.out.trans KE.out)
      have hsE := KE.out.size
      have HALL := Lib.hid (all4_any _ HFE.out HH5.out.down HH5.out.len)
      refine HALL.out.mono ?_
      rintro e w10 ⟨b10, cb10, rfl, hb10, hr10, k10⟩
      have HEN := Lib.hid (end_has HH5.out w10 b10 cb10 hr10)
      rw [← HE.out] at HEN
      have HF10 := Lib.hid (HFE.out.keeps k10 (by simp) (by simp) (by simp) (by simp))
      have HN10 := Lib.hid (HNE.out.keeps k10 (by simp))
      have K10 := Lib.hid (KWE.out.trans k10)
      have hs10 := k10.size
      clear hr10 k10 HALL HFE HNE
      go_wp2_with fail
      refine HEN.out.mono ?_
      rintro e w11 ⟨rfl, k11⟩
      have HF11 := Lib.hid (HF10.out.keeps k11 (by simp) (by simp) (by simp) (by simp))
      have HN11 := Lib.hid (HN10.out.keeps k11 (by simp))
      have K11 := Lib.hid (K10.out.trans k11)
      have hs11 := k11.size
      obtain ⟨s7, hws7, hH7⟩ := HH5.out.more next (by rw [← HNN.out]; exact hnx) (by rw [← HE.out]; exact hEE.1) (by rw [← HE.out]; exact hEE.2)
      rw [← HE.out] at hws7
      have HW := Lib.hid (Write_any w11 HF11.out E _ next Mn (RN.out.keeps K11.out (by simp)) (by rw [← HNN.out]; omega))
      rw [hws7] at HW
      have HH7 := Lib.hid hH7
      clear k11 hws7 hH7 HEN HF10 HN10
      go_wp2_with fail
      refine HW.out.mono ?_
      rintro e w12 ⟨rfl, hF12, k12⟩
      have HN12 := Lib.hid (HN11.out.keeps k12 (fun x hx => by simp at hx; rcases hx with rfl | rfl <;> exact .inl (by omega)))
      have K12 := Lib.hid (K11.out.then k12 (fun x hx => .inr (by simp at hx; rcases hx with rfl | rfl <;> omega)))
      have hs12 := k12.size
      have HALL := Lib.hid (all4_any w12 hF12 HH7.out.down HH7.out.len)
      clear hF12 k12 HW HN11 HF11
      go_wp2_with fail
      refine HALL.out.mono ?_
      rintro e w13 ⟨b13, cb13, rfl, hb13, hr13, k13⟩
      have HSC := Lib.hid (scan_has HH7.out w13 b13 cb13 hr13)
      have HN13 := Lib.hid (HN12.out.keeps k13 (by simp))
      have K13 := Lib.hid (K12.out.trans k13)
      have hs13 := k13.size
      clear hr13 k13 HALL HN12
      go_wp2_with fail
      refine HSC.out.mono ?_
      rintro e w14 ⟨v14, rfl, hT, k14, hw14⟩
      have HN14 := Lib.hid (HN13.out.keeps k14 (by simp))
      have K14 := Lib.hid (K13.out.trans k14)
      have hs14 := k14.size
      have hzl : (rowI 0 (xs ++ ys)).length = nl := by rw [rowI_length, List.length_append, HX.out]; exact HNL.out.symm
      have hRT := hT.recs hw14
      obtain ⟨ao14, cc14, rfl, hcc14⟩ := hT.shape
      have hzt : (rowI 0 (xs ++ ys ++ [recItem next])).length = nl + 1 := by
        rw [rowI_length, List.length_append, ← rowI_length 0 (xs ++ ys), hzl]; rfl
      rw [hzt] at hRT hcc14 ⊢
      have hcut14 := fun w => run_cutR w ao14 (nl + 1) cc14 nl (by omega)
      have hR2 := hRT.take nl (by omega)
      have htk := rowI_take 0 (xs ++ ys) [recItem next]
      rw [show (xs ++ ys).length = nl from by rw [← rowI_length 0 (xs ++ ys), hzl]] at htk
      rw [htk] at hR2
      have HAE := Lib.hid (AreRecords_same w14 _ _ _ hR2 (HN14.out.recs (by omega)) (by rw [hzl]; omega))
      obtain ⟨ao', cap', hv', _, hcells⟩ := hRT
      have hgt := rowI_get 0 (xs ++ ys) (recItem next) []
      rw [show (xs ++ ys).length = nl from by rw [← rowI_length 0 (xs ++ ys), hzl]] at hgt
      obtain ⟨g14, pv14, M14, h14, _, e0, e1, e2, e3, hrn, _⟩ := hcells _ _ hgt
      obtain rfl : ao14 = ao' := by simp at hv'; exact hv'.1
      subst h14
      dsimp only [recItem] at e2 hrn
      have HRN := Lib.hid hrn
      obtain ⟨pn14, pc14, rfl, _⟩ := hrn.shape
      rw [← HNN.out] at e3
      clear hT k14 hzl hzt hR2 htk hcells hgt hrn e0 e1 HSC HN13 hv'
      go_wp2_with fail
      refine HAE.out.mono ?_
      rintro e w15 ⟨rfl, k15⟩
      have e2 := k15.cell e2 (by simp)
      have e3 := k15.cell e3 (by simp)
      have HIN := Lib.hid (show Calls Try.prog 17 #[.slice pn14 nn pc14, .slice xn nn cn] w15 fun e w' => e = .returned (.bool true) ∧ w' = w15 by
        have := Is_any w15 _ _ _ _ _ _ (HRN.out.keeps k15 (by simp)) (RN.out.keeps (K14.out.trans k15) (by simp))
        rw [beq_self_eq_true, ← HNN.out] at this
        exact this.mono fun _ _ h => ⟨h.1, h.2.symm⟩)
      have K15 := Lib.hid (K14.out.trans k15)
      clear k15 HAE
      go_wp2_with fail
      refine HIN.out.mono ?_
      rintro e w16 ⟨rfl, rfl⟩
      go_wp2_with fail
      refine (awake4_any _).mono ?_
      rintro e w17 ⟨rfl, k17⟩
      have K17 := Lib.hid k17
      clear k17
      go_wp2
      go_ret
      exact ⟨rfl, K15.out.trans K17.out⟩
    · dsimp only at c1 c2 hrx
      obtain ⟨px, cx, rfl, _⟩ := hrx.shape
      have c0 := KL.out.cell c0 (by simp)
      have c1 := KL.out.cell c1 (by simp)
      have c2 := KL.out.cell c2 (by simp)
      have c3 := KL.out.cell c3 (by simp)
      have HRX := Lib.hid (hrx.keeps KL.out (by simp))
      clear hrx
      go_upto_region 14 with (fail)
      have wN := Whole.new w9 29 [.int .i64 q, .int .i64 z, .int .u8 2, .slice px 0 cx]
      have kN : Keeps [] w9 (w9.alloc (.cells #[.int .i64 q, .int .i64 z, .int .u8 2, .slice px 0 cx] 29)) := Keeps.alloc [] _ _
      generalize hV : World.alloc w9 _ = V
      have wV : Whole V w9.heap.size 29 [.int .i64 q, .int .i64 z, .int .u8 2, .slice px 0 cx] := by rw [← hV]; exact wN
      have kV : Keeps [] w9 V := by rw [← hV]; exact kN
      have d0 := (wV.cell 0).trans (show _ = some (Value.int .i64 (q : Int)) from rfl)
      have d1 := (wV.cell 1).trans (show _ = some (Value.int .i64 z) from rfl)
      have d2 := (wV.cell 2).trans (show _ = some (Value.int .u8 2) from rfl)
      have d3 := (wV.cell 3).trans (show _ = some (Value.slice px 0 cx) from rfl)
      have KV := Lib.hid kV
      clear wN kN hV wV kV c0 c1 c2 c3
      go_quiet (fail)
      go_wp2
      have kD : Keeps [] V (V.drewN nq) := Keeps.drewN _ _ _
      generalize V.drewN nq = U at *
      have d0 := kD.cell d0 (by simp)
      have d1 := kD.cell d1 (by simp)
      have d2 := kD.cell d2 (by simp)
      have d3 := kD.cell d3 (by simp)
      have KU := Lib.hid (KV.out.trans kD)
      clear kD KV
      go_quiet ((go_at_call 18; exact Calls.quiet_of_same (HS2.out _)))
      go_wp2_with fail
      have KE := Lib.hid (KU.out.trans (show Keeps [] U (U.drewN nq) from Keeps.drewN _ _ _))
      have HFE := Lib.hid (HF9.out.keeps KE.out (by simp) (by simp) (by simp) (by simp))
      have HNE := Lib.hid (HN9.out.keeps KE.out (by simp))
      have KWE := Lib.hid (K9.out.trans KE.out)
      have hsE := KE.out.size
      have HALL := Lib.hid (all4_any _ HFE.out HH5.out.down HH5.out.len)
      refine HALL.out.mono ?_
      rintro e w10 ⟨b10, cb10, rfl, hb10, hr10, k10⟩
      have HEN := Lib.hid (end_has HH5.out w10 b10 cb10 hr10)
      rw [← HE.out] at HEN
      have HF10 := Lib.hid (HFE.out.keeps k10 (by simp) (by simp) (by simp) (by simp))
      have HN10 := Lib.hid (HNE.out.keeps k10 (by simp))
      have K10 := Lib.hid (KWE.out.trans k10)
      have hs10 := k10.size
      clear hr10 k10 HALL HFE HNE
      go_wp2_with fail
      refine HEN.out.mono ?_
      rintro e w11 ⟨rfl, k11⟩
      have HF11 := Lib.hid (HF10.out.keeps k11 (by simp) (by simp) (by simp) (by simp))
      have HN11 := Lib.hid (HN10.out.keeps k11 (by simp))
      have K11 := Lib.hid (K10.out.trans k11)
      have hs11 := k11.size
      obtain ⟨s7, hws7, hH7⟩ := HH5.out.more next (by rw [← HNN.out]; exact hnx) (by rw [← HE.out]; exact hEE.1) (by rw [← HE.out]; exact hEE.2)
      rw [← HE.out] at hws7
      have HW := Lib.hid (Write_any w11 HF11.out E _ next Mn (RN.out.keeps K11.out (by simp)) (by rw [← HNN.out]; omega))
      rw [hws7] at HW
      have HH7 := Lib.hid hH7
      clear k11 hws7 hH7 HEN HF10 HN10
      go_wp2_with fail
      refine HW.out.mono ?_
      rintro e w12 ⟨rfl, hF12, k12⟩
      have HN12 := Lib.hid (HN11.out.keeps k12 (fun x hx => by simp at hx; rcases hx with rfl | rfl <;> exact .inl (by omega)))
      have K12 := Lib.hid (K11.out.then k12 (fun x hx => .inr (by simp at hx; rcases hx with rfl | rfl <;> omega)))
      have hs12 := k12.size
      have HALL := Lib.hid (all4_any w12 hF12 HH7.out.down HH7.out.len)
      clear hF12 k12 HW HN11 HF11
      go_wp2_with fail
      refine HALL.out.mono ?_
      rintro e w13 ⟨b13, cb13, rfl, hb13, hr13, k13⟩
      have HSC := Lib.hid (scan_has HH7.out w13 b13 cb13 hr13)
      have HN13 := Lib.hid (HN12.out.keeps k13 (by simp))
      have K13 := Lib.hid (K12.out.trans k13)
      have hs13 := k13.size
      clear hr13 k13 HALL HN12
      go_wp2_with fail
      refine HSC.out.mono ?_
      rintro e w14 ⟨v14, rfl, hT, k14, hw14⟩
      have HN14 := Lib.hid (HN13.out.keeps k14 (by simp))
      have K14 := Lib.hid (K13.out.trans k14)
      have hs14 := k14.size
      have hzl : (rowI 0 (xs ++ ys)).length = nl := by rw [rowI_length, List.length_append, HX.out]; exact HNL.out.symm
      have hRT := hT.recs hw14
      obtain ⟨ao14, cc14, rfl, hcc14⟩ := hT.shape
      have hzt : (rowI 0 (xs ++ ys ++ [recItem next])).length = nl + 1 := by
        rw [rowI_length, List.length_append, ← rowI_length 0 (xs ++ ys), hzl]; rfl
      rw [hzt] at hRT hcc14 ⊢
      have hcut14 := fun w => run_cutR w ao14 (nl + 1) cc14 nl (by omega)
      have hR2 := hRT.take nl (by omega)
      have htk := rowI_take 0 (xs ++ ys) [recItem next]
      rw [show (xs ++ ys).length = nl from by rw [← rowI_length 0 (xs ++ ys), hzl]] at htk
      rw [htk] at hR2
      have HAE := Lib.hid (AreRecords_same w14 _ _ _ hR2 (HN14.out.recs (by omega)) (by rw [hzl]; omega))
      obtain ⟨ao', cap', hv', _, hcells⟩ := hRT
      have hgt := rowI_get 0 (xs ++ ys) (recItem next) []
      rw [show (xs ++ ys).length = nl from by rw [← rowI_length 0 (xs ++ ys), hzl]] at hgt
      obtain ⟨g14, pv14, M14, h14, _, e0, e1, e2, e3, hrn, _⟩ := hcells _ _ hgt
      obtain rfl : ao14 = ao' := by simp at hv'; exact hv'.1
      subst h14
      dsimp only [recItem] at e2 hrn
      have HRN := Lib.hid hrn
      obtain ⟨pn14, pc14, rfl, _⟩ := hrn.shape
      rw [← HNN.out] at e3
      clear hT k14 hzl hzt hR2 htk hcells hgt hrn e0 e1 HSC HN13 hv'
      go_wp2_with fail
      refine HAE.out.mono ?_
      rintro e w15 ⟨rfl, k15⟩
      have e2 := k15.cell e2 (by simp)
      have e3 := k15.cell e3 (by simp)
      have HIN := Lib.hid (show Calls Try.prog 17 #[.slice pn14 nn pc14, .slice xn nn cn] w15 fun e w' => e = .returned (.bool true) ∧ w' = w15 by
        have := Is_any w15 _ _ _ _ _ _ (HRN.out.keeps k15 (by simp)) (RN.out.keeps (K14.out.trans k15) (by simp))
        rw [beq_self_eq_true, ← HNN.out] at this
        exact this.mono fun _ _ h => ⟨h.1, h.2.symm⟩)
      have K15 := Lib.hid (K14.out.trans k15)
      clear k15 HAE
      go_wp2_with fail
      refine HIN.out.mono ?_
      rintro e w16 ⟨rfl, rfl⟩
      go_wp2_with fail
      refine (awake4_any _).mono ?_
      rintro e w17 ⟨rfl, k17⟩
      have K17 := Lib.hid k17
      clear k17
      go_wp2
      go_ret
      exact ⟨rfl, K15.out.trans K17.out⟩
  · have hnm1 : m < nl := by have := HNL.out; rw [hy] at this; simp at this; omega
    obtain ⟨g, pv, Mx, rfl, c0, c1, c2, c3, hrx⟩ := HCL2.out _ hy
    subst hk0
    dsimp only [recItem] at c1
    rw [← HNP.out, ← HZ.out] at c1
    have HS2 := Lib.hid (show ∀ U, Calls Try.prog 18 #[.int .i64 np] U fun e w' => e = .returned (.int .i64 z) ∧ w' = U from fun U => by
        have := Size_ok U np (by omega)
        rw [← HZ.out] at this
        exact this.mono fun _ _ h => ⟨h.1, h.2.symm⟩)
    dsimp only [recItem] at c2
    obtain ⟨px, cx, rfl, _⟩ := hrx.shape
    dsimp only [recItem] at c3 hrx
    rw [← HNP.out] at c3 hrx
    have c0 := KL.out.cell c0 (by simp)
    have c1 := KL.out.cell c1 (by simp)
    have c2 := KL.out.cell c2 (by simp)
    have c3 := KL.out.cell c3 (by simp)
    have HRX := Lib.hid (hrx.keeps KL.out (by simp))
    clear hrx
    go_upto_region 14 with (fail)
    have wN := Whole.new w9 29 [.int .i64 q, .int .i64 z, .int .u8 1, .slice px np cx]
    have kN : Keeps [] w9 (w9.alloc (.cells #[.int .i64 q, .int .i64 z, .int .u8 1, .slice px np cx] 29)) := Keeps.alloc [] _ _
    generalize hV : World.alloc w9 _ = V
    have wV : Whole V w9.heap.size 29 [.int .i64 q, .int .i64 z, .int .u8 1, .slice px np cx] := by rw [← hV]; exact wN
    have kV : Keeps [] w9 V := by rw [← hV]; exact kN
    have d0 := (wV.cell 0).trans (show _ = some (Value.int .i64 (q : Int)) from rfl)
    have d1 := (wV.cell 1).trans (show _ = some (Value.int .i64 z) from rfl)
    have d2 := (wV.cell 2).trans (show _ = some (Value.int .u8 1) from rfl)
    have d3 := (wV.cell 3).trans (show _ = some (Value.slice px np cx) from rfl)
    have KV := Lib.hid kV
    clear wN kN hV wV kV c0 c1 c2 c3
    have HI2 := Lib.hid (show ∀ X, Keeps [] V X → Calls Try.prog 17 #[.slice px np cx, .slice xp np cp] X fun e w' => e = .returned (.bool true) ∧ w' = X from fun X hX => by
      have := Is_any X _ _ _ _ _ _ (HRX.out.keeps (KV.out.trans hX) (by simp)) (RP.out.keeps (K9.out.trans (KV.out.trans hX)) (by simp))
      rw [beq_self_eq_true] at this
      exact this.mono fun _ _ h => ⟨h.1, h.2.symm⟩)
    go_quiet ((first | (go_at_call 18; exact Calls.quiet_of_same (HS2.out _)) | (go_at_call 17; (first | exact Calls.quiet_of_same (HI2.out _ (Keeps.drewN _ _ _)) | exact Calls.quiet_of_same (HI2.out _ (Keeps.refl _ _))))))
    go_wp2
    have kD : Keeps [] V (V.drewN nq) := Keeps.drewN _ _ _
    generalize V.drewN nq = U at *
    have d0 := kD.cell d0 (by simp)
    have d1 := kD.cell d1 (by simp)
    have d2 := kD.cell d2 (by simp)
    have d3 := kD.cell d3 (by simp)
    have KU := Lib.hid (KV.out.trans kD)
    clear kD KV
    go_quiet ((go_at_call 18; exact Calls.quiet_of_same (HS2.out _)))
    go_wp2_with fail
    have KE := Lib.hid (KU.out.trans (show Keeps [] U (U.drewN nq) from Keeps.drewN _ _ _))
    have HFE := Lib.hid (HF9.out.keeps KE.out (by simp) (by simp) (by simp) (by simp))
    have HNE := Lib.hid (HN9.out.keeps KE.out (by simp))
    have KWE := Lib.hid (K9.out.trans KE.out)
    have hsE := KE.out.size
    have HALL := Lib.hid (all4_any _ HFE.out HH5.out.down HH5.out.len)
    refine HALL.out.mono ?_
    rintro e w10 ⟨b10, cb10, rfl, hb10, hr10, k10⟩
    have HEN := Lib.hid (end_has HH5.out w10 b10 cb10 hr10)
    rw [← HE.out] at HEN
    have HF10 := Lib.hid (HFE.out.keeps k10 (by simp) (by simp) (by simp) (by simp))
    have HN10 := Lib.hid (HNE.out.keeps k10 (by simp))
    have K10 := Lib.hid (KWE.out.trans k10)
    have hs10 := k10.size
    clear hr10 k10 HALL HFE HNE
    go_wp2_with fail
    refine HEN.out.mono ?_
    rintro e w11 ⟨rfl, k11⟩
    have HF11 := Lib.hid (HF10.out.keeps k11 (by simp) (by simp) (by simp) (by simp))
    have HN11 := Lib.hid (HN10.out.keeps k11 (by simp))
    have K11 := Lib.hid (K10.out.trans k11)
    have hs11 := k11.size
    obtain ⟨s7, hws7, hH7⟩ := HH5.out.more next (by rw [← HNN.out]; exact hnx) (by rw [← HE.out]; exact hEE.1) (by rw [← HE.out]; exact hEE.2)
    rw [← HE.out] at hws7
    have HW := Lib.hid (Write_any w11 HF11.out E _ next Mn (RN.out.keeps K11.out (by simp)) (by rw [← HNN.out]; omega))
    rw [hws7] at HW
    have HH7 := Lib.hid hH7
    clear k11 hws7 hH7 HEN HF10 HN10
    go_wp2_with fail
    refine HW.out.mono ?_
    rintro e w12 ⟨rfl, hF12, k12⟩
    have HN12 := Lib.hid (HN11.out.keeps k12 (fun x hx => by simp at hx; rcases hx with rfl | rfl <;> exact .inl (by omega)))
    have K12 := Lib.hid (K11.out.then k12 (fun x hx => .inr (by simp at hx; rcases hx with rfl | rfl <;> omega)))
    have hs12 := k12.size
    have HALL := Lib.hid (all4_any w12 hF12 HH7.out.down HH7.out.len)
    clear hF12 k12 HW HN11 HF11
    go_wp2_with fail
    refine HALL.out.mono ?_
    rintro e w13 ⟨b13, cb13, rfl, hb13, hr13, k13⟩
    have HSC := Lib.hid (scan_has HH7.out w13 b13 cb13 hr13)
    have HN13 := Lib.hid (HN12.out.keeps k13 (by simp))
    have K13 := Lib.hid (K12.out.trans k13)
    have hs13 := k13.size
    clear hr13 k13 HALL HN12
    go_wp2_with fail
    refine HSC.out.mono ?_
    rintro e w14 ⟨v14, rfl, hT, k14, hw14⟩
    have HN14 := Lib.hid (HN13.out.keeps k14 (by simp))
    have K14 := Lib.hid (K13.out.trans k14)
    have hs14 := k14.size
    have hzl : (rowI 0 (xs ++ ys)).length = nl := by rw [rowI_length, List.length_append, HX.out]; exact HNL.out.symm
    have hRT := hT.recs hw14
    obtain ⟨ao14, cc14, rfl, hcc14⟩ := hT.shape
    have hzt : (rowI 0 (xs ++ ys ++ [recItem next])).length = nl + 1 := by
      rw [rowI_length, List.length_append, ← rowI_length 0 (xs ++ ys), hzl]; rfl
    rw [hzt] at hRT hcc14 ⊢
    have hcut14 := fun w => run_cutR w ao14 (nl + 1) cc14 nl (by omega)
    have hR2 := hRT.take nl (by omega)
    have htk := rowI_take 0 (xs ++ ys) [recItem next]
    rw [show (xs ++ ys).length = nl from by rw [← rowI_length 0 (xs ++ ys), hzl]] at htk
    rw [htk] at hR2
    have HAE := Lib.hid (AreRecords_same w14 _ _ _ hR2 (HN14.out.recs (by omega)) (by rw [hzl]; omega))
    obtain ⟨ao', cap', hv', _, hcells⟩ := hRT
    have hgt := rowI_get 0 (xs ++ ys) (recItem next) []
    rw [show (xs ++ ys).length = nl from by rw [← rowI_length 0 (xs ++ ys), hzl]] at hgt
    obtain ⟨g14, pv14, M14, h14, _, e0, e1, e2, e3, hrn, _⟩ := hcells _ _ hgt
    obtain rfl : ao14 = ao' := by simp at hv'; exact hv'.1
    subst h14
    dsimp only [recItem] at e2 hrn
    have HRN := Lib.hid hrn
    obtain ⟨pn14, pc14, rfl, _⟩ := hrn.shape
    rw [← HNN.out] at e3
    clear hT k14 hzl hzt hR2 htk hcells hgt hrn e0 e1 HSC HN13 hv'
    go_wp2_with fail
    refine HAE.out.mono ?_
    rintro e w15 ⟨rfl, k15⟩
    have e2 := k15.cell e2 (by simp)
    have e3 := k15.cell e3 (by simp)
    have HIN := Lib.hid (show Calls Try.prog 17 #[.slice pn14 nn pc14, .slice xn nn cn] w15 fun e w' => e = .returned (.bool true) ∧ w' = w15 by
      have := Is_any w15 _ _ _ _ _ _ (HRN.out.keeps k15 (by simp)) (RN.out.keeps (K14.out.trans k15) (by simp))
      rw [beq_self_eq_true, ← HNN.out] at this
      exact this.mono fun _ _ h => ⟨h.1, h.2.symm⟩)
    have K15 := Lib.hid (K14.out.trans k15)
    clear k15 HAE
    go_wp2_with fail
    refine HIN.out.mono ?_
    rintro e w16 ⟨rfl, rfl⟩
    go_wp2_with fail
    refine (awake4_any _).mono ?_
    rintro e w17 ⟨rfl, k17⟩
    have K17 := Lib.hid k17
    clear k17
    go_wp2
    go_ret
    exact ⟨rfl, K15.out.trans K17.out⟩
end Go.Proofs.Ytjdjjcpglcoojaa
